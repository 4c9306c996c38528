package trace

import (
	"strconv"
	"strings"

	"yardgang/api"
)

// maxDigits of a number in a text: so few that none overflows.
const maxDigits = 2

// form of a line: its word, and how many numbers stand behind it. They are
// Hand, Task and Other, in this order.
type form struct {
	word    string
	numbers int
}

// forms of lines, by What; that begins with 1, they with 0.
var forms = [api.Woke]form{
	{"took", 2},
	{"stole", 3},
	{"fetched", 2},
	{"finished", 2},
	{"slept", 1},
	{"woke", 1},
}

// Print deeds.
func Print(l []api.Deed) (string, error) {
	if err := checkDeeds(l); err != nil {
		return "", err
	}
	var text strings.Builder
	for _, d := range l {
		writeLine(&text, d)
	}
	return text.String(), nil
}

func writeLine(text *strings.Builder, d api.Deed) {
	f := forms[d.What-1]
	text.WriteString(f.word)
	numbers := [3]int{d.Hand, d.Task, d.Other}
	for i := range f.numbers {
		text.WriteByte(' ')
		text.WriteString(strconv.Itoa(numbers[i]))
	}
	text.WriteByte('\n')
}

// Parse deeds.
func Parse(text string) ([]api.Deed, error) {
	var l []api.Deed
	for line := range strings.Lines(text) {
		d, ok := readLine(line)
		if !ok {
			return nil, api.ErrSyntax
		}
		// One deed too many is enough for checkDeeds to tell; the rest of a long
		// text is only read, as a fault of its form comes first.
		if len(l) <= maxDeeds {
			l = append(l, d)
		}
	}
	if err := checkDeeds(l); err != nil {
		return nil, err
	}
	return l, nil
}

// readLine reads a deed, and whether it could be read. Numbers that its form
// has not are 0.
func readLine(line string) (api.Deed, bool) {
	line, ended := strings.CutSuffix(line, "\n")
	word, rest, more := strings.Cut(line, " ")
	what, ok := readWord(word)
	if !ended || !ok {
		return api.Deed{}, false
	}
	var numbers [3]int
	for i := range forms[what-1].numbers {
		// Where none is left the word is empty, and no number.
		word, rest, more = strings.Cut(rest, " ")
		if numbers[i], ok = readNumber(word); !ok {
			return api.Deed{}, false
		}
	}
	return api.Deed{What: what, Hand: numbers[0], Task: numbers[1], Other: numbers[2]}, !more
}

// readWord reads a What.
func readWord(word string) (int, bool) {
	for i, f := range forms {
		if f.word == word {
			return i + 1, true
		}
	}
	return 0, false
}

// readNumber reads digits, as Print would write them. Atoi alone would take
// signs and needless zeros, too.
func readNumber(word string) (int, bool) {
	if len(word) > maxDigits {
		return 0, false
	}
	n, err := strconv.Atoi(word)
	return n, err == nil && n >= 0 && strconv.Itoa(n) == word
}
