package plan

import (
	"strconv"
	"strings"

	"yardgang/api"
)

// maxDigits of a number in a text: so few that none overflows.
const maxDigits = 4

// Print a plan.
func Print(p api.Plan) (string, error) {
	if _, err := Check(p); err != nil {
		return "", err
	}
	var text strings.Builder
	for i, t := range p {
		if i > 0 {
			text.WriteByte(' ')
		}
		writeTask(&text, t)
	}
	return text.String(), nil
}

func writeTask(text *strings.Builder, t api.Task) {
	text.WriteString(strconv.Itoa(t.Work))
	mark := byte('<')
	for _, n := range t.Needs {
		text.WriteByte(mark)
		text.WriteString(strconv.Itoa(n))
		mark = ','
	}
}

// Parse a plan.
func Parse(text string) (api.Plan, error) {
	var p api.Plan
	word, rest, more := "", text, text != ""
	for more {
		word, rest, more = strings.Cut(rest, " ")
		t, ok := readTask(word)
		if !ok {
			return nil, api.ErrSyntax
		}
		// One task too many is enough for Check to tell; the rest of a long
		// text is only read, as a fault of its form comes first.
		if len(p) <= api.MaxTasks {
			p = append(p, t)
		}
	}
	if _, err := Check(p); err != nil {
		return nil, err
	}
	return p, nil
}

// readTask reads a task, and whether it could be read.
func readTask(word string) (api.Task, bool) {
	first, rest, some := strings.Cut(word, "<")
	work, ok := readNumber(first)
	if !ok {
		return api.Task{}, false
	}
	if !some {
		return api.Task{Work: work}, true
	}
	needs, ok := readNumbers(rest)
	if !ok {
		return api.Task{}, false
	}
	return api.Task{Work: work, Needs: needs}, true
}

// readNumbers reads numbers, at least one, with commas between.
func readNumbers(text string) ([]int, bool) {
	l := make([]int, 0, strings.Count(text, ",")+1)
	word, more := "", true
	for more {
		word, text, more = strings.Cut(text, ",")
		n, ok := readNumber(word)
		if !ok {
			return nil, false
		}
		l = append(l, n)
	}
	return l, true
}

// readNumber reads digits without a needless 0. Atoi alone would take signs and zeros, too.
func readNumber(word string) (int, bool) {
	if len(word) > maxDigits || len(word) > 1 && word[0] == '0' {
		return 0, false
	}
	if strings.ContainsFunc(word, func(r rune) bool { return r < '0' || r > '9' }) {
		return 0, false
	}
	n, err := strconv.Atoi(word)
	return n, err == nil
}
