package run

import (
	"errors"
	"strconv"
	"strings"

	"yardgang/api"
)

// maxDigits of a number in a line: so few that none overflows.
const maxDigits = 4

// errBad: a line has not its words.
var errBad = errors.New("bad")

// lineError is what is wrong with a line. It embeds what was told of it: an
// error of the layer that was asked, or errBad.
type lineError struct{ error }

// Unwrap gives what it embeds, so that it may be asked for an Errno.
func (e lineError) Unwrap() error { return e.error }

// answer by the name of the Errno that there is in it. Where there is none,
// what it embeds is told as it is.
func (e lineError) answer() string {
	var name api.Errno
	if errors.As(e, &name) {
		return name.Error()
	}
	return e.Error()
}

// ask of a line: what is answered to what stands behind its first word and a
// blank. Without that blank there is no more, which is not the same as a text
// of no byte.
type ask func(rest string, more bool) (string, error)

// withText up to the end of the line.
func withText(do func(string) (string, error)) ask {
	return func(rest string, more bool) (string, error) {
		if !more {
			return "", errBad
		}
		return do(rest)
	}
}

// withNumbers, just so many.
func withNumbers(count int, do func([]int) (string, error)) ask {
	return func(rest string, more bool) (string, error) {
		n, ok := readNumbers(rest, more)
		if !ok || len(n) != count {
			return "", errBad
		}
		return do(n)
	}
}

// answer a line.
func answer(asks map[string]ask, line string) string {
	text, err := do(asks, line)
	if err != nil {
		return lineError{err}.answer()
	}
	return text
}

// do what a line asks.
func do(asks map[string]ask, line string) (string, error) {
	word, rest, more := strings.Cut(line, " ")
	found, is := asks[word]
	if !is {
		return "", errBad
	}
	return found(rest, more)
}

// readNumbers with one blank between, and whether they could be read.
func readNumbers(rest string, more bool) ([]int, bool) {
	if !more {
		return nil, true
	}
	var l []int
	for _, word := range strings.Split(rest, " ") {
		n, ok := readNumber(word)
		if !ok {
			return nil, false
		}
		l = append(l, n)
	}
	return l, true
}

// readNumber reads digits, as they would be written. Atoi alone would take
// signs and needless zeros, too.
func readNumber(word string) (int, bool) {
	if len(word) > maxDigits {
		return 0, false
	}
	n, err := strconv.Atoi(word)
	return n, err == nil && n >= 0 && strconv.Itoa(n) == word
}
