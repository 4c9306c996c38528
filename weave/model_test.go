package weave

import (
	"regexp"
	"slices"
	"strconv"
	"strings"
	"testing"

	"yardgang/api"
	"yardgang/plan"
)

// The model reads a weave by other means: its form by rewriting the text until
// nothing more can be, its tasks by cutting the text at the signs.

var digits = regexp.MustCompile(`[0-9]+`)

// isWeave tells whether a text is a weave, however great its numbers are.
func isWeave(text string) bool {
	if strings.ContainsFunc(text, func(r rune) bool { return !strings.ContainsRune("0123456789;|()", r) }) {
		return false
	}
	text = digits.ReplaceAllStringFunc(text, func(n string) string {
		if n[0] == '0' {
			return "x"
		}
		return "w"
	})
	shrink := strings.NewReplacer("(w)", "w", "w;w", "w", "w|w", "w")
	for {
		next := shrink.Replace(text)
		if next == text {
			return text == "w"
		}
		text = next
	}
}

// cut a text at a sign, where it stands within no others.
func cut(text string, sign byte) []string {
	var parts []string
	open, from := 0, 0
	for i := range len(text) {
		switch {
		case text[i] == '(':
			open++
		case text[i] == ')':
			open--
		case text[i] == sign && open == 0:
			parts = append(parts, text[from:i])
			from = i + 1
		}
	}
	return append(parts, text[from:])
}

// model of a weave: its tasks, which of them come first and last, and what it measures.
type model struct {
	tasks       api.Plan
	first, last []int
	work, span  int
}

// modelled: the model of a text that is a weave, its tasks numbered from base on.
func modelled(text string, base int) model {
	if parts := cut(text, '|'); len(parts) > 1 {
		return joined(parts, base, false)
	}
	if parts := cut(text, ';'); len(parts) > 1 {
		return joined(parts, base, true)
	}
	if inner, ok := strings.CutPrefix(text, "("); ok {
		return modelled(strings.TrimSuffix(inner, ")"), base)
	}
	n, _ := strconv.Atoi(text)
	return model{api.Plan{{Work: n}}, []int{base}, []int{base}, n, n}
}

// joined parts of a text, one behind the other or beside each other.
func joined(parts []string, base int, behind bool) model {
	var whole model
	var ahead []int
	for i, text := range parts {
		m := modelled(text, base+len(whole.tasks))
		for _, k := range m.first {
			m.tasks[k-base-len(whole.tasks)].Needs = ahead
		}
		if !behind || i == 0 {
			whole.first = slices.Concat(whole.first, m.first)
		}
		if !behind || i == len(parts)-1 {
			whole.last = slices.Concat(whole.last, m.last)
		}
		if behind {
			ahead = m.last
			whole.span += m.span
		} else {
			whole.span = max(whole.span, m.span)
		}
		whole.work += m.work
		whole.tasks = slices.Concat(whole.tasks, m.tasks)
	}
	return whole
}

// wanted answer to a text, by the model.
func wanted(t *testing.T, text string) answer {
	t.Helper()
	if len(text) > 200 {
		return answer{err: api.ErrFull}
	}
	if !isWeave(text) {
		return answer{err: api.ErrSyntax}
	}
	numbers := digits.FindAllString(text, -1)
	if slices.ContainsFunc(numbers, func(n string) bool { return len(n) > 2 || len(n) == 2 && n > "20" }) {
		return answer{err: api.ErrRange}
	}
	if len(numbers) > 30 {
		return answer{err: api.ErrFull}
	}
	m := modelled(text, 0)
	printed, err := plan.Print(m.tasks)
	if err != nil {
		t.Fatalf("%q: the model is wrong: %v %v", text, m.tasks, err)
	}
	return answer{printed, m.work, m.span, api.OK}
}

// TestAllShortTexts: all there are of at most six bytes out of eight.
func TestAllShortTexts(t *testing.T) {
	texts := []string{""}
	for range 7 {
		var next []string
		for _, text := range texts {
			if got, want := ask(t, text), wanted(t, text); got != want {
				t.Fatalf("%q: got %v, want %v", text, got, want)
			}
			if len(text) < 6 {
				for _, b := range []byte("012;|() ") {
					next = append(next, text+string(b))
				}
			}
		}
		texts = next
	}
}

// weaves of n numbers, w for each, with signs about any part of it or none.
func weaves(n int) []string {
	var all []string
	if n == 1 {
		all = append(all, "w")
	}
	for i := 1; i < n; i++ {
		for _, a := range weaves(i) {
			for _, b := range weaves(n - i) {
				all = append(all, a+";"+b, a+"|"+b)
			}
		}
	}
	for _, text := range slices.Clone(all) {
		all = append(all, "("+text+")")
	}
	return all
}

// numbered weave: numbers that differ in the place of each w.
func numbered(text string) string {
	for _, n := range []string{"3", "11", "1", "20", "7"} {
		text = strings.Replace(text, "w", n, 1)
	}
	return text
}

// TestAllSmallWeaves: all there are of at most five numbers.
func TestAllSmallWeaves(t *testing.T) {
	for n := range 5 {
		for _, text := range weaves(n + 1) {
			text = numbered(text)
			if got, want := ask(t, text), wanted(t, text); got != want {
				t.Fatalf("%q: got %v, want %v", text, got, want)
			}
		}
	}
}

// TestBroken: weaves with one byte left out, put in, or changed.
func TestBroken(t *testing.T) {
	for _, text := range []string{
		"(1;4;((6)|(3)|(6)));((5)|1)|((1))",
		"3;(((1)|(6));(5);((20)))",
		times(30, "1", ";"),
		times(15, "(1|20)", ";"),
		nested(99, "12"),
		times(20, "(1;20)", "|"),
	} {
		for i := range len(text) + 1 {
			for _, b := range []string{"", "0", "1", "9", ";", "|", "(", ")", " ", "\xff"} {
				broken := []string{text[:i] + b + text[i:]}
				if i < len(text) {
					broken = append(broken, text[:i]+b+text[i+1:])
				}
				for _, text := range broken {
					if got, want := ask(t, text), wanted(t, text); got != want {
						t.Fatalf("%q: got %v, want %v", text, got, want)
					}
				}
			}
		}
	}
}
