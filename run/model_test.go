package run

import (
	"fmt"
	"regexp"
	"strconv"
	"strings"
	"sync"
	"testing"

	"yardgang/api"
	"yardgang/gang"
	"yardgang/greedy"
	"yardgang/plain"
	"yardgang/plan"
	"yardgang/trace"
	"yardgang/weave"
)

// model of a session: not what there is, but the lines by which it came to be.
// Each answer is reckoned from these anew.
type model struct {
	planned string // the last plan or weave line that was taken
	made    string // planned, when the gang was made
	hands   int    // of the gang; 0: there is none
	steps   [][2]int
}

const number = `(0|[1-9][0-9]{0,3})`

// kinds of lines: how they look, and what the model answers to their pieces.
var kinds = []struct {
	looks  *regexp.Regexp
	answer func(m *model, line string, n []int) (string, error)
}{
	{regexp.MustCompile(`^(?s:weave .*|plan .*)$`), (*model).plan},
	{regexp.MustCompile(`^show$`), (*model).show},
	{regexp.MustCompile(`^greedy ` + number + `$`), (*model).greedy},
	{regexp.MustCompile(`^gang ` + number + `$`), (*model).gang},
	{regexp.MustCompile(`^step ` + number + ` ` + number + `$`), (*model).step},
	{regexp.MustCompile(`^left$`), (*model).left},
}

// answers of a model to a text.
func answers(text string) string {
	if len(text) > most {
		return "too long\n"
	}
	lines := strings.Split(text, "\n")
	if lines[len(lines)-1] == "" {
		lines = lines[:len(lines)-1]
	}
	m := &model{planned: "plan "}
	var out strings.Builder
	for _, line := range lines {
		fmt.Fprintln(&out, m.answer(line))
	}
	return out.String()
}

func (m *model) answer(line string) string {
	for _, k := range kinds {
		pieces := k.looks.FindStringSubmatch(line)
		if pieces == nil {
			continue
		}
		var n []int
		for _, p := range pieces[1:] {
			i, _ := strconv.Atoi(p)
			n = append(n, i)
		}
		text, err := k.answer(m, line, n)
		if err != nil {
			return plain.Told(err).Error()
		}
		return text
	}
	return "bad"
}

// planOf a line that has one: the plan, and what is answered.
func planOf(line string) (api.Plan, string, error) {
	if text, is := strings.CutPrefix(line, "weave "); is {
		p, work, span, err := weave.Parse(text)
		return p, fmt.Sprint(work, " ", span), err
	}
	p, err := plan.Parse(line[len("plan "):])
	return p, "ok", err
}

func (m *model) plan(line string, _ []int) (string, error) {
	_, text, err := planOf(line)
	if err == nil {
		m.planned = line
	}
	return text, err
}

func (m *model) show(string, []int) (string, error) {
	p, _, _ := planOf(m.planned)
	return plan.Print(p)
}

func (m *model) greedy(_ string, n []int) (string, error) {
	p, _, _ := planOf(m.planned)
	long, err := greedy.Long(p, n[0])
	bound, _ := greedy.Bound(p, n[0])
	return fmt.Sprint(long, " ", bound), err
}

func (m *model) gang(_ string, n []int) (string, error) {
	p, _, _ := planOf(m.planned)
	_, err := gang.New(p, n[0], 4)
	if err == nil {
		m.made, m.hands, m.steps = m.planned, n[0], nil
	}
	return "ok", err
}

// played again: the gang, with all its steps.
func (m *model) played() (*gang.Gang, error) {
	if m.hands == 0 {
		return nil, api.ErrState
	}
	p, _, _ := planOf(m.made)
	g, err := gang.New(p, m.hands, 4)
	for _, s := range m.steps {
		g.Step(s[0], s[1])
	}
	return g, err
}

func (m *model) step(_ string, n []int) (string, error) {
	g, err := m.played()
	if err != nil {
		return "", err
	}
	deeds, err := g.Step(n[0], n[1])
	if err != nil {
		return "", err
	}
	m.steps = append(m.steps, [2]int{n[0], n[1]})
	text := "-"
	for i, d := range deeds {
		if i == 0 {
			text = ""
		}
		text += deed(d) + ";"
	}
	return text, nil
}

func (m *model) left(string, []int) (string, error) {
	g, err := m.played()
	if err != nil {
		return "", err
	}
	return strconv.Itoa(g.Left()), nil
}

// deed as it is told.
func deed(d api.Deed) string {
	switch d.What {
	case api.Took:
		return fmt.Sprintf("took %d %d", d.Hand, d.Task)
	case api.Stole:
		return fmt.Sprintf("stole %d %d %d", d.Hand, d.Task, d.Other)
	case api.Fetched:
		return fmt.Sprintf("fetched %d %d", d.Hand, d.Task)
	case api.Finished:
		return fmt.Sprintf("finished %d %d", d.Hand, d.Task)
	case api.Slept:
		return fmt.Sprintf("slept %d", d.Hand)
	}
	return fmt.Sprintf("woke %d", d.Hand)
}

// maker of texts, that are the same ones for the same seed.
type maker uint32

func (m *maker) below(n int) int {
	*m = *m*1664525 + 1013904223
	return int(*m>>16) % n
}

// one of so many texts.
func (m *maker) one(l ...string) string { return l[m.below(len(l))] }

// line of a text, of a gang of about so many hands.
func (m *maker) line(hands int) string {
	switch m.below(40) {
	case 0:
		return "weave " + m.weave(3)
	case 1:
		return "plan " + m.plan()
	case 2:
		return "gang " + strconv.Itoa(m.below(hands+2))
	case 3, 4:
		return "greedy " + strconv.Itoa(m.below(8))
	case 5, 6:
		return "left"
	case 7:
		return "show"
	case 8, 9:
		return m.broken(hands)
	}
	return "step " + strconv.Itoa(m.below(hands+m.below(2))) + " " + strconv.Itoa(m.below(12))
}

// weave of few numbers, some of them wrong ones.
func (m *maker) weave(deep int) string {
	if deep == 0 || m.below(4) == 0 {
		return strconv.Itoa(1 + m.below(3+m.below(2)*m.below(20)))
	}
	text := m.weave(deep - 1)
	for range m.below(4) {
		text += m.one(";", "|", "|") + m.weave(deep-1)
	}
	if m.below(2) == 0 {
		return "(" + text + ")"
	}
	return text
}

// plan of few tasks, some of them wrong ones.
func (m *maker) plan() string {
	var l []string
	for i := range m.below(10) {
		text, mark := strconv.Itoa(1+m.below(3)), "<"
		for n := range i {
			if m.below(3) == 0 {
				text += mark + strconv.Itoa(n)
				mark = ","
			}
		}
		l = append(l, text)
	}
	if m.below(6) == 0 {
		l = append(l, m.one("0", "1<0,0", "1<50", "", "x", "1<", "1<1,0", "21"))
	}
	return strings.Join(l, " ")
}

// broken line, or one that is right by chance.
func (m *maker) broken(hands int) string {
	line := []byte(m.one("step 0 0", "step 1 2", "gang 2", "greedy 3", "left", "show", "weave 1;2", "plan 1 2<0", "step "+strconv.Itoa(hands)+" 0"))
	i := m.below(len(line))
	switch m.below(5) {
	case 0:
		line[i] = byte(m.below(256))
	case 1:
		line = append(line[:i], line[i+1:]...)
	case 2:
		line = append(line, " 0x9"[m.below(4)])
	case 3:
		line[i] ^= 0x20
	case 4:
		line = append(line[:i+1], line[i:]...)
	}
	return string(line)
}

// text of mixed lines, nearly as long as there may be; the last line of some
// is not ended.
func (m *maker) text() string {
	var text strings.Builder
	hands := 1 + m.below(mostHands)
	if m.below(3) > 0 {
		text.WriteString(m.one("weave "+m.weave(3), "plan "+m.plan()) + "\ngang " + strconv.Itoa(hands) + "\n")
	}
	for {
		line := m.line(hands) + "\n"
		if text.Len()+len(line) > most {
			break
		}
		text.WriteString(line)
	}
	if m.below(2) == 0 {
		return strings.TrimSuffix(text.String(), "\n")
	}
	return text.String()
}

// TestMixedTexts: what is answered is what the model answers.
func TestMixedTexts(t *testing.T) {
	m := maker(1)
	seen := map[string]int{}
	for range 120 {
		text := m.text()
		want := answers(text)
		if got := Run(text); got != want {
			t.Fatalf("%q: got %q, want %q", text, got, want)
		}
		for line := range strings.Lines(want) {
			word, _, _ := strings.Cut(strings.Trim(line, "\n0123456789"), " ")
			seen[word]++
		}
	}
	for _, word := range strings.Fields("ok bad took stole fetched finished slept - ErrRange ErrSyntax ErrState ErrClash") {
		if seen[word] < 10 {
			t.Errorf("the texts are too tame: %d of %q", seen[word], word)
		}
	}
}

// TestFirstLines: the answers to them are the beginning of the answers to all,
// for every number of lines, and one to each line.
func TestFirstLines(t *testing.T) {
	m := maker(2)
	for range 25 {
		text := m.text()
		all := Run(text)
		first, rest := "", text
		for count := 0; ; count++ {
			got := Run(first)
			if !strings.HasPrefix(all, got) || strings.Count(got, "\n") != count {
				t.Fatalf("%q: of the first %d lines got %q, of all %q", text, count, got, all)
			}
			open := strings.TrimSuffix(first, "\n")
			if open != "" && !strings.HasSuffix(open, "\n") && Run(open) != got {
				t.Fatalf("%q: of the first %d lines got %q, but %q if the last one is not ended", text, count, got, Run(open))
			}
			if rest == "" {
				if got != all {
					t.Fatalf("%q: got %q, and once more %q", text, all, got)
				}
				break
			}
			_, rest, _ = strings.Cut(rest, "\n")
			first = text[:len(text)-len(rest)]
		}
	}
}

// TestAsFarAsItIsNotTooLong: one byte more, and there is no answer but that.
func TestAsFarAsItIsNotTooLong(t *testing.T) {
	m := maker(3)
	for range 20 {
		text := strings.TrimSuffix(m.text(), "\n") + "\n"
		text += strings.Repeat("x", most-len(text))
		if got := Run(text); got != answers(text) || got == "too long\n" {
			t.Fatalf("%q: got %q", text, got)
		}
		for _, more := range []string{"\n", "x", "\nleft\n", text} {
			hold(t, text+more, "too long\n")
		}
	}
}

// TestNothingIsLeftBehind: neither by the text ahead, nor by those that are
// answered beside it.
func TestNothingIsLeftBehind(t *testing.T) {
	m := maker(4)
	var texts, want []string
	for range 12 {
		texts = append(texts, m.text())
		want = append(want, Run(texts[len(texts)-1]))
	}
	for _, ahead := range texts {
		for i, text := range texts {
			Run(ahead)
			hold(t, text, want[i])
			hold(t, "show\nleft\nstep 0 0\ngreedy 1\n", "\nErrState\nErrState\n0 0\n")
		}
	}
	var all sync.WaitGroup
	for i, text := range texts {
		all.Go(func() {
			for range 20 {
				hold(t, text, want[i])
			}
		})
	}
	all.Wait()
}

// TestAnyBytes: each line is answered by one, whatever its bytes are.
func TestAnyBytes(t *testing.T) {
	m := maker(5)
	for range 2000 {
		text := make([]byte, m.below(200))
		for i := range text {
			text[i] = byte(m.below(256))
			if m.below(8) == 0 {
				text[i] = "\n 0;|"[m.below(5)]
			}
		}
		hold(t, string(text), answers(string(text)))
	}
	for a := range 256 {
		for b := range 256 {
			text := string([]byte{byte(a), byte(b)})
			want := "bad\n"
			if a == '\n' {
				want = "bad\nbad\n"
			}
			hold(t, text, want)
		}
	}
}

// TestWholeRuns: round by round all hands step, till all is done; what they
// answer are deeds that may have been, and each Task is finished once.
func TestWholeRuns(t *testing.T) {
	for _, text := range []string{"", "1", "2 1<0", "1 1<0 1<0 1<0", "3 2<0 1<0 4<1,2", "1<5 2<5 1<5 1<5 1<1,2 1", fan(9), beside(9, " "), fan(29)} {
		p, err := plan.Parse(text)
		if err != nil {
			t.Fatal(err)
		}
		for hands := 1; hands <= mostHands; hands++ {
			for picks := range 4 {
				wholeRun(t, p, text, hands, picks)
			}
		}
	}
}

// wholeRun of a plan, as many rounds as a text has room for.
func wholeRun(t *testing.T, p api.Plan, text string, hands, picks int) {
	t.Helper()
	asks := "plan " + text + "\ngang " + strconv.Itoa(hands) + "\n"
	for round := 0; ; round++ {
		more := ""
		for h := range hands {
			more += fmt.Sprintf("step %d %d\n", h, []int{0, h + 1, round, h*round + h + round}[picks])
		}
		if len(asks)+len(more)+len("left") > most {
			break
		}
		asks += more
	}
	l := strings.Split(strings.TrimSuffix(Run(asks+"left"), "\n"), "\n")
	told := ""
	for _, line := range l[2 : len(l)-1] {
		told += strings.ReplaceAll(strings.TrimPrefix(line, "-"), ";", "\n")
	}
	deeds, err := trace.Parse(told)
	if err != nil {
		t.Fatalf("%q: got %q: %v", asks, l, err)
	}
	if err := trace.Check(p, hands, deeds); err != nil {
		t.Errorf("%q: got %q: %v", asks, l, err)
	}
	counts, err := trace.Counts(deeds)
	if err != nil || counts[api.Finished-1] != len(p) || l[len(l)-1] != "0" {
		t.Errorf("%q: got %q: %v of %d tasks are finished", asks, l, counts, len(p))
	}
}
