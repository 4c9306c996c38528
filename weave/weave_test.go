package weave

import (
	"errors"
	"slices"
	"strings"
	"testing"

	"yardgang/api"
	"yardgang/depth"
	"yardgang/plain"
	"yardgang/plan"
)

// answer to a text: the plan, printed, and what it measures.
type answer struct {
	plan       string
	work, span int
	err        api.Errno
}

// ask both calls, and hold against each other what they tell.
func ask(t *testing.T, text string) answer {
	t.Helper()
	p, work, span, err := Parse(text)
	if n, s, bad := Measure(text); n != work || s != span || plain.Told(bad) != plain.Told(err) {
		t.Fatalf("%q: Measure: got %d %d %v, but Parse %d %d %v", text, n, s, bad, work, span, err)
	}
	if err != nil {
		if len(p) != 0 || work != 0 || span != 0 {
			t.Fatalf("%q: got %v %d %d with %v", text, p, work, span, err)
		}
		return answer{err: plain.Told(err)}
	}
	// Print would tell if Needs did not rise, or a number were out of bounds.
	printed, err := plan.Print(p)
	if err != nil {
		t.Fatalf("%q: got a wrong plan %v: %v", text, p, err)
	}
	return answer{printed, work, span, api.OK}
}

// hold the answer to a text against what is wanted.
func hold(t *testing.T, text string, want answer) {
	t.Helper()
	if got := ask(t, text); got != want {
		t.Errorf("%q: got %v, want %v", text, got, want)
	}
}

func TestWeaves(t *testing.T) {
	for _, c := range []struct {
		text       string
		plan       string
		work, span int
	}{
		// One number, with signs about it and without.
		{"1", "1", 1, 1},
		{"9", "9", 9, 9},
		{"10", "10", 10, 10},
		{"19", "19", 19, 19},
		{"20", "20", 20, 20},
		{"(7)", "7", 7, 7},
		{"(((20)))", "20", 20, 20},

		{"1;2", "1 2<0", 3, 3},
		{"3;2;1", "3 2<0 1<1", 6, 6},
		{"1|2", "1 2", 3, 2},
		{"2|1", "2 1", 3, 2},
		{"2|3|1", "2 3 1", 6, 3},
		{"4|4", "4 4", 8, 4},

		// ; binds more than |, wherever it stands.
		{"1;2|3", "1 2<0 3", 6, 3},
		{"1;1|3", "1 1<0 3", 5, 3},
		{"1|2;3", "1 2 3<1", 6, 5},
		{"9|2;3", "9 2 3<1", 14, 9},
		{"1;2|3;4", "1 2<0 3 4<2", 10, 7},
		{"1|2;3|4", "1 2 3<1 4", 10, 5},
		{"1;2;3|4|5;6", "1 2<0 3<1 4 5 6<4", 21, 11},

		// Signs turn it about, or are of no weight.
		{"(1|2);3", "1 2 3<0,1", 6, 5},
		{"1;(2|3)", "1 2<0 3<0", 6, 4},
		{"1;(2|3);4", "1 2<0 3<0 4<1,2", 10, 8},
		{"(1;2)|3", "1 2<0 3", 6, 3},
		{"1|(2;3)", "1 2 3<1", 6, 5},
		{"(1);(2)", "1 2<0", 3, 3},
		{"(1)|(2)", "1 2", 3, 2},
		{"(1;2);3", "1 2<0 3<1", 6, 6},
		{"1;(2;3)", "1 2<0 3<1", 6, 6},
		{"(1;2);(3;4)", "1 2<0 3<1 4<2", 10, 10},
		{"(1|2)|3", "1 2 3", 6, 3},
		{"1|(2|3)", "1 2 3", 6, 3},

		// Several that come last ahead of several that come first.
		{"(1|2);(3|4)", "1 2 3<0,1 4<0,1", 10, 6},
		{"(1|2|3);(4|5)", "1 2 3 4<0,1,2 5<0,1,2", 15, 8},
		{"(1|2);(3|4|5)", "1 2 3<0,1 4<0,1 5<0,1", 15, 7},
		{"(1|2);(3|4);(5|6)", "1 2 3<0,1 4<0,1 5<2,3 6<2,3", 21, 12},
		{"(1;2|3);(4;5|6)", "1 2<0 3 4<1,2 5<3 6<1,2", 21, 12},
		{"(1;2|3;4);(5;6|7;8)", "1 2<0 3 4<2 5<1,3 6<4 7<1,3 8<6", 36, 22},
		{"((1|2);3|4);((5|6);7|8)", "1 2 3<0,1 4 5<2,3 6<2,3 7<4,5 8<2,3", 36, 18},
		{"(1;(2|3)|4);(5;(6|7)|8)", "1 2<0 3<0 4 5<1,2,3 6<4 7<4 8<1,2,3", 36, 16},

		// Signs within signs.
		{"((1);((2|(3))));(4)", "1 2<0 3<0 4<1,2", 10, 8},
		{"(1|(2;(3|(4;5))))", "1 2 3<1 4<1 5<3", 15, 11},
		{"((((1|2);3)|4);5)|6", "1 2 3<0,1 4 5<2,3 6", 21, 10},
		{"((1;2|3);(4|5);6|7);8", "1 2<0 3 4<1,2 5<1,2 6<3,4 7 8<5,6", 36, 22},
	} {
		hold(t, c.text, answer{c.plan, c.work, c.span, api.OK})
	}
}

// times a text, with a sign between.
func times(n int, text, sign string) string {
	return strings.Repeat(text+sign, n-1) + text
}

// nested weave, with so many signs about it on each side.
func nested(n int, text string) string {
	return strings.Repeat("(", n) + text + strings.Repeat(")", n)
}

func TestLongestTexts(t *testing.T) {
	if api.MaxText != 200 {
		t.Fatal("the texts are made for 200 bytes")
	}
	hold(t, nested(99, "12"), answer{"12", 12, 12, api.OK})
	hold(t, nested(98, "1|20"), answer{"1 20", 21, 20, api.OK})
	wide := times(24, "(1;20)", "|") // 167 bytes, 48 tasks
	for _, c := range []struct {
		text string
		err  api.Errno
	}{
		{nested(99, "20"), api.OK},
		{nested(99, "120"), api.ErrFull},
		{nested(100, "1"), api.ErrFull},
		{nested(99, "1") + ")", api.ErrSyntax},
		{"(" + nested(99, "1"), api.ErrSyntax},
		{nested(98, "0000"), api.ErrSyntax},
		{nested(98, "2100"), api.ErrRange},
		{wide + strings.Repeat("|", 200-len(wide)), api.ErrSyntax},
		{wide + "|" + strings.Repeat("9", 199-len(wide)), api.ErrRange},
		{wide + "|" + nested(15, "10"), api.ErrFull},
		{times(100, "1", ";") + ";", api.ErrSyntax},
		{"2" + times(100, "1", ";"), api.ErrRange},
		{times(100, "1", ";") + "0", api.ErrFull},
		{times(99, "1", ";") + ";10", api.ErrFull},

		// Longer ones, whatever else is wrong with them.
		{times(100, "1", ";") + ";1", api.ErrFull},
		{strings.Repeat("1", 201), api.ErrFull},
		{strings.Repeat("(", 201), api.ErrFull},
		{strings.Repeat("0", 201), api.ErrFull},
		{strings.Repeat(" ", 201), api.ErrFull},
		{strings.Repeat("\x00", 201), api.ErrFull},
		{strings.Repeat("9", 201), api.ErrFull},
		{strings.Repeat("(", 1_000_000), api.ErrFull},
		{strings.Repeat("9", 1_000_000), api.ErrFull},
		// It is bytes that count, not what they mean.
		{strings.Repeat("\u00e9", 100), api.ErrSyntax},
		{strings.Repeat("\u00e9", 100) + "1", api.ErrFull},
		// Blanks count, too.
		{nested(99, "1") + " ", api.ErrSyntax},
		{nested(99, "12") + " ", api.ErrFull},
		{" " + nested(99, "12"), api.ErrFull},
	} {
		if got := ask(t, c.text).err; got != c.err {
			t.Errorf("%d bytes %.20q..: got %v, want %v", len(c.text), c.text, got, c.err)
		}
	}
}

func TestMostTasks(t *testing.T) {
	if api.MaxTasks != 30 || api.MaxWork != 20 {
		t.Fatal("the texts are made for 30 tasks of work 20")
	}
	hold(t, times(30, "20", "|"), answer{times(30, "20", " "), 600, 20, api.OK})
	p, work, span, err := Parse(times(30, "20", ";"))
	if err != nil || len(p) != 30 || work != 600 || span != 600 {
		t.Fatalf("one behind the other: got %v %d %d %v", p, work, span, err)
	}
	for i, task := range p {
		if task.Work != 20 || i > 0 && !slices.Equal(task.Needs, []int{i - 1}) || i == 0 && len(task.Needs) > 0 {
			t.Errorf("one behind the other: task %d: got %v", i, task)
		}
	}
	half := "(" + times(15, "20", "|") + ")"
	p, work, span, err = Parse(half + ";" + half)
	if err != nil || len(p) != 30 || work != 600 || span != 40 {
		t.Fatalf("halves: got %v %d %d %v", p, work, span, err)
	}
	for i, task := range p {
		if i < 15 && len(task.Needs) != 0 || i >= 15 && !slices.Equal(task.Needs, []int{0, 1, 2, 3, 4, 5, 6, 7, 8, 9, 10, 11, 12, 13, 14}) {
			t.Errorf("halves: task %d: got %v", i, task)
		}
	}
	hold(t, times(31, "1", "|"), answer{err: api.ErrFull})
	hold(t, times(31, "1", ";"), answer{err: api.ErrFull})
	hold(t, times(15, "(1|1)", ";")+";1", answer{err: api.ErrFull})
	hold(t, times(100, "1", "|"), answer{err: api.ErrFull})
}

// wrongs are texts, and what is wrong with them first.
var wrongs = []struct {
	text string
	err  api.Errno
}{
	{"", api.ErrSyntax},
	{"()", api.ErrSyntax},
	{"(())", api.ErrSyntax},

	// No numbers, or with a needless 0.
	{"0", api.ErrSyntax},
	{"00", api.ErrSyntax},
	{"01", api.ErrSyntax},
	{"001", api.ErrSyntax},
	{"020", api.ErrSyntax},
	{"021", api.ErrSyntax},
	{"(0)", api.ErrSyntax},
	{"1;0", api.ErrSyntax},
	{"1|02", api.ErrSyntax},
	{"+1", api.ErrSyntax},
	{"-1", api.ErrSyntax},
	{"1.0", api.ErrSyntax},
	{"1_0", api.ErrSyntax},
	{"0x1", api.ErrSyntax},
	{"1e1", api.ErrSyntax},
	{"a", api.ErrSyntax},
	{"n", api.ErrSyntax},
	{"\u0661", api.ErrSyntax},
	{"\uff11", api.ErrSyntax},

	// ; and | with nothing ahead or behind.
	{";", api.ErrSyntax},
	{"|", api.ErrSyntax},
	{"1;", api.ErrSyntax},
	{"1|", api.ErrSyntax},
	{";1", api.ErrSyntax},
	{"|1", api.ErrSyntax},
	{"1;;2", api.ErrSyntax},
	{"1||2", api.ErrSyntax},
	{"1;|2", api.ErrSyntax},
	{"1|;2", api.ErrSyntax},
	{"(1;)", api.ErrSyntax},
	{"(|1)", api.ErrSyntax},
	{"(1|);2", api.ErrSyntax},
	{"1;();2", api.ErrSyntax},
	{"1,2", api.ErrSyntax},
	{"1:2", api.ErrSyntax},
	{"1&2", api.ErrSyntax},

	// Signs that are not closed, not opened, or not parted.
	{"(", api.ErrSyntax},
	{")", api.ErrSyntax},
	{"(1", api.ErrSyntax},
	{"1)", api.ErrSyntax},
	{"((1)", api.ErrSyntax},
	{"(1))", api.ErrSyntax},
	{")1(", api.ErrSyntax},
	{"1;(2|3", api.ErrSyntax},
	{"(1;2;(3)", api.ErrSyntax},
	{"1|2)", api.ErrSyntax},
	{"(1)2", api.ErrSyntax},
	{"1(2)", api.ErrSyntax},
	{"(1)(2)", api.ErrSyntax},
	{"(1(2))", api.ErrSyntax},
	{"[1]", api.ErrSyntax},
	{"{1}", api.ErrSyntax},

	// Blanks, and other bytes.
	{" ", api.ErrSyntax},
	{" 1", api.ErrSyntax},
	{"1 ", api.ErrSyntax},
	{"1 2", api.ErrSyntax},
	{"1; 2", api.ErrSyntax},
	{"( 1)", api.ErrSyntax},
	{"1\n", api.ErrSyntax},
	{"1\t;2", api.ErrSyntax},
	{"\x00", api.ErrSyntax},
	{"1\x00", api.ErrSyntax},
	{"1\xff", api.ErrSyntax},
	{"\xff1", api.ErrSyntax},
	{"1/2", api.ErrSyntax},

	// Numbers above MaxWork; so long ones that they would wrap round.
	{"21", api.ErrRange},
	{"29", api.ErrRange},
	{"30", api.ErrRange},
	{"99", api.ErrRange},
	{"100", api.ErrRange},
	{"200", api.ErrRange},
	{"221", api.ErrRange},
	{"(21)", api.ErrRange},
	{"1;21", api.ErrRange},
	{"21|1", api.ErrRange},
	{"1;(2|3);(4|100)", api.ErrRange},
	{"256", api.ErrRange},
	{"257", api.ErrRange},
	{"65537", api.ErrRange},
	{"4294967297", api.ErrRange},
	{"9223372036854775807", api.ErrRange},
	{"9223372036854775808", api.ErrRange},
	{"18446744073709551616", api.ErrRange},
	{"18446744073709551617", api.ErrRange},
	{"18446744073709551635", api.ErrRange},
	{"1" + strings.Repeat("0", 199), api.ErrRange},
	{strings.Repeat("9", 200), api.ErrRange},

	// Several errors at once: the form is told first, wherever it is wrong.
	{"21;", api.ErrSyntax},
	{"21;;1", api.ErrSyntax},
	{"21;0", api.ErrSyntax},
	{"(21", api.ErrSyntax},
	{"21)", api.ErrSyntax},
	{"21 ", api.ErrSyntax},
	{"0;21", api.ErrSyntax},
	{"|21", api.ErrSyntax},
	{strings.Repeat("9", 199) + ";", api.ErrSyntax},
	{"0" + strings.Repeat("9", 199), api.ErrSyntax},
	{times(31, "1", "|") + "|", api.ErrSyntax},
	{times(31, "1", ";") + ")", api.ErrSyntax},
	{"(" + times(31, "1", ";"), api.ErrSyntax},
	{"0;" + times(31, "1", ";"), api.ErrSyntax},
	{times(40, "21", ";") + ";01", api.ErrSyntax},
	// Then a number, then how many there are.
	{times(31, "21", ";"), api.ErrRange},
	{times(30, "1", ";") + ";21", api.ErrRange},
	{times(60, "1", "|") + "|21", api.ErrRange},
	{"21;" + times(40, "1", ";"), api.ErrRange},
	{times(30, "21", "|"), api.ErrRange},
}

func TestWrongTexts(t *testing.T) {
	for _, c := range wrongs {
		hold(t, c.text, answer{err: c.err})
	}
}

// TestErrorsAreErrnos: nil where nothing is wrong, never OK as an error.
func TestErrorsAreErrnos(t *testing.T) {
	for _, c := range wrongs {
		_, _, _, err := Parse(c.text)
		_, _, bad := Measure(c.text)
		for _, err := range []error{err, bad} {
			var e api.Errno
			if !errors.As(err, &e) || e == api.OK {
				t.Errorf("%q: got %#v", c.text, err)
			}
		}
	}
	if _, _, _, err := Parse("1;2"); err != nil {
		t.Errorf("got %#v, want nil", err)
	}
	if _, _, err := Measure("1;2"); err != nil {
		t.Errorf("got %#v, want nil", err)
	}
}

// TestByDepth: what is reckoned by the text is what package depth reckons by the plan.
func TestByDepth(t *testing.T) {
	for _, text := range weaves(4) {
		p, work, span, err := Parse(numbered(text))
		if err != nil {
			t.Fatalf("%q: %v", text, err)
		}
		n, bad := depth.Work(p)
		s, ill := depth.Span(p)
		if bad != nil || ill != nil || n != work || s != span {
			t.Fatalf("%q: got %d %d, by depth %d %v %d %v", numbered(text), work, span, n, bad, s, ill)
		}
	}
}

// TestAnswersAreTheCallers: what came out may be written into, to the end of
// its memory, and nothing else feels it.
func TestAnswersAreTheCallers(t *testing.T) {
	const text = "(1|2);(3|4);(5|(6;7)|(8|9));(10|11)"
	want, _, _, err := Parse(text)
	if err != nil {
		t.Fatal(err)
	}
	for i := range want {
		p, _, _, _ := Parse(text)
		needs := p[i].Needs[:cap(p[i].Needs)]
		for k := range needs {
			needs[k] = -9
		}
		p[i].Needs = want[i].Needs
		if !alike(p, want) {
			t.Errorf("task %d: its Needs were written into, and there is %v, want %v", i, p, want)
		}
		clear(p[:cap(p)])
		if again, _, _, err := Parse(text); err != nil || !alike(again, want) {
			t.Errorf("a plan was written into, and the next one is %v %v, want %v", again, err, want)
		}
	}
}

// alike plans: an empty list and nil are.
func alike(p, q api.Plan) bool {
	return slices.EqualFunc(p, q, func(a, b api.Task) bool {
		return a.Work == b.Work && slices.Equal(a.Needs, b.Needs)
	})
}
