package run

import (
	"strconv"
	"strings"
	"testing"

	"yardgang/api"
)

// most bytes of a text, bytes of a weave, tasks, work of a task, and hands
// that there may be.
const (
	most      = 3000
	mostText  = 200
	mostTasks = 30
	mostWork  = 20
	mostHands = 6
)

func TestNumbers(t *testing.T) {
	if api.MaxRun != most || api.MaxText != mostText || api.MaxTasks != mostTasks || api.MaxWork != mostWork || api.MaxHands != mostHands {
		t.Fatal("a text has 3000 bytes, a weave 200, a plan 30 tasks, a task a work of 20, and there are 6 hands, at most")
	}
}

// hold what Run answers to a text.
func hold(t *testing.T, text, want string) {
	t.Helper()
	if got := Run(text); got != want {
		t.Errorf("%q: got %q, want %q", text, got, want)
	}
}

// ended lines: each with a byte 10 behind it.
func ended(l []string) string {
	var text strings.Builder
	for _, line := range l {
		text.WriteString(line + "\n")
	}
	return text.String()
}

// apart: the lines of a talk, and the answers that are wanted; each answer
// stands behind its line.
func apart(t *testing.T, l []string) ([]string, []string) {
	t.Helper()
	if len(l)%2 != 0 {
		t.Fatalf("no answer to the last line: %q", l)
	}
	var lines, answers []string
	for i := 0; i < len(l); i += 2 {
		lines, answers = append(lines, l[i]), append(answers, l[i+1])
	}
	return lines, answers
}

// talk: lines, and behind each its answer. The first lines of it are held to
// have the first answers, for every number of them, whether the last one is
// ended or not.
func talk(t *testing.T, l ...string) {
	t.Helper()
	lines, answers := apart(t, l)
	for n := range len(lines) + 1 {
		text, want := ended(lines[:n]), ended(answers[:n])
		hold(t, text, want)
		if n > 0 && lines[n-1] != "" {
			hold(t, strings.TrimSuffix(text, "\n"), want)
		}
	}
}

// beside each other so many tasks of one unit of work each, with a sign
// between them.
func beside(count int, sign string) string {
	return strings.TrimSuffix(strings.Repeat("1"+sign, count), sign)
}

// fan of tasks: the first one, and so many others that need it.
func fan(count int) string { return "1" + strings.Repeat(" 1<0", count) }

func TestWeave(t *testing.T) {
	for _, c := range []struct{ text, answer, plan string }{
		{"1", "1 1", "1"},
		{"20", "20 20", "20"},
		{"(7)", "7 7", "7"},
		{"1;2", "3 3", "1 2<0"},
		{"1|2", "3 2", "1 2"},
		{"2|1", "3 2", "2 1"},
		{"3;(2|1);4", "10 9", "3 2<0 1<0 4<1,2"},
		{"1;2|3;1", "7 4", "1 2<0 3 1<2"},
		{"(1|2);(3|4)", "10 6", "1 2 3<0,1 4<0,1"},
		{beside(mostTasks, "|"), "30 1", beside(mostTasks, " ")},
		{strings.Repeat("(", 99) + "10" + strings.Repeat(")", 99), "10 10", "10"},
	} {
		talk(t, "weave "+c.text, c.answer, "show", c.plan)
	}
}

func TestPlan(t *testing.T) {
	for _, text := range []string{
		"", "1", "20", "1 2", "1 2<0", "1<1 2", "3 2<0 1<0 4<1,2", "5<1,2 1 1<1",
		beside(mostTasks, " "), fan(mostTasks - 1), "1<29" + strings.Repeat(" 20", 29),
	} {
		talk(t, "plan "+text, "ok", "show", text)
	}
}

// refusals: lines of a plan that are not taken, and their answers.
var refusals = []struct{ line, answer string }{
	{"weave ", "ErrSyntax"},
	{"weave x", "ErrSyntax"},
	{"weave 0", "ErrSyntax"},
	{"weave 01", "ErrSyntax"},
	{"weave 1;", "ErrSyntax"},
	{"weave (1", "ErrSyntax"},
	{"weave 1)", "ErrSyntax"},
	{"weave 1;;2", "ErrSyntax"},
	{"weave 21;x", "ErrSyntax"},
	{"weave 21", "ErrRange"},
	{"weave 1;(2|30)", "ErrRange"},
	{"weave 123456789012345678901234567890", "ErrRange"},
	{"weave " + beside(mostTasks, "|") + "|21", "ErrRange"},
	{"weave " + beside(mostTasks+1, "|"), "ErrFull"},
	{"weave " + beside(mostTasks+1, ";"), "ErrFull"},
	{"weave " + strings.Repeat("(", 100) + "1" + strings.Repeat(")", 100), "ErrFull"},
	{"weave " + strings.Repeat("x", mostText+1), "ErrFull"},
	{"weave " + strings.Repeat("x", mostText), "ErrSyntax"},
	{"plan x", "ErrSyntax"},
	{"plan 01", "ErrSyntax"},
	{"plan 12345", "ErrSyntax"},
	{"plan 1<", "ErrSyntax"},
	{"plan 1 1<0,", "ErrSyntax"},
	{"plan 1;2", "ErrSyntax"},
	{"plan " + beside(mostTasks+1, " ") + " x", "ErrSyntax"},
	{"plan 0", "ErrRange"},
	{"plan 21", "ErrRange"},
	{"plan 9999", "ErrRange"},
	{"plan 1<1", "ErrRange"},
	{"plan 1 1<0,2", "ErrRange"},
	{"plan 1 1<0,0", "ErrClash"},
	{"plan 1 1 1<1,0", "ErrClash"},
	{"plan 1<0", "ErrCycle"},
	{"plan 1<1 1<0", "ErrCycle"},
	{"plan 1 1<2 1<1", "ErrCycle"},
	{"plan " + beside(mostTasks+1, " "), "ErrFull"},
	{"plan " + beside(mostTasks, " ") + " 0", "ErrFull"},
}

// TestRefused: the Plan that there was stays, and so does the Gang, whichever
// line they are of.
func TestRefused(t *testing.T) {
	for _, c := range refusals {
		talk(t, c.line, c.answer, "show", "", "gang 1", "ok", "left", "0")
		talk(t, "weave 2;1", "3 3", c.line, c.answer, "show", "2 1<0", "greedy 1", "3 3")
		talk(t, "plan 2 1", "ok", c.line, c.answer, "show", "2 1", "gang 1", "ok", "left", "2")
		talk(t,
			"plan 2 1", "ok", "gang 2", "ok", "step 1 0", "fetched 1 0;", "plan 3", "ok",
			c.line, c.answer, "left", "2", "show", "3",
			c.line, c.answer, "step 1 0", "-", "step 1 0", "finished 1 0;", "left", "1",
		)
	}
}

func TestShow(t *testing.T) {
	talk(t, "show", "", "show", "")
	talk(t,
		"show", "", "weave 1;2", "3 3", "show", "1 2<0", "show", "1 2<0",
		"plan 4 3", "ok", "show", "4 3", "plan 4 x", "ErrSyntax", "show", "4 3",
		"weave 2|", "ErrSyntax", "show", "4 3", "weave 5", "5 5", "show", "5",
		"gang 1", "ok", "step 0 0", "fetched 0 0;", "show", "5", "plan ", "ok", "show", "",
	)
}

func TestGreedy(t *testing.T) {
	talk(t,
		"plan 1<2 1<2 1 3", "ok",
		"greedy 0", "ErrRange", "greedy 1", "6 6", "greedy 2", "4 4", "greedy 3", "3 4", "greedy 6", "3 3",
		"greedy 7", "ErrRange", "greedy 10", "ErrRange", "greedy 9999", "ErrRange", "greedy 2", "4 4", "show", "1<2 1<2 1 3",
	)
	talk(t, "weave 3;(2|1);4", "10 9", "greedy 1", "10 10", "greedy 2", "9 9", "greedy 6", "9 9")
	// Hands that are none are told ahead of there being no Task.
	talk(t, "greedy 0", "ErrRange", "greedy 1", "0 0", "greedy 6", "0 0", "greedy 7", "ErrRange")
	talk(t, "weave 5", "5 5", "plan ", "ok", "greedy 0", "ErrRange", "greedy 1", "0 0", "greedy 6", "0 0", "greedy 7", "ErrRange")
	// It is the Plan that counts, not the Gang.
	talk(t, "plan 4", "ok", "gang 2", "ok", "plan 1 1", "ok", "step 0 0", "fetched 0 0;", "greedy 2", "1 1", "greedy 7", "ErrRange", "left", "1")
}

// TestTaken: there can be no Plan that its own Check refuses, as only such as
// pass it are taken: so whatever was taken is shown, done, and has a Gang.
func TestTaken(t *testing.T) {
	for _, line := range []string{
		"weave 20;20|20", "weave ((1|2);(3|4);(5|6))|7;8", "weave " + beside(mostTasks, ";"), "weave (" + beside(14, "|") + ");(" + beside(14, "|") + ");1;1",
		"plan ", "plan " + beside(mostTasks, " "), "plan 1<1,2,3 1<2,3 1<3 1",
	} {
		for hands := 1; hands <= mostHands; hands++ {
			n := strconv.Itoa(hands)
			l := strings.Split(Run(line+"\nshow\ngreedy "+n+"\ngang "+n+"\nleft\n"), "\n")
			tasks := len(strings.Fields(l[1]))
			if strings.Contains(l[0]+l[2], "Err") || l[3] != "ok" || l[4] != strconv.Itoa(tasks) {
				t.Errorf("%q, %d hands: got %q", line, hands, l)
			}
		}
	}
}

func TestGang(t *testing.T) {
	talk(t, "gang 0", "ErrRange", "left", "ErrState", "gang 7", "ErrRange", "left", "ErrState", "step 0 0", "ErrState")
	talk(t, "gang 9999", "ErrRange", "gang 16", "ErrRange", "left", "ErrState")
	talk(t, "gang 1", "ok", "left", "0", "step 0 0", "slept 0;", "step 1 0", "ErrRange")
	talk(t, "gang 6", "ok", "left", "0", "step 5 0", "slept 5;", "step 6 0", "ErrRange")
	talk(t, "plan 1 1", "ok", "gang 1", "ok", "left", "2", "step 0 0", "fetched 0 0;", "step 1 0", "ErrRange")
	talk(t, "plan 1 1", "ok", "gang 6", "ok", "left", "2", "step 5 0", "fetched 5 0;", "step 6 0", "ErrRange")
	talk(t, "weave 1|1", "2 1", "gang 2", "ok", "left", "2", "step 1 0", "fetched 1 0;", "step 2 0", "ErrRange")
}

// TestGangInTheOthersPlace: it begins anew, with the Plan that there is now,
// and with its own hands.
func TestGangInTheOthersPlace(t *testing.T) {
	talk(t,
		"plan 1 2", "ok", "gang 2", "ok", "step 1 0", "fetched 1 0;", "step 1 0", "finished 1 0;", "left", "1",
		"gang 1", "ok", "left", "2", "step 1 0", "ErrRange", "step 0 0", "fetched 0 0;", "step 0 0", "finished 0 0;", "left", "1",
		"plan 3 3 3", "ok", "left", "1", "gang 3", "ok", "left", "3", "step 2 0", "fetched 2 0;", "step 2 0", "-", "step 2 0", "-", "step 2 0", "finished 2 0;",
		"plan ", "ok", "gang 2", "ok", "left", "0", "step 1 0", "slept 1;", "step 2 0", "ErrRange",
	)
}

// TestGangRefused: the one that there is stays.
func TestGangRefused(t *testing.T) {
	for _, c := range []struct{ line, answer string }{
		{"gang 0", "ErrRange"}, {"gang 7", "ErrRange"}, {"gang 9999", "ErrRange"},
		{"gang", "bad"}, {"gang ", "bad"}, {"gang x", "bad"}, {"gang 01", "bad"}, {"gang 1 1", "bad"}, {"gang 10000", "bad"}, {"Gang 1", "bad"},
	} {
		talk(t,
			c.line, c.answer, "left", "ErrState", "plan 2 1<0", "ok", c.line, c.answer, "left", "ErrState",
			"gang 2", "ok", "step 1 0", "fetched 1 0;", c.line, c.answer, "left", "2", "step 0 0", "slept 0;",
			"step 1 0", "-", c.line, c.answer, "step 1 0", "finished 1 0;woke 0;", "left", "1", c.line, c.answer, "step 1 0", "took 1 1;", "step 2 0", "ErrRange",
		)
	}
}

// TestNoGang: whatever hand and pick, and whatever Plan there is.
func TestNoGang(t *testing.T) {
	talk(t, "step 0 0", "ErrState", "left", "ErrState", "step 6 0", "ErrState", "step 9999 9999", "ErrState", "left", "ErrState")
	talk(t, "plan 1", "ok", "step 0 0", "ErrState", "left", "ErrState", "gang 1", "ok", "step 0 0", "fetched 0 0;", "left", "1")
	talk(t, "weave 1", "1 1", "left", "ErrState", "step 0 0", "ErrState", "greedy 1", "1 1", "left", "ErrState")
	talk(t, "step x 0", "bad", "step 0", "bad", "left 0", "bad", "step 0 10000", "bad")
}

// TestAllBySteps: a hand robs, is robbed, falls asleep, and is woken; all is
// done, and goes on to be.
func TestAllBySteps(t *testing.T) {
	talk(t,
		"plan 1 1<0 1<0 1<0", "ok", "gang 2", "ok", "left", "4",
		"step 0 0", "fetched 0 0;", "step 1 0", "slept 1;", "step 1 0", "-",
		"step 0 0", "finished 0 0;woke 1;", "left", "3",
		"step 1 2", "stole 1 1 0;", "left", "3",
		"step 0 0", "took 0 3;", "step 1 0", "finished 1 1;", "step 0 0", "finished 0 3;", "left", "1",
		"step 1 1", "slept 1;", "step 0 0", "took 0 2;", "left", "1", "step 0 0", "finished 0 2;", "left", "0",
		"step 0 0", "slept 0;", "step 0 0", "-", "step 1 0", "-", "step 2 0", "ErrRange", "left", "0", "show", "1 1<0 1<0 1<0",
	)
	// A Task of two units and more, by one hand.
	talk(t,
		"weave 2;3", "5 5", "gang 1", "ok",
		"step 0 0", "fetched 0 0;", "step 0 0", "-", "left", "2", "step 0 0", "finished 0 0;", "left", "1",
		"step 0 0", "took 0 1;", "step 0 0", "-", "step 0 0", "-", "step 0 0", "finished 0 1;", "left", "0", "step 0 0", "slept 0;",
	)
}

// TestManyDeeds of one Step: they stand in their order, each with its sign.
func TestManyDeeds(t *testing.T) {
	talk(t,
		"plan "+fan(3), "ok", "gang 6", "ok", "step 3 0", "fetched 3 0;",
		"step 2 0", "slept 2;", "step 5 0", "slept 5;", "step 0 0", "slept 0;", "step 1 0", "slept 1;",
		"step 3 0", "finished 3 0;woke 2;woke 5;woke 0;", "step 1 0", "-", "step 5 3", "stole 5 1 3;", "step 3 0", "took 3 3;",
	)
	talk(t,
		"plan "+fan(5), "ok", "gang 6", "ok", "step 0 0", "fetched 0 0;",
		"step 5 0", "slept 5;", "step 4 0", "slept 4;", "step 3 0", "slept 3;", "step 2 0", "slept 2;", "step 1 0", "slept 1;",
		"step 0 0", "finished 0 0;woke 5;woke 4;woke 3;woke 2;woke 1;", "left", "5",
	)
}

// TestPicks: of the hand pick modulo hands; of one that has nothing, and of
// itself, nothing is robbed.
func TestPicks(t *testing.T) {
	for _, c := range []struct{ pick, answer string }{
		{"0", "stole 2 1 0;"}, {"1", "slept 2;"}, {"2", "slept 2;"}, {"3", "stole 2 1 0;"}, {"4", "slept 2;"}, {"5", "slept 2;"}, {"6", "stole 2 1 0;"},
		{"999", "stole 2 1 0;"}, {"1000", "slept 2;"}, {"9997", "slept 2;"}, {"9998", "slept 2;"}, {"9999", "stole 2 1 0;"}, {"10000", "bad"},
	} {
		talk(t, "plan "+fan(5), "ok", "gang 3", "ok", "step 0 0", "fetched 0 0;", "step 0 0", "finished 0 0;", "step 2 "+c.pick, c.answer)
	}
	// A hand that is none is one with each pick.
	for _, pick := range []string{"0", "1", "2", "3", "9999"} {
		talk(t, "plan 1", "ok", "gang 3", "ok", "step 3 "+pick, "ErrRange", "step 6 "+pick, "ErrRange", "step 9999 "+pick, "ErrRange", "step 2 "+pick, "fetched 2 0;")
	}
}

// TestRoom: of each hand it is 4, beside what is near. So five are taken in,
// and of six the first half of the four that are not near is spilled.
func TestRoom(t *testing.T) {
	talk(t,
		"plan "+fan(5), "ok", "gang 2", "ok", "step 0 0", "fetched 0 0;", "step 0 0", "finished 0 0;",
		"step 1 0", "stole 1 1 0;", "step 1 0", "finished 1 1;", "step 1 0", "took 1 2;", "step 0 0", "took 0 5;", "step 1 0", "finished 1 2;", "step 1 0", "stole 1 3 0;",
	)
	talk(t,
		"plan "+fan(6), "ok", "gang 2", "ok", "step 0 0", "fetched 0 0;", "step 0 0", "finished 0 0;",
		"step 1 0", "fetched 1 1;", "step 1 0", "finished 1 1;", "step 1 0", "fetched 1 2;", "step 0 0", "took 0 6;", "step 1 0", "finished 1 2;", "step 1 0", "stole 1 3 0;",
	)
	// In front of the Spill it is 4, too, but what is behind comes in order.
	talk(t,
		"plan "+beside(6, " "), "ok", "gang 6", "ok", "step 0 0", "fetched 0 0;", "step 1 0", "fetched 1 1;", "step 2 0", "fetched 2 2;",
		"step 3 0", "fetched 3 3;", "step 4 0", "fetched 4 4;", "step 5 0", "fetched 5 5;", "left", "6",
	)
}

// TestGangKeepsItsPlan: it goes on with the one that it was made of, whatever
// Plan there is now.
func TestGangKeepsItsPlan(t *testing.T) {
	for _, c := range []struct{ line, answer, plan string }{
		{"plan 1", "ok", "1"}, {"plan ", "ok", ""}, {"plan 20 20 20", "ok", "20 20 20"}, {"weave 9;9", "18 18", "9 9<0"}, {"weave 1|1", "2 1", "1 1"},
	} {
		talk(t,
			"plan 2 1<0", "ok", "gang 2", "ok", c.line, c.answer, "show", c.plan, "left", "2",
			"step 0 0", "fetched 0 0;", "step 0 0", "-", "step 1 0", "slept 1;", c.line, c.answer, "step 0 0", "finished 0 0;woke 1;", "left", "1",
			"step 0 0", "took 0 1;", c.line, c.answer, "step 0 0", "finished 0 1;", "left", "0", "step 0 0", "slept 0;", "show", c.plan,
			"gang 1", "ok", "left", strconv.Itoa(len(strings.Fields(c.plan))),
		)
	}
}
