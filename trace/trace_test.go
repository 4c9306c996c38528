package trace

import (
	"errors"
	"slices"
	"strconv"
	"strings"
	"testing"

	"yardgang/api"
	"yardgang/plain"
	"yardgang/plan"
)

// most hands and tasks that there may be, and deeds that are told together.
const (
	mostHands = 6
	mostTasks = 30
	mostDeeds = 1000
)

// names of deeds, by What.
var names = []string{1: "took", 2: "stole", 3: "fetched", 4: "finished", 5: "slept", 6: "woke"}

func TestNumbers(t *testing.T) {
	if api.MaxHands != mostHands || api.MaxTasks != mostTasks {
		t.Fatal("there are 6 hands, and a plan has 30 tasks, at most")
	}
	if api.Took != 1 || api.Stole != 2 || api.Fetched != 3 || api.Finished != 4 || api.Slept != 5 || api.Woke != 6 {
		t.Fatal("what deeds tell are the numbers from 1 to 6")
	}
}

// number of a text.
func number(t *testing.T, text string) int {
	t.Helper()
	n, err := strconv.Atoi(text)
	if err != nil {
		t.Fatal(text, err)
	}
	return n
}

// deeds of a text, with commas between: a name, and the hand, task and other.
func deeds(t *testing.T, text string) []api.Deed {
	t.Helper()
	var l []api.Deed
	for part := range strings.SplitSeq(text, ",") {
		w := strings.Fields(part)
		if len(w) == 0 {
			continue
		}
		what := slices.Index(names, w[0])
		if what < 1 {
			t.Fatal(part)
		}
		numbers := [3]int{}
		for i, one := range w[1:] {
			numbers[i] = number(t, one)
		}
		l = append(l, api.Deed{What: what, Hand: numbers[0], Task: numbers[1], Other: numbers[2]})
	}
	return l
}

// alike: so many times the same.
func alike(d api.Deed, count int) []api.Deed { return slices.Repeat([]api.Deed{d}, count) }

// chart is a plan that is right.
func chart(t *testing.T, text string) api.Plan {
	t.Helper()
	p, err := plan.Parse(text)
	if err != nil {
		t.Fatal(text, err)
	}
	return p
}

// beside each other so many tasks, each of a work.
func beside(count, work int) api.Plan {
	p := make(api.Plan, count)
	for i := range p {
		p[i].Work = work
	}
	return p
}

// is tells whether an error is the wanted one: nil for OK, else an Errno, never OK.
func is(err error, want api.Errno) bool {
	var e api.Errno
	if err == nil || want == api.OK {
		return err == nil && want == api.OK
	}
	return errors.As(err, &e) && e == want && plain.Told(err) == want
}

// some of a list, so that a fault's words stay short.
func some[T any](l []T) []T { return l[:min(len(l), 12)] }

// start of a text, so that a fault's words stay short.
func start(text string) string { return text[:min(len(text), 200)] }

// holdPrint holds what Print tells of deeds.
func holdPrint(t *testing.T, l []api.Deed, want string) {
	t.Helper()
	if got, err := Print(l); got != want || err != nil {
		t.Fatalf("Print of %v: got %q %v, want %q", some(l), start(got), err, start(want))
	}
}

// holdParse holds what Parse tells of a text.
func holdParse(t *testing.T, text string, want []api.Deed) {
	t.Helper()
	if got, err := Parse(text); !slices.Equal(got, want) || err != nil {
		t.Fatalf("Parse of %q: got %v %v, want %v", start(text), some(got), err, some(want))
	}
}

// holdCounts holds what Counts tells of deeds.
func holdCounts(t *testing.T, l []api.Deed, want ...int) {
	t.Helper()
	if got, err := Counts(l); !slices.Equal(got, want) || err != nil {
		t.Fatalf("Counts of %v: got %v %v, want %v", some(l), got, err, want)
	}
}

// holdCheck holds what Check tells of deeds.
func holdCheck(t *testing.T, p api.Plan, hands int, l []api.Deed, want api.Errno) {
	t.Helper()
	if err := Check(p, hands, l); !is(err, want) {
		t.Fatalf("%v: Check by %d of %v: got %v, want %v", p, hands, some(l), err, want)
	}
}

// refuse holds that Print and Counts tell an error, and nothing else, and that
// Check tells it, too, whatever the plan and the hands are, if they are right.
func refuse(t *testing.T, l []api.Deed, want api.Errno) {
	t.Helper()
	if got, err := Print(l); got != "" || !is(err, want) {
		t.Fatalf("Print of %v: got %q %v, want %v", some(l), start(got), err, want)
	}
	if got, err := Counts(l); len(got) != 0 || !is(err, want) {
		t.Fatalf("Counts of %v: got %v %v, want %v", some(l), got, err, want)
	}
	for _, hands := range []int{1, mostHands} {
		holdCheck(t, nil, hands, l, want)
		holdCheck(t, beside(mostTasks, 1), hands, l, want)
	}
}

// refuseParse holds that Parse tells an error, and nothing else.
func refuseParse(t *testing.T, text string, want api.Errno) {
	t.Helper()
	if got, err := Parse(text); len(got) != 0 || !is(err, want) {
		t.Fatalf("Parse of %q: got %v %v, want %v", start(text), some(got), err, want)
	}
}

// TestLines: deeds, what Print tells of them, which Parse takes back, and their
// counts.
func TestLines(t *testing.T) {
	for _, c := range []struct {
		name   string
		deeds  []api.Deed
		text   string
		counts [6]int
	}{
		{"none", nil, "", [6]int{}},
		{"none, but not nil", []api.Deed{}, "", [6]int{}},
		{"took", []api.Deed{{What: 1, Hand: 3, Task: 7}}, "took 3 7\n", [6]int{1}},
		{"stole", []api.Deed{{What: 2, Hand: 3, Task: 7, Other: 4}}, "stole 3 7 4\n", [6]int{0, 1}},
		{"fetched", []api.Deed{{What: 3, Hand: 3, Task: 7}}, "fetched 3 7\n", [6]int{0, 0, 1}},
		{"finished", []api.Deed{{What: 4, Hand: 3, Task: 7}}, "finished 3 7\n", [6]int{0, 0, 0, 1}},
		{"slept", []api.Deed{{What: 5, Hand: 3}}, "slept 3\n", [6]int{0, 0, 0, 0, 1}},
		{"woke", []api.Deed{{What: 6, Hand: 3}}, "woke 3\n", [6]int{0, 0, 0, 0, 0, 1}},

		{"the least numbers", deeds(t, "took 0 0, stole 0 0 0, fetched 0 0, finished 0 0, slept 0, woke 0"),
			"took 0 0\nstole 0 0 0\nfetched 0 0\nfinished 0 0\nslept 0\nwoke 0\n", [6]int{1, 1, 1, 1, 1, 1}},
		{"the greatest numbers", deeds(t, "woke 5, slept 5, finished 5 29, fetched 5 29, stole 5 29 5, took 5 29"),
			"woke 5\nslept 5\nfinished 5 29\nfetched 5 29\nstole 5 29 5\ntook 5 29\n", [6]int{1, 1, 1, 1, 1, 1}},
		{"numbers of one digit and of two", deeds(t, "took 1 9, took 1 10, took 1 11, took 1 19, took 1 20"),
			"took 1 9\ntook 1 10\ntook 1 11\ntook 1 19\ntook 1 20\n", [6]int{5}},
		{"the same again", deeds(t, "slept 2, slept 2, stole 1 1 1, slept 2"),
			"slept 2\nslept 2\nstole 1 1 1\nslept 2\n", [6]int{0, 1, 0, 0, 3}},
		{"of each as many as its number", slices.Concat(
			deeds(t, "took 0 1, stole 1 2 0, stole 2 3 1, fetched 0 4, fetched 1 5, fetched 2 6"),
			deeds(t, "finished 3 1, finished 4 2, finished 5 3, finished 0 4, slept 0, slept 1, slept 2, slept 3, slept 4"),
			deeds(t, "woke 0, woke 1, woke 2, woke 3, woke 4, woke 5")),
			"took 0 1\nstole 1 2 0\nstole 2 3 1\nfetched 0 4\nfetched 1 5\nfetched 2 6\n" +
				"finished 3 1\nfinished 4 2\nfinished 5 3\nfinished 0 4\nslept 0\nslept 1\nslept 2\nslept 3\nslept 4\n" +
				"woke 0\nwoke 1\nwoke 2\nwoke 3\nwoke 4\nwoke 5\n", [6]int{1, 2, 3, 4, 5, 6}},
	} {
		t.Run(c.name, func(t *testing.T) {
			holdPrint(t, c.deeds, c.text)
			holdParse(t, c.text, c.deeds)
			holdCounts(t, c.deeds, c.counts[:]...)
		})
	}
}

// every deed that may be told.
func every() []api.Deed {
	var l []api.Deed
	for hand := range mostHands {
		for task := range mostTasks {
			for _, what := range []int{api.Took, api.Fetched, api.Finished} {
				l = append(l, api.Deed{What: what, Hand: hand, Task: task})
			}
			for other := range mostHands {
				l = append(l, api.Deed{What: api.Stole, Hand: hand, Task: task, Other: other})
			}
		}
		l = append(l, api.Deed{What: api.Slept, Hand: hand}, api.Deed{What: api.Woke, Hand: hand})
	}
	return l
}

// line of a deed that may be told.
func line(d api.Deed) string {
	w := []string{names[d.What], strconv.Itoa(d.Hand)}
	if d.What <= api.Finished {
		w = append(w, strconv.Itoa(d.Task))
	}
	if d.What == api.Stole {
		w = append(w, strconv.Itoa(d.Other))
	}
	return strings.Join(w, " ") + "\n"
}

// TestEveryDeed: each alone, and all of them, as many as may be told together.
func TestEveryDeed(t *testing.T) {
	for _, d := range every() {
		holdPrint(t, []api.Deed{d}, line(d))
		holdParse(t, line(d), []api.Deed{d})
		counts := make([]int, 6)
		counts[d.What-1] = 1
		holdCounts(t, []api.Deed{d}, counts...)
	}
	for l := range slices.Chunk(every(), mostDeeds) {
		var text strings.Builder
		for _, d := range l {
			text.WriteString(line(d))
		}
		holdPrint(t, l, text.String())
		holdParse(t, text.String(), l)
	}
}

// TestMany: 1000 of each What may be told, one more may not, whatever they are.
func TestMany(t *testing.T) {
	for _, d := range deeds(t, "took 1 2, stole 1 20 3, fetched 1 2, finished 1 2, slept 1, woke 1") {
		for _, count := range []int{1, 2, mostDeeds - 1, mostDeeds} {
			l := alike(d, count)
			holdPrint(t, l, strings.Repeat(line(d), count))
			holdParse(t, strings.Repeat(line(d), count), l)
			counts := make([]int, 6)
			counts[d.What-1] = count
			holdCounts(t, l, counts...)
		}
		for _, count := range []int{mostDeeds + 1, mostDeeds + 2, 2 * mostDeeds, 10 * mostDeeds} {
			refuse(t, alike(d, count), api.ErrFull)
			refuseParse(t, strings.Repeat(line(d), count), api.ErrFull)
		}
	}
}
