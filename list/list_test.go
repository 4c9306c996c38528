package list

import (
	"math"
	"slices"
	"strconv"
	"strings"
	"testing"

	"yardgang/api"
	"yardgang/plain"
	"yardgang/plan"
)

// most tasks of a plan, work of a task, and hands that there may be.
const (
	most     = 30
	mostWork = 20
	all      = 6
)

func TestNumbers(t *testing.T) {
	if api.MaxTasks != most || api.MaxWork != mostWork || api.MaxHands != all {
		t.Fatal("a plan has 30 tasks, a task 20 units of work, and there are 6 hands, at most")
	}
}

// read a plan that is right.
func read(t *testing.T, text string) api.Plan {
	t.Helper()
	p, err := plan.Parse(text)
	if err != nil {
		t.Fatal(text, err)
	}
	return p
}

// numbers of a text, blanks between.
func numbers(t *testing.T, text string) []int {
	t.Helper()
	var l []int
	for _, w := range strings.Fields(text) {
		n, err := strconv.Atoi(w)
		if err != nil {
			t.Fatal(text, err)
		}
		l = append(l, n)
	}
	return l
}

// ran a plan that is right, by hands and an order that may be.
func ran(t *testing.T, p api.Plan, hands int, order []int) []api.Stay {
	t.Helper()
	stays, err := Run(p, hands, order)
	if err != nil {
		t.Fatalf("%v: Run by %d, %v: got %v %v", p, hands, order, stays, err)
	}
	return stays
}

// word of a stay: hand, task, from when, to when.
func word(s api.Stay) string {
	return strconv.Itoa(s.Hand) + ":" + strconv.Itoa(s.Task) + "@" + strconv.Itoa(s.From) + "-" + strconv.Itoa(s.To)
}

// words of stays, blanks between.
func words(stays []api.Stay) string {
	var l []string
	for _, s := range stays {
		l = append(l, word(s))
	}
	return strings.Join(l, " ")
}

// hold what Run and Long tell against what is wanted.
func hold(t *testing.T, p api.Plan, hands int, order []int, want string, long int) {
	t.Helper()
	if got := words(ran(t, p, hands, order)); got != want {
		t.Errorf("%v: Run by %d, %v: got %s, want %s", p, hands, order, got, want)
	}
	if got, err := Long(p, hands, order); err != nil || got != long {
		t.Errorf("%v: Long by %d, %v: got %d %v, want %d", p, hands, order, got, err, long)
	}
}

// holdUrgent holds what Urgent tells against what is wanted.
func holdUrgent(t *testing.T, p api.Plan, want []int) {
	t.Helper()
	if got, err := Urgent(p); err != nil || !slices.Equal(got, want) {
		t.Errorf("%v: Urgent: got %v %v, want %v", p, got, err, want)
	}
}

// refuses holds that Run and Long tell an error, and nothing else.
func refuses(t *testing.T, name string, p api.Plan, hands int, order []int, want api.Errno) {
	t.Helper()
	if got, err := Run(p, hands, order); len(got) != 0 || plain.Told(err) != want {
		t.Errorf("%s: Run by %d, %v: got %v %v, want %v", name, hands, order, got, err, want)
	}
	if got, err := Long(p, hands, order); got != 0 || plain.Told(err) != want {
		t.Errorf("%s: Long by %d, %v: got %d %v, want %v", name, hands, order, got, err, want)
	}
}

func TestRuns(t *testing.T) {
	for _, c := range []struct {
		text  string
		hands int
		order string
		want  string
		long  int
	}{
		// No task: nobody takes any.
		{"", 1, "", "", 0},
		{"", 6, "", "", 0},

		// One: it is the first hand's, however many there are.
		{"1", 1, "0", "0:0@0-1", 1},
		{"3", 1, "0", "0:0@0-3", 3},
		{"3", 2, "0", "0:0@0-3", 3},
		{"20", 6, "0", "0:0@0-20", 20},

		// Beside each other: as the order says, by the hands from the first on.
		{"1 1 1", 1, "0 1 2", "0:0@0-1 0:1@1-2 0:2@2-3", 3},
		{"1 1 1", 1, "2 0 1", "0:2@0-1 0:0@1-2 0:1@2-3", 3},
		{"1 1 1", 2, "2 1 0", "0:2@0-1 1:1@0-1 0:0@1-2", 2},
		{"1 1 1", 3, "1 2 0", "0:1@0-1 1:2@0-1 2:0@0-1", 1},
		{"1 1 1", 6, "1 2 0", "0:1@0-1 1:2@0-1 2:0@0-1", 1},
		{"1 1 1 1 1 1 1", 6, "6 5 4 3 2 1 0", "0:6@0-1 1:5@0-1 2:4@0-1 3:3@0-1 4:2@0-1 5:1@0-1 0:0@1-2", 2},

		// A hand has what it took till it is done, and then the next: the one
		// that is free first, not the first one.
		{"2 1 3", 1, "2 0 1", "0:2@0-3 0:0@3-5 0:1@5-6", 6},
		{"2 1 3", 2, "0 1 2", "0:0@0-2 1:1@0-1 1:2@1-4", 4},
		{"2 1 3", 2, "2 1 0", "0:2@0-3 1:1@0-1 1:0@1-3", 3},
		{"4 1 1 1", 2, "0 1 2 3", "0:0@0-4 1:1@0-1 1:2@1-2 1:3@2-3", 4},
		{"1 4 1 1", 2, "0 1 2 3", "0:0@0-1 1:1@0-4 0:2@1-2 0:3@2-3", 4},
		{"5 3 1 2", 3, "0 1 2 3", "0:0@0-5 1:1@0-3 2:2@0-1 2:3@1-3", 5},

		// One that becomes ready and stands ahead does not drive out one that is begun.
		{"1<1 2 3", 2, "0 1 2", "0:1@0-2 1:2@0-3 0:0@2-3", 3},
		{"1<1 1 3", 1, "0 2 1", "0:2@0-3 0:1@3-4 0:0@4-5", 5},
		{"1<1 1 3 5", 2, "0 1 2 3", "0:1@0-1 1:2@0-3 0:0@1-2 0:3@2-7", 7},

		// In a chain only one is ready at a time, whatever the order says.
		{"1 2<0 1<1", 1, "0 1 2", "0:0@0-1 0:1@1-3 0:2@3-4", 4},
		{"1 2<0 1<1", 6, "2 1 0", "0:0@0-1 0:1@1-3 0:2@3-4", 4},
		{"2<1 1<2 1", 1, "0 1 2", "0:2@0-1 0:1@1-2 0:0@2-4", 4},
		{"2<1 1<2 1", 3, "0 2 1", "0:2@0-1 0:1@1-2 0:0@2-4", 4},

		// Both.
		{"3 2<0 1<0 4<1,2", 1, "0 1 2 3", "0:0@0-3 0:1@3-5 0:2@5-6 0:3@6-10", 10},
		{"3 2<0 1<0 4<1,2", 1, "3 2 1 0", "0:0@0-3 0:2@3-4 0:1@4-6 0:3@6-10", 10},
		{"3 2<0 1<0 4<1,2", 2, "0 1 2 3", "0:0@0-3 0:1@3-5 1:2@3-4 0:3@5-9", 9},
		{"3 2<0 1<0 4<1,2", 2, "3 2 1 0", "0:0@0-3 0:2@3-4 1:1@3-5 0:3@5-9", 9},
		{"1 1<0 3 1<1", 2, "0 1 2 3", "0:0@0-1 1:2@0-3 0:1@1-2 0:3@2-3", 3},
		{"1 1<0 3 1<1", 2, "3 2 1 0", "0:2@0-3 1:0@0-1 1:1@1-2 1:3@2-3", 3},

		// It is ready at the very time at which the last one that it needs is
		// done, and not ahead of it; whichever of them is the last.
		{"1 1<0", 2, "1 0", "0:0@0-1 0:1@1-2", 2},
		{"3 1 1<0,1", 2, "2 0 1", "0:0@0-3 1:1@0-1 0:2@3-4", 4},
		{"1 3 1<0,1", 2, "2 0 1", "0:0@0-1 1:1@0-3 0:2@3-4", 4},
		{"1 3 2 1<0,1,2", 3, "3 0 1 2", "0:0@0-1 1:1@0-3 2:2@0-2 0:3@3-4", 4},
		{"2 2 1<0 1<1", 2, "0 1 2 3", "0:0@0-2 1:1@0-2 0:2@2-3 1:3@2-3", 3},

		// A hand that found nothing waits till something is ready, and it is
		// the least one of those that wait, and of those that become free then.
		{"2 1<0 1<0", 3, "0 1 2", "0:0@0-2 0:1@2-3 1:2@2-3", 3},
		{"1 3 2<1", 3, "0 1 2", "0:0@0-1 1:1@0-3 0:2@3-5", 5},
		{"5 1 2 1<2", 3, "0 1 2 3", "0:0@0-5 1:1@0-1 2:2@0-2 1:3@2-3", 5},

		// Several become free at one time: more are ready than hands are free, and fewer.
		{"2 2 1 1 1", 2, "0 1 4 3 2", "0:0@0-2 1:1@0-2 0:4@2-3 1:3@2-3 0:2@3-4", 4},
		{"2 2 2 1", 3, "0 1 2 3", "0:0@0-2 1:1@0-2 2:2@0-2 0:3@2-3", 3},
		{"2 1 1 1 1", 3, "0 1 2 3 4", "0:0@0-2 1:1@0-1 2:2@0-1 1:3@1-2 2:4@1-2", 2},
		{"3 2 1 1 1 1", 3, "0 1 2 3 4 5", "0:0@0-3 1:1@0-2 2:2@0-1 2:3@1-2 1:4@2-3 2:5@2-3", 3},
		{"1 2 1 1<1 1<1 1<1", 3, "5 4 3 2 1 0", "0:2@0-1 1:1@0-2 2:0@0-1 0:5@2-3 1:4@2-3 2:3@2-3", 3},

		// One that is not ready keeps none behind it waiting, and is taken ahead of them when it is.
		{"1<1 2 1 1", 2, "0 1 2 3", "0:1@0-2 1:2@0-1 1:3@1-2 0:0@2-3", 3},
		{"1<1 1 1 1", 1, "0 1 2 3", "0:1@0-1 0:0@1-2 0:2@2-3 0:3@3-4", 4},
		{"1<1 1 1 1", 1, "0 2 1 3", "0:2@0-1 0:1@1-2 0:0@2-3 0:3@3-4", 4},

		// The order says how long it takes; what is taken last need not be done last.
		{"1 1 1 1 4", 2, "0 1 2 3 4", "0:0@0-1 1:1@0-1 0:2@1-2 1:3@1-2 0:4@2-6", 6},
		{"1 1 1 1 4", 2, "4 0 1 2 3", "0:4@0-4 1:0@0-1 1:1@1-2 1:2@2-3 1:3@3-4", 4},
		{"9 1 1", 2, "0 1 2", "0:0@0-9 1:1@0-1 1:2@1-2", 9},
		{"1 9 1", 3, "0 1 2", "0:0@0-1 1:1@0-9 2:2@0-1", 9},

		// A plan that takes longer by one hand more.
		{"3 2 2 2 4<3 4<3 4<3 4<3 9<0", 3, "0 1 2 3 4 5 6 7 8", "0:0@0-3 1:1@0-2 2:2@0-2 1:3@2-4 0:8@3-12 1:4@4-8 2:5@4-8 1:6@8-12 2:7@8-12", 12},
		{"3 2 2 2 4<3 4<3 4<3 4<3 9<0", 4, "0 1 2 3 4 5 6 7 8", "0:0@0-3 1:1@0-2 2:2@0-2 3:3@0-2 1:4@2-6 2:5@2-6 3:6@2-6 0:7@3-7 1:8@6-15", 15},
	} {
		hold(t, read(t, c.text), c.hands, numbers(t, c.order), c.want, c.long)
	}
}

func TestUrgent(t *testing.T) {
	for _, c := range []struct{ text, want string }{
		{"", ""},
		{"1", "0"},
		{"20", "0"},

		// Beside each other: the longest is first, of equal ones the least number.
		{"1 1 1", "0 1 2"},
		{"1 2 3", "2 1 0"},
		{"3 2 1", "0 1 2"},
		{"2 3 2 3 1", "1 3 0 2 4"},
		{"1 20 2 19", "1 3 2 0"},

		// In a chain: from its beginning on.
		{"1 2<0 1<1", "0 1 2"},
		{"2<1 1<2 1", "2 1 0"},

		// Both: the way to an end counts, not the work, nor how many there are.
		{"3 2<0 1<0 4<1,2", "0 1 2 3"},
		{"3 1<0 2<0 4<1,2", "0 2 1 3"},
		{"3 1<0 1<0 4<1,2", "0 1 2 3"},
		{"4 1 5<1", "1 2 0"},
		{"4 1 3<1", "0 1 2"},
		{"3 1 3<1", "1 0 2"},
		{"1 9<0 2 1<2 1<3 1<4", "0 1 2 3 4 5"},
		{"2<5 1<5 2<4 1<4 1 1", "4 5 0 2 1 3"},
		{"1 5<0 1 1<2 4<3", "0 2 1 3 4"},
	} {
		holdUrgent(t, read(t, c.text), numbers(t, c.want))
	}
}

// TestUrgentOrderIsOne: what Urgent tells is an order that may be handed in.
func TestUrgentOrderIsOne(t *testing.T) {
	p := read(t, "1 1 1 1 4")
	order, err := Urgent(p)
	if err != nil {
		t.Fatal(err)
	}
	hold(t, p, 2, order, "0:4@0-4 1:0@0-1 1:1@1-2 1:2@2-3 1:3@3-4", 4)
}

// TestNoTasks: an empty plan and nil are the same, and so are empty orders.
func TestNoTasks(t *testing.T) {
	for _, p := range []api.Plan{nil, {}, make(api.Plan, 0, 4), beside(3, 1)[:0]} {
		for _, order := range [][]int{nil, {}, make([]int, 0, 4), rising(0, 3)[:0]} {
			for hands := 1; hands <= all; hands++ {
				hold(t, p, hands, order, "", 0)
			}
		}
		holdUrgent(t, p, nil)
	}
	hold(t, api.Plan{task(1), {Work: 1, Needs: []int{}}}, 2, rising(0, 2), "0:0@0-1 1:1@0-1", 1)
}

// task of a work, with what it needs.
func task(work int, needs ...int) api.Task { return api.Task{Work: work, Needs: needs} }

// beside each other: so many tasks, of so much work each.
func beside(count, work int) api.Plan {
	p := make(api.Plan, count)
	for i := range p {
		p[i].Work = work
	}
	return p
}

// rising numbers, from one on to below another.
func rising(from, to int) []int {
	var l []int
	for n := from; n < to; n++ {
		l = append(l, n)
	}
	return l
}

// falling numbers, from below one on to another.
func falling(from, to int) []int {
	l := rising(to, from)
	slices.Reverse(l)
	return l
}

// rounds of tasks that take equally long, by hands that all become free at one time.
func rounds(tasks []int, hands, work, from int) []api.Stay {
	var l []api.Stay
	for n, i := range tasks {
		at := from + n/hands*work
		l = append(l, api.Stay{Hand: n % hands, Task: i, From: at, To: at + work})
	}
	return l
}

// holdStays holds a plan against stays, of which the last is done last.
func holdStays(t *testing.T, p api.Plan, hands int, order []int, want []api.Stay) {
	t.Helper()
	hold(t, p, hands, order, words(want), want[len(want)-1].To)
}

// TestOneTask: of all works, by all hands.
func TestOneTask(t *testing.T) {
	for work := 1; work <= mostWork; work++ {
		for hands := 1; hands <= all; hands++ {
			holdStays(t, beside(1, work), hands, []int{0}, rounds([]int{0}, 1, work, 0))
		}
		holdUrgent(t, beside(1, work), []int{0})
	}
}

// TestMostTasksBeside: as many as there are hands are taken, then the next.
func TestMostTasksBeside(t *testing.T) {
	m := mixer(10)
	for hands := 1; hands <= all; hands++ {
		for _, order := range [][]int{rising(0, most), falling(most, 0), m.shuffled(most)} {
			for _, work := range []int{1, 7, mostWork} {
				holdStays(t, beside(most, work), hands, order, rounds(order, hands, work, 0))
			}
		}
	}
	holdUrgent(t, beside(most, mostWork), rising(0, most))
}

// TestMostTasksInAChain: the first hand has all of them, in whatever order.
func TestMostTasksInAChain(t *testing.T) {
	up, down := beside(most, mostWork), beside(most, mostWork)
	for i := 1; i < most; i++ {
		up[i].Needs = []int{i - 1}
		down[i-1].Needs = []int{i}
	}
	m := mixer(11)
	for hands := 1; hands <= all; hands++ {
		for _, order := range [][]int{rising(0, most), falling(most, 0), m.shuffled(most)} {
			holdStays(t, up, hands, order, rounds(rising(0, most), 1, mostWork, 0))
			holdStays(t, down, hands, order, rounds(falling(most, 0), 1, mostWork, 0))
		}
	}
	holdUrgent(t, up, rising(0, most))
	holdUrgent(t, down, falling(most, 0))
}

// without one number.
func without(l []int, one int) []int {
	return slices.DeleteFunc(slices.Clone(l), func(n int) bool { return n == one })
}

// TestMostTasksBehindOne: all the others are ready at once.
func TestMostTasksBehindOne(t *testing.T) {
	m := mixer(12)
	for one := range most {
		p := beside(most, 3)
		for i := range p {
			if i != one {
				p[i].Needs = []int{one}
			}
		}
		for hands := 1; hands <= all; hands++ {
			for _, order := range [][]int{rising(0, most), falling(most, 0), m.shuffled(most)} {
				want := rounds([]int{one}, 1, 3, 0)
				want = append(want, rounds(without(order, one), hands, 3, 3)...)
				holdStays(t, p, hands, order, want)
			}
		}
		holdUrgent(t, p, append([]int{one}, without(rising(0, most), one)...))
	}
}

// TestMostTasksAheadOfOne: it waits for all of them, even if it is first in the order.
func TestMostTasksAheadOfOne(t *testing.T) {
	p := beside(most, 4)
	p[0].Needs = rising(1, most)
	for hands := 1; hands <= all; hands++ {
		for _, order := range [][]int{rising(0, most), falling(most, 0)} {
			want := rounds(without(order, 0), hands, 4, 0)
			want = append(want, rounds([]int{0}, 1, 4, want[len(want)-1].To)...)
			holdStays(t, p, hands, order, want)
		}
	}
	holdUrgent(t, p, append(rising(1, most), 0))
}

// TestMostNeeds: each needs all ahead of it, so that they go one by one.
func TestMostNeeds(t *testing.T) {
	p := beside(most, 2)
	for i := range p {
		p[i].Needs = rising(0, i)
	}
	for hands := 1; hands <= all; hands++ {
		for _, order := range [][]int{rising(0, most), falling(most, 0)} {
			holdStays(t, p, hands, order, rounds(rising(0, most), 1, 2, 0))
		}
	}
	holdUrgent(t, p, rising(0, most))
}

// noHands are numbers of hands that may not be.
var noHands = []int{math.MinInt, math.MinInt + 1, -1 << 32, -1<<32 + 1, -all, -2, -1, 0, all + 1, all + 2, most, 1 << 32, 1<<32 + 1, math.MaxInt - 1, math.MaxInt}

// noOrders of so many tasks: each names some task not at all, or something else too.
func noOrders(count int) [][]int {
	l := [][]int{
		rising(0, count+1),
		rising(-1, count),
		append(rising(0, count), math.MaxInt),
		append(rising(0, count), math.MinInt),
		make([]int, 10*most),
	}
	if count == 0 {
		return l
	}
	l = append(l, nil, []int{}, rising(0, count-1), rising(1, count), falling(count, 1), falling(count+1, 1), rising(1, count+1), rising(-1, count-1))
	for at := range count {
		for _, n := range []int{-1, count, -count, math.MinInt, math.MaxInt, at + 1<<32, at - 1<<32, at + math.MinInt} {
			l = append(l, rising(0, count))
			l[len(l)-1][at] = n
		}
		l = append(l, append(rising(0, count), at), append([]int{at}, rising(0, count)...))
		l = append(l, slices.Delete(rising(0, count), at, at+1))
		if count > 1 {
			l = append(l, rising(0, count))
			l[len(l)-1][at] = (at + 1) % count
		}
	}
	return l
}

// rights are plans that are right, of none, few and most tasks.
func rights(t *testing.T) []api.Plan {
	return []api.Plan{nil, {}, beside(1, 1), beside(2, 1), read(t, "3 2<0 1<0 4<1,2"), beside(all, 1), beside(all+1, 1), beside(most, mostWork)}
}

// TestHandsThatMayNotBe: whatever the plan is, even if it has no task, and
// whatever the order.
func TestHandsThatMayNotBe(t *testing.T) {
	for _, p := range rights(t) {
		for _, hands := range noHands {
			refuses(t, "right", p, hands, rising(0, len(p)), api.ErrRange)
			for _, order := range noOrders(len(p)) {
				refuses(t, "right", p, hands, order, api.ErrRange)
			}
		}
		for hands := 1; hands <= all; hands++ {
			ran(t, p, hands, rising(0, len(p)))
		}
	}
}

// TestOrdersThatAreNone: by all hands that may be.
func TestOrdersThatAreNone(t *testing.T) {
	for _, p := range rights(t) {
		for hands := 1; hands <= all; hands++ {
			for _, order := range noOrders(len(p)) {
				refuses(t, "right", p, hands, order, api.ErrShape)
			}
		}
	}
}

// TestPlansThatAreNone: Check's error, by hands and orders that may be, and by
// those that may not.
func TestPlansThatAreNone(t *testing.T) {
	for _, c := range []struct {
		name string
		p    api.Plan
		err  api.Errno
	}{
		{"one too many", beside(most+1, 1), api.ErrFull},
		{"far too many", make(api.Plan, 10*most), api.ErrFull},
		{"one too many, and a ring", append(beside(most, 1), task(1, most)), api.ErrFull},
		{"work 0", api.Plan{task(1), task(0)}, api.ErrRange},
		{"work below", api.Plan{task(-1)}, api.ErrRange},
		{"work above", api.Plan{task(mostWork + 1)}, api.ErrRange},
		{"work least", api.Plan{task(math.MinInt)}, api.ErrRange},
		{"work greatest", api.Plan{task(math.MaxInt)}, api.ErrRange},
		{"need below", api.Plan{task(1, -1)}, api.ErrRange},
		{"need above", api.Plan{task(1), task(1, 2)}, api.ErrRange},
		{"need least", api.Plan{task(1, math.MinInt)}, api.ErrRange},
		{"need greatest", api.Plan{task(1, math.MaxInt)}, api.ErrRange},
		{"need above, and one that falls", api.Plan{task(1), task(1, 7, 0)}, api.ErrRange},
		{"need twice", api.Plan{task(1), task(1, 0, 0)}, api.ErrClash},
		{"needs fall", api.Plan{task(1), task(1), task(1, 1, 0)}, api.ErrClash},
		{"needs itself", api.Plan{task(1), task(1, 1)}, api.ErrCycle},
		{"needs itself, alone", api.Plan{task(1, 0)}, api.ErrCycle},
		{"two need each other", api.Plan{task(1, 1), task(1, 0)}, api.ErrCycle},
		{"ring, and one beside", api.Plan{task(1), task(1, 3), task(1, 1), task(1, 2)}, api.ErrCycle},
		{"clash ahead of work", api.Plan{task(1), task(1, 0, 0), task(0)}, api.ErrClash},
		{"work ahead of a clash", api.Plan{task(0), task(1, 0, 0)}, api.ErrRange},
		{"ring, and a later work", api.Plan{task(1, 0), task(0)}, api.ErrRange},
		{"ring, and a later clash", api.Plan{task(1, 0), task(1, 0, 0)}, api.ErrClash},
	} {
		orders := append(noOrders(min(len(c.p), most+1)), rising(0, len(c.p)), falling(len(c.p), 0), nil)
		for _, hands := range append(rising(1, all+1), noHands...) {
			for _, order := range orders {
				refuses(t, c.name, c.p, hands, order, c.err)
			}
		}
		if got, err := Urgent(c.p); len(got) != 0 || plain.Told(err) != c.err {
			t.Errorf("%s: Urgent: got %v %v, want %v", c.name, got, err, c.err)
		}
	}
}
