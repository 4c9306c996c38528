package greedy

import (
	"math"
	"reflect"
	"slices"
	"strconv"
	"strings"
	"testing"

	"yardgang/api"
	"yardgang/plain"
	"yardgang/plan"
)

// most tasks of a plan, work of a task, and hands that there may be.
const (
	most     = 30
	mostWork = 20
	all      = 6
)

func TestNumbers(t *testing.T) {
	if api.MaxTasks != most || api.MaxWork != mostWork || api.MaxHands != all {
		t.Fatal("a plan has 30 tasks, a task 20 units of work, and there are 6 hands, at most")
	}
}

// read a plan that is right.
func read(t *testing.T, text string) api.Plan {
	t.Helper()
	p, err := plan.Parse(text)
	if err != nil {
		t.Fatal(text, err)
	}
	return p
}

// ran a plan that is right, by hands that may be.
func ran(t *testing.T, p api.Plan, hands int) []api.Bit {
	t.Helper()
	bits, err := Run(p, hands)
	if err != nil {
		t.Fatalf("%v: Run by %d: got %v %v", p, hands, bits, err)
	}
	return bits
}

// words of bits: of each step the tasks, hand by hand, with commas between, and
// a blank between steps. Where a step or a hand is left out, or not in order,
// the bit is told as it is.
func words(bits []api.Bit) string {
	var b strings.Builder
	step, hand := 0, 0
	for n, bit := range bits {
		if n > 0 && bit.Step == step+1 {
			step, hand = step+1, 0
			b.WriteByte(' ')
		} else if n > 0 {
			b.WriteByte(',')
		}
		if bit.Step != step || bit.Hand != hand {
			return b.String() + "step " + strconv.Itoa(bit.Step) + " hand " + strconv.Itoa(bit.Hand)
		}
		b.WriteString(strconv.Itoa(bit.Task))
		hand++
	}
	return b.String()
}

// hold what all calls tell of a plan against what is wanted.
func hold(t *testing.T, p api.Plan, hands int, want string, bound int) {
	t.Helper()
	if got := words(ran(t, p, hands)); got != want {
		t.Errorf("%v: Run by %d: got %s, want %s", p, hands, got, want)
	}
	long := len(strings.Fields(want))
	if got, err := Long(p, hands); err != nil || got != long {
		t.Errorf("%v: Long by %d: got %d %v, want %d", p, hands, got, err, long)
	}
	if got, err := Bound(p, hands); err != nil || got != bound {
		t.Errorf("%v: Bound by %d: got %d %v, want %d", p, hands, got, err, bound)
	}
}

// refuses holds that all calls tell an error, and nothing else.
func refuses(t *testing.T, name string, p api.Plan, hands int, want api.Errno) {
	t.Helper()
	if got, err := Run(p, hands); len(got) != 0 || plain.Told(err) != want {
		t.Errorf("%s: Run by %d: got %v %v, want %v", name, hands, got, err, want)
	}
	if got, err := Long(p, hands); got != 0 || plain.Told(err) != want {
		t.Errorf("%s: Long by %d: got %d %v, want %v", name, hands, got, err, want)
	}
	if got, err := Bound(p, hands); got != 0 || plain.Told(err) != want {
		t.Errorf("%s: Bound by %d: got %d %v, want %v", name, hands, got, err, want)
	}
}

func TestRuns(t *testing.T) {
	for _, c := range []struct {
		text  string
		hands int
		want  string
		bound int
	}{
		// No task: no step.
		{"", 1, "", 0},
		{"", 3, "", 0},
		{"", 6, "", 0},

		// One: it is the first hand's, unit by unit, however many there are.
		{"1", 1, "0", 1},
		{"1", 6, "0", 1},
		{"3", 1, "0 0 0", 3},
		{"3", 2, "0 0 0", 3},
		{"3", 6, "0 0 0", 3},

		// Beside each other: the first by number, as many as there are hands.
		{"1 1 1", 1, "0 1 2", 3},
		{"1 1 1", 2, "0,1 2", 2},
		{"1 1 1", 3, "0,1,2", 1},
		{"1 1 1", 4, "0,1,2", 1},
		{"1 1 1", 6, "0,1,2", 1},
		{"1 1 1 1 1 1", 6, "0,1,2,3,4,5", 1},
		{"1 1 1 1 1 1 1", 6, "0,1,2,3,4,5 6", 2},
		{"1 1 1 1 1 1 1", 5, "0,1,2,3,4 5,6", 2},

		// One that is over makes room for the next, and hands are left at last.
		{"2 1 3", 1, "0 0 1 2 2 2", 6},
		{"2 1 3", 2, "0,1 0,2 2 2", 4},
		{"2 1 3", 3, "0,1,2 0,2 2", 4},
		{"1 2 3", 2, "0,1 1,2 2 2", 4},
		{"1 2 3", 3, "0,1,2 1,2 2", 4},

		// In a chain only one has work at a time, and others have none to do.
		{"1 2<0 1<1", 1, "0 1 1 2", 4},
		{"1 2<0 1<1", 2, "0 1 1 2", 4},
		{"1 2<0 1<1", 6, "0 1 1 2", 4},
		{"2<1 1<2 1", 1, "2 1 0 0", 4},
		{"2<1 1<2 1", 6, "2 1 0 0", 4},

		// Both.
		{"3 2<0 1<0 4<1,2", 1, "0 0 0 1 1 2 3 3 3 3", 10},
		{"3 2<0 1<0 4<1,2", 2, "0 0 0 1,2 1 3 3 3 3", 9},
		{"3 2<0 1<0 4<1,2", 6, "0 0 0 1,2 1 3 3 3 3", 9},
		{"1 1<0 3 1<1", 2, "0,2 1,2 2,3", 4},
		{"1 1<0 3 1<1", 1, "0 1 2 2 2 3", 6},

		// In the step in which one is done none that needs it begins, even if
		// a hand has nothing to do; in the very next it does.
		{"1 1<0", 1, "0 1", 2},
		{"1 1<0", 2, "0 1", 2},
		{"1<1 1", 2, "1 0", 2},
		{"1 1 1<0,1", 1, "0 1 2", 3},
		{"1 1 1<0,1", 2, "0,1 2", 2},
		{"1 1 1<0,1", 3, "0,1 2", 2},
		{"2 1 1<1 1<0", 2, "0,1 0,2 3", 4},
		{"2 1 1<1 1<0", 3, "0,1 0,2 3", 3},

		// It waits for the last one that it needs, whichever that is.
		{"3 1 1<0,1", 2, "0,1 0 0 2", 4},
		{"1 3 1<0,1", 2, "0,1 1 1 2", 4},
		{"1 3 2 1<0,1,2", 3, "0,1,2 1,2 1 3", 5},

		// One that is begun gives way to one that is ready later and first by number.
		{"1<2 1<2 1 3", 1, "2 0 1 3 3 3", 6},
		{"1<2 1<2 1 3", 2, "2,3 0,1 3 3", 4},
		{"1<2 1<2 1 3", 3, "2,3 0,1,3 3", 4},

		// It may go from hand to hand, on both sides.
		{"2<2 3 1", 2, "1,2 0,1 0,1", 4},
		{"1 3", 2, "0,1 1 1", 3},
		{"2<2 3 1", 1, "1 1 1 2 0 0", 6},

		// A ready one of a great number is not kept waiting for lesser ones that are not.
		{"1<1 2<3 1 4", 2, "2,3 3 3 3 1 1 0", 7},
		{"1<1 2<3 1 4", 1, "2 3 3 3 3 1 1 0", 8},

		// The first by number come first, not the longest: it takes longer by that.
		{"1 1 1 3", 3, "0,1,2 3 3 3", 4},
		{"1 1 1 1 5", 2, "0,1 2,3 4 4 4 4 4", 7},
	} {
		hold(t, read(t, c.text), c.hands, c.want, c.bound)
	}
}

// TestNoTasks: an empty plan and nil are the same.
func TestNoTasks(t *testing.T) {
	for _, p := range []api.Plan{nil, {}, make(api.Plan, 0, 4), beside(3, 1)[:0]} {
		for hands := 1; hands <= all; hands++ {
			hold(t, p, hands, "", 0)
		}
	}
	hold(t, api.Plan{task(1), {Work: 1, Needs: []int{}}}, 2, "0,1", 1)
}

// task of a work, with what it needs.
func task(work int, needs ...int) api.Task { return api.Task{Work: work, Needs: needs} }

// beside each other: so many tasks, of so much work each.
func beside(count, work int) api.Plan {
	p := make(api.Plan, count)
	for i := range p {
		p[i].Work = work
	}
	return p
}

// rising numbers, from one on to below another.
func rising(from, to int) []int {
	var l []int
	for n := from; n < to; n++ {
		l = append(l, n)
	}
	return l
}

// steps in which tasks get work, so many times.
func steps(times int, tasks ...int) string {
	var w []string
	for _, n := range tasks {
		w = append(w, strconv.Itoa(n))
	}
	return strings.Repeat(strings.Join(w, ",")+" ", times)
}

// holdSteps holds a plan against steps, of which each has a blank behind it.
func holdSteps(t *testing.T, p api.Plan, hands int, want string, bound int) {
	t.Helper()
	hold(t, p, hands, strings.TrimSuffix(want, " "), bound)
}

// TestOneTask: of all works, by all hands.
func TestOneTask(t *testing.T) {
	for work := 1; work <= mostWork; work++ {
		for hands := 1; hands <= all; hands++ {
			holdSteps(t, beside(1, work), hands, steps(work, 0), work)
		}
	}
}

// TestMostTasksBeside: as many as there are hands are done, then the next.
func TestMostTasksBeside(t *testing.T) {
	for hands, bound := range []int{1: 600, 2: 310, 3: 213, 4: 165, 5: 136, 6: 116} {
		if hands == 0 {
			continue
		}
		want := ""
		for from := 0; from < most; from += hands {
			want += steps(mostWork, rising(from, min(from+hands, most))...)
		}
		holdSteps(t, beside(most, mostWork), hands, want, bound)
	}
}

// TestMostTasksInAChain: no more than one hand is of use.
func TestMostTasksInAChain(t *testing.T) {
	up, down := beside(most, mostWork), beside(most, mostWork)
	rises, falls := "", ""
	for i := range most {
		if i > 0 {
			up[i].Needs = []int{i - 1}
			down[i-1].Needs = []int{i}
		}
		rises += steps(mostWork, i)
		falls += steps(mostWork, most-1-i)
	}
	for hands := 1; hands <= all; hands++ {
		holdSteps(t, up, hands, rises, 600)
		holdSteps(t, down, hands, falls, 600)
	}
}

// TestMostTasksBehindOne: all the others are ready at once.
func TestMostTasksBehindOne(t *testing.T) {
	for one := range most {
		p := beside(most, 1)
		for i := range p {
			if i != one {
				p[i].Needs = []int{one}
			}
		}
		others := append(rising(0, one), rising(one+1, most)...)
		for hands, bound := range []int{1: 30, 2: 16, 3: 11, 4: 9, 5: 7, 6: 6} {
			if hands == 0 {
				continue
			}
			want := steps(1, one)
			for l := range slices.Chunk(others, hands) {
				want += steps(1, l...)
			}
			holdSteps(t, p, hands, want, bound)
		}
	}
}

// TestMostTasksAheadOfOne: it waits for all of them, and is ready in the step behind the last.
func TestMostTasksAheadOfOne(t *testing.T) {
	p := beside(most, 1)
	p[0].Needs = rising(1, most)
	for hands, bound := range []int{1: 30, 2: 16, 3: 11, 4: 9, 5: 7, 6: 6} {
		if hands == 0 {
			continue
		}
		want := ""
		for l := range slices.Chunk(rising(1, most), hands) {
			want += steps(1, l...)
		}
		holdSteps(t, p, hands, want+steps(1, 0), bound)
	}
}

// TestMostNeeds: each needs all ahead of it, so that they go one by one.
func TestMostNeeds(t *testing.T) {
	p := beside(most, 2)
	want := ""
	for i := range p {
		p[i].Needs = rising(0, i)
		want += steps(2, i)
	}
	for hands := 1; hands <= all; hands++ {
		holdSteps(t, p, hands, want, 60)
	}
}

// noHands are numbers of hands that may not be.
var noHands = []int{math.MinInt, math.MinInt + 1, -1 << 32, -1<<32 + 1, -all, -2, -1, 0, all + 1, all + 2, most, 1 << 32, 1<<32 + 1, math.MaxInt - 1, math.MaxInt}

// TestHandsThatMayNotBe: whatever the plan is, even if it has no task.
func TestHandsThatMayNotBe(t *testing.T) {
	for _, p := range []api.Plan{nil, {}, beside(1, 1), read(t, "3 2<0 1<0 4<1,2"), beside(all, 1), beside(all+1, 1), beside(most, mostWork)} {
		for _, hands := range noHands {
			refuses(t, "right", p, hands, api.ErrRange)
		}
		for hands := 1; hands <= all; hands++ {
			ran(t, p, hands)
		}
	}
}

// TestPlansThatAreNone: Check's error, by all hands that may be, and by those that may not.
func TestPlansThatAreNone(t *testing.T) {
	for _, c := range []struct {
		name string
		p    api.Plan
		err  api.Errno
	}{
		{"one too many", beside(most+1, 1), api.ErrFull},
		{"far too many", make(api.Plan, 10*most), api.ErrFull},
		{"one too many, and a ring", append(beside(most, 1), task(1, most)), api.ErrFull},
		{"work 0", api.Plan{task(1), task(0)}, api.ErrRange},
		{"work below", api.Plan{task(-1)}, api.ErrRange},
		{"work above", api.Plan{task(mostWork + 1)}, api.ErrRange},
		{"work least", api.Plan{task(math.MinInt)}, api.ErrRange},
		{"work greatest", api.Plan{task(math.MaxInt)}, api.ErrRange},
		{"need below", api.Plan{task(1, -1)}, api.ErrRange},
		{"need above", api.Plan{task(1), task(1, 2)}, api.ErrRange},
		{"need least", api.Plan{task(1, math.MinInt)}, api.ErrRange},
		{"need greatest", api.Plan{task(1, math.MaxInt)}, api.ErrRange},
		{"need above, and one that falls", api.Plan{task(1), task(1, 7, 0)}, api.ErrRange},
		{"need twice", api.Plan{task(1), task(1, 0, 0)}, api.ErrClash},
		{"needs fall", api.Plan{task(1), task(1), task(1, 1, 0)}, api.ErrClash},
		{"needs itself", api.Plan{task(1), task(1, 1)}, api.ErrCycle},
		{"needs itself, alone", api.Plan{task(1, 0)}, api.ErrCycle},
		{"two need each other", api.Plan{task(1, 1), task(1, 0)}, api.ErrCycle},
		{"ring, and one beside", api.Plan{task(1), task(1, 3), task(1, 1), task(1, 2)}, api.ErrCycle},
		{"clash ahead of work", api.Plan{task(1), task(1, 0, 0), task(0)}, api.ErrClash},
		{"work ahead of a clash", api.Plan{task(0), task(1, 0, 0)}, api.ErrRange},
		{"ring, and a later work", api.Plan{task(1, 0), task(0)}, api.ErrRange},
		{"ring, and a later clash", api.Plan{task(1, 0), task(1, 0, 0)}, api.ErrClash},
	} {
		for hands := 1; hands <= all; hands++ {
			refuses(t, c.name, c.p, hands, c.err)
		}
		for _, hands := range noHands {
			refuses(t, c.name, c.p, hands, c.err)
		}
	}
}

// guarded plan whose lists have more memory behind their length, filled with
// what belongs to no plan.
func guarded() (api.Plan, []int) {
	back := []int{0, 1, -7, -7}
	p := make(api.Plan, 3, 5)
	p[0], p[1], p[2] = task(2), task(3, 0), api.Task{Work: 4, Needs: back[:2]}
	copy(p[3:5], []api.Task{task(-1), task(-1, 9)})
	return p, back
}

// TestNothingHandedInIsWritten: nor read, what lies behind a length.
func TestNothingHandedInIsWritten(t *testing.T) {
	p, back := guarded()
	q, copied := guarded()
	for hands := 1; hands <= all; hands++ {
		hold(t, p, hands, "0 0 1 1 1 2 2 2 2", 9)
	}
	refuses(t, "guarded", p, 0, api.ErrRange)
	refuses(t, "guarded", p, all+1, api.ErrRange)
	refuses(t, "guarded, with what lies behind", p[:5], 1, api.ErrRange)
	if !reflect.DeepEqual(p[:5], q[:5]) || !slices.Equal(back, copied) {
		t.Errorf("got %v %v, want %v %v", p[:5], back, q[:5], copied)
	}
}

// TestNothingHandedInIsKept: when the plan becomes another one, in the same
// memory, that one is told of; what was told of the first one stays.
func TestNothingHandedInIsKept(t *testing.T) {
	p, back := guarded()
	first := ran(t, p, 2)
	p[0].Work, p[2].Work = 1, 2
	back[1] = -7
	p[2].Needs = back[:1]
	hold(t, p, 2, "0 1,2 1,2 1", 5)
	clear(back)
	clear(p[:5])
	refuses(t, "cleared", p, 2, api.ErrRange)
	if got, want := words(first), "0 0 1 1 1 2 2 2 2"; got != want {
		t.Errorf("got %s, want %s", got, want)
	}
	p, _ = guarded()
	hold(t, p, 2, "0 0 1 1 1 2 2 2 2", 9)
}

// spoil bits, with what lies behind their length.
func spoil(bits []api.Bit) {
	bits = bits[:cap(bits)]
	for i := range bits {
		bits[i] = api.Bit{Step: 99, Hand: 99, Task: 99}
	}
}

// TestWhatIsToldIsTheCallers: no two lists that were told share memory, even
// of the same plan, and none is told again.
func TestWhatIsToldIsTheCallers(t *testing.T) {
	var told [][]api.Bit
	var want []string
	for range 3 {
		for _, text := range []string{"", "1", "3 2<0 1<0 4<1,2", "2 1 3", "1 1 1 1 1 1 1"} {
			for hands := range all + 2 {
				l, _ := Run(read(t, text), hands)
				told = append(told, l)
				want = append(want, words(l))
			}
		}
	}
	for i, l := range told {
		if got := words(l); got != want[i] {
			t.Errorf("list %d was %s, and is %s", i, want[i], got)
		}
		spoil(l)
	}
	for range 3 {
		spoil(ran(t, read(t, "2 1 3"), 2))
		hold(t, read(t, "2 1 3"), 2, "0,1 0,2 2 2", 4)
	}
}
