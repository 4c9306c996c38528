package join

import (
	"math"
	"reflect"
	"slices"
	"strconv"
	"strings"
	"testing"

	"yardgang/api"
	"yardgang/plain"
	"yardgang/plan"
)

// made join of a plan that is right.
func made(t *testing.T, p api.Plan) *Join {
	t.Helper()
	j, err := New(p)
	if err != nil || j == nil {
		t.Fatalf("New(%v): got %v %v", p, j, err)
	}
	return j
}

// read a join of a plan by its text.
func read(t *testing.T, text string) *Join {
	t.Helper()
	p, err := plan.Parse(text)
	if err != nil {
		t.Fatal(text, err)
	}
	return made(t, p)
}

// does a task, and holds which are ready by that against what is wanted.
func does(t *testing.T, j *Join, i int, want ...int) {
	t.Helper()
	if got, err := j.Done(i); err != nil || !slices.Equal(got, want) {
		t.Fatalf("Done(%d): got %v %v, want %v", i, got, err, want)
	}
}

// refuses to have a task done.
func refuses(t *testing.T, j *Join, i int, want api.Errno) {
	t.Helper()
	if got, err := j.Done(i); len(got) != 0 || plain.Told(err) != want {
		t.Fatalf("Done(%d): got %v %v, want %v", i, got, err, want)
	}
}

// stands tells a fault if the tasks have other states than these, a digit
// each, or Ready and Left tell something else of them, or there are more.
func stands(t *testing.T, j *Join, states string) {
	t.Helper()
	if got := standing(t, j, len(states)); got != states {
		t.Fatalf("got the states %s, want %s", got, states)
	}
}

// standing of so many tasks: their states, a digit each. Ready and Left are
// held against them.
func standing(t *testing.T, j *Join, count int) string {
	t.Helper()
	states, left := "", count
	var ready []int
	for i := range count {
		state, err := j.State(i)
		if err != nil {
			t.Fatalf("State(%d): got %v", i, err)
		}
		switch state {
		case 1:
			ready = append(ready, i)
		case 2:
			left--
		}
		states += strconv.Itoa(state)
	}
	for _, none := range []int{-1, count} {
		if state, err := j.State(none); state != 0 || plain.Told(err) != api.ErrRange {
			t.Fatalf("State(%d) of %d: got %d %v", none, count, state, err)
		}
	}
	if got := j.Ready(); !slices.Equal(got, ready) {
		t.Fatalf("Ready: got %v, and the states are %s", got, states)
	}
	if got := j.Left(); got != left {
		t.Fatalf("Left: got %d, and the states are %s", got, states)
	}
	return states
}

// words of a list, with commas between them.
func words(l []int) string {
	var w []string
	for _, n := range l {
		w = append(w, strconv.Itoa(n))
	}
	return "[" + strings.Join(w, ",") + "]"
}

// play calls of Done on a plan, and tell the states ahead of them, and the
// answers, each with the states behind it.
func play(t *testing.T, text, calls string) string {
	t.Helper()
	p, err := plan.Parse(text)
	if err != nil {
		t.Fatal(text, err)
	}
	j := made(t, p)
	told := []string{standing(t, j, len(p))}
	for call := range strings.FieldsSeq(calls) {
		i, err := strconv.Atoi(call)
		if err != nil {
			t.Fatal(err)
		}
		l, err := j.Done(i)
		answer := words(l)
		if err != nil {
			answer += plain.Told(err).Error()
		}
		told = append(told, answer+":"+standing(t, j, len(p)))
	}
	return strings.Join(told, " ")
}

func TestRuns(t *testing.T) {
	for _, c := range []struct{ text, calls, want string }{
		// No task: there is none that could be done.
		{"", "", ""},
		{"", "0 -1 1", " []ErrRange: []ErrRange: []ErrRange:"},

		// One.
		{"1", "", "1"},
		{"20", "0", "1 []:2"},
		{"1", "0 0 0", "1 []:2 []ErrState:2 []ErrState:2"},
		{"1", "-1 1 0 1", "1 []ErrRange:1 []ErrRange:1 []:2 []ErrRange:2"},

		// None needs another one: each makes none ready.
		{"1 1 1", "0 1 2", "111 []:211 []:221 []:222"},
		{"1 1 1", "2 0 1", "111 []:112 []:212 []:222"},

		// A chain: each makes one ready.
		{"1 1<0 1<1", "0 1 2", "100 [1]:210 [2]:221 []:222"},
		{"1<1 1<2 1", "2 1 0", "001 [1]:012 [0]:122 []:222"},
		{"1 1<0 1<1", "2 1 0 2 1 2", "100 []ErrState:100 []ErrState:100 [1]:210 []ErrState:210 [2]:221 []:222"},

		// One makes several ready, rising, on both sides of it.
		{"1 1<0 1<0 1<0", "0 3 1 2", "1000 [1,2,3]:2111 []:2112 []:2212 []:2222"},
		{"1<2 1<2 1 1<2 1<2", "2", "00100 [0,1,3,4]:11211"},
		{"1<3 1 1<3 1", "3 1", "0101 [0,2]:1112 []:1212"},

		// One that needs several is ready when the last of them is done,
		// whichever that is.
		{"1 1 1 1<0,1,2", "0 1 2", "1110 []:2110 []:2210 [3]:2221"},
		{"1 1 1 1<0,1,2", "2 1 0", "1110 []:1120 []:1220 [3]:2221"},
		{"1 1 1 1<0,1,2", "1 3 0 3 2 3", "1110 []:1210 []ErrState:1210 []:2210 []ErrState:2210 [3]:2221 []:2222"},
		{"1<1,2 1 1", "1 0 2 0", "011 []:021 []ErrState:021 [0]:122 []:222"},

		// Of those that need one only some are ready by it.
		{"3 2<0 1<0 4<1,2", "0 1 2 3", "1000 [1,2]:2110 []:2210 [3]:2221 []:2222"},
		{"1 1 1<0 1<0,1 1<0", "0 1", "11000 [2,4]:21101 [3]:22111"},
		{"1 1<0 1<0,1", "0 2 1 2", "100 [1]:210 []ErrState:210 [2]:221 []:222"},

		// Those that were ready ahead are told by Ready, not by Done.
		{"1 1 1<0 1<1", "0 1", "1100 [2]:2110 [3]:2211"},

		// How much work a task is does not count.
		{"20 1 19<0 7<1", "1 3 0 2", "1100 [3]:1201 []:1202 [2]:2212 []:2222"},
	} {
		if got := play(t, c.text, c.calls); got != c.want {
			t.Errorf("%q: %s: got %s, want %s", c.text, c.calls, got, c.want)
		}
	}
}

// TestTasksThatAreNone: below and above, ahead of all, between, and when all
// are done.
func TestTasksThatAreNone(t *testing.T) {
	for _, text := range []string{"", "1", "1 1", "1 1<0", "1 1<0 1<0,1"} {
		j := read(t, text)
		count := j.Left()
		for done := range count + 1 {
			states := standing(t, j, count)
			for _, none := range []int{math.MinInt, math.MinInt + 1, -1 << 32, -count - 1, -2, -1, count, count + 1, 30, 31, 1 << 32, 1<<32 + 1, math.MaxInt - 1, math.MaxInt} {
				if state, err := j.State(none); state != 0 || plain.Told(err) != api.ErrRange {
					t.Errorf("%q: State(%d): got %d %v", text, none, state, err)
				}
				refuses(t, j, none, api.ErrRange)
				stands(t, j, states)
			}
			if done < count {
				if _, err := j.Done(done); err != nil {
					t.Fatalf("%q: Done(%d): got %v", text, done, err)
				}
			}
		}
	}
}

// TestRefused: what is refused changes nothing, however often it is tried.
func TestRefused(t *testing.T) {
	j := read(t, "1 1 1<0,1 1<2")
	refused := func(states string, l ...int) {
		t.Helper()
		for range 40 {
			for _, i := range l {
				refuses(t, j, i, api.ErrState)
			}
			refuses(t, j, -1, api.ErrRange)
			refuses(t, j, 4, api.ErrRange)
			stands(t, j, states)
		}
	}
	refused("1100", 2, 3)
	does(t, j, 1)
	refused("1200", 1, 2, 3)
	does(t, j, 0, 2)
	refused("2210", 0, 1, 3)
	does(t, j, 2, 3)
	refused("2221", 0, 1, 2)
	does(t, j, 3)
	refused("2222", 0, 1, 2, 3)
}

// TestAskingChangesNothing: it may be asked as often as one likes.
func TestAskingChangesNothing(t *testing.T) {
	j := read(t, "1 1<0 1<0,1")
	for range 40 {
		stands(t, j, "100")
	}
	does(t, j, 0, 1)
	for range 40 {
		stands(t, j, "210")
	}
	does(t, j, 1, 2)
	stands(t, j, "221")
}

// beside each other: so many tasks.
func beside(count int) api.Plan {
	p := make(api.Plan, count)
	for i := range p {
		p[i].Work = 1
	}
	return p
}

// rising numbers, from one on to below another.
func rising(from, to int) []int {
	var l []int
	for n := from; n < to; n++ {
		l = append(l, n)
	}
	return l
}

// most tasks that there may be.
const most = 30

// digits are a state, so many times.
func digits(state string, count int) string { return strings.Repeat(state, count) }

func TestMostTasksBeside(t *testing.T) {
	if api.MaxTasks != most {
		t.Fatal("a plan has 30 tasks at most")
	}
	j := made(t, beside(most))
	for i := range most {
		stands(t, j, digits("2", i)+digits("1", most-i))
		does(t, j, i)
	}
	stands(t, j, digits("2", most))
}

func TestMostTasksInAChain(t *testing.T) {
	p := beside(most)
	for i := range most - 1 {
		p[i].Needs = []int{i + 1}
	}
	j := made(t, p)
	for i := most - 1; i > 0; i-- {
		stands(t, j, digits("0", i)+"1"+digits("2", most-1-i))
		does(t, j, i, i-1)
	}
	does(t, j, 0)
	stands(t, j, digits("2", most))
}

// TestMostTasksBehindOne: one makes all the others ready.
func TestMostTasksBehindOne(t *testing.T) {
	for one := range most {
		p := beside(most)
		for i := range p {
			if i != one {
				p[i].Needs = []int{one}
			}
		}
		j := made(t, p)
		stands(t, j, digits("0", one)+"1"+digits("0", most-1-one))
		does(t, j, one, append(rising(0, one), rising(one+1, most)...)...)
		stands(t, j, digits("1", one)+"2"+digits("1", most-1-one))
	}
}

// TestMostTasksAheadOfOne: it waits for the last one, whichever that is.
func TestMostTasksAheadOfOne(t *testing.T) {
	for last := range most - 1 {
		p := beside(most)
		p[most-1].Needs = rising(0, most-1)
		j := made(t, p)
		for i := range most - 1 {
			if i != last {
				does(t, j, i)
				refuses(t, j, most-1, api.ErrState)
			}
		}
		stands(t, j, digits("2", last)+"1"+digits("2", most-2-last)+"0")
		does(t, j, last, most-1)
		does(t, j, most-1)
		stands(t, j, digits("2", most))
	}
}

// TestMostNeeds: each needs all ahead of it, so that they go one by one.
func TestMostNeeds(t *testing.T) {
	p := beside(most)
	for i := range p {
		p[i].Needs = rising(0, i)
	}
	j := made(t, p)
	for i := range most - 1 {
		stands(t, j, digits("2", i)+"1"+digits("0", most-1-i))
		does(t, j, i, i+1)
	}
	does(t, j, most-1)
	stands(t, j, digits("2", most))
}

// task of a work, with what it needs.
func task(work int, needs ...int) api.Task { return api.Task{Work: work, Needs: needs} }

// TestPlansThatAreNone: Check's error, and no join.
func TestPlansThatAreNone(t *testing.T) {
	for _, c := range []struct {
		name string
		p    api.Plan
		err  api.Errno
	}{
		{"too many", beside(most + 1), api.ErrFull},
		{"far too many", make(api.Plan, 10*most), api.ErrFull},
		{"one too many, and a ring", append(beside(most), task(1, most)), api.ErrFull},
		{"work 0", api.Plan{task(1), task(0)}, api.ErrRange},
		{"work below", api.Plan{task(-1)}, api.ErrRange},
		{"work above", api.Plan{task(api.MaxWork + 1)}, api.ErrRange},
		{"work least", api.Plan{task(math.MinInt)}, api.ErrRange},
		{"work greatest", api.Plan{task(math.MaxInt)}, api.ErrRange},
		{"need below", api.Plan{task(1, -1)}, api.ErrRange},
		{"need above", api.Plan{task(1), task(1, 2)}, api.ErrRange},
		{"need least", api.Plan{task(1, math.MinInt)}, api.ErrRange},
		{"need greatest", api.Plan{task(1, math.MaxInt)}, api.ErrRange},
		{"need twice", api.Plan{task(1), task(1, 0, 0)}, api.ErrClash},
		{"needs fall", api.Plan{task(1), task(1), task(1, 1, 0)}, api.ErrClash},
		{"needs itself", api.Plan{task(1), task(1, 1)}, api.ErrCycle},
		{"two need each other", api.Plan{task(1, 1), task(1, 0)}, api.ErrCycle},
		{"ring, and one beside", api.Plan{task(1), task(1, 3), task(1, 1), task(1, 2)}, api.ErrCycle},
		{"clash ahead of work", api.Plan{task(1), task(1, 0, 0), task(0)}, api.ErrClash},
		{"work ahead of a clash", api.Plan{task(0), task(1, 0, 0)}, api.ErrRange},
		{"ring, and a later work", api.Plan{task(1, 0), task(0)}, api.ErrRange},
	} {
		j, err := New(c.p)
		if j != nil || plain.Told(err) != c.err {
			t.Errorf("%s: got %v %v, want %v", c.name, j, err, c.err)
		}
	}
}

// TestNoTasks: an empty plan and nil are the same.
func TestNoTasks(t *testing.T) {
	for _, p := range []api.Plan{nil, {}, make(api.Plan, 0, 4), beside(3)[:0]} {
		j := made(t, p)
		stands(t, j, "")
		refuses(t, j, 0, api.ErrRange)
		stands(t, j, "")
	}
	stands(t, made(t, api.Plan{task(1), {Work: 1, Needs: []int{}}}), "11")
}

// guarded plan whose lists have more memory behind their length, filled with
// what belongs to no plan.
func guarded() (api.Plan, []int) {
	back := []int{0, 1, -7, -7}
	p := make(api.Plan, 3, 5)
	p[0], p[1], p[2] = task(2), task(3, 0), api.Task{Work: 4, Needs: back[:2]}
	copy(p[3:5], []api.Task{task(-1), task(-1, 9)})
	return p, back
}

// TestNothingHandedInIsWritten: neither by New nor by what comes behind it.
func TestNothingHandedInIsWritten(t *testing.T) {
	p, back := guarded()
	q, copied := guarded()
	j := made(t, p)
	stands(t, j, "100")
	does(t, j, 0, 1)
	refuses(t, j, 2, api.ErrState)
	does(t, j, 1, 2)
	does(t, j, 2)
	stands(t, j, "222")
	if !reflect.DeepEqual(p[:5], q[:5]) || !slices.Equal(back, copied) {
		t.Errorf("got %v %v, want %v %v", p[:5], back, q[:5], copied)
	}
}

// TestNothingHandedInIsKept: what becomes of the plan, the join does not feel.
func TestNothingHandedInIsKept(t *testing.T) {
	p, back := guarded()
	j := made(t, p)
	spoil(back)
	p[1].Needs[0] = 2
	clear(p[:5])
	stands(t, j, "100")
	does(t, j, 0, 1)
	p[1] = task(1, 0)
	does(t, j, 1, 2)
	does(t, j, 2)
	stands(t, j, "222")
}

// spoil a list, with what lies behind its length.
func spoil(l []int) {
	l = l[:cap(l)]
	for i := range l {
		l[i] = 99
	}
}

// TestWhatIsToldIsTheCallers: neither the join nor another list shares the
// memory of a list that was told, even of an empty one.
func TestWhatIsToldIsTheCallers(t *testing.T) {
	j := read(t, "1 1 1<0 1<0 1<2,3 1<2 1<4")
	var told [][]int
	var want []string
	keep := func(l []int) {
		told = append(told, l)
		want = append(want, words(l))
	}
	for i := range 7 {
		keep(j.Ready())
		keep(j.Ready())
		l, err := j.Done(i)
		if err != nil {
			t.Fatal(err)
		}
		keep(l)
		l, _ = j.Done(i)
		keep(l)
	}
	for i, l := range told {
		if got := words(l); got != want[i] {
			t.Errorf("list %d was %s, and is %s", i, want[i], got)
		}
		spoil(l)
	}
	stands(t, j, "2222222")
}

// TestSpoiledListsAreNotFelt: what was told is spoiled at once, and all goes
// on as it would.
func TestSpoiledListsAreNotFelt(t *testing.T) {
	j := read(t, "1 1 1<0 1<0 1<2,3 1<2 1<4")
	for _, c := range []struct {
		i      int
		want   []int
		states string
	}{
		{1, nil, "1200000"}, {0, []int{2, 3}, "2211000"}, {2, []int{5}, "2221010"}, {3, []int{4}, "2222110"},
		{5, nil, "2222120"}, {4, []int{6}, "2222221"}, {6, nil, "2222222"},
	} {
		spoil(j.Ready())
		l, err := j.Done(c.i)
		if err != nil || !slices.Equal(l, c.want) {
			t.Fatalf("Done(%d): got %v %v, want %v", c.i, l, err, c.want)
		}
		spoil(l)
		stands(t, j, c.states)
	}
}

// TestJoinsAreApart: what is done in one, no other one of that plan tells.
func TestJoinsAreApart(t *testing.T) {
	p := api.Plan{task(1), task(1, 0), task(1, 0, 1)}
	a, b := made(t, p), made(t, p)
	does(t, a, 0, 1)
	stands(t, b, "100")
	does(t, a, 1, 2)
	does(t, b, 0, 1)
	stands(t, a, "221")
	stands(t, b, "210")
	stands(t, made(t, p), "100")
}
