package depth

import (
	"math"
	"reflect"
	"slices"
	"testing"

	"yardgang/api"
	"yardgang/plain"
	"yardgang/plan"
)

// answers of all calls on one plan but Reaches.
type answers struct {
	work, span            int
	ranks, tails, longest []int
}

// ask all calls but Reaches, and tell the errors in the order Work, Span, Ranks, Tails, Longest.
func ask(p api.Plan) (a answers, errs []error) {
	errs = make([]error, 5)
	a.work, errs[0] = Work(p)
	a.span, errs[1] = Span(p)
	a.ranks, errs[2] = Ranks(p)
	a.tails, errs[3] = Tails(p)
	a.longest, errs[4] = Longest(p)
	return a, errs
}

// alike answers: an empty list and nil are.
func (a answers) alike(b answers) bool {
	return a.work == b.work && a.span == b.span && slices.Equal(a.ranks, b.ranks) &&
		slices.Equal(a.tails, b.tails) && slices.Equal(a.longest, b.longest)
}

// read a plan that is right.
func read(t *testing.T, text string) api.Plan {
	t.Helper()
	p, err := plan.Parse(text)
	if err != nil {
		t.Fatal(text, err)
	}
	return p
}

// hold the answers to a plan against those that are wanted.
func hold(t *testing.T, name string, p api.Plan, want answers) {
	t.Helper()
	got, errs := ask(p)
	if slices.ContainsFunc(errs, func(err error) bool { return err != nil }) {
		t.Fatalf("%s: got %v", name, errs)
	}
	if !got.alike(want) {
		t.Fatalf("%s: got %v, want %v", name, got, want)
	}
}

func TestAnswers(t *testing.T) {
	for _, c := range []struct {
		text string
		want answers
	}{
		{"", answers{}},
		{"1", answers{1, 1, []int{0}, []int{1}, []int{0}}},
		{"20", answers{20, 20, []int{0}, []int{20}, []int{0}}},
		{"3 2<0", answers{5, 5, []int{0, 3}, []int{5, 2}, []int{0, 1}}},
		{"3<1 2", answers{5, 5, []int{2, 0}, []int{3, 5}, []int{1, 0}}},
		{"2 3 3 1", answers{9, 3, []int{0, 0, 0, 0}, []int{2, 3, 3, 1}, []int{1}}},
		{"3 2<0 1<0 4<1,2", answers{10, 9, []int{0, 3, 3, 5}, []int{9, 6, 5, 4}, []int{0, 1, 3}}},
		// The longer of two that are needed stands first, then last.
		{"5 2 1<0,1", answers{8, 6, []int{0, 0, 5}, []int{6, 3, 1}, []int{0, 2}}},
		{"2 5 1<0,1", answers{8, 6, []int{0, 0, 5}, []int{3, 6, 1}, []int{1, 2}}},
		// More tasks on a way are not more work.
		{"1 1<0 1<1 4", answers{7, 4, []int{0, 1, 2, 0}, []int{3, 2, 1, 4}, []int{3}}},
		// Several begin alike and part later: 0 1 4 5, 0 2 4 5, 0 3 5.
		{"1 2<0 2<0 3<0 1<1,2 1<3,4", answers{10, 5, []int{0, 1, 1, 1, 3, 4}, []int{5, 4, 4, 4, 2, 1}, []int{0, 1, 4, 5}}},
		// The way of the least last task is not the first one: 0 3 1, 0 2 4.
		{"1 1<3 1<0 1<0 1<2", answers{5, 3, []int{0, 2, 1, 1, 2}, []int{3, 1, 2, 2, 1}, []int{0, 2, 4}}},
		// A lesser one that begins a shorter way is passed over, at the beginning and on the way.
		{"1 2<0 2 1<2 4<2", answers{10, 6, []int{0, 1, 0, 2, 2}, []int{3, 2, 6, 1, 4}, []int{2, 4}}},
		// A tail as long as the rest, of a task that does not need the one ahead.
		{"2 3 2 3<0", answers{10, 5, []int{0, 0, 0, 2}, []int{5, 3, 2, 3}, []int{0, 3}}},
		// Numbers fall along the way.
		{"1<1 1<2 1<3 1", answers{4, 4, []int{3, 2, 1, 0}, []int{1, 2, 3, 4}, []int{3, 2, 1, 0}}},
		// A need that is there by another way, too, is no shorter.
		{"1 2<0 3<0,1", answers{6, 6, []int{0, 1, 3}, []int{6, 5, 3}, []int{0, 1, 2}}},
	} {
		hold(t, c.text, read(t, c.text), c.want)
	}
}

// beside each other: MaxTasks tasks of so much work.
func beside(work int) api.Plan {
	p := make(api.Plan, api.MaxTasks)
	for i := range p {
		p[i].Work = work
	}
	return p
}

func TestMostTasksBeside(t *testing.T) {
	want := answers{work: 600, span: 20, ranks: make([]int, 30), tails: slices.Repeat([]int{20}, 30), longest: []int{0}}
	hold(t, "beside", beside(api.MaxWork), want)
}

func TestMostTasksInAChain(t *testing.T) {
	up, down := beside(api.MaxWork), beside(api.MaxWork)
	for i := 1; i < api.MaxTasks; i++ {
		up[i].Needs = []int{i - 1}
		down[i-1].Needs = []int{i}
	}
	want := answers{work: 600, span: 600}
	for i := range up {
		want.ranks = append(want.ranks, 20*i)
		want.tails = append(want.tails, 600-20*i)
		want.longest = append(want.longest, i)
	}
	hold(t, "up", up, want)
	slices.Reverse(want.ranks)
	slices.Reverse(want.tails)
	slices.Reverse(want.longest)
	hold(t, "down", down, want)
}

// dense: each task needs all ahead of it, but the last one needs none; the ways through it are too many to be gone one by one.
func dense() api.Plan {
	p := beside(1)
	for i := range p[:len(p)-1] {
		for k := range i {
			p[i].Needs = append(p[i].Needs, k)
		}
	}
	return p
}

func TestMostWays(t *testing.T) {
	want := answers{work: 30, span: 29}
	for i := range 29 {
		want.ranks = append(want.ranks, i)
		want.tails = append(want.tails, 29-i)
		want.longest = append(want.longest, i)
	}
	want.ranks = append(want.ranks, 0)
	want.tails = append(want.tails, 1)
	hold(t, "dense", dense(), want)
	for _, c := range []struct {
		i, k int
		want bool
	}{{0, 28, true}, {27, 28, true}, {28, 27, false}, {28, 0, false}, {29, 28, false}, {28, 29, false}, {28, 28, false}} {
		if got, err := Reaches(dense(), c.i, c.k); err != nil || got != c.want {
			t.Errorf("Reaches %d %d: got %v %v, want %v", c.i, c.k, got, err, c.want)
		}
	}
}

func TestReaches(t *testing.T) {
	p := read(t, "1 1<0 1<1 1 1<2,3 1<0")
	want := [][]int{{1, 2, 4, 5}, {2, 4}, {4}, {4}, nil, nil}
	for i := range p {
		for k := range p {
			got, err := Reaches(p, i, k)
			if err != nil || got != slices.Contains(want[i], k) {
				t.Errorf("%d %d: got %v %v, want %v", i, k, got, err, !got)
			}
		}
	}
}

// TestReachesNone: numbers of tasks that are none, the first, the second, and both.
func TestReachesNone(t *testing.T) {
	for _, text := range []string{"", "1", "1 1<0", "1 1<0 1<1"} {
		p := read(t, text)
		for _, none := range []int{math.MinInt, -len(p) - 1, -1, len(p), len(p) + 1, api.MaxTasks, math.MaxInt} {
			for _, pair := range [][2]int{{none, 0}, {0, none}, {none, len(p) - 1}, {len(p) - 1, none}, {none, none}, {-1, none}, {none, len(p)}} {
				if got, err := Reaches(p, pair[0], pair[1]); got || plain.Told(err) != api.ErrRange {
					t.Errorf("%q %v: got %v %v, want ErrRange", text, pair, got, err)
				}
			}
		}
	}
}

// task of a work, with what it needs.
func task(work int, needs ...int) api.Task { return api.Task{Work: work, Needs: needs} }

// wrongs are plans, and what is wrong with them.
var wrongs = []struct {
	name string
	p    api.Plan
	err  api.Errno
}{
	{"too many", make(api.Plan, api.MaxTasks+1), api.ErrFull},
	{"one too many, and a ring", append(beside(1), task(1, 30)), api.ErrFull},
	{"work 0", api.Plan{task(1), task(0)}, api.ErrRange},
	{"work above", api.Plan{task(api.MaxWork + 1)}, api.ErrRange},
	{"work least", api.Plan{task(math.MinInt)}, api.ErrRange},
	{"work greatest", api.Plan{task(math.MaxInt), task(math.MaxInt, 0)}, api.ErrRange},
	{"need below", api.Plan{task(1, -1)}, api.ErrRange},
	{"need above", api.Plan{task(1), task(1, 2)}, api.ErrRange},
	{"need greatest", api.Plan{task(1, math.MaxInt)}, api.ErrRange},
	{"need twice", api.Plan{task(1), task(1, 0, 0)}, api.ErrClash},
	{"needs fall", api.Plan{task(1), task(1), task(1, 1, 0)}, api.ErrClash},
	{"needs itself", api.Plan{task(1), task(1, 1)}, api.ErrCycle},
	{"ring", api.Plan{task(1, 2), task(1, 0), task(1, 1)}, api.ErrCycle},
	{"a ring, and one beside", api.Plan{task(1), task(1, 2), task(1, 1)}, api.ErrCycle},
	{"a clash ahead of work", api.Plan{task(1), task(1, 0, 0), task(0)}, api.ErrClash},
	{"work ahead of a clash", api.Plan{task(0), task(1, 0, 0)}, api.ErrRange},
	{"a ring, and a later work", api.Plan{task(1, 0), task(0)}, api.ErrRange},
	{"a ring, and a later clash", api.Plan{task(1, 0), task(1, 0, 0)}, api.ErrClash},
}

// TestWrongPlans: all calls tell Check's error, and nothing with it, whatever tasks are asked for.
func TestWrongPlans(t *testing.T) {
	for _, c := range wrongs {
		got, errs := ask(c.p)
		for i, err := range errs {
			if plain.Told(err) != c.err {
				t.Errorf("%s: error %d: got %v, want %v", c.name, i, err, c.err)
			}
		}
		if !got.alike(answers{}) {
			t.Errorf("%s: got %v with an error", c.name, got)
		}
		for _, i := range []int{math.MinInt, -1, 0, 1, len(c.p), math.MaxInt} {
			for _, k := range []int{math.MinInt, -1, 0, 1, len(c.p), math.MaxInt} {
				if got, err := Reaches(c.p, i, k); got || plain.Told(err) != c.err {
					t.Errorf("%s: Reaches %d %d: got %v %v, want %v", c.name, i, k, got, err, c.err)
				}
			}
		}
	}
}

// ways of a plan, all of them: each task needed by the next.
func ways(p api.Plan) [][]int {
	var all [][]int
	for i := range p {
		all = append(all, []int{i})
	}
	for at := 0; at < len(all); at++ {
		way := all[at]
		for k, t := range p {
			if slices.Contains(t.Needs, way[len(way)-1]) {
				all = append(all, append(slices.Clone(way), k))
			}
		}
	}
	return all
}

// reckon the answers by going all ways.
func reckon(p api.Plan, all [][]int) answers {
	a := answers{ranks: make([]int, len(p)), tails: make([]int, len(p))}
	for _, t := range p {
		a.work += t.Work
	}
	for _, way := range all {
		long := 0
		for _, i := range way {
			long += p[i].Work
		}
		first, last := way[0], way[len(way)-1]
		a.tails[first] = max(a.tails[first], long)
		a.ranks[last] = max(a.ranks[last], long-p[last].Work)
		if long > a.span || long == a.span && slices.Compare(way, a.longest) < 0 {
			a.span, a.longest = long, way
		}
	}
	return a
}

// holdAll answers to a plan against what is reckoned by going all ways.
func holdAll(t *testing.T, p api.Plan) {
	t.Helper()
	all := ways(p)
	text, err := plan.Print(p)
	if err != nil {
		t.Fatal(p, err)
	}
	hold(t, text, p, reckon(p, all))
	for i := range p {
		for k := range p {
			want := slices.ContainsFunc(all, func(way []int) bool {
				return len(way) > 1 && way[0] == i && way[len(way)-1] == k
			})
			if got, err := Reaches(p, i, k); err != nil || got != want {
				t.Fatalf("%s: Reaches %d %d: got %v %v, want %v", text, i, k, got, err, want)
			}
		}
	}
}

// renamed plan: of needs among n tasks, each of which may need those ahead of it (a bit each), by the names of tasks.
func renamed(bits int, works, names []int) api.Plan {
	p := make(api.Plan, len(names))
	for i, to := range names {
		p[to].Work = works[i]
		for k := range i {
			if bits&1 == 1 {
				p[to].Needs = append(p[to].Needs, names[k])
			}
			bits >>= 1
		}
		slices.Sort(p[to].Needs)
	}
	return p
}

// namings of n tasks, all of them.
func namings(n int) [][]int {
	if n == 0 {
		return [][]int{nil}
	}
	var all [][]int
	for _, names := range namings(n - 1) {
		for at := range n {
			all = append(all, slices.Insert(slices.Clone(names), at, n-1))
		}
	}
	return all
}

// TestAllPlansOfFour: all that there are, with works from 1 to 3.
func TestAllPlansOfFour(t *testing.T) {
	for _, names := range namings(4) {
		for bits := range 1 << 6 {
			for n := range 81 {
				holdAll(t, renamed(bits, []int{n%3 + 1, n/3%3 + 1, n/9%3 + 1, n/27 + 1}, names))
			}
		}
	}
}

// TestAllNeedsOfSix: whatever need each other, under names that rise and names that are mixed, where many ways are as long.
func TestAllNeedsOfSix(t *testing.T) {
	for _, names := range [][]int{{0, 1, 2, 3, 4, 5}, {5, 0, 4, 1, 3, 2}} {
		for bits := range 1 << 15 {
			holdAll(t, renamed(bits, []int{1, 2, 1, 1, 2, 1}, names))
		}
	}
}

// guarded plan whose lists have more memory behind their length, filled with numbers that are none of tasks.
func guarded() (api.Plan, []int) {
	back := []int{0, 1, -7, -7}
	p := make(api.Plan, 3, 5)
	p[0], p[1], p[2] = task(2), task(3), api.Task{Work: 4, Needs: back[:2]}
	copy(p[3:5], []api.Task{task(-1), task(-1, 9)})
	return p, back
}

func TestNothingHandedInIsWritten(t *testing.T) {
	p, back := guarded()
	q, copied := guarded()
	hold(t, "guarded", p, answers{9, 7, []int{0, 0, 3}, []int{6, 7, 4}, []int{1, 2}})
	if got, err := Reaches(p, 0, 2); err != nil || !got {
		t.Errorf("Reaches: got %v %v", got, err)
	}
	if !reflect.DeepEqual(p[:5], q[:5]) || !slices.Equal(back, copied) {
		t.Errorf("got %v %v, want %v %v", p[:5], back, q[:5], copied)
	}
}

// TestAnswersAreTheCallers: what came out may be written into, and nothing else feels it.
func TestAnswersAreTheCallers(t *testing.T) {
	p, back := guarded()
	q, copied := guarded()
	first, _ := ask(p)
	again, _ := ask(p)
	for _, l := range [][]int{first.ranks, first.tails, first.longest} {
		l = l[:cap(l)]
		for i := range l {
			l[i] = -9
		}
	}
	if want, _ := ask(q); !again.alike(want) {
		t.Errorf("an answer was written into: %v, want %v", again, want)
	}
	if !reflect.DeepEqual(p[:5], q[:5]) || !slices.Equal(back, copied) {
		t.Errorf("the plan was written into: %v %v", p[:5], back)
	}
}
