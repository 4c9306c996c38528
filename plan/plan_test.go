package plan

import (
	"errors"
	"math"
	"reflect"
	"slices"
	"testing"

	"yardgang/api"
	"yardgang/plain"
)

// task of a work, with what it needs.
func task(work int, needs ...int) api.Task { return api.Task{Work: work, Needs: needs} }

// many tasks of work 1 that need none.
func many(n int) api.Plan {
	p := make(api.Plan, n)
	for i := range p {
		p[i].Work = 1
	}
	return p
}

// same lists: an empty one and nil are.
func same(a, b []int) bool { return slices.Equal(a, b) }

// with one task of a plan in the place of another.
func with(p api.Plan, i int, t api.Task) api.Plan {
	p = slices.Clone(p)
	p[i] = t
	return p
}

// wrongs are plans, which task is wrong first, and how.
var wrongs = []struct {
	name string
	p    api.Plan
	at   int
	err  api.Errno
}{
	{"nil", nil, 0, api.OK},
	{"no tasks", api.Plan{}, 0, api.OK},
	{"one", api.Plan{task(1)}, 0, api.OK},
	{"needs empty", api.Plan{{Work: 1, Needs: []int{}}}, 0, api.OK},
	{"needs a later one", api.Plan{task(2, 1), task(3)}, 0, api.OK},
	{"rising needs", api.Plan{task(1), task(1), task(1), task(1, 0, 1, 2)}, 0, api.OK},
	{"MaxTasks", many(api.MaxTasks), 0, api.OK},
	{"MaxTasks, the last number needed", with(many(api.MaxTasks), 3, task(1, api.MaxTasks-1)), 0, api.OK},

	{"one more than MaxTasks", many(api.MaxTasks + 1), 0, api.ErrFull},
	{"many more", many(1000), 0, api.ErrFull},
	{"too many, and a wrong work", with(many(api.MaxTasks+1), 4, task(0)), 0, api.ErrFull},
	{"too many, and a ring", with(many(api.MaxTasks+1), 4, task(1, 4)), 0, api.ErrFull},

	{"work 1", api.Plan{task(1)}, 0, api.OK},
	{"work MaxWork", api.Plan{task(api.MaxWork)}, 0, api.OK},
	{"work 0", api.Plan{task(1), task(0)}, 1, api.ErrRange},
	{"work above", api.Plan{task(1), task(1), task(api.MaxWork + 1)}, 2, api.ErrRange},
	{"work below", api.Plan{task(-1)}, 0, api.ErrRange},
	{"work least", api.Plan{task(1), task(math.MinInt)}, 1, api.ErrRange},
	{"work greatest", api.Plan{task(1), task(math.MaxInt)}, 1, api.ErrRange},

	{"needs -1", api.Plan{task(1), task(1, -1)}, 1, api.ErrRange},
	{"needs one behind the last", api.Plan{task(1), task(1, 2)}, 1, api.ErrRange},
	{"needs MaxTasks", with(many(api.MaxTasks), 7, task(1, api.MaxTasks)), 7, api.ErrRange},
	{"needs least", api.Plan{task(1), task(1, math.MinInt)}, 1, api.ErrRange},
	{"needs greatest", api.Plan{task(1), task(1, 0, math.MaxInt)}, 1, api.ErrRange},

	{"needs one twice", api.Plan{task(1), task(1, 0, 0)}, 1, api.ErrClash},
	{"needs fall", api.Plan{task(1), task(1), task(1, 1, 0)}, 2, api.ErrClash},
	{"needs fall at the end", api.Plan{task(1), task(1), task(1), task(1, 0, 2, 1)}, 3, api.ErrClash},

	{"needs itself", api.Plan{task(1, 0)}, 0, api.ErrCycle},
	{"needs itself and another", api.Plan{task(1), task(1), task(1, 0, 2)}, 2, api.ErrCycle},
	{"ring of two", api.Plan{task(1), task(1, 2), task(1, 1)}, 1, api.ErrCycle},
	{"ring of three", api.Plan{task(1), task(1, 3), task(1, 1), task(1, 2)}, 1, api.ErrCycle},
	{"needs one of a ring", api.Plan{task(1, 1), task(1, 2), task(1, 1)}, 1, api.ErrCycle},
	{"needs one that needs itself", api.Plan{task(1, 2), task(1, 0), task(1, 2)}, 2, api.ErrCycle},
	{"two rings", api.Plan{task(1), task(1, 4), task(1, 3), task(1, 2), task(1, 1)}, 1, api.ErrCycle},
	{"needed by a ring", api.Plan{task(1), task(1, 0, 2), task(1, 1)}, 1, api.ErrCycle},
	{"diamond", api.Plan{task(1, 1, 2), task(1, 3), task(1, 3), task(1)}, 0, api.OK},

	{"needs out of range ahead of falling ones", api.Plan{task(1), task(1, 0, 0, 9)}, 1, api.ErrRange},
	{"falling ones, and work", api.Plan{task(1), task(0, 0, 0)}, 1, api.ErrRange},
	{"falling ones ahead of a later work", api.Plan{task(1), task(1, 0, 0), task(0)}, 1, api.ErrClash},
	{"a later work ahead of a ring", api.Plan{task(1, 0), task(1), task(0)}, 2, api.ErrRange},
	{"later falling ones ahead of a ring", api.Plan{task(1, 0), task(1), task(1, 1, 1)}, 2, api.ErrClash},
	{"itself twice", api.Plan{task(1, 0, 0)}, 0, api.ErrClash},
	{"works, the first one", api.Plan{task(1), task(21), task(0)}, 1, api.ErrRange},
}

func TestCheck(t *testing.T) {
	for _, c := range wrongs {
		at, err := Check(c.p)
		if at != c.at || plain.Told(err) != c.err {
			t.Errorf("%s: got %d %v, want %d %v", c.name, at, err, c.at, c.err)
		}
	}
}

// TestErrorsOfOthers: the other calls tell Check's error, and nothing else with it.
func TestErrorsOfOthers(t *testing.T) {
	for _, c := range wrongs {
		order, err := Order(c.p)
		if plain.Told(err) != c.err || len(order) != 0 && err != nil {
			t.Errorf("Order: %s: got %v %v, want %v", c.name, order, err, c.err)
		}
		text, err := Print(c.p)
		if plain.Told(err) != c.err || text != "" && err != nil {
			t.Errorf("Print: %s: got %q %v, want %v", c.name, text, err, c.err)
		}
		for _, i := range []int{math.MinInt, -1, 0, len(c.p) - 1, len(c.p), math.MaxInt} {
			want := c.err
			if want == api.OK && (i < 0 || i >= len(c.p)) {
				want = api.ErrRange
			}
			after, err := After(c.p, i)
			if plain.Told(err) != want || len(after) != 0 && err != nil {
				t.Errorf("After: %s, %d: got %v %v, want %v", c.name, i, after, err, want)
			}
		}
	}
}

// TestErrorsAreErrnos: nil where nothing is wrong, never OK as an error.
func TestErrorsAreErrnos(t *testing.T) {
	for _, c := range wrongs {
		_, err := Check(c.p)
		var e api.Errno
		if (c.err == api.OK) != (err == nil) || err != nil && (!errors.As(err, &e) || e == api.OK) {
			t.Errorf("%s: got %#v", c.name, err)
		}
	}
}

func TestOrder(t *testing.T) {
	for _, c := range []struct {
		p    api.Plan
		want []int
	}{
		{nil, nil},
		{api.Plan{task(5)}, []int{0}},
		{api.Plan{task(1), task(2), task(3)}, []int{0, 1, 2}},
		{api.Plan{task(1, 2), task(1, 0), task(1)}, []int{2, 0, 1}},
		{api.Plan{task(1, 3), task(1), task(1, 0), task(1)}, []int{1, 3, 0, 2}},
		{api.Plan{task(1, 4), task(1), task(1, 1), task(1), task(1, 3)}, []int{1, 2, 3, 4, 0}},
	} {
		got, err := Order(c.p)
		if err != nil || !same(got, c.want) {
			t.Errorf("%v: got %v %v, want %v", c.p, got, err, c.want)
		}
	}
}

// TestOrderBackwards: the longest chain there is, each task needing the next one.
func TestOrderBackwards(t *testing.T) {
	p := many(api.MaxTasks)
	var want []int
	for i := range p {
		if i+1 < len(p) {
			p[i].Needs = []int{i + 1}
		}
		want = append(want, len(p)-1-i)
	}
	if got, err := Order(p); err != nil || !same(got, want) {
		t.Errorf("got %v %v, want %v", got, err, want)
	}
	p[len(p)-1].Needs = []int{4}
	if at, err := Check(p); at != 4 || err != api.ErrCycle {
		t.Errorf("closed to a ring: got %d %v, want 4 ErrCycle", at, err)
	}
}

// TestDense: each task needs all ahead of it, at the greatest plan.
func TestDense(t *testing.T) {
	p := many(api.MaxTasks)
	for i := range p {
		for k := range i {
			p[i].Needs = append(p[i].Needs, k)
		}
	}
	if at, err := Check(p); at != 0 || err != nil {
		t.Errorf("Check: got %d %v", at, err)
	}
	after, err := After(p, 27)
	if err != nil || !same(after, []int{28, 29}) {
		t.Errorf("After: got %v %v", after, err)
	}
}

func TestAfter(t *testing.T) {
	p := api.Plan{task(1, 3), task(1, 0, 3), task(1, 1), task(1), task(1, 0, 1, 2, 3)}
	want := [][]int{{1, 4}, {2, 4}, {4}, {0, 1, 4}, nil}
	for i := range p {
		got, err := After(p, i)
		if err != nil || !same(got, want[i]) {
			t.Errorf("%d: got %v %v, want %v", i, got, err, want[i])
		}
	}
}

// allPlans of n tasks of work 1, with whatever needs.
func allPlans(n int) func(yield func(api.Plan) bool) {
	return func(yield func(api.Plan) bool) {
		for bits := range 1 << (n * n) {
			p := many(n)
			for i := range p {
				for k := range n {
					if bits>>(i*n+k)&1 == 1 {
						p[i].Needs = append(p[i].Needs, k)
					}
				}
			}
			if !yield(p) {
				return
			}
		}
	}
}

// leastInRing by ways of every length, reckoned step by step; -1: none.
func leastInRing(p api.Plan) int {
	n := len(p)
	way := make([][]bool, n)
	for i, t := range p {
		way[i] = make([]bool, n)
		for _, k := range t.Needs {
			way[i][k] = true
		}
	}
	for m := range n {
		for i := range n {
			for k := range n {
				way[i][k] = way[i][k] || way[i][m] && way[m][k]
			}
		}
	}
	for i := range n {
		if way[i][i] {
			return i
		}
	}
	return -1
}

// firstOrder of all orders, by their numbers from the beginning on, in which each stands behind those that it needs.
func firstOrder(p api.Plan, order []int) []int {
	if len(order) == len(p) {
		return order
	}
	for i, t := range p {
		if slices.Contains(order, i) || slices.ContainsFunc(t.Needs, func(k int) bool { return !slices.Contains(order, k) }) {
			continue
		}
		if l := firstOrder(p, append(slices.Clone(order), i)); l != nil {
			return l
		}
	}
	return nil
}

// TestAllSmallPlans: each plan of up to four tasks, held against what is reckoned another way.
func TestAllSmallPlans(t *testing.T) {
	for n := 1; n <= 4; n++ {
		for p := range allPlans(n) {
			at, err := Check(p)
			order, bad := Order(p)
			if i := leastInRing(p); i >= 0 {
				if at != i || err != api.ErrCycle || len(order) != 0 || bad != api.ErrCycle {
					t.Fatalf("%v: got %d %v, %v %v, want a ring at %d", p, at, err, order, bad, i)
				}
				continue
			}
			if want := firstOrder(p, nil); at != 0 || err != nil || bad != nil || !same(order, want) {
				t.Fatalf("%v: got %d %v, %v %v, want %v", p, at, err, order, bad, want)
			}
		}
	}
}

// guarded is a plan whose lists have more memory behind their length, filled with numbers that are none of tasks.
func guarded() (api.Plan, []int) {
	back := []int{0, 1, -7, -7, -7}
	p := make(api.Plan, 3, 8)
	p[0], p[1] = task(2), task(3)
	p[2] = api.Task{Work: 4, Needs: back[:2]}
	copy(p[3:8], []api.Task{task(-1), task(-1), task(-1), task(-1), task(-1)})
	return p, back
}

func TestNothingHandedInIsWritten(t *testing.T) {
	p, back := guarded()
	q, copied := guarded()
	Check(p)
	Order(p)
	After(p, 1)
	Print(p)
	if !reflect.DeepEqual(p[:8], q[:8]) || !slices.Equal(back, copied) {
		t.Errorf("got %v %v, want %v %v", p[:8], back, q[:8], copied)
	}
	if at, err := Check(p); at != 0 || err != nil {
		t.Errorf("what lies behind the length was read: %d %v", at, err)
	}
}

// spoil writes into all the memory of a list.
func spoil(l []int) {
	l = l[:cap(l)]
	for i := range l {
		l[i] = -9
	}
}

// TestAnswersAreTheCallers: what came out may be written into, and nothing else feels it.
func TestAnswersAreTheCallers(t *testing.T) {
	p, _ := guarded()
	order, _ := Order(p)
	after, _ := After(p, 0)
	spoil(order)
	spoil(after)
	if !reflect.DeepEqual(p, api.Plan{task(2), task(3), task(4, 0, 1)}) {
		t.Errorf("the plan was written into: %v", p)
	}
	if l, _ := Order(p); !same(l, []int{0, 1, 2}) {
		t.Errorf("Order: got %v", l)
	}
	if l, _ := After(p, 0); !same(l, []int{2}) {
		t.Errorf("After: got %v", l)
	}
}
