package join

import (
	"slices"
	"testing"

	"yardgang/api"
	"yardgang/plain"
	"yardgang/plan"
)

// pair of a join and a model of it, that are asked the same. The model has
// the plan and what was done, in order, and counts nothing: it looks
// everything up each time.
type pair struct {
	t    *testing.T
	join *Join
	plan api.Plan
	done []int
	told []int // ready ones, as they were told: at first by Ready, then by Done
}

// begin a pair with nothing done.
func begin(t *testing.T, p api.Plan) *pair {
	t.Helper()
	j := made(t, p)
	return &pair{t: t, join: j, plan: p, told: j.Ready()}
}

// state of a task, by the model.
func (p *pair) state(i int) int {
	if slices.Contains(p.done, i) {
		return 2
	}
	for _, n := range p.plan[i].Needs {
		if !slices.Contains(p.done, n) {
			return 0
		}
	}
	return 1
}

// ready tasks, by the model.
func (p *pair) ready() []int {
	var l []int
	for i := range p.plan {
		if p.state(i) == 1 {
			l = append(l, i)
		}
	}
	return l
}

// fault, with what was done till then.
func (p *pair) fault(what string, got, want any, err error) {
	p.t.Helper()
	p.t.Fatalf("%v, of which %v are done: %s: got %v %v, want %v", p.plan, p.done, what, got, err, want)
}

// call Done of the join and the model.
func (p *pair) call(i int) {
	got, err := p.join.Done(i)
	wrong := api.OK
	var want []int
	switch {
	case i < 0 || i >= len(p.plan):
		wrong = api.ErrRange
	case p.state(i) != 1:
		wrong = api.ErrState
	default:
		was := p.ready()
		p.done = append(p.done, i)
		for _, k := range p.ready() {
			if !slices.Contains(was, k) {
				want = append(want, k)
			}
		}
	}
	if plain.Told(err) != wrong || !slices.Equal(got, want) {
		p.fault("Done", got, want, err)
	}
	p.told = append(p.told, got...)
	p.look()
}

// look at all that the join tells.
func (p *pair) look() {
	if got, want := p.join.Ready(), p.ready(); !slices.Equal(got, want) {
		p.fault("Ready", got, want, nil)
	}
	if got, want := p.join.Left(), len(p.plan)-len(p.done); got != want {
		p.fault("Left", got, want, nil)
	}
	for i := range p.plan {
		if got, err := p.join.State(i); err != nil || got != p.state(i) {
			p.fault("State", got, p.state(i), err)
		}
	}
}

// end of a run: all were done, nobody ahead of whom it needs, and each was
// told to be ready once.
func (p *pair) end() {
	for at, i := range p.done {
		for _, n := range p.plan[i].Needs {
			if !slices.Contains(p.done[:at], n) {
				p.fault("done too early", i, n, nil)
			}
		}
	}
	for _, l := range [][]int{p.done, p.told} {
		l = slices.Sorted(slices.Values(l))
		if !slices.Equal(l, rising(0, len(p.plan))) {
			p.fault("at the end", l, "each once", nil)
		}
	}
}

// goRound an order, in which tasks that are none may be: Done of all of it,
// again and again, till all are done, and once more.
func (p *pair) goRound(order []int) {
	p.look()
	for range len(p.plan) + 1 {
		for _, i := range order {
			p.call(i)
		}
	}
	p.end()
}

// orders of n numbers, all of them.
func orders(n int) [][]int {
	if n == 0 {
		return [][]int{nil}
	}
	var all [][]int
	for _, l := range orders(n - 1) {
		for at := range n {
			all = append(all, slices.Insert(slices.Clone(l), at, n-1))
		}
	}
	return all
}

// needing plan of n tasks: by a bit each, whether a task needs another one,
// or itself.
func needing(n, bits int) api.Plan {
	p := beside(n)
	for i := range p {
		for k := range n {
			if bits&1 == 1 {
				p[i].Needs = append(p[i].Needs, k)
			}
			bits >>= 1
		}
	}
	return p
}

// TestAllPlansOfFour: all needs of up to four tasks, of each that is a plan
// all orders, and of each that is none Check's error.
func TestAllPlansOfFour(t *testing.T) {
	for n := range 5 {
		all := orders(n)
		for bits := range 1 << (n * n) {
			p := needing(n, bits)
			if _, want := plan.Check(p); want != nil {
				if j, err := New(p); j != nil || plain.Told(err) != plain.Told(want) {
					t.Fatalf("%v: got %v %v, want %v", p, j, err, want)
				}
				continue
			}
			for _, order := range all {
				begin(t, p).goRound(order)
			}
		}
	}
}

// TestAllRunsOfFour: all runs of five calls, those of tasks that are none
// among them, on plans of all shapes of four tasks.
func TestAllRunsOfFour(t *testing.T) {
	const long, calls = 5, 6
	runs := 1
	for range long {
		runs *= calls
	}
	for bits := range 1 << 6 {
		p := beside(4)
		for i := range p {
			for k := range i {
				if bits&1 == 1 {
					p[i].Needs = append(p[i].Needs, k)
				}
				bits >>= 1
			}
		}
		for run := range runs {
			pair := begin(t, p)
			for range long {
				pair.call(run%calls - 1)
				run /= calls
			}
		}
	}
}

// TestManyTasks: plans of up to 30, with few needs, and many, done in mixed
// orders.
func TestManyTasks(t *testing.T) {
	seed := uint32(7)
	next := func(n int) int {
		seed = seed*1664525 + 1013904223
		return int(seed>>16) % n
	}
	mixed := func(n int) []int {
		l := rising(0, n)
		for i := range l {
			k := next(i + 1)
			l[i], l[k] = l[k], l[i]
		}
		return l
	}
	for n := 1; n <= most; n++ {
		for _, rare := range []int{1, 2, 3, 5, 10, 30} {
			names := mixed(n)
			p := beside(n)
			for i, name := range names {
				for _, k := range names[:i] {
					if next(rare) == 0 {
						p[name].Needs = append(p[name].Needs, k)
					}
				}
				slices.Sort(p[name].Needs)
			}
			begin(t, p).goRound(append(mixed(n), -1, n))
		}
	}
}
