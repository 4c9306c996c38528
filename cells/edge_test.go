package cells

import (
	"math"
	"slices"
	"testing"

	"yardgang/api"
)

// task of a work, with what it needs.
func task(work int, needs ...int) api.Task { return api.Task{Work: work, Needs: needs} }

// beside each other: so many tasks of work 1.
func beside(count int) api.Plan {
	p := make(api.Plan, count)
	for i := range p {
		p[i].Work = 1
	}
	return p
}

// as many of one thing as are asked.
func as[T any](count int, one T) []T { return slices.Repeat([]T{one}, count) }

// with another one at a place.
func with[T any](l []T, i int, one T) []T {
	l = slices.Clone(l)
	l[i] = one
	return l
}

// falling numbers, from below one on to another.
func falling(from, to int) []int {
	l := rising(to, from)
	slices.Reverse(l)
	return l
}

// values that may be, at the edges and in between.
var values = []int{-greatest, 1 - greatest, -31623, -2, -1, 0, 1, 2, 31623, greatest - 1, greatest}

// noValues are numbers that no cell and no op may have.
var noValues = []int{
	math.MinInt, math.MinInt + 1, math.MinInt + greatest, -1 << 32, -1<<32 + 1, math.MinInt32, -greatest - 2, -greatest - 1,
	greatest + 1, greatest + 2, math.MaxInt32, 1 << 32, 1<<32 + 1, math.MaxInt - greatest, math.MaxInt - 1, math.MaxInt,
}

// noWhats are numbers of no op.
var noWhats = []int{math.MinInt, math.MinInt + 1, -1 << 32, -6, -5, -2, -1, 0, 6, 7, 1 << 8, 1<<8 + 1, 1 << 32, 1<<32 + 1, 1<<32 + 5, math.MaxInt - 1, math.MaxInt}

// noCells are those that Check refuses.
func noCells() []api.Cell {
	var l []api.Cell
	for _, n := range noValues {
		l = append(l, api.Cell{N: n}, api.Cell{N: n, Fault: true})
	}
	for _, n := range values {
		if n != 0 {
			l = append(l, api.Cell{N: n, Fault: true})
		}
	}
	return l
}

// noOps are those that may not be.
func noOps() []api.Op {
	var l []api.Op
	for _, what := range noWhats {
		l = append(l, api.Op{What: what}, api.Op{What: what, N: greatest}, api.Op{What: what, N: math.MaxInt})
	}
	for what := api.Sum; what <= api.First; what++ {
		for _, n := range noValues {
			l = append(l, api.Op{What: what, N: n})
		}
	}
	return l
}

func TestCheck(t *testing.T) {
	for _, n := range values {
		if err := Check(api.Cell{N: n}); err != nil {
			t.Errorf("%d: got %v", n, err)
		}
	}
	if err := Check(api.Cell{Fault: true}); err != nil {
		t.Errorf("a fault: got %v", err)
	}
	for _, c := range noCells() {
		if err := Check(c); !is(err, api.ErrRange) {
			t.Errorf("%v: got %v, want ErrRange", c, err)
		}
	}
}

// TestDoOpsThatMayBe: with each number that may be, of no cells, of one, of a
// fault, and of MaxTasks.
func TestDoOpsThatMayBe(t *testing.T) {
	fault := api.Cell{Fault: true}
	for _, n := range values {
		for what := api.Sum; what <= api.First; what++ {
			o, none := api.Op{What: what, N: n}, api.Cell{N: n}
			if what == api.Split {
				none = fault
			}
			holdDo(t, o, nil, none)
			holdDo(t, o, []api.Cell{}, none)
			if what != api.First {
				holdDo(t, o, []api.Cell{fault}, fault)
				holdDo(t, o, as(mostTasks, fault), fault)
			}
		}
		one := api.Cell{N: n}
		holdDo(t, api.Op{What: api.Sum}, []api.Cell{one}, one)
		holdDo(t, api.Op{What: api.Most, N: -greatest}, []api.Cell{one}, one)
		holdDo(t, api.Op{What: api.Product, N: 1}, []api.Cell{one}, one)
		holdDo(t, api.Op{What: api.Split, N: n}, row(t, "1"), one)
		holdDo(t, api.Op{What: api.First, N: 5}, []api.Cell{one}, one)
		holdDo(t, api.Op{What: api.First, N: n}, as(mostTasks, fault), one)
	}
}

// TestDoOpsThatMayNotBe: whatever the cells are, also too many, or wrong ones.
func TestDoOpsThatMayNotBe(t *testing.T) {
	wrong := api.Cell{N: greatest + 1}
	for _, o := range noOps() {
		refuseDo(t, o, nil, api.ErrRange)
		refuseDo(t, o, row(t, "1 2"), api.ErrRange)
		refuseDo(t, o, row(t, "x"), api.ErrRange)
		refuseDo(t, o, as(mostTasks+1, api.Cell{}), api.ErrRange)
		refuseDo(t, o, as(mostTasks+1, wrong), api.ErrRange)
		refuseDo(t, o, []api.Cell{wrong}, api.ErrRange)
	}
}

// TestDoMany: how many cells there may be, and that all of them count.
func TestDoMany(t *testing.T) {
	for count := range mostTasks + 5 {
		wants := []struct {
			op   api.Op
			in   []api.Cell
			want api.Cell
		}{
			{api.Op{What: api.Sum, N: 7}, as(count, api.Cell{N: 2}), api.Cell{N: 7 + 2*count}},
			{api.Op{What: api.Most, N: -7}, as(count, api.Cell{N: -7}), api.Cell{N: -7}},
			{api.Op{What: api.Product, N: 5}, as(count, api.Cell{N: 1}), api.Cell{N: 5}},
			{api.Op{What: api.Split, N: 1000}, as(count, api.Cell{N: -1}), api.Cell{N: -1000 / max(count, 1), Fault: count == 0}},
			{api.Op{What: api.First, N: 4}, as(count, api.Cell{Fault: true}), api.Cell{N: 4}},
		}
		for _, c := range wants {
			if c.want.Fault {
				c.want.N = 0
			}
			if count > mostTasks {
				refuseDo(t, c.op, c.in, api.ErrFull)
			} else {
				holdDo(t, c.op, c.in, c.want)
			}
		}
	}
	for what := api.Sum; what <= api.First; what++ {
		refuseDo(t, api.Op{What: what, N: 1}, make([]api.Cell, 100*mostTasks), api.ErrFull)
	}
}

// TestDoCellsThatMayNotBe: at each place, of few and of most; of too many it is
// told that they are.
func TestDoCellsThatMayNotBe(t *testing.T) {
	for what := api.Sum; what <= api.First; what++ {
		o := api.Op{What: what, N: 1}
		for _, c := range noCells() {
			for _, count := range []int{1, 2, 3, mostTasks} {
				for at := range count {
					refuseDo(t, o, with(as(count, api.Cell{N: 1}), at, c), api.ErrRange)
					refuseDo(t, o, with(as(count, api.Cell{Fault: true}), at, c), api.ErrRange)
					refuseDo(t, o, with(as(count, api.Cell{N: greatest}), at, c), api.ErrRange)
				}
			}
			refuseDo(t, o, with(as(mostTasks+1, api.Cell{}), 0, c), api.ErrFull)
			refuseDo(t, o, with(as(mostTasks+1, api.Cell{}), mostTasks, c), api.ErrFull)
		}
	}
}

// TestDoFaultAtEachPlace: of each count; only First passes it by.
func TestDoFaultAtEachPlace(t *testing.T) {
	fault := api.Cell{Fault: true}
	for count := 1; count <= mostTasks; count++ {
		for at := range count {
			in := with(as(count, api.Cell{N: 1}), at, fault)
			for what := api.Sum; what < api.First; what++ {
				holdDo(t, api.Op{What: what, N: 1}, in, fault)
				holdDo(t, api.Op{What: what}, in, fault)
			}
			alone := with(as(count, fault), at, api.Cell{N: -4})
			holdDo(t, api.Op{What: api.First, N: 9}, alone, api.Cell{N: -4})
		}
	}
}

// TestGreatCells: many of them, whose sum or product is far beyond, or as an
// int would have come round to what may be.
func TestGreatCells(t *testing.T) {
	fault := api.Cell{Fault: true}
	for count := 2; count <= mostTasks; count++ {
		for _, n := range []int{-greatest, 1 - greatest, 1 << 29, -1 << 29, 1 << 16, -1 << 16, greatest - 1, greatest} {
			in := as(count, api.Cell{N: n})
			holdDo(t, api.Op{What: api.Product, N: 1}, in, fault)
			holdDo(t, api.Op{What: api.Product, N: greatest}, in, fault)
			holdDo(t, api.Op{What: api.Product}, in, api.Cell{})
			holdDo(t, api.Op{What: api.Product, N: 1}, with(in, 0, api.Cell{}), api.Cell{})
			if count > 2 {
				holdDo(t, api.Op{What: api.Product, N: 1}, with(in, count-1, api.Cell{}), fault)
			}
			if n > 1<<16 || n < -1<<16 {
				holdDo(t, api.Op{What: api.Sum, N: n}, in, fault)
			}
			holdDo(t, api.Op{What: api.Most, N: -greatest}, in, api.Cell{N: n})
			holdDo(t, api.Op{What: api.First}, in, api.Cell{N: n})
		}
	}
	// As ints the whole products of these two would come round to 0.
	holdDo(t, api.Op{What: api.Product, N: 1 << 16}, row(t, "65536 65536 65536"), fault)
	holdDo(t, api.Op{What: api.Product, N: 1}, as(mostTasks, api.Cell{N: 1 << 8}), fault)
	holdDo(t, api.Op{What: api.Product, N: 1}, as(29, api.Cell{N: 2}), api.Cell{N: 1 << 29})
	holdDo(t, api.Op{What: api.Product, N: 1}, as(mostTasks, api.Cell{N: 2}), fault)
	holdDo(t, api.Op{What: api.Product, N: 1}, as(29, api.Cell{N: -2}), api.Cell{N: -1 << 29})
}

// TestSumToAndFro: as often as may be from one edge to the other.
func TestSumToAndFro(t *testing.T) {
	var in []api.Cell
	for range mostTasks / 2 {
		in = append(in, row(t, "-M -M")...)
		in[len(in)-1].N = greatest
	}
	holdDo(t, api.Op{What: api.Sum, N: greatest}, in, api.Cell{N: greatest})
	holdDo(t, api.Op{What: api.Sum}, in, api.Cell{})
	holdDo(t, api.Op{What: api.Sum, N: -1}, in, api.Cell{Fault: true})
	holdDo(t, api.Op{What: api.Split, N: 3}, in, api.Cell{Fault: true})
	holdDo(t, api.Op{What: api.Split, N: 3}, with(in, mostTasks-1, api.Cell{N: greatest - 1}), api.Cell{N: -3})
}

// plansThatCheckRefuses, and what it tells.
var plansThatCheckRefuses = []struct {
	p   api.Plan
	err api.Errno
}{
	{beside(mostTasks + 1), api.ErrFull},
	{make(api.Plan, 10*mostTasks), api.ErrFull},
	{api.Plan{task(1), task(0)}, api.ErrRange},
	{api.Plan{task(1), task(21)}, api.ErrRange},
	{api.Plan{task(1), task(math.MinInt)}, api.ErrRange},
	{api.Plan{task(1), task(1, 2)}, api.ErrRange},
	{api.Plan{task(1), task(1, -1)}, api.ErrRange},
	{api.Plan{task(1), task(1, 0, math.MaxInt)}, api.ErrRange},
	{api.Plan{task(1), task(1, 0, 0)}, api.ErrClash},
	{api.Plan{task(1), task(1), task(1, 1, 0)}, api.ErrClash},
	{api.Plan{task(1, 0), task(1)}, api.ErrCycle},
	{api.Plan{task(1, 1), task(1, 0)}, api.ErrCycle},
	{api.Plan{task(1, 2), task(1, 0), task(1, 1)}, api.ErrCycle},
}

// TestPlanFirst: what is wrong with a plan is told first, whatever else is.
func TestPlanFirst(t *testing.T) {
	for _, c := range plansThatCheckRefuses {
		n := len(c.p)
		right, wrong := as(n, api.Op{What: api.Sum}), as(n, api.Op{})
		for _, l := range [][]api.Op{right, wrong, nil, right[1:], append(right, right[0])} {
			for _, order := range [][]int{rising(0, n), falling(n, 0), nil, make([]int, n), rising(1, n+1)} {
				refuseBoth(t, c.p, l, order, c.err)
			}
		}
	}
}

// rightPlans of none, few and most tasks.
func rightPlans(t *testing.T) []api.Plan {
	return []api.Plan{nil, {}, beside(1), beside(2), read(t, "3 2<0 1<0 4<1,2"), read(t, "1<2 1<0 1"), beside(mostTasks)}
}

// TestOpsThatAreNotAsMany: also where one of them may not be, and whatever the
// order is.
func TestOpsThatAreNotAsMany(t *testing.T) {
	for _, p := range rightPlans(t) {
		for _, count := range []int{0, 1, len(p) - 1, len(p) + 1, len(p) + 2, mostTasks, mostTasks + 1, 1000} {
			if count < 0 || count == len(p) {
				continue
			}
			for _, o := range []api.Op{{What: api.Sum}, {}, {What: api.First, N: math.MaxInt}} {
				for _, order := range [][]int{rising(0, len(p)), rising(0, count), falling(len(p), 0), nil} {
					refuseBoth(t, p, as(count, o), order, api.ErrShape)
				}
			}
		}
	}
}

// TestOpsThatMayNotBe: at each place, whatever the order is.
func TestOpsThatMayNotBe(t *testing.T) {
	for _, p := range rightPlans(t) {
		n := len(p)
		for at := range p {
			for _, o := range noOps() {
				l := with(as(n, api.Op{What: api.Most}), at, o)
				for _, order := range [][]int{rising(0, n), falling(n, 0), nil, rising(0, n+1), as(n, -1)} {
					refuseBoth(t, p, l, order, api.ErrRange)
				}
			}
		}
	}
}

// noOrders of so many tasks: each names some task not at all, or something else too.
func noOrders(count int) [][]int {
	l := [][]int{rising(0, count+1), rising(-1, count), append(rising(0, count), math.MaxInt), append(rising(0, count), math.MinInt), make([]int, 10*mostTasks)}
	if count == 0 {
		return l
	}
	l = append(l, nil, []int{}, rising(0, count-1), rising(1, count), falling(count, 1), falling(count+1, 1), rising(1, count+1), rising(-1, count-1))
	for at := range count {
		for _, n := range []int{-1, count, -count, math.MinInt, math.MaxInt, at + 1<<32, at - 1<<32, at + math.MinInt} {
			l = append(l, with(rising(0, count), at, n), with(falling(count, 0), at, n))
		}
		l = append(l, append(rising(0, count), at), append([]int{at}, rising(0, count)...))
		l = append(l, slices.Delete(rising(0, count), at, at+1))
		for other := range count {
			if other != at {
				l = append(l, with(rising(0, count), at, other))
			}
		}
	}
	return l
}

// TestOrdersThatAreNone: also where one stands ahead of one that it needs.
func TestOrdersThatAreNone(t *testing.T) {
	for _, p := range append(rightPlans(t), chain(mostTasks), back(mostTasks)) {
		l := as(len(p), api.Op{What: api.Sum, N: 1})
		for _, order := range noOrders(len(p)) {
			refuseAlong(t, p, l, order, api.ErrShape)
		}
		if _, err := All(p, l); err != nil {
			t.Errorf("%v: All: got %v", p, err)
		}
	}
}

// chain of so many tasks, each of which needs the one ahead.
func chain(count int) api.Plan {
	p := beside(count)
	for i := 1; i < count; i++ {
		p[i].Needs = []int{i - 1}
	}
	return p
}

// back through so many tasks: each needs the next one.
func back(count int) api.Plan {
	p := beside(count)
	for i := 1; i < count; i++ {
		p[i-1].Needs = []int{i}
	}
	return p
}

// TestLongestChain: of MaxTasks, from either end; it has one right order alone.
func TestLongestChain(t *testing.T) {
	up, down := rising(0, mostTasks), falling(mostTasks, 0)
	l := as(mostTasks, api.Op{What: api.Sum, N: 3})
	var want []api.Cell
	for i := range mostTasks {
		want = append(want, api.Cell{N: 3 * (i + 1)})
	}
	holdAll(t, chain(mostTasks), l, want)
	holdAlong(t, chain(mostTasks), l, up, want)
	refuseAlong(t, chain(mostTasks), l, down, api.ErrState)
	for i := range mostTasks - 1 {
		swapped := with(with(up, i, i+1), i+1, i)
		refuseAlong(t, chain(mostTasks), l, swapped, api.ErrState)
	}
	slices.Reverse(want)
	holdAll(t, back(mostTasks), l, want)
	holdAlong(t, back(mostTasks), l, down, want)
	refuseAlong(t, back(mostTasks), l, up, api.ErrState)
}

// TestChainBeyond: a chain doubles until that is beyond MaxValue; from there
// on all are faults, up to a First.
func TestChainBeyond(t *testing.T) {
	p, l := chain(mostTasks), as(mostTasks, api.Op{What: api.Product, N: 2})
	l[0].N, l[25].What, l[25].N = 100, api.First, 7
	want := as(mostTasks, api.Cell{Fault: true})
	for i := range 24 {
		want[i] = api.Cell{N: 100 << i} // 100 << 23 is the last that may be
	}
	for i := 25; i < mostTasks; i++ {
		want[i] = api.Cell{N: 7 << (i - 25)}
	}
	holdAll(t, p, l, want)
	holdAlong(t, p, l, rising(0, mostTasks), want)
}

// TestDense: MaxTasks, each of which needs all ahead of it: there are more ways
// than can be gone.
func TestDense(t *testing.T) {
	p := beside(mostTasks)
	for i := range p {
		p[i].Needs = rising(0, i)
	}
	l := as(mostTasks, api.Op{What: api.Sum, N: 1})
	want := as(mostTasks, api.Cell{N: 1})
	for i := 1; i < mostTasks; i++ {
		want[i].N = 2 * want[i-1].N // 1<<29 at the last
	}
	holdAll(t, p, l, want)
	holdAlong(t, p, l, rising(0, mostTasks), want)
	l[mostTasks-1].N = greatest - 1<<29 + 1
	want[mostTasks-1].N = greatest
	holdAll(t, p, l, want)
	l[mostTasks-1].N++
	want[mostTasks-1] = api.Cell{Fault: true}
	holdAll(t, p, l, want)
	holdAlong(t, p, l, rising(0, mostTasks), want)
}
