package cells

import (
	"math/big"
	"slices"
	"testing"

	"yardgang/api"
	"yardgang/plan"
)

// mayBe tells whether a number, however great, may be a value.
func mayBe(n *big.Int) bool { return n.CmpAbs(big.NewInt(greatest)) <= 0 }

// wrongOpModel tells whether an op is none of those that may be.
func wrongOpModel(o api.Op) bool {
	return !slices.Contains([]int{1, 2, 3, 4, 5}, o.What) || !mayBe(big.NewInt(int64(o.N)))
}

// upToModel: what comes up to each cell, from a number on, each reckoned anew
// and to the end, without a bound.
func upToModel(what, from int, in []api.Cell) []*big.Int {
	var l []*big.Int
	for to := range len(in) + 1 {
		n := big.NewInt(int64(from))
		for _, c := range in[:to] {
			m := big.NewInt(int64(c.N))
			switch {
			case what == api.Product:
				n.Mul(n, m)
			case what != api.Most:
				n.Add(n, m)
			case n.Cmp(m) < 0:
				n.Set(m)
			}
		}
		l = append(l, n)
	}
	return l
}

// doModel of an op and cells that are right.
func doModel(o api.Op, in []api.Cell) api.Cell {
	fault := api.Cell{Fault: true}
	if o.What == api.First {
		c := api.Cell{N: o.N}
		for i := len(in) - 1; i >= 0; i-- {
			if !in[i].Fault {
				c = in[i]
			}
		}
		return c
	}
	from := o.N
	if o.What == api.Split {
		from = 0
	}
	l := upToModel(o.What, from, in)
	if slices.Contains(in, fault) || slices.ContainsFunc(l, func(n *big.Int) bool { return !mayBe(n) }) {
		return fault
	}
	n := l[len(l)-1]
	if o.What == api.Split {
		if n.Sign() == 0 {
			return fault
		}
		n.Quo(big.NewInt(int64(o.N)), n)
	}
	return api.Cell{N: int(n.Int64())}
}

// doWrongModel tells what is wrong with an op and cells.
func doWrongModel(o api.Op, in []api.Cell) api.Errno {
	if wrongOpModel(o) {
		return api.ErrRange
	}
	if len(in) > mostTasks {
		return api.ErrFull
	}
	for _, c := range in {
		if !mayBe(big.NewInt(int64(c.N))) || c.Fault && c.N != 0 {
			return api.ErrRange
		}
	}
	return api.OK
}

// allModel of a plan and ops that are right: a task's cell is told as soon as
// those of all that it needs are, from the last task on, again and again.
func allModel(p api.Plan, l []api.Op) []api.Cell {
	out, known := make([]api.Cell, len(p)), map[int]bool{}
	for len(known) < len(p) {
		for i := len(p) - 1; i >= 0; i-- {
			var in []api.Cell
			for _, n := range p[i].Needs {
				if known[n] {
					in = append(in, out[n])
				}
			}
			if len(in) == len(p[i].Needs) {
				out[i], known[i] = doModel(l[i], in), true
			}
		}
	}
	return out
}

// opsWrongModel tells what is wrong with the ops of a plan that is right.
func opsWrongModel(p api.Plan, l []api.Op) api.Errno {
	if len(l) != len(p) {
		return api.ErrShape
	}
	if slices.ContainsFunc(l, wrongOpModel) {
		return api.ErrRange
	}
	return api.OK
}

// orderWrongModel tells what is wrong with an order: sorted it must be all
// numbers, and of each two places the later one's task may not be needed.
func orderWrongModel(p api.Plan, order []int) api.Errno {
	if !slices.Equal(slices.Sorted(slices.Values(order)), rising(0, len(p))) {
		return api.ErrShape
	}
	for k, i := range order {
		for _, later := range order[k:] {
			if slices.Contains(p[i].Needs, later) {
				return api.ErrState
			}
		}
	}
	return api.OK
}

// told counts how often each answer was wanted, so that none goes untested;
// and how often a cell was, and a fault.
type told struct {
	errs          [api.ErrCycle + 1]int
	cells, faults int
}

// count cells that were wanted.
func (n *told) count(l ...api.Cell) {
	for _, c := range l {
		if c.Fault {
			n.faults++
		} else {
			n.cells++
		}
	}
}

// do an op, and compare with the model.
func (n *told) do(t *testing.T, o api.Op, in []api.Cell) {
	wrong, want := doWrongModel(o, in), api.Cell{}
	n.errs[wrong]++
	if wrong == api.OK {
		want = doModel(o, in)
		n.count(want)
	}
	if got, err := Do(o, in); got != want || !is(err, wrong) {
		t.Fatalf("Do %v of %v: got %v %v, want %v %v", o, in, got, err, want, wrong)
	}
}

// all cells of a plan that is right, compared with the model, and along some
// orders.
func (n *told) all(t *testing.T, p api.Plan, l []api.Op, orders [][]int) {
	wrong, want := opsWrongModel(p, l), []api.Cell(nil)
	n.errs[wrong]++
	if wrong == api.OK {
		want = allModel(p, l)
		n.count(want...)
	}
	if got, err := All(p, l); !slices.Equal(got, want) || !is(err, wrong) {
		t.Fatalf("%v: All of %v: got %v %v, want %v %v", p, l, got, err, want, wrong)
	}
	for _, order := range orders {
		bad, out := wrong, want
		if bad == api.OK {
			bad = orderWrongModel(p, order)
		}
		if bad != api.OK {
			out = nil
		}
		n.errs[bad]++
		if got, err := Along(p, l, order); !slices.Equal(got, out) || !is(err, bad) {
			t.Fatalf("%v: Along %v of %v: got %v %v, want %v %v", p, order, l, got, err, out, bad)
		}
	}
}

// each answer must have been wanted, and cells and faults not seldom.
func (n *told) each(t *testing.T, l ...api.Errno) {
	t.Helper()
	for _, e := range l {
		if n.errs[e] == 0 {
			t.Errorf("%v was never wanted: %v", e, *n)
		}
	}
	if min(n.cells, n.faults) < 100 {
		t.Errorf("cells, or faults, were seldom wanted: %v", *n)
	}
}

// allLists of up to so many of some things, each as often as may be.
func allLists[T any](of []T, length int, do func([]T)) {
	l := make([]T, 0, length)
	var extend func()
	extend = func() {
		do(l)
		if len(l) == length {
			return
		}
		for _, one := range of {
			l = append(l, one)
			extend()
			l = l[:len(l)-1]
		}
	}
	extend()
}

// allPlans of so many tasks of work 1, with all needs that go in no ring.
func allPlans(count int, do func(api.Plan)) {
	for bits := range 1 << (count * count) {
		p := beside(count)
		for i := range p {
			for k := range p {
				if bits>>(i*count+k)&1 == 1 {
					p[i].Needs = append(p[i].Needs, k)
				}
			}
		}
		if _, err := plan.Check(p); err == nil {
			do(p)
		}
	}
}

// allOrders of so many tasks.
func allOrders(count int) [][]int {
	l := [][]int{nil}
	for n := range count {
		var longer [][]int
		for _, order := range l {
			for at := range n + 1 {
				longer = append(longer, slices.Insert(slices.Clone(order), at, n))
			}
		}
		l = longer
	}
	return l
}

// someOps: with each of some whats each of some numbers.
func someOps(whats []int, numbers ...int) []api.Op {
	var l []api.Op
	for _, what := range whats {
		for _, n := range numbers {
			l = append(l, api.Op{What: what, N: n})
		}
	}
	return l
}

// TestAllDo: many ops, of all lists of up to three cells out of nine, and fewer
// ops, of up to four out of six.
func TestAllDo(t *testing.T) {
	var n told
	in := row(t, "-M -2 -1 0 1 2 m M x")
	for _, o := range someOps(rising(1, 6), values...) {
		allLists(in, 3, func(l []api.Cell) { n.do(t, o, l) })
	}
	for _, o := range someOps(rising(1, 6), -greatest, -1, 0, 3, greatest) {
		allLists(row(t, "-M -1 0 2 M x"), 4, func(l []api.Cell) { n.do(t, o, l) })
	}
	n.each(t, api.OK)
}

// TestAllDoWrong: ops and cells that may be, and that may not, all together.
func TestAllDoWrong(t *testing.T) {
	var n told
	in := append(row(t, "-M 0 M x"), api.Cell{N: greatest + 1}, api.Cell{N: -greatest - 1}, api.Cell{N: 1, Fault: true})
	for _, o := range someOps(rising(-1, 8), -greatest-1, -greatest, 0, greatest, greatest+1) {
		allLists(in, 3, func(l []api.Cell) { n.do(t, o, l) })
	}
	n.each(t, api.OK, api.ErrRange)
}

// TestAllSplits: small numbers by small sums, on both sides of 0.
func TestAllSplits(t *testing.T) {
	for n := -40; n <= 40; n++ {
		for sum := -40; sum <= 40; sum++ {
			o, in := api.Op{What: api.Split, N: n}, []api.Cell{{N: sum - 3}, {N: 3}}
			holdDo(t, o, in, doModel(o, in))
		}
	}
}

// TestAllPlansOfThree: all of up to three tasks, with all ops of some, also
// with one too few and one too many, in all orders.
func TestAllPlansOfThree(t *testing.T) {
	var n told
	some := append(someOps(rising(1, 6), -1, 2, greatest), api.Op{}, api.Op{What: 1, N: greatest + 1})
	for count := range 4 {
		orders := allOrders(count)
		allPlans(count, func(p api.Plan) {
			allLists(some, count, func(l []api.Op) { n.all(t, p, l, orders) })
			allLists(some[:2], count+1, func(l []api.Op) { n.all(t, p, l, orders) })
		})
	}
	n.each(t, api.OK, api.ErrRange, api.ErrShape, api.ErrState)
}

// TestAllAlong: all plans of up to three tasks along all lists of numbers, of
// tasks and just beside, also with one too few and one too many.
func TestAllAlong(t *testing.T) {
	var n told
	for count := range 4 {
		var orders [][]int
		allLists(rising(-1, count+1), count+1, func(l []int) { orders = append(orders, slices.Clone(l)) })
		allPlans(count, func(p api.Plan) {
			allLists(someOps([]int{api.Split, api.First}, 7, greatest+1), count+1, func(l []api.Op) { n.all(t, p, l, orders) })
		})
	}
	n.each(t, api.OK, api.ErrRange, api.ErrShape, api.ErrState)
}

// TestAllPlansOfFour: with mixed ops, in all orders.
func TestAllPlansOfFour(t *testing.T) {
	m, n, orders := mixer(15), told{}, allOrders(4)
	allPlans(4, func(p api.Plan) {
		for range 20 {
			n.all(t, p, m.ops(4), orders)
		}
	})
	n.each(t, api.OK, api.ErrState)
}

// mixer of numbers: the same ones each time.
type mixer uint64

// below a bound, the next one.
func (m *mixer) below(bound int) int {
	*m = *m*6364136223846793005 + 1442695040888963407
	return int(uint64(*m)>>33) % bound
}

// value that is mixed: small, middling, great, or at an edge.
func (m *mixer) value() int {
	bound := []int{3, 10, 1000, 40000, greatest}[m.below(5)]
	switch m.below(12) {
	case 0:
		return greatest - m.below(2)
	case 1:
		return m.below(2) - greatest
	}
	return m.below(2*bound+1) - bound
}

// op that is mixed, and may be.
func (m *mixer) op() api.Op { return api.Op{What: 1 + m.below(5), N: m.value()} }

// ops that are mixed, so many of them.
func (m *mixer) ops(count int) []api.Op {
	l := make([]api.Op, count)
	for i := range l {
		l[i] = m.op()
	}
	return l
}

// cells that are mixed: how many there are, now and then one too many, and how
// often one is a fault, or one that may not be.
func (m *mixer) cells() []api.Cell {
	l := make([]api.Cell, m.below([]int{4, mostTasks + 2}[m.below(2)]))
	seldom, wrong := 1+m.below(60), 20+m.below(500)
	for i := range l {
		if l[i].N = m.value(); m.below(seldom) == 0 {
			l[i] = api.Cell{Fault: true}
		}
		if m.below(wrong) == 0 {
			l[i] = []api.Cell{{N: greatest + 1}, {N: -greatest - 1}, {N: -1, Fault: true}}[m.below(3)]
		}
	}
	return l
}

// shuffled numbers, from 0 to below a count.
func (m *mixer) shuffled(count int) []int {
	l := rising(0, count)
	for i := count - 1; i > 0; i-- {
		k := m.below(i + 1)
		l[i], l[k] = l[k], l[i]
	}
	return l
}

// plan that is mixed: how many tasks it has, and how often one needs another,
// and so are the tasks' places; and an order in which it was made, that is right.
func (m *mixer) plan() (api.Plan, []int) {
	p := beside(m.below(mostTasks + 1))
	order := m.shuffled(len(p))
	seldom := 1 + m.below(20)
	for i, at := range order {
		p[at].Work = 1 + m.below(api.MaxWork)
		for _, n := range order[:i] {
			if m.below(seldom) == 0 {
				p[at].Needs = append(p[at].Needs, n)
			}
		}
		slices.Sort(p[at].Needs)
	}
	return p, order
}

// rightOrder of a plan: of those that could be next any one.
func (m *mixer) rightOrder(p api.Plan) []int {
	var order []int
	missing := func(n int) bool { return !slices.Contains(order, n) }
	for len(order) < len(p) {
		for _, i := range m.shuffled(len(p)) {
			if missing(i) && !slices.ContainsFunc(p[i].Needs, missing) {
				order = append(order, i)
				break
			}
		}
	}
	return order
}

// changed order: two that change places, or one that is named twice, or that
// is none, or left out.
func (m *mixer) changed(order []int) []int {
	order = slices.Clone(order)
	if len(order) == 0 {
		return []int{0}
	}
	i, k := m.below(len(order)), m.below(len(order))
	switch m.below(5) {
	case 0:
		order[i] = order[k]
	case 1:
		order[i] = []int{-1, len(order)}[m.below(2)]
	case 2:
		order = slices.Delete(order, i, i+1)
	default:
		order[i], order[k] = order[k], order[i]
	}
	return order
}

// TestMixedDo: longer lists, right and wrong.
func TestMixedDo(t *testing.T) {
	m, n := mixer(7), told{}
	for range 30000 {
		o := m.op()
		if m.below(50) == 0 {
			o = []api.Op{{N: o.N}, {What: 6, N: o.N}, {What: o.What, N: greatest + 1}}[m.below(3)]
		}
		n.do(t, o, m.cells())
	}
	n.each(t, api.OK, api.ErrRange, api.ErrFull)
}

// TestMixedPlans: greater ones, along right orders and changed ones.
func TestMixedPlans(t *testing.T) {
	m, n := mixer(44), told{}
	for range 2000 {
		p, order := m.plan()
		l := m.ops(len(p))
		orders := [][]int{order, m.changed(order), m.shuffled(len(p))}
		for range 3 {
			order = m.rightOrder(p)
			orders = append(orders, order, m.changed(order))
		}
		n.all(t, p, l, orders)
	}
	n.each(t, api.OK, api.ErrShape, api.ErrState)
}

// TestCellsComeOfCells: what All tells of a task is what Do tells, of the cells
// that All tells of those that it needs; and Check finds nothing wrong with it.
func TestCellsComeOfCells(t *testing.T) {
	m := mixer(2)
	for range 1000 {
		p, _ := m.plan()
		l := m.ops(len(p))
		all, err := All(p, l)
		if err != nil || len(all) != len(p) {
			t.Fatalf("%v: All of %v: got %v %v", p, l, all, err)
		}
		for i, one := range p {
			var in []api.Cell
			for _, n := range one.Needs {
				in = append(in, all[n])
			}
			holdDo(t, l[i], in, all[i])
			if err := Check(all[i]); err != nil {
				t.Errorf("%v: %v", all[i], err)
			}
		}
	}
}
