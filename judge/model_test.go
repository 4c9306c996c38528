package judge

import (
	"slices"
	"testing"

	"yardgang/api"
	"yardgang/greedy"
	"yardgang/list"
	"yardgang/plain"
	"yardgang/plan"
)

// within a least number and a greatest one.
func within(n, least, greatest int) bool { return least <= n && n <= greatest }

// bitsModel tells whether bits may be so, of a plan and hands that are right:
// each one is held against each other one.
func bitsModel(p api.Plan, hands int, l []api.Bit) api.Errno {
	for at, b := range l {
		if !within(b.Step, 0, last) || !within(b.Hand, 0, hands-1) || !within(b.Task, 0, len(p)-1) {
			return api.ErrRange
		}
		work := 1
		for _, o := range l[:at] {
			if o.Step == b.Step && (o.Hand == b.Hand || o.Task == b.Task) {
				return api.ErrClash
			}
			if o.Task == b.Task {
				work++
			}
		}
		if work > p[b.Task].Work {
			return api.ErrFull
		}
	}
	work := 0
	for _, t := range p {
		work += t.Work
	}
	if len(l) < work { // as none has too many
		return api.ErrNone
	}
	for _, b := range l {
		for _, o := range l {
			if slices.Contains(p[b.Task].Needs, o.Task) && o.Step >= b.Step {
				return api.ErrState
			}
		}
	}
	return api.OK
}

// endsModel of bits that may be so.
func endsModel(p api.Plan, l []api.Bit) []int {
	ends := make([]int, len(p))
	for _, b := range l {
		ends[b.Task] = max(ends[b.Task], b.Step)
	}
	return ends
}

// staysModel tells whether stays may be so, of a plan and hands that are right:
// each one is held against each other one.
func staysModel(p api.Plan, hands int, l []api.Stay) api.Errno {
	for at, s := range l {
		if !within(s.Hand, 0, hands-1) || !within(s.Task, 0, len(p)-1) || !within(s.From, 0, s.To) || !within(s.To, 0, last) {
			return api.ErrRange
		}
		if s.From+p[s.Task].Work != s.To {
			return api.ErrShape
		}
		for _, o := range l[:at] {
			if o.Task == s.Task || o.Hand == s.Hand && max(o.From, s.From) < min(o.To, s.To) {
				return api.ErrClash
			}
		}
	}
	if len(l) < len(p) { // as none is there twice
		return api.ErrNone
	}
	for _, s := range l {
		for _, o := range l {
			if slices.Contains(p[s.Task].Needs, o.Task) && o.To > s.From {
				return api.ErrState
			}
		}
	}
	return api.OK
}

// told counts how often each answer was wanted, so that none goes untested.
type told [api.ErrCycle + 1]int

// bits are compared with the model.
func (n *told) bits(t *testing.T, p api.Plan, hands int, l []api.Bit) {
	want := bitsModel(p, hands, l)
	n[want]++
	if got := plain.Told(Bits(p, hands, l)); got != want {
		t.Fatalf("%v: Bits by %d of %v: got %v, want %v", p, hands, l, got, want)
	}
	var ends []int
	if want == api.OK {
		ends = endsModel(p, l)
	}
	if got, err := Ends(p, hands, l); plain.Told(err) != want || !slices.Equal(got, ends) {
		t.Fatalf("%v: Ends by %d of %v: got %v %v, want %v %v", p, hands, l, got, err, ends, want)
	}
}

// stays are compared with the model.
func (n *told) stays(t *testing.T, p api.Plan, hands int, l []api.Stay) {
	want := staysModel(p, hands, l)
	n[want]++
	if got := plain.Told(Stays(p, hands, l)); got != want {
		t.Fatalf("%v: Stays by %d of %v: got %v, want %v", p, hands, l, got, want)
	}
}

// each answer must have been wanted.
func (n *told) each(t *testing.T, l ...api.Errno) {
	t.Helper()
	for _, e := range l {
		if n[e] == 0 {
			t.Errorf("%v was never wanted: %v", e, *n)
		}
	}
}

// needing plan of n tasks: by a bit each, whether a task needs another one,
// or itself.
func needing(n, bits int) api.Plan {
	p := beside(n, 1)
	for i := range p {
		for k := range n {
			if bits&1 == 1 {
				p[i].Needs = append(p[i].Needs, k)
			}
			bits >>= 1
		}
	}
	return p
}

// allPlans of so many tasks, with all needs that go in no ring, and all works
// of up to so many.
func allPlans(count, mostOf int, do func(api.Plan)) {
	works := 1
	for range count {
		works *= mostOf
	}
	for bits := range 1 << (count * count) {
		p := needing(count, bits)
		if _, err := plan.Check(p); err != nil {
			continue
		}
		for number := range works {
			for i := range p {
				p[i].Work = 1 + number%mostOf
				number /= mostOf
			}
			do(p)
		}
	}
}

// allLists of up to so many of some things, each as often as may be.
func allLists[T any](of []T, length int, do func([]T)) {
	l := make([]T, 0, length)
	var extend func()
	extend = func() {
		do(l)
		if len(l) == length {
			return
		}
		for _, one := range of {
			l = append(l, one)
			extend()
			l = l[:len(l)-1]
		}
	}
	extend()
}

// someBits: of so many steps, hands and tasks, from 0 on.
func someBits(steps, hands, tasks int) (l []api.Bit) {
	for step := range steps {
		for hand := range hands {
			for i := range tasks {
				l = append(l, api.Bit{Step: step, Hand: hand, Task: i})
			}
		}
	}
	return l
}

// someStays: of so many hands and tasks, from 0 on, from and to all steps of so many.
func someStays(hands, tasks, steps int) (l []api.Stay) {
	for hand := range hands {
		for i := range tasks {
			for from := range steps {
				for to := range steps {
					l = append(l, api.Stay{Hand: hand, Task: i, From: from, To: to})
				}
			}
		}
	}
	return l
}

// TestAllBits: all lists of up to four bits, of plans of up to two tasks, also
// by one hand too few, and for one task too few.
func TestAllBits(t *testing.T) {
	var n told
	for count := range 3 {
		allPlans(count, 2, func(p api.Plan) {
			allLists(someBits(3, 2, 2), 4, func(l []api.Bit) {
				n.bits(t, p, 1, l)
				n.bits(t, p, 2, l)
			})
		})
	}
	n.each(t, api.OK, api.ErrRange, api.ErrClash, api.ErrFull, api.ErrNone, api.ErrState)
}

// TestAllBitsOfThree: all lists of up to three bits, of plans of three tasks.
func TestAllBitsOfThree(t *testing.T) {
	var n told
	of := someBits(3, 2, 3)
	allPlans(3, 1, func(p api.Plan) {
		allLists(of, 3, func(l []api.Bit) { n.bits(t, p, 2, l) })
	})
	n.each(t, api.OK, api.ErrClash, api.ErrFull, api.ErrNone, api.ErrState)
}

// TestAllStays: all lists of up to two stays, and all of up to three short
// ones, of plans of up to two tasks, also by one hand too few, and for one task
// too few.
func TestAllStays(t *testing.T) {
	var n told
	for count := range 3 {
		allPlans(count, 3, func(p api.Plan) {
			allLists(someStays(2, 2, 3), 3, func(l []api.Stay) { n.stays(t, p, 2, l) })
			allLists(someStays(2, 2, 6), 2, func(l []api.Stay) {
				n.stays(t, p, 1, l)
				n.stays(t, p, 2, l)
			})
		})
	}
	n.each(t, api.OK, api.ErrRange, api.ErrShape, api.ErrClash, api.ErrNone, api.ErrState)
}

// TestAllStaysOfThree: all lists of up to three stays that are as long as the
// work, of plans of three tasks.
func TestAllStaysOfThree(t *testing.T) {
	var n told
	allPlans(3, 2, func(p api.Plan) {
		of := slices.DeleteFunc(someStays(2, 3, 5), func(s api.Stay) bool { return s.To-s.From != p[s.Task].Work })
		allLists(of, 3, func(l []api.Stay) { n.stays(t, p, 2, l) })
	})
	n.each(t, api.OK, api.ErrClash, api.ErrNone, api.ErrState)
}

// mixer of numbers: the same ones each time.
type mixer uint64

// below a bound, the next one.
func (m *mixer) below(bound int) int {
	*m = *m*6364136223846793005 + 1442695040888963407
	return int(uint64(*m)>>33) % bound
}

// shuffled list.
func shuffled[T any](m *mixer, l []T) []T {
	l = slices.Clone(l)
	for i := len(l) - 1; i > 0; i-- {
		k := m.below(i + 1)
		l[i], l[k] = l[k], l[i]
	}
	return l
}

// mixed plan: how many tasks it has, how often one needs another, and how much
// work they are, is mixed, and so are the tasks' places.
func (m *mixer) mixed() api.Plan {
	p := beside(m.below(most+1), 1)
	places := shuffled(m, rising(0, len(p)))
	seldom, works := 1+m.below(20), 1+m.below(mostWork)
	for i, at := range places {
		p[at].Work = 1 + m.below(works)
		for _, n := range places[:i] {
			if m.below(seldom) == 0 {
				p[at].Needs = append(p[at].Needs, n)
			}
		}
		slices.Sort(p[at].Needs)
	}
	return p
}

// near those that are below a bound: mostly one of them.
func (m *mixer) near(bound int) int { return m.below(bound+2) - 1 }

// changeBit: change one number of it, leave the bit out, or lay one more anywhere.
func (m *mixer) changeBit(p api.Plan, hands int, l []api.Bit) []api.Bit {
	steps := []int{m.near(20), m.near(600), last - 1 + m.near(2)}
	one := api.Bit{Step: steps[m.below(3)], Hand: m.near(hands), Task: m.near(len(p))}
	if len(l) == 0 {
		return append(l, one)
	}
	at := m.below(len(l))
	switch m.below(6) {
	case 0:
		l[at].Step = one.Step
	case 1:
		l[at].Hand = one.Hand
	case 2:
		l[at].Task = one.Task
	case 3:
		return slices.Delete(l, at, at+1)
	case 4:
		return slices.Insert(l, at, one)
	case 5:
		other := m.below(len(l))
		l[at].Step, l[other].Step = l[other].Step, l[at].Step
	}
	return l
}

// changeStay: change one number of it, leave the stay out, lay one more anywhere, or
// move it.
func (m *mixer) changeStay(p api.Plan, hands int, l []api.Stay) []api.Stay {
	one := api.Stay{Hand: m.near(hands), Task: m.near(len(p)), From: m.near(100)}
	one.To = one.From + 1 + m.near(mostWork)
	if len(l) == 0 {
		return append(l, one)
	}
	at := m.below(len(l))
	switch m.below(8) {
	case 0:
		l[at].Hand = one.Hand
	case 1:
		l[at].Task = one.Task
	case 2:
		l[at].From = one.From
	case 3:
		l[at].To = one.To
	case 4:
		return slices.Delete(l, at, at+1)
	case 5:
		return slices.Insert(l, at, one)
	case 6:
		by := m.below(5) - 2
		l[at].From, l[at].To = l[at].From+by, l[at].To+by
	case 7:
		by := last + 1 - m.below(3) - l[at].To
		l[at].From, l[at].To = l[at].From+by, l[at].To+by
	}
	return l
}

// TestMixedBits: what greedy tells may be so, in whatever order; and with a
// few changes it is as the model says.
func TestMixedBits(t *testing.T) {
	m, n := mixer(11), told{}
	for range 200 {
		p := m.mixed()
		for hands := 1; hands <= all; hands++ {
			told, err := greedy.Run(p, hands)
			if err != nil {
				t.Fatal(p, hands, err)
			}
			holdBits(t, p, hands, told, endsModel(p, told))
			holdBits(t, p, hands, shuffled(&m, told), endsModel(p, told))
			for range 8 {
				l := shuffled(&m, told)
				for range 1 + m.below(3) {
					l = m.changeBit(p, hands, l)
				}
				n.bits(t, p, hands, l)
			}
		}
	}
	n.each(t, api.OK, api.ErrRange, api.ErrClash, api.ErrFull, api.ErrNone, api.ErrState)
}

// TestMixedStays: what list tells may be so, in whatever order, and so may the
// bits of it; and with a few changes it is as the model says.
func TestMixedStays(t *testing.T) {
	m, n := mixer(12), told{}
	for range 200 {
		p := m.mixed()
		for hands := 1; hands <= all; hands++ {
			told, err := list.Run(p, hands, shuffled(&m, rising(0, len(p))))
			if err != nil {
				t.Fatal(p, hands, err)
			}
			holdStays(t, p, hands, told, api.OK)
			holdStays(t, p, hands, shuffled(&m, told), api.OK)
			holdBits(t, p, hands, shuffled(&m, cut(told)), lasts(told))
			for range 20 {
				l := shuffled(&m, told)
				for range 1 + m.below(3) {
					l = m.changeStay(p, hands, l)
				}
				n.stays(t, p, hands, l)
			}
		}
	}
	n.each(t, api.OK, api.ErrRange, api.ErrShape, api.ErrClash, api.ErrNone, api.ErrState)
}
