package list

import (
	"slices"
	"testing"

	"yardgang/api"
	"yardgang/plan"
)

// freeAt a time: the least hand that has nothing then, by the stays that were
// told; -1, if none is.
func freeAt(stays []api.Stay, hands, now int) int {
	for hand := range hands {
		is := true
		for _, s := range stays {
			is = is && (s.Hand != hand || s.To <= now)
		}
		if is {
			return hand
		}
	}
	return -1
}

// readyAt a time: the one that stands first in the order of those that are in
// no stay that was told, and all of whose needs are in one that is over; -1,
// if none is.
func readyAt(p api.Plan, stays []api.Stay, order []int, now int) int {
	taken, done := make([]bool, len(p)), make([]bool, len(p))
	for _, s := range stays {
		taken[s.Task] = true
		done[s.Task] = s.To <= now
	}
	for _, i := range order {
		is := !taken[i]
		for _, n := range p[i].Needs {
			is = is && done[n]
		}
		if is {
			return i
		}
	}
	return -1
}

// judge what Run told, stay by stay: by the ones ahead, who had to take what,
// and when. It tells when the last one is done.
func judge(t *testing.T, p api.Plan, hands int, order []int, stays []api.Stay) int {
	if len(stays) != len(p) {
		t.Fatalf("%v by %d, %v: got %v", p, hands, order, stays)
	}
	now, last := 0, 0
	for at, got := range stays {
		ahead := stays[:at]
		for freeAt(ahead, hands, now) < 0 || readyAt(p, ahead, order, now) < 0 {
			if now++; now > most*mostWork {
				t.Fatalf("%v by %d, %v: nobody goes on behind %v", p, hands, order, ahead)
			}
		}
		i := readyAt(p, ahead, order, now)
		want := api.Stay{Hand: freeAt(ahead, hands, now), Task: i, From: now, To: now + p[i].Work}
		if got != want {
			t.Fatalf("%v by %d, %v: got %v, want %v at %d", p, hands, order, stays, want, at)
		}
		last = max(last, got.To)
	}
	return last
}

// ways of work from each task to an end, with it: they are gone again and
// again, till nothing moves.
func ways(p api.Plan) []int {
	l := make([]int, len(p))
	for moved := true; moved; {
		moved = false
		for i := range p {
			way := p[i].Work
			for k, t := range p {
				if slices.Contains(t.Needs, i) {
					way = max(way, p[i].Work+l[k])
				}
			}
			moved = moved || way != l[i]
			l[i] = way
		}
	}
	return l
}

// compare what is told of a plan that is right, by an order, with the model;
// and with how long it may take, by its work and its span.
func compare(t *testing.T, p api.Plan, hands int, order []int, span int) {
	last := judge(t, p, hands, order, ran(t, p, hands, order))
	long, err := Long(p, hands, order)
	if err != nil || long != last {
		t.Fatalf("%v: Long by %d, %v: got %d %v, want %d", p, hands, order, long, err, last)
	}
	work := 0
	for _, task := range p {
		work += task.Work
	}
	if long < span || long*hands < work || long*hands > work+(hands-1)*span {
		t.Fatalf("%v by %d, %v: it took %d, of work %d and span %d", p, hands, order, long, work, span)
	}
}

// compareUrgent holds the order that Urgent tells against the model: it names
// each once, as nothing stands twice or the wrong way round.
func compareUrgent(t *testing.T, p api.Plan, tails []int) []int {
	order, err := Urgent(p)
	if err != nil || len(order) != len(p) {
		t.Fatalf("%v: Urgent: got %v %v", p, order, err)
	}
	for n := 1; n < len(order); n++ {
		i, k := order[n-1], order[n]
		if tails[i] < tails[k] || tails[i] == tails[k] && i >= k {
			t.Fatalf("%v: Urgent: got %v, of tails %v", p, order, tails)
		}
	}
	return order
}

// orders of so many tasks, all of them.
func orders(count int) [][]int {
	l := [][]int{nil}
	for n := range count {
		var longer [][]int
		for _, order := range l {
			for at := range n + 1 {
				longer = append(longer, slices.Insert(slices.Clone(order), at, n))
			}
		}
		l = longer
	}
	return l
}

// needing plan of n tasks: by a bit each, whether a task needs another one,
// or itself.
func needing(n, bits int) api.Plan {
	p := beside(n, 1)
	for i := range p {
		for k := range n {
			if bits&1 == 1 {
				p[i].Needs = append(p[i].Needs, k)
			}
			bits >>= 1
		}
	}
	return p
}

// working: works from 1 to so many, by a number to that base.
func working(p api.Plan, number, base int) {
	for i := range p {
		p[i].Work = 1 + number%base
		number /= base
	}
}

// compareAll orders of a plan, by all hands that could be of use and one more.
func compareAll(t *testing.T, p api.Plan, orders [][]int) {
	tails := ways(p)
	compareUrgent(t, p, tails)
	span := slices.Max(append(tails, 0))
	for hands := 1; hands <= len(p)+1; hands++ {
		for _, order := range orders {
			compare(t, p, hands, order, span)
		}
	}
}

// allPlans of so many tasks, with all needs, all works of up to so many, and
// all orders; and of those that are no plan Check's error.
func allPlans(t *testing.T, count, mostOf int) {
	orders, works := orders(count), 1
	for range count {
		works *= mostOf
	}
	for bits := range 1 << (count * count) {
		p := needing(count, bits)
		if _, err := plan.Check(p); err != nil {
			refuses(t, "ring", p, 1+bits%all, rising(0, count), api.ErrCycle)
			refuses(t, "ring", p, 0, nil, api.ErrCycle)
			continue
		}
		for number := range works {
			working(p, number, mostOf)
			compareAll(t, p, orders)
		}
	}
}

func TestAllPlansOfThree(t *testing.T) {
	for count := range 4 {
		allPlans(t, count, 4)
	}
}

func TestAllPlansOfFour(t *testing.T) { allPlans(t, 4, 2) }

// mixer of numbers: the same ones each time.
type mixer uint64

// below a bound, the next one.
func (m *mixer) below(bound int) int {
	*m = *m*6364136223846793005 + 1442695040888963407
	return int(uint64(*m)>>33) % bound
}

// shuffled numbers, from 0 to below a count.
func (m *mixer) shuffled(count int) []int {
	l := rising(0, count)
	for i := count - 1; i > 0; i-- {
		k := m.below(i + 1)
		l[i], l[k] = l[k], l[i]
	}
	return l
}

// mixed plan: how many tasks it has, how often one needs another, and how much
// work they are, is mixed, and so are the tasks' places.
func (m *mixer) mixed() api.Plan {
	p := beside(m.below(most+1), 1)
	places := m.shuffled(len(p))
	seldom, works := 1+m.below(20), 1+m.below(mostWork)
	for i, at := range places {
		p[at].Work = 1 + m.below(works)
		for _, n := range places[:i] {
			if m.below(seldom) == 0 {
				p[at].Needs = append(p[at].Needs, n)
			}
		}
		slices.Sort(p[at].Needs)
	}
	return p
}

func TestMixedPlans(t *testing.T) {
	m := mixer(10)
	for range 300 {
		p := m.mixed()
		tails := ways(p)
		span := slices.Max(append(tails, 0))
		urgent := compareUrgent(t, p, tails)
		for hands := 1; hands <= all; hands++ {
			compare(t, p, hands, urgent, span)
			compare(t, p, hands, rising(0, len(p)), span)
			compare(t, p, hands, falling(len(p), 0), span)
			compare(t, p, hands, m.shuffled(len(p)), span)
		}
	}
}
