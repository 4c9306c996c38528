package gang

import (
	"fmt"
	"slices"
	"testing"

	"yardgang/api"
	"yardgang/judge"
	"yardgang/plan"
)

// model of a gang, in lists alone: none of the layers that a gang is made of
// is asked.
type model struct {
	p       api.Plan
	room    int
	spent   []int   // of each task the units that were done
	has     []int   // of each hand its task; -1: none
	near    []int   // of each hand; -1: none
	rings   [][]int // of each hand
	spilled []int
	asleep  []int
}

func newModel(p api.Plan, hands, room int) *model {
	m := &model{p: p, room: room, spent: make([]int, len(p)), rings: make([][]int, hands)}
	for range hands {
		m.has = append(m.has, -1)
		m.near = append(m.near, -1)
	}
	for i, t := range p {
		if len(t.Needs) == 0 {
			m.spilled = append(m.spilled, i)
		}
	}
	return m
}

// over is a task of which all units were done.
func (m *model) over(i int) bool { return m.spent[i] == m.p[i].Work }

// left tasks.
func (m *model) left() int {
	n := 0
	for i := range m.p {
		if !m.over(i) {
			n++
		}
	}
	return n
}

// held tasks, of all places that they may be in.
func (m *model) held() []int {
	l := slices.Clone(m.spilled)
	for h := range m.has {
		l = append(l, m.has[h], m.near[h])
		l = append(l, m.rings[h]...)
	}
	l = slices.DeleteFunc(l, func(i int) bool { return i < 0 })
	slices.Sort(l)
	return l
}

// half of a ring, rounded up, is cut off.
func half(ring *[]int) []int {
	n := (len(*ring) + 1) / 2
	l := slices.Clone((*ring)[:n])
	*ring = slices.Clone((*ring)[n:])
	return l
}

// put one into a hand's Hand: what goes out is told.
func (m *model) put(h, i int) (out []int) {
	if m.near[h] >= 0 {
		if len(m.rings[h]) == m.room {
			out = half(&m.rings[h])
		}
		m.rings[h] = append(m.rings[h], m.near[h])
	}
	m.near[h] = i
	return out
}

// readyBy a task that is over: those that need it, and of which all that they
// need are over.
func (m *model) readyBy(i int) (l []int) {
	for k, t := range m.p {
		if slices.Contains(t.Needs, i) && !slices.ContainsFunc(t.Needs, func(n int) bool { return !m.over(n) }) {
			l = append(l, k)
		}
	}
	return l
}

// step of a hand that there is, with a pick that may be.
func (m *model) step(h, pick int) []api.Deed {
	if slices.Contains(m.asleep, h) {
		return nil
	}
	if m.has[h] >= 0 {
		return m.work(h)
	}
	what, other := 0, 0
	rob := pick % len(m.has)
	switch {
	case m.near[h] >= 0:
		what, m.has[h], m.near[h] = api.Took, m.near[h], -1
	case len(m.rings[h]) > 0:
		last := len(m.rings[h]) - 1
		what, m.has[h], m.rings[h] = api.Took, m.rings[h][last], m.rings[h][:last]
	case len(m.spilled) > 0:
		what, m.has[h], m.spilled = api.Fetched, m.spilled[0], m.spilled[1:]
	case rob != h && len(m.rings[rob]) > 0:
		what, other = api.Stole, rob
		l := half(&m.rings[rob])
		m.has[h] = l[0]
		for _, i := range l[1:] {
			if out := m.put(h, i); len(out) > 0 {
				panic("something goes out of a robber's Hand")
			}
		}
	default:
		m.asleep = append(m.asleep, h)
		return []api.Deed{{What: api.Slept, Hand: h}}
	}
	return []api.Deed{{What: what, Hand: h, Task: m.has[h], Other: other}}
}

// work of a hand that has a task.
func (m *model) work(h int) []api.Deed {
	i := m.has[h]
	m.spent[i]++
	if !m.over(i) {
		return nil
	}
	m.has[h] = -1
	deeds := []api.Deed{{What: api.Finished, Hand: h, Task: i}}
	for _, k := range m.readyBy(i) {
		m.spilled = append(m.spilled, m.put(h, k)...)
	}
	for range m.readyBy(i) {
		if len(m.asleep) > 0 {
			deeds = append(deeds, api.Deed{What: api.Woke, Hand: m.asleep[0]})
			m.asleep = m.asleep[1:]
		}
	}
	return deeds
}

// key of a model: two of the same plan and room that have the same are the same.
func (m *model) key() string {
	return fmt.Sprint(m.spent, m.has, m.near, m.rings, m.spilled, m.asleep)
}

// call of Step.
type call struct{ h, pick int }

// pair of a gang and a model of it, that are asked the same, and what they
// were asked so far.
type pair struct {
	t     *testing.T
	gang  *Gang
	model *model
	calls []call
	bits  []api.Bit
}

func begin(t *testing.T, p api.Plan, hands, room int) *pair {
	t.Helper()
	b := &pair{t: t, gang: made(t, p, hands, room), model: newModel(p, hands, room)}
	b.hold(nil, nil)
	return b
}

// fault is told with all that led to it.
func (b *pair) fault(what string, got, want any) {
	b.t.Helper()
	b.t.Fatalf("%v by %d, room %d, %v: %s: got %v, want %v", b.model.p, len(b.model.has), b.model.room, b.calls, what, got, want)
}

// step of both.
func (b *pair) step(h, pick int) []api.Deed {
	b.calls = append(b.calls, call{h, pick})
	if task := b.model.has[h]; task >= 0 {
		b.bits = append(b.bits, api.Bit{Step: len(b.calls), Hand: h, Task: task})
	}
	got, err := b.gang.Step(h, pick)
	if err != nil {
		b.fault("Step", err, nil)
	}
	b.hold(got, b.model.step(h, pick))
	return got
}

// hold what came of a step, and how the gang stands behind it, against the model.
func (b *pair) hold(got, want []api.Deed) {
	g, m := b.gang, b.model
	if !slices.Equal(got, want) {
		b.fault("Step", got, want)
	}
	if got, want := g.Held(), m.held(); !slices.Equal(got, want) {
		b.fault("Held", got, want)
	}
	if got, want := g.Left(), m.left(); got != want {
		b.fault("Left", got, want)
	}
	for h := range m.has {
		if got, err := g.Has(h); got != m.has[h] || err != nil {
			b.fault("Has", got, m.has[h])
		}
		if got, want := g.hands[h].Near(), m.near[h]; got != want {
			b.fault("near", got, want)
		}
		some := len(m.rings[h])
		if m.near[h] >= 0 {
			some++
		}
		if got := g.hands[h].Len(); got != some {
			b.fault("in the Hand", got, some)
		}
		if got, err := g.park.Awake(h); err != nil || got == slices.Contains(m.asleep, h) {
			b.fault("awake", got, !got)
		}
	}
	front, behind := g.spill.Len()
	if got, want := front+behind, len(m.spilled); got != want || front != min(got, m.room) {
		b.fault("spilled", got, want)
	}
}

// done are all tasks: each of them just its work, and behind those that it
// needs.
func (b *pair) done() {
	if err := judge.Bits(b.model.p, len(b.model.has), b.bits); err != nil {
		b.fault("the bits", err, nil)
	}
	if b.gang.Left() != 0 || len(b.gang.Held()) != 0 {
		b.fault("the end", b.gang.Held(), nil)
	}
}

// rounds of steps, one of each hand, till all is done: how many they were. In
// each of them a unit of work is done, or a task is begun.
func (b *pair) rounds(pick func() int) int {
	hands, rounds := len(b.model.has), 0
	for ; b.model.left() > 0; rounds++ {
		if rounds == whole(b.model.p)+len(b.model.p) {
			b.fault("rounds", "more", rounds)
		}
		for h := range hands {
			b.step(h, pick())
		}
	}
	b.done()
	return rounds
}

// everywhere goes to all that a gang may come to, whichever hand does its
// next step and whatever it picks, and holds each step from there, and the
// rounds to the end, against the model.
func everywhere(t *testing.T, p api.Plan, hands, room int) {
	ways := [][]call{nil}
	seen := map[string]int{newModel(p, hands, room).key(): 1}
	for len(ways) > 0 {
		way := ways[0]
		ways = ways[1:]
		again(t, p, hands, room, way).rounds(func() int { return len(way) })
		for h := range hands {
			for pick := range hands {
				b := again(t, p, hands, room, way)
				b.step(h, pick)
				key := b.model.key()
				seen[key]++
				if seen[key] == 1 {
					ways = append(ways, b.calls)
				}
			}
		}
	}
}

// again a way that was gone already, so that nothing is held against the model.
func again(t *testing.T, p api.Plan, hands, room int, way []call) *pair {
	b := &pair{t: t, gang: made(t, p, hands, room), model: newModel(p, hands, room), calls: slices.Clone(way)}
	for n, c := range way {
		if task := b.model.has[c.h]; task >= 0 {
			b.bits = append(b.bits, api.Bit{Step: n + 1, Hand: c.h, Task: task})
		}
		b.model.step(c.h, c.pick)
		b.gang.Step(c.h, c.pick)
	}
	return b
}

// needing plan of n tasks: by a bit each, whether a task needs another one,
// or itself.
func needing(n, bits int) api.Plan {
	p := beside(n, 1)
	for i := range p {
		for k := range n {
			if bits&1 == 1 {
				p[i].Needs = append(p[i].Needs, k)
			}
			bits >>= 1
		}
	}
	return p
}

// allPlans of so many tasks, with all needs that go in no ring.
func allPlans(t *testing.T, n int, do func(api.Plan)) {
	for bits := range 1 << (n * n) {
		p := needing(n, bits)
		if _, err := plan.Check(p); err != nil {
			refused(t, p, 1+bits%mostHands, 1+bits%mostRoom, api.ErrCycle)
			continue
		}
		do(p)
	}
}

// TestEverywhereOfSmallPlans: all needs of up to three tasks, with all works
// of up to two, by up to three hands; and all needs of four, by two.
func TestEverywhereOfSmallPlans(t *testing.T) {
	for n := range 4 {
		allPlans(t, n, func(p api.Plan) {
			for works := range 1 << n {
				for i := range p {
					p[i].Work = 1 + works>>i&1
				}
				for hands := 1; hands <= 3; hands++ {
					everywhere(t, p, hands, 1)
				}
			}
		})
	}
	allPlans(t, 4, func(p api.Plan) { everywhere(t, p, 2, 1) })
}

// TestEverywhere: of plans whose hands overflow, rob, sleep and wake.
func TestEverywhere(t *testing.T) {
	for _, c := range []struct {
		text        string
		hands, room int
	}{
		{"1 1<0", 4, 1},
		{"1 1<0 1<0 1<0", 3, 2},
		{"1 1<0 1<0 1<0 1<0", 2, 1},
		{"1 1<0 1<0 1<0 1<0", 2, 2},
		{"1 1<0 1<0 1<0 1<0 1<0 1<0", 2, 4},
		{"1 1<0 1<0 1<0 1<0 1<0", 3, 2},
		{"1 1<0 1<0 1<0 1<0 1<0", 3, 16},
		{"1 1<0 1<1 1<2", 3, 1},
		{"1 1<0 1<0 1<1,2", 3, 2},
		{"1 1<0 1<0 1<1 1<1 1<2", 2, 1},
		{"1 1<0 1<0 1<0 1<3 1<3", 2, 2},
		{"1 1 1 1<0,1 1<1,2", 3, 1},
	} {
		everywhere(t, read(t, c.text), c.hands, c.room)
	}
}

// mixer of numbers: the same ones each time.
type mixer uint64

// below a bound, the next one.
func (m *mixer) below(bound int) int {
	*m = *m*6364136223846793005 + 1442695040888963407
	return int(uint64(*m)>>33) % bound
}

// mixed plan: how many tasks it has, how often one needs another, and how much
// work they are, is mixed, and so are the tasks' places.
func (m *mixer) mixed() api.Plan {
	p := beside(m.below(mostTasks+1), 1)
	places := rising(0, len(p))
	for i := len(p) - 1; i > 0; i-- {
		k := m.below(i + 1)
		places[i], places[k] = places[k], places[i]
	}
	seldom, works := 1+m.below(20), 1+m.below(4)
	// In some plans all need the first few, so that many are ready at once.
	few := len(p)
	if m.below(2) == 0 {
		few = 1 + m.below(3)
	}
	for i, at := range places {
		p[at].Work = 1 + m.below(works)
		for _, n := range places[:min(i, few)] {
			if few < len(p) || m.below(seldom) == 0 {
				p[at].Needs = append(p[at].Needs, n)
			}
		}
		slices.Sort(p[at].Needs)
	}
	return p
}

// whole work of a plan.
func whole(p api.Plan) int {
	work := 0
	for _, t := range p {
		work += t.Work
	}
	return work
}

// seen is what came about in mixed runs, so that nothing goes untested.
type seen struct {
	deeds                   [api.Woke + 1]int
	spilled, many, wokeSome int
}

// count what came of a step.
func (s *seen) count(b *pair, spilled int, deeds []api.Deed) {
	for _, d := range deeds {
		s.deeds[d.What]++
	}
	if len(b.model.spilled) > spilled {
		s.spilled++
	}
	if len(deeds) == 1 && deeds[0].What == api.Stole && b.gang.hands[deeds[0].Hand].Len() > 1 {
		s.many++
	}
	if len(deeds) > 1 && len(b.model.asleep) > 0 {
		s.wokeSome++
	}
}

// step of a pair is counted.
func (s *seen) step(b *pair, h, pick int) {
	spilled := len(b.model.spilled)
	s.count(b, spilled, b.step(h, pick))
}

// each thing must have come about.
func (s *seen) each(t *testing.T) {
	t.Helper()
	if slices.Contains(s.deeds[api.Took:], 0) || s.spilled == 0 || s.many == 0 || s.wokeSome == 0 {
		t.Errorf("something never came about: %+v", *s)
	}
}

// TestMixedRuns: whichever hand does the next step, and whatever it picks,
// till all is done. In some runs one hand does most of the steps.
func TestMixedRuns(t *testing.T) {
	m := mixer(13)
	var s seen
	for n := range 1200 {
		p := m.mixed()
		hands, room := 1+n%mostHands, 1+m.below(mostRoom)
		if m.below(2) == 0 {
			room = 1 + m.below(3)
		}
		first := 1 + m.below(hands)
		b := begin(t, p, hands, room)
		for b.model.left() > 0 {
			h := m.below(hands)
			if m.below(3) > 0 {
				h = m.below(first)
			}
			s.step(b, h, m.below(1<<30))
			if len(b.calls) > 9000 {
				b.fault("steps", "no end", "an end")
			}
		}
		b.done()
	}
	s.each(t)
}

// TestRounds: where each hand does a step a round, all is done in no more of
// them than there are units of work, and tasks.
func TestRounds(t *testing.T) {
	m := mixer(5)
	for n := range 1200 {
		p := m.mixed()
		hands, room := 1+n%mostHands, 1+m.below(mostRoom)
		rounds := begin(t, p, hands, room).rounds(func() int { return m.below(1 << 30) })
		if rounds*hands < whole(p) {
			t.Fatalf("%v by %d: %d rounds", p, hands, rounds)
		}
	}
}

// TestBehindTheEnd: all hands fall asleep, and stay so.
func TestBehindTheEnd(t *testing.T) {
	m := mixer(3)
	for n := range 100 {
		p := m.mixed()
		hands := 1 + n%mostHands
		b := begin(t, p, hands, 1+m.below(mostRoom))
		for b.model.left() > 0 {
			b.step(m.below(hands), m.below(1<<30))
		}
		for range 3 {
			for h := range hands {
				b.step(h, m.below(1<<30))
			}
		}
		if got := b.gang.park.Many(); got != hands {
			b.fault("asleep", got, hands)
		}
	}
}
