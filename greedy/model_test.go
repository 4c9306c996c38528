package greedy

import (
	"slices"
	"testing"

	"yardgang/api"
	"yardgang/plan"
)

// readyAt a step are those that have work left, and of which all that they
// need have none, by what was told of the steps ahead.
func readyAt(p api.Plan, bits []api.Bit, step int) []int {
	got := make([]int, len(p))
	for _, b := range bits {
		if b.Step < step {
			got[b.Task]++
		}
	}
	var l []int
	for i, t := range p {
		is := got[i] < t.Work
		for _, n := range t.Needs {
			is = is && got[n] == p[n].Work
		}
		if is {
			l = append(l, i)
		}
	}
	return l
}

// judge what Run told, from the first step on: who had to get work, and by
// whom. It tells how many steps there are.
func judge(t *testing.T, p api.Plan, hands int, bits []api.Bit) int {
	at := 0
	for step := 0; ; step++ {
		l := readyAt(p, bits[:at], step)
		if len(l) == 0 {
			if at != len(bits) {
				t.Fatalf("%v by %d: too many bits: %v", p, hands, bits)
			}
			return step
		}
		for hand := range min(hands, len(l)) {
			want := api.Bit{Step: step, Hand: hand, Task: l[hand]}
			if at == len(bits) || bits[at] != want {
				t.Fatalf("%v by %d: got %v, want %v at %d", p, hands, bits, want, at)
			}
			at++
		}
	}
}

// latest step behind each task, if there were hands enough: the way is gone
// from what needs none on, again and again, till nothing moves.
func latest(p api.Plan) []int {
	ends := make([]int, len(p))
	for moved := true; moved; {
		moved = false
		for i, t := range p {
			end := t.Work
			for _, n := range t.Needs {
				end = max(end, ends[n]+t.Work)
			}
			moved = moved || end != ends[i]
			ends[i] = end
		}
	}
	return ends
}

// compare all that is told of a plan that is right with the model.
func compare(t *testing.T, p api.Plan, hands int) {
	steps := judge(t, p, hands, ran(t, p, hands))
	long, err := Long(p, hands)
	if err != nil || long != steps {
		t.Fatalf("%v: Long by %d: got %d %v, want %d", p, hands, long, err, steps)
	}
	work, span := 0, slices.Max(append(latest(p), 0))
	for _, task := range p {
		work += task.Work
	}
	bound, err := Bound(p, hands)
	rest := work + (hands-1)*span - bound*hands
	if err != nil || rest < 0 || rest >= hands {
		t.Fatalf("%v: Bound by %d: got %d %v, of work %d and span %d", p, hands, bound, err, work, span)
	}
	if long > bound || long < span || long*hands < work {
		t.Fatalf("%v by %d: %d steps, of work %d and span %d, bound %d", p, hands, long, work, span, bound)
	}
}

// needing plan of n tasks: by a bit each, whether a task needs another one,
// or itself.
func needing(n, bits int) api.Plan {
	p := beside(n, 1)
	for i := range p {
		for k := range n {
			if bits&1 == 1 {
				p[i].Needs = append(p[i].Needs, k)
			}
			bits >>= 1
		}
	}
	return p
}

// working: works from 1 to 3, by a number to the base of 3.
func working(p api.Plan, number int) {
	for i := range p {
		p[i].Work = 1 + number%3
		number /= 3
	}
}

// TestAllPlansOfFour: all needs of up to four tasks, with all works of up to
// three, by all hands that could be of use and one more; and of those that
// are no plan Check's error.
func TestAllPlansOfFour(t *testing.T) {
	works := 1
	for n := range 5 {
		for bits := range 1 << (n * n) {
			p := needing(n, bits)
			if _, err := plan.Check(p); err != nil {
				refuses(t, "ring", p, 1+bits%all, api.ErrCycle)
				refuses(t, "ring", p, 0, api.ErrCycle)
				continue
			}
			for number := range works {
				working(p, number)
				for hands := 1; hands <= n+1; hands++ {
					compare(t, p, hands)
				}
			}
		}
		works *= 3
	}
}

// mixer of numbers: the same ones each time.
type mixer uint64

// below a bound, the next one.
func (m *mixer) below(bound int) int {
	*m = *m*6364136223846793005 + 1442695040888963407
	return int(uint64(*m)>>33) % bound
}

// mixed plan: how many tasks it has, how often one needs another, and how much
// work they are, is mixed, and so are the tasks' places.
func (m *mixer) mixed() api.Plan {
	p := beside(m.below(most+1), 1)
	places := rising(0, len(p))
	for i := len(p) - 1; i > 0; i-- {
		k := m.below(i + 1)
		places[i], places[k] = places[k], places[i]
	}
	seldom, works := 1+m.below(20), 1+m.below(mostWork)
	for i, at := range places {
		p[at].Work = 1 + m.below(works)
		for _, n := range places[:i] {
			if m.below(seldom) == 0 {
				p[at].Needs = append(p[at].Needs, n)
			}
		}
		slices.Sort(p[at].Needs)
	}
	return p
}

func TestMixedPlans(t *testing.T) {
	m := mixer(9)
	for range 300 {
		p := m.mixed()
		for hands := 1; hands <= all; hands++ {
			compare(t, p, hands)
		}
	}
}
