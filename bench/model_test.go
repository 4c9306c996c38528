package bench

import (
	"slices"
	"testing"

	"yardgang/api"
	"yardgang/plan"
)

// wrongModel tells what is wrong with bits, number by number.
func wrongModel(l []api.Bit, hands int) api.Errno {
	if len(l) > most {
		return api.ErrFull
	}
	if hands < 1 || hands > all {
		return api.ErrRange
	}
	for _, b := range l {
		if b.Step < 0 || b.Step > last {
			return api.ErrRange
		}
		if b.Hand < 0 || b.Hand > hands-1 {
			return api.ErrRange
		}
		if b.Task < 0 || b.Task > tasks-1 {
			return api.ErrRange
		}
	}
	return api.OK
}

// sorted numbers, rising, as they are of bits.
func sorted(l []api.Bit, of func(api.Bit) int) []int {
	var n []int
	for _, b := range l {
		n = append(n, of(b))
	}
	slices.Sort(n)
	return n
}

// runs of sorted numbers: how many there are of 0, of 1, and so on below an end.
func runs(n []int, end int) []int {
	var l []int
	for i := range end {
		from, _ := slices.BinarySearch(n, i)
		to, _ := slices.BinarySearch(n, i+1)
		l = append(l, to-from)
	}
	return l
}

// rowModel: the row ends with the greatest step.
func rowModel(l []api.Bit) []int {
	n := sorted(l, func(b api.Bit) int { return b.Step })
	if len(n) == 0 {
		return nil
	}
	return runs(n, n[len(n)-1]+1)
}

// busyModel: of each hand, also where it did nothing.
func busyModel(l []api.Bit, hands int) []int {
	return runs(sorted(l, func(b api.Bit) int { return b.Hand }), hands)
}

// wasteModel: step by step what the hands could have done more.
func wasteModel(l []api.Bit, hands int) int {
	more := 0
	for _, n := range rowModel(l) {
		more += hands - n
	}
	return more
}

// told counts how often each answer was wanted, so that none goes untested.
type told [api.ErrCycle + 1]int

// compare what is told of bits with the model.
func (n *told) compare(t *testing.T, l []api.Bit, hands int) {
	if err := wrongModel(l, all); err == api.OK {
		holdRow(t, l, rowModel(l))
	} else {
		refuseRow(t, l, err)
	}
	err := wrongModel(l, hands)
	n[err]++
	if err == api.OK {
		holdBusy(t, l, hands, busyModel(l, hands))
		holdWaste(t, l, hands, wasteModel(l, hands))
	} else {
		refuseBits(t, l, hands, err)
	}
	if t.Failed() {
		t.FailNow()
	}
}

// TestAllShortLists: of up to three bits, of steps, hands and tasks around
// those that may be, by hands around those that there could be.
func TestAllShortLists(t *testing.T) {
	var kinds []api.Bit
	for _, step := range []int{-1, 0, 1, 3} {
		for _, hand := range []int{-1, 0, 1, all - 1, all} {
			for _, task := range []int{0, tasks} {
				kinds = append(kinds, api.Bit{Step: step, Hand: hand, Task: task})
			}
		}
	}
	var n told
	lists := [][]api.Bit{nil}
	for at := 0; at < len(lists); at++ {
		l := lists[at]
		for _, hands := range []int{0, 1, 2, all, all + 1} {
			n.compare(t, l, hands)
		}
		for _, b := range kinds {
			if len(l) < 3 {
				lists = append(lists, append(slices.Clip(l), b))
			}
		}
	}
	if n[api.OK] == 0 || n[api.ErrRange] == 0 {
		t.Errorf("got %v of each", n)
	}
}

// mixer of numbers: the same ones each time.
type mixer uint64

// below a bound, the next one.
func (m *mixer) below(bound int) int {
	*m = *m*6364136223846793005 + 1442695040888963407
	return int(uint64(*m)>>33) % bound
}

// mixed bits: how many, in how many steps, and of how many hands, is mixed.
func (m *mixer) mixed() []api.Bit {
	sizes := []int{1, 4, 30, most + 1, most + 4}
	steps := []int{1, 5, 100, last + 1}
	l := make([]api.Bit, m.below(sizes[m.below(len(sizes))]))
	step, hand := steps[m.below(len(steps))], 1+m.below(all)
	for i := range l {
		l[i] = api.Bit{Step: m.below(step), Hand: m.below(hand), Task: m.below(tasks)}
	}
	return l
}

// spoil one of the bits, seldom.
func (m *mixer) spoil(l []api.Bit) {
	if len(l) == 0 || m.below(6) > 0 {
		return
	}
	b := &l[m.below(len(l))]
	switch m.below(6) {
	case 0:
		b.Step = -1
	case 1:
		b.Step = last + 1
	case 2:
		b.Hand = -1
	case 3:
		b.Hand = all
	case 4:
		b.Task = -1
	default:
		b.Task = tasks
	}
}

func TestMixedLists(t *testing.T) {
	m := mixer(19)
	var n told
	for range 2000 {
		l := m.mixed()
		m.spoil(l)
		n.compare(t, l, m.below(all+2))
	}
	if n[api.OK] == 0 || n[api.ErrRange] == 0 || n[api.ErrFull] == 0 {
		t.Errorf("got %v of each", n)
	}
}

// longModel is how many steps a plan takes: who may have work is asked ahead
// of a step, and the first ones have some.
func longModel(p api.Plan, hands int) int {
	left := make([]int, len(p))
	for i, one := range p {
		left[i] = one.Work
	}
	for step := 0; ; step++ {
		var now []int
		for i, one := range p {
			is := left[i] > 0
			for _, k := range one.Needs {
				is = is && left[k] == 0
			}
			if is && len(now) < hands {
				now = append(now, i)
			}
		}
		if len(now) == 0 {
			return step
		}
		for _, i := range now {
			left[i]--
		}
	}
}

// speedModel: hundredths are looked for from 0 on, as the most that are not too
// many; one hand takes as many steps as there is work.
func speedModel(p api.Plan, hands int) int {
	long, amount := longModel(p, hands), 0
	for _, one := range p {
		amount += one.Work
	}
	if long == 0 {
		return 100
	}
	speed := 0
	for (speed+1)*long <= 100*amount {
		speed++
	}
	return speed
}

// compareSpeed of a plan that is right with the model, by all hands.
func compareSpeed(t *testing.T, p api.Plan) {
	for hands := 1; hands <= all; hands++ {
		holdSpeed(t, p, hands, speedModel(p, hands))
		if t.Failed() {
			t.FailNow()
		}
	}
}

// needing plan of so many tasks: by a bit each, whether a task needs another
// one, or itself.
func needing(many, flags int) api.Plan {
	p := alike(many, 1)
	for i := range p {
		for k := range many {
			if flags&1 == 1 {
				p[i].Needs = append(p[i].Needs, k)
			}
			flags >>= 1
		}
	}
	return p
}

// TestSpeedOfAllPlansOfThree: all needs of up to three tasks, with all works
// of up to four; and of those that are no plan Check's error.
func TestSpeedOfAllPlansOfThree(t *testing.T) {
	works := 1
	for many := range 4 {
		for flags := range 1 << (many * many) {
			p := needing(many, flags)
			if _, err := plan.Check(p); err != nil {
				refuseSpeed(t, p, 1+flags%all, api.ErrCycle)
				refuseSpeed(t, p, 0, api.ErrCycle)
				continue
			}
			for number := range works {
				for i := range p {
					p[i].Work = 1 + number%4
					number /= 4
				}
				compareSpeed(t, p)
			}
		}
		works *= 4
	}
}

// plan that is mixed: how many tasks it has, how often one needs another one
// of those ahead, and how much work they are.
func (m *mixer) plan() api.Plan {
	p := alike(m.below(tasks+1), 1)
	seldom, works := 1+m.below(20), 1+m.below(work)
	for i := range p {
		p[i].Work = 1 + m.below(works)
		for k := range i {
			if m.below(seldom) == 0 {
				p[i].Needs = append(p[i].Needs, k)
			}
		}
	}
	return p
}

func TestSpeedOfMixedPlans(t *testing.T) {
	m := mixer(19)
	for range 300 {
		compareSpeed(t, m.plan())
	}
}
