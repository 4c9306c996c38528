package judge

import (
	"math"
	"slices"
	"testing"

	"yardgang/api"
)

// task of a work, with what it needs.
func task(work int, needs ...int) api.Task { return api.Task{Work: work, Needs: needs} }

// beside each other: so many tasks, of so much work each.
func beside(count, work int) api.Plan {
	p := make(api.Plan, count)
	for i := range p {
		p[i].Work = work
	}
	return p
}

// chain of so many tasks, of so much work each: all behind the one ahead.
func chain(count, work int) api.Plan {
	p := beside(count, work)
	for i := 1; i < count; i++ {
		p[i].Needs = []int{i - 1}
	}
	return p
}

// rising numbers, from one on to below another.
func rising(from, to int) []int {
	var l []int
	for n := from; n < to; n++ {
		l = append(l, n)
	}
	return l
}

// rounds of stays: all tasks of so much work, by hands that all become free at
// one time, from a step on.
func rounds(count, work, hands, from int) []api.Stay {
	var l []api.Stay
	for i := range count {
		at := from + i/hands*work
		l = append(l, api.Stay{Hand: i % hands, Task: i, From: at, To: at + work})
	}
	return l
}

// cut stays into bits: stay by stay, step by step.
func cut(l []api.Stay) []api.Bit {
	var out []api.Bit
	for _, s := range l {
		for step := s.From; step < s.To; step++ {
			out = append(out, api.Bit{Step: step, Hand: s.Hand, Task: s.Task})
		}
	}
	return out
}

// reversed list.
func reversed[T any](l []T) []T {
	l = slices.Clone(l)
	slices.Reverse(l)
	return l
}

// lasts of stays, by task.
func lasts(l []api.Stay) []int {
	out := make([]int, len(l))
	for _, s := range l {
		out[s.Task] = s.To - 1
	}
	return out
}

// holdBoth holds that stays, and the bits of them, may be so, from either end.
func holdBoth(t *testing.T, p api.Plan, hands int, l []api.Stay) {
	t.Helper()
	for _, l := range [][]api.Stay{l, reversed(l)} {
		holdStays(t, p, hands, l, api.OK)
		holdBits(t, p, hands, cut(l), lasts(l))
		holdBits(t, p, hands, reversed(cut(l)), lasts(l))
	}
}

// TestNoTasks: an empty plan and nil are the same, and so are empty lists;
// anything that is done is done for a task that is none.
func TestNoTasks(t *testing.T) {
	for _, p := range []api.Plan{nil, {}, make(api.Plan, 0, 4), beside(3, 1)[:0]} {
		for hands := 1; hands <= all; hands++ {
			for _, l := range [][]api.Bit{nil, {}, make([]api.Bit, 0, 4), bits(t, "0 0 0")[:0]} {
				holdBits(t, p, hands, l, nil)
			}
			for _, l := range [][]api.Stay{nil, {}, make([]api.Stay, 0, 4), stays(t, "0 0 0 1")[:0]} {
				holdStays(t, p, hands, l, api.OK)
			}
			refuseBits(t, p, hands, bits(t, "0 0 0"), api.ErrRange)
			refuseBits(t, p, hands, make([]api.Bit, 1000), api.ErrRange)
			holdStays(t, p, hands, stays(t, "0 0 0 1"), api.ErrRange)
			holdStays(t, p, hands, make([]api.Stay, 1000), api.ErrRange)
		}
	}
	holdBoth(t, api.Plan{task(1), {Work: 1, Needs: []int{}}}, 2, rounds(2, 1, 2, 0))
}

// TestOneTask: of all works, by all hands, from the first step on and up to the last.
func TestOneTask(t *testing.T) {
	for work := 1; work <= mostWork; work++ {
		for hands := 1; hands <= all; hands++ {
			holdBoth(t, beside(1, work), hands, rounds(1, work, hands, 0))
			up := rounds(1, work, hands, last-work)
			up[0].Hand = hands - 1
			holdBoth(t, beside(1, work), hands, up)

			b := cut(up)
			refuseBits(t, beside(1, work), hands, b[1:], api.ErrNone)
			refuseBits(t, beside(1, work), hands, b[:work-1], api.ErrNone)
			refuseBits(t, beside(1, work), hands, append(b, api.Bit{}), api.ErrFull)
		}
	}
	holdBits(t, beside(1, 1), 1, bits(t, "10000 0 0"), []int{last})
	holdBits(t, beside(1, 2), 1, bits(t, "10000 0 0, 0 0 0"), []int{last})
}

// TestMostTasks: beside each other, in a chain, and each behind all ahead of it.
func TestMostTasks(t *testing.T) {
	for _, work := range []int{1, 7, mostWork} {
		for hands := 1; hands <= all; hands++ {
			holdBoth(t, beside(most, work), hands, rounds(most, work, hands, 0))
			holdBoth(t, beside(most, work), hands, rounds(most, work, hands, last-most*work))
		}
		needs := beside(most, work)
		for i := range needs {
			needs[i].Needs = rising(0, i)
		}
		for _, p := range []api.Plan{chain(most, work), needs} {
			for hands := 1; hands <= all; hands++ {
				holdBoth(t, p, hands, rounds(most, work, 1, 0))
				holdBoth(t, p, hands, rounds(most, work, 1, last-most*work))
			}
			refuseBits(t, p, 2, cut(rounds(most, work, 2, 0)), api.ErrState)
			holdStays(t, p, 2, rounds(most, work, 2, 0), api.ErrState)
		}
	}
}

// TestMostTasksBehindOne, and ahead of one: whichever of them is in its way.
func TestMostTasksBehindOne(t *testing.T) {
	behind, ahead := beside(most, 1), beside(most, 1)
	for i := range most - 1 {
		behind[i+1].Needs = []int{0}
	}
	ahead[most-1].Needs = rising(0, most-1)
	l := rounds(most, 1, 1, 0)
	holdBoth(t, behind, 1, l)
	holdBoth(t, ahead, 1, l)
	for i := range most - 1 {
		swapped := rounds(most, 1, 1, 0)
		swapped[0].Task, swapped[i+1].Task = i+1, 0
		refuseBits(t, behind, 1, cut(swapped), api.ErrState)
		holdStays(t, behind, 1, swapped, api.ErrState)

		swapped = rounds(most, 1, 1, 0)
		swapped[i].Task, swapped[most-1].Task = most-1, i
		refuseBits(t, ahead, 1, cut(swapped), api.ErrState)
		holdStays(t, ahead, 1, swapped, api.ErrState)
	}
}

// noHands are numbers of hands that may not be.
var noHands = []int{math.MinInt, math.MinInt + 1, -1 << 32, -1<<32 + 1, -all, -2, -1, 0, all + 1, all + 2, most, 1 << 32, 1<<32 + 1, math.MaxInt - 1, math.MaxInt}

// extremes are numbers that are no hand, no task and no step.
var extremes = []int{math.MinInt, math.MinInt + 1, -1 << 32, -1<<32 + 1, -2, -1, last + 1, last + 2, 1 << 32, 1<<32 + 1, math.MaxInt - 1, math.MaxInt}

// outside of 0 to below a bound: numbers that lie so, the nearest among them.
func outside(bound int) []int { return append([]int{bound, bound + 1}, extremes...) }

// oneOff bits and stays: of a plan of so many tasks, of work 1, by hands that
// may be, one of them with one number that may not.
func oneOff(count, hands int) (bits [][]api.Bit, stays [][]api.Stay) {
	for at := range count {
		change := func(bit func(*api.Bit), stay func(*api.Stay)) {
			l := rounds(count, 1, hands, 0)
			b := cut(l)
			bit(&b[at])
			stay(&l[at])
			bits, stays = append(bits, b), append(stays, l)
		}
		for _, n := range outside(hands) {
			change(func(b *api.Bit) { b.Hand = n }, func(s *api.Stay) { s.Hand = n })
		}
		for _, n := range outside(count) {
			change(func(b *api.Bit) { b.Task = n }, func(s *api.Stay) { s.Task = n })
		}
		for _, n := range extremes {
			change(func(b *api.Bit) { b.Step = n }, func(s *api.Stay) { s.From, s.To = n, n+1 })
			change(func(b *api.Bit) { b.Step = n }, func(s *api.Stay) { s.To = n })
			change(func(b *api.Bit) { b.Step = n }, func(s *api.Stay) { s.From = n })
			change(func(b *api.Bit) { b.Step = n }, func(s *api.Stay) { s.From = s.To + max(n, 1) })
		}
	}
	return bits, stays
}

// TestNumbersThatMayNotBe: each alone, with more beside it that is wrong, and
// behind what would be wrong of all of them.
func TestNumbersThatMayNotBe(t *testing.T) {
	for _, count := range []int{1, 2, 5, most} {
		for hands := 1; hands <= all; hands++ {
			bits, stays := oneOff(count, hands)
			for _, p := range []api.Plan{beside(count, 1), chain(count, 1), beside(count, 2)} {
				for _, l := range bits {
					refuseBits(t, p, hands, l, api.ErrRange)
				}
			}
			for _, p := range []api.Plan{beside(count, 1), chain(count, 1)} {
				for _, l := range stays {
					holdStays(t, p, hands, l, api.ErrRange)
				}
			}
		}
	}
}

// TestHandsThatMayBe: with as many there is one for each number below that,
// and none else.
func TestHandsThatMayBe(t *testing.T) {
	for hands := 1; hands <= all; hands++ {
		for hand := range all + 1 {
			b := []api.Bit{{Hand: hand}}
			s := []api.Stay{{Hand: hand, To: 1}}
			if hand < hands {
				holdBits(t, beside(1, 1), hands, b, []int{0})
				holdStays(t, beside(1, 1), hands, s, api.OK)
			} else {
				refuseBits(t, beside(1, 1), hands, b, api.ErrRange)
				holdStays(t, beside(1, 1), hands, s, api.ErrRange)
			}
		}
	}
}

// wrongBits of a plan of one task or more, of work 1: one list for each fault, beside right ones.
func wrongBits(t *testing.T) [][]api.Bit {
	return [][]api.Bit{nil, bits(t, "0 0 0"), bits(t, "-1 0 0"), bits(t, "0 9 0"), bits(t, "0 0 99"), bits(t, "0 0 0, 0 0 0"), bits(t, "0 0 0, 1 0 0"), bits(t, "1 0 0, 0 0 1"), make([]api.Bit, 1000)}
}

// wrongStays likewise.
func wrongStays(t *testing.T) [][]api.Stay {
	return [][]api.Stay{nil, stays(t, "0 0 0 1"), stays(t, "9 0 0 1"), stays(t, "0 99 0 1"), stays(t, "0 0 1 0"), stays(t, "0 0 0 10001"), stays(t, "0 0 0 2"), stays(t, "0 0 0 1, 0 0 1 2"), stays(t, "0 0 1 2, 0 1 0 1"), make([]api.Stay, 1000)}
}

// TestHandsThatMayNotBe: whatever the plan is, even if it has no task, and
// whatever was done.
func TestHandsThatMayNotBe(t *testing.T) {
	for _, p := range []api.Plan{nil, {}, beside(1, 1), chain(2, 1), beside(all, 1), beside(all+1, 1), beside(most, mostWork)} {
		for _, hands := range noHands {
			right := rounds(len(p), 1, 1, 0)
			for _, l := range append(wrongBits(t), cut(right)) {
				refuseBits(t, p, hands, l, api.ErrRange)
			}
			for _, l := range append(wrongStays(t), right) {
				holdStays(t, p, hands, l, api.ErrRange)
			}
		}
	}
}

// TestPlansThatAreNone: Check's error, by hands that may be and by those that
// may not, whatever was done.
func TestPlansThatAreNone(t *testing.T) {
	for _, c := range []struct {
		p    api.Plan
		want api.Errno
	}{
		{beside(most+1, 1), api.ErrFull},
		{make(api.Plan, 10*most), api.ErrFull},
		{append(beside(most, 1), task(1, most)), api.ErrFull},
		{api.Plan{task(1), task(0)}, api.ErrRange},
		{api.Plan{task(-1)}, api.ErrRange},
		{api.Plan{task(mostWork + 1)}, api.ErrRange},
		{api.Plan{task(math.MinInt)}, api.ErrRange},
		{api.Plan{task(math.MaxInt)}, api.ErrRange},
		{api.Plan{task(1, -1)}, api.ErrRange},
		{api.Plan{task(1), task(1, 2)}, api.ErrRange},
		{api.Plan{task(1, math.MinInt)}, api.ErrRange},
		{api.Plan{task(1, math.MaxInt)}, api.ErrRange},
		{api.Plan{task(1), task(1, 7, 0)}, api.ErrRange},
		{api.Plan{task(1), task(1, 0, 0)}, api.ErrClash},
		{api.Plan{task(1), task(1), task(1, 1, 0)}, api.ErrClash},
		{api.Plan{task(1), task(1, 1)}, api.ErrCycle},
		{api.Plan{task(1, 0)}, api.ErrCycle},
		{api.Plan{task(1, 1), task(1, 0)}, api.ErrCycle},
		{api.Plan{task(1), task(1, 3), task(1, 1), task(1, 2)}, api.ErrCycle},
		{api.Plan{task(1), task(1, 0, 0), task(0)}, api.ErrClash},
		{api.Plan{task(0), task(1, 0, 0)}, api.ErrRange},
		{api.Plan{task(1, 0), task(0)}, api.ErrRange},
		{api.Plan{task(1, 0), task(1, 0, 0)}, api.ErrClash},
	} {
		right := rounds(len(c.p), 1, 1, 0)
		for _, hands := range append(rising(1, all+1), noHands...) {
			for _, l := range append(wrongBits(t), cut(right)) {
				refuseBits(t, c.p, hands, l, c.want)
			}
			for _, l := range append(wrongStays(t), right) {
				holdStays(t, c.p, hands, l, c.want)
			}
		}
	}
}
