package bench

import (
	"math"
	"slices"
	"testing"

	"yardgang/api"
)

// rising bits: so many, by one hand, each in the step behind.
func rising(many int) []api.Bit {
	l := make([]api.Bit, many)
	for i := range l {
		l[i].Step = i
	}
	return l
}

// with another bit at a place.
func with(l []api.Bit, i int, b api.Bit) []api.Bit {
	l = slices.Clone(l)
	l[i] = b
	return l
}

// ends of a list: the places of its first and its last bit.
func ends(l []api.Bit) []int { return []int{0, len(l) - 1} }

// noHands are numbers of hands that may not be.
var noHands = []int{math.MinInt, math.MinInt + 1, -1 << 32, -1<<32 + 1, -all, -2, -1, 0, all + 1, all + 2, most, last, 1 << 32, 1<<32 + 1, math.MaxInt - 1, math.MaxInt}

// beyond are numbers that no bit may have, whatever they are of.
var beyond = []int{math.MinInt, math.MinInt + 1, -1 << 32, -1<<32 + 1, -last, -2, -1, last + 1, last + 2, 1 << 32, 1<<32 + 1, math.MaxInt - 1, math.MaxInt}

// wrongBits are such as may not be, of so many hands, each by one number alone.
func wrongBits(hands int) []api.Bit {
	var l []api.Bit
	for _, n := range beyond {
		l = append(l, api.Bit{Step: n}, api.Bit{Hand: n}, api.Bit{Task: n})
	}
	for _, n := range []int{hands, hands + 1, all, all + 1, last} {
		l = append(l, api.Bit{Hand: n})
	}
	for _, n := range []int{tasks, tasks + 1, most, last} {
		l = append(l, api.Bit{Task: n})
	}
	return l
}

// TestMany: how many bits there may be.
func TestMany(t *testing.T) {
	for _, many := range []int{0, 1, 2, most - 1, most} {
		l := rising(many)
		for hands := 1; hands <= all; hands++ {
			holdBusy(t, l, hands, append([]int{many}, make([]int, hands-1)...))
			holdWaste(t, l, hands, (hands-1)*many)
		}
		holdRow(t, l, slices.Repeat([]int{1}, many))
	}
	for _, many := range []int{most + 1, most + 2, 2 * most, last, 3 * last} {
		for hands := 1; hands <= all; hands++ {
			refuseBits(t, rising(many), hands, api.ErrFull)
			refuseBits(t, make([]api.Bit, many), hands, api.ErrFull)
		}
		refuseRow(t, rising(many), api.ErrFull)
		refuseRow(t, make([]api.Bit, many), api.ErrFull)
	}
}

// TestMostInOneStep: more than there are hands, as many as there may be bits.
func TestMostInOneStep(t *testing.T) {
	for hands := 1; hands <= all; hands++ {
		l := slices.Repeat([]api.Bit{{Step: 0, Hand: hands - 1, Task: 3}}, most)
		holdBusy(t, l, hands, append(make([]int, hands-1), most))
		holdWaste(t, l, hands, hands-most)
		holdRow(t, l, []int{most})
	}
}

// TestNoHands: of no bits, of one, and of as many as there may be, also of
// hands that would have a bit.
func TestNoHands(t *testing.T) {
	for _, hands := range noHands {
		for _, many := range []int{0, 1, most} {
			refuseBits(t, rising(many), hands, api.ErrRange)
		}
		refuseBits(t, []api.Bit{{Hand: hands - 1}}, hands, api.ErrRange)
		for _, b := range wrongBits(1) {
			refuseBits(t, []api.Bit{b}, hands, api.ErrRange)
		}
	}
	for hands := 1; hands <= all; hands++ {
		holdBusy(t, nil, hands, make([]int, hands))
		holdBusy(t, []api.Bit{}, hands, make([]int, hands))
		holdWaste(t, nil, hands, 0)
		holdWaste(t, []api.Bit{}, hands, 0)
	}
	holdRow(t, nil, nil)
	holdRow(t, []api.Bit{}, nil)
}

// TestFullFirst: that there are too many is told ahead of what is wrong with
// the hands, or with a bit.
func TestFullFirst(t *testing.T) {
	l := rising(most + 1)
	for _, hands := range noHands {
		refuseBits(t, l, hands, api.ErrFull)
		refuseBits(t, with(l, 0, api.Bit{Step: -1}), hands, api.ErrFull)
	}
	for _, b := range wrongBits(all) {
		for _, i := range ends(l) {
			refuseBits(t, with(l, i, b), all, api.ErrFull)
			refuseRow(t, with(l, i, b), api.ErrFull)
		}
	}
	refuseBits(t, slices.Repeat([]api.Bit{{Step: -1, Hand: -1, Task: -1}}, most+1), 0, api.ErrFull)
}

// TestWrongBits: alone, as the first one and as the last one, of few and of
// as many as there may be.
func TestWrongBits(t *testing.T) {
	for hands := 1; hands <= all; hands++ {
		for _, b := range wrongBits(hands) {
			for _, many := range []int{1, 2, 3, most} {
				l := rising(many)
				for _, i := range ends(l) {
					refuseBits(t, with(l, i, b), hands, api.ErrRange)
				}
			}
		}
	}
	for _, b := range wrongBits(all) {
		for _, many := range []int{1, 2, 3, most} {
			l := rising(many)
			for _, i := range ends(l) {
				refuseRow(t, with(l, i, b), api.ErrRange)
			}
		}
	}
}

// TestWrongInBetween: at any place.
func TestWrongInBetween(t *testing.T) {
	l := rising(9)
	for i := range l {
		for _, b := range wrongBits(3) {
			refuseBits(t, with(l, i, b), 3, api.ErrRange)
		}
		for _, b := range wrongBits(all) {
			refuseRow(t, with(l, i, b), api.ErrRange)
		}
	}
}

// TestManyWrong: several numbers of a bit, several bits, and all of them.
func TestManyWrong(t *testing.T) {
	for _, n := range beyond {
		for _, b := range []api.Bit{{Step: n, Hand: n}, {Step: n, Task: n}, {Hand: n, Task: n}, {Step: n, Hand: n, Task: n}} {
			l := with(rising(3), 1, b)
			refuseBits(t, l, 2, api.ErrRange)
			refuseRow(t, l, api.ErrRange)
		}
	}
	for hands := 1; hands <= all; hands++ {
		refuseBits(t, wrongBits(hands), hands, api.ErrRange)
		refuseBits(t, slices.Repeat([]api.Bit{{Step: -1, Hand: hands, Task: tasks}}, most), hands, api.ErrRange)
	}
	refuseRow(t, wrongBits(all), api.ErrRange)
	refuseRow(t, slices.Repeat([]api.Bit{{Step: -1, Hand: all, Task: tasks}}, most), api.ErrRange)
}

// TestSteps: around those that may be.
func TestSteps(t *testing.T) {
	for _, step := range []int{0, 1, most - 1, most, most + 1, last - 1, last} {
		row := append(make([]int, step), 1)
		holdRow(t, []api.Bit{{Step: step, Hand: all - 1, Task: 3}}, row)
		row[0]++
		holdRow(t, []api.Bit{{Step: step}, {Step: 0}}, row)
		holdRow(t, []api.Bit{{Step: 0}, {Step: step}}, row)
		for hands := 1; hands <= all; hands++ {
			l := []api.Bit{{Step: step, Hand: hands - 1}}
			holdBusy(t, l, hands, append(make([]int, hands-1), 1))
			holdWaste(t, l, hands, hands*(step+1)-1)
		}
	}
}

// TestLastStep: as much as can be wasted, and there by all hands.
func TestLastStep(t *testing.T) {
	holdWaste(t, []api.Bit{{Step: last}}, all, 60005)
	holdWaste(t, []api.Bit{{Step: last, Hand: all - 1, Task: tasks - 1}}, all, 60005)
	holdWaste(t, []api.Bit{{Step: last}}, 1, 10000)

	var l []api.Bit
	for hand := range all {
		l = append(l, api.Bit{Step: last, Hand: hand, Task: hand})
	}
	holdBusy(t, l, all, []int{1, 1, 1, 1, 1, 1})
	holdRow(t, l, append(make([]int, last), all))
	holdWaste(t, l, all, 60000)
}

// TestHandsOfBits: of a hand that is there, and of the next one. Row takes all
// that there could be.
func TestHandsOfBits(t *testing.T) {
	for hands := 1; hands <= all; hands++ {
		for hand := -2; hand <= all+1; hand++ {
			l := []api.Bit{{}, {Step: 1, Hand: hand, Task: 1}}
			if hand < 0 || hand >= hands {
				refuseBits(t, l, hands, api.ErrRange)
				continue
			}
			busy := make([]int, hands)
			busy[0]++
			busy[hand]++
			holdBusy(t, l, hands, busy)
			holdWaste(t, l, hands, 2*hands-2)
		}
	}
	for hand := -2; hand <= all+1; hand++ {
		for _, l := range [][]api.Bit{{{Hand: hand}, {Step: 1}}, {{Step: 1}, {Hand: hand}}} {
			if hand < 0 || hand >= all {
				refuseRow(t, l, api.ErrRange)
				continue
			}
			holdRow(t, l, []int{1, 1})
		}
	}
}

// TestTasksOfBits: all that there could be are taken, and no other one.
func TestTasksOfBits(t *testing.T) {
	for task := -2; task <= tasks+1; task++ {
		for _, l := range [][]api.Bit{{{Task: task}, {Step: 1}}, {{Step: 1}, {Task: task}}} {
			if task < 0 || task >= tasks {
				refuseBits(t, l, 2, api.ErrRange)
				refuseRow(t, l, api.ErrRange)
				continue
			}
			holdBusy(t, l, 2, []int{2, 0})
			holdWaste(t, l, 2, 2)
			holdRow(t, l, []int{1, 1})
		}
	}
}

// alike tasks, so many, beside each other.
func alike(many, amount int) api.Plan {
	return slices.Repeat(api.Plan{{Work: amount}}, many)
}

// TestSpeedOfMaxTasks: beside each other, and each behind the one ahead of it.
func TestSpeedOfMaxTasks(t *testing.T) {
	chain := alike(tasks, work)
	for i := range chain[1:] {
		chain[i+1].Needs = []int{i}
	}
	for i, want := range []int{100, 200, 300, 375, 500, 600} {
		holdSpeed(t, alike(tasks, 1), i+1, want)
		holdSpeed(t, alike(tasks, work), i+1, want)
		holdSpeed(t, chain, i+1, 100)
	}
}

// TestSpeedByNoHands: also of no task, of one, and of as many as there may be.
func TestSpeedByNoHands(t *testing.T) {
	for _, p := range []api.Plan{nil, {}, alike(1, 1), alike(2, 1), read(t, "3 2<0 1<0 4<1,2"), alike(all, 1), alike(all+1, 1), alike(tasks, work)} {
		for _, hands := range noHands {
			refuseSpeed(t, p, hands, api.ErrRange)
		}
	}
	for hands := 1; hands <= all; hands++ {
		holdSpeed(t, nil, hands, 100)
		holdSpeed(t, api.Plan{}, hands, 100)
	}
}

// TestSpeedOfNoPlan: Check's error, by hands that may be, and ahead of what is
// wrong with those that may not.
func TestSpeedOfNoPlan(t *testing.T) {
	for _, c := range []struct {
		name string
		p    api.Plan
		err  api.Errno
	}{
		{"one too many", alike(tasks+1, 1), api.ErrFull},
		{"far too many, and all are wrong", make(api.Plan, 10*tasks), api.ErrFull},
		{"one too many, and it needs itself", append(alike(tasks, 1), api.Task{Work: 1, Needs: []int{tasks}}), api.ErrFull},
		{"work 0", api.Plan{{Work: 1}, {Work: 0}}, api.ErrRange},
		{"work below 0", api.Plan{{Work: -1}}, api.ErrRange},
		{"work above", api.Plan{{Work: work + 1}}, api.ErrRange},
		{"work least", api.Plan{{Work: math.MinInt}}, api.ErrRange},
		{"work greatest", api.Plan{{Work: math.MaxInt}}, api.ErrRange},
		{"need below 0", api.Plan{{Work: 1, Needs: []int{-1}}}, api.ErrRange},
		{"need above", api.Plan{{Work: 1}, {Work: 1, Needs: []int{2}}}, api.ErrRange},
		{"need least", api.Plan{{Work: 1, Needs: []int{math.MinInt}}}, api.ErrRange},
		{"need greatest", api.Plan{{Work: 1, Needs: []int{math.MaxInt}}}, api.ErrRange},
		{"need twice", api.Plan{{Work: 1}, {Work: 1, Needs: []int{0, 0}}}, api.ErrClash},
		{"needs fall", api.Plan{{Work: 1}, {Work: 1}, {Work: 1, Needs: []int{1, 0}}}, api.ErrClash},
		{"needs itself", api.Plan{{Work: 1}, {Work: 1, Needs: []int{1}}}, api.ErrCycle},
		{"two need each other", api.Plan{{Work: 1, Needs: []int{1}}, {Work: 1, Needs: []int{0}}}, api.ErrCycle},
		{"a clash ahead of work 0", api.Plan{{Work: 1}, {Work: 1, Needs: []int{0, 0}}, {Work: 0}}, api.ErrClash},
		{"work 0 ahead of a clash", api.Plan{{Work: 0}, {Work: 1, Needs: []int{0, 0}}}, api.ErrRange},
		{"needs itself, and a later work 0", api.Plan{{Work: 1, Needs: []int{0}}, {Work: 0}}, api.ErrRange},
		{"needs itself, and a later clash", api.Plan{{Work: 1, Needs: []int{0}}, {Work: 1, Needs: []int{0, 0}}}, api.ErrClash},
	} {
		t.Run(c.name, func(t *testing.T) {
			for hands := 1; hands <= all; hands++ {
				refuseSpeed(t, c.p, hands, c.err)
			}
			for _, hands := range noHands {
				refuseSpeed(t, c.p, hands, c.err)
			}
		})
	}
}
