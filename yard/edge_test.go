package yard

import (
	"math"
	"slices"
	"testing"

	"yardgang/api"
)

// alike: so many jobs of weight 1, of which 1 waits.
func alike(count int) []api.Job { return slices.Repeat([]api.Job{{Weight: 1, Waits: 1}}, count) }

// with another job at a place.
func with(l []api.Job, i int, j api.Job) []api.Job {
	l = slices.Clone(l)
	l[i] = j
	return l
}

// wrongJobs are such as may not be.
var wrongJobs = []api.Job{
	{Weight: 0, Waits: 1},
	{Weight: -1, Waits: 1},
	{Weight: -maxWeight, Waits: 1},
	{Weight: maxWeight + 1, Waits: 1},
	{Weight: maxWaits, Waits: 1},
	{Weight: 1 << 32, Waits: 1},
	{Weight: 1<<32 + 1, Waits: 1},
	{Weight: math.MinInt, Waits: 1},
	{Weight: math.MinInt + 1, Waits: 1},
	{Weight: math.MaxInt, Waits: 1},
	{Weight: 1, Waits: -1},
	{Weight: 1, Waits: -maxWaits},
	{Weight: 1, Waits: maxWaits + 1},
	{Weight: 1, Waits: 1 << 32},
	{Weight: 1, Waits: 1<<32 + 1},
	{Weight: 1, Waits: math.MinInt},
	{Weight: 1, Waits: math.MinInt + 1},
	{Weight: 1, Waits: math.MaxInt},
	{},
	{Weight: 0, Waits: -1},
	{Weight: maxWeight + 1, Waits: maxWaits + 1},
	{Weight: math.MinInt, Waits: math.MinInt},
	{Weight: math.MaxInt, Waits: math.MaxInt},
}

// edgeJobs are such as may just be.
var edgeJobs = []api.Job{
	{Weight: 1, Waits: 0},
	{Weight: 1, Waits: maxWaits},
	{Weight: maxWeight, Waits: 0},
	{Weight: maxWeight, Waits: maxWaits},
	{Weight: 1, Waits: 1},
	{Weight: 2, Waits: maxWaits - 1},
	{Weight: maxWeight - 1, Waits: maxWeight},
}

// outside are numbers of bits that may neither be served nor shared.
var outside = []int{math.MinInt, math.MinInt + 1, math.MinInt32, -maxBits, -2, -1, maxBits + 1, maxBits + 2, maxWaits, 1 << 32, 1<<32 + 1, math.MaxInt - 1, math.MaxInt}

// inside are some that may be.
var inside = []int{0, 1, 2, maxBits - 1, maxBits}

// refuse holds that all calls tell an error of jobs, whatever number is asked.
func refuse(t *testing.T, l []api.Job, want api.Errno) {
	t.Helper()
	holdCheck(t, l, want)
	for _, n := range slices.Concat(inside, outside) {
		refuseServe(t, l, n, want)
		refuseShares(t, l, n, want)
	}
}

// TestMany: how many jobs there may be.
func TestMany(t *testing.T) {
	holdCheck(t, nil, api.OK)
	holdCheck(t, []api.Job{}, api.OK)
	for count := range maxJobs + 1 {
		holdCheck(t, alike(count), api.OK)
	}
	for _, count := range []int{maxJobs + 1, maxJobs + 2, 2 * maxJobs, 1000} {
		refuse(t, alike(count), api.ErrFull)
	}
}

// TestMaxJobs: as many as there may be are served, and have their shares.
func TestMaxJobs(t *testing.T) {
	l := alike(maxJobs)
	holdServe(t, l, maxBits, []int{0, 1, 2, 3, 4, 5}, slices.Repeat([]api.Job{{Weight: 1}}, maxJobs))
	holdShares(t, l, maxJobs, []int{1, 1, 1, 1, 1, 1})
	holdShares(t, l, maxJobs+2, []int{2, 2, 1, 1, 1, 1})
}

// TestWrongJobs: at all places, alone or among others, also of a second wrong one.
func TestWrongJobs(t *testing.T) {
	for k, j := range wrongJobs {
		refuse(t, []api.Job{j}, api.ErrRange)
		for i := range maxJobs {
			l := with(alike(maxJobs), i, j)
			refuse(t, l, api.ErrRange)
			refuse(t, with(l, maxJobs-1, wrongJobs[len(wrongJobs)-1-k]), api.ErrRange)
		}
	}
}

// TestFullFirst: that there are too many is told ahead of what is wrong with one.
func TestFullFirst(t *testing.T) {
	for _, j := range wrongJobs {
		for i := range maxJobs + 1 {
			refuse(t, with(alike(maxJobs+1), i, j), api.ErrFull)
		}
	}
	refuse(t, slices.Repeat(wrongJobs, 2), api.ErrFull)
}

// TestEdgeJobs: at all places they are taken.
func TestEdgeJobs(t *testing.T) {
	for _, j := range edgeJobs {
		for i := range maxJobs {
			l := with(alike(maxJobs), i, j)
			holdCheck(t, l, api.OK)
			holdServe(t, l, 0, nil, l)
			holdShares(t, l, 0, make([]int, maxJobs))
			holdShares(t, l, 1, []int{1, 0, 0, 0, 0, 0})
		}
		served := min(j.Waits, maxBits)
		holdServe(t, []api.Job{j}, maxBits, make([]int, served), []api.Job{{Weight: j.Weight, Waits: j.Waits - served}})
		holdShares(t, []api.Job{j}, maxBits, []int{maxBits})
	}
}

// TestWeights and TestWaits: all around those that may be.
func TestWeights(t *testing.T) {
	for weight := -2 * maxWeight; weight <= 3*maxWeight; weight++ {
		want := api.ErrRange
		if weight >= 1 && weight <= maxWeight {
			want = api.OK
		}
		for _, waiting := range []int{0, 1, maxWaits} {
			holdCheck(t, []api.Job{{Weight: weight, Waits: waiting}}, want)
			holdCheck(t, with(alike(3), 1, api.Job{Weight: weight, Waits: waiting}), want)
		}
	}
}

func TestWaits(t *testing.T) {
	for waiting := -maxWeight; waiting <= maxWaits+maxWeight; waiting++ {
		want := api.ErrRange
		if waiting >= 0 && waiting <= maxWaits {
			want = api.OK
		}
		for _, weight := range []int{1, maxWeight} {
			holdCheck(t, []api.Job{{Weight: weight, Waits: waiting}}, want)
			holdCheck(t, with(alike(3), 2, api.Job{Weight: weight, Waits: waiting}), want)
		}
	}
}

// TestBitsOutside: of jobs that are right, also where none waits.
func TestBitsOutside(t *testing.T) {
	for _, n := range outside {
		for _, text := range []string{"3:4", "3:0", "1:10000 20:10000", "2:0 4:0 6:0", "1:1 2:2 3:3 4:4 5:5 6:6"} {
			refuseServe(t, jobs(t, text), n, api.ErrRange)
			refuseShares(t, jobs(t, text), n, api.ErrRange)
		}
	}
}

// TestNoJobs: they may be served, but have no shares, and that is told ahead of
// what is wrong with the number.
func TestNoJobs(t *testing.T) {
	for _, l := range [][]api.Job{nil, {}, alike(3)[:0]} {
		for _, n := range inside {
			holdServe(t, l, n, nil, nil)
			refuseShares(t, l, n, api.ErrNone)
		}
		for _, n := range outside {
			refuseServe(t, l, n, api.ErrRange)
			refuseShares(t, l, n, api.ErrNone)
		}
	}
}

// TestBits: at all numbers around those that may be.
func TestBits(t *testing.T) {
	l := jobs(t, "2:10000 1:10000")
	for n := -5; n <= maxBits+5; n++ {
		if n < 0 || n > maxBits {
			refuseServe(t, l, n, api.ErrRange)
			refuseShares(t, l, n, api.ErrRange)
			continue
		}
		done := slices.Repeat([]int{0, 0, 1}, n/3+1)[:n]
		second := n / 3
		holdServe(t, l, n, done, []api.Job{{Weight: 2, Waits: maxWaits - n + second}, {Weight: 1, Waits: maxWaits - second}})
		// Two thirds and one third: what is left is one at most, for the first.
		holdShares(t, l, n, []int{n - second, second})
	}
}

// TestMostRounds: jobs of weight 1 need the most of them, and one of MaxWeight
// that is hardly there none.
func TestMostRounds(t *testing.T) {
	l := jobs(t, "1:10000")
	holdServe(t, l, maxBits, make([]int, maxBits), jobs(t, "1:9000"))
	l = jobs(t, "20:0 20:0 20:0 20:0 20:0 1:10000")
	holdServe(t, l, maxBits, slices.Repeat([]int{5}, maxBits), jobs(t, "20:0 20:0 20:0 20:0 20:0 1:9000"))
}
