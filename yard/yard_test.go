package yard

import (
	"errors"
	"slices"
	"strconv"
	"strings"
	"testing"

	"yardgang/api"
	"yardgang/plain"
)

// most jobs that there may be, what one may weigh, how many bits of it may
// wait, and how many may be served or shared.
const (
	maxJobs   = 6
	maxWeight = 20
	maxWaits  = 10000
	maxBits   = 1000
)

func TestNumbers(t *testing.T) {
	if api.MaxJobs != maxJobs || api.MaxWeight != maxWeight {
		t.Fatal("there are 6 jobs, of a weight of 20, at most")
	}
}

// jobs of a text: of each its weight and what waits, a colon between.
func jobs(t *testing.T, text string) []api.Job {
	t.Helper()
	var l []api.Job
	for _, w := range strings.Fields(text) {
		weight, waiting, _ := strings.Cut(w, ":")
		l = append(l, api.Job{Weight: number(t, weight), Waits: number(t, waiting)})
	}
	return l
}

// number of a text.
func number(t *testing.T, text string) int {
	t.Helper()
	n, err := strconv.Atoi(text)
	if err != nil {
		t.Fatal(text, err)
	}
	return n
}

// numbers of a text, blanks between; with an x behind it and a number, as many
// of that one.
func numbers(t *testing.T, text string) []int {
	t.Helper()
	var l []int
	for _, w := range strings.Fields(text) {
		one, count, many := strings.Cut(w, "x")
		if !many {
			count = "1"
		}
		l = append(l, slices.Repeat([]int{number(t, one)}, number(t, count))...)
	}
	return l
}

// is tells whether an error is the wanted one: nil for OK, else an Errno, never OK.
func is(err error, want api.Errno) bool {
	var e api.Errno
	if err == nil || want == api.OK {
		return err == nil && want == api.OK
	}
	return errors.As(err, &e) && e == want && plain.Told(err) == want
}

// holdCheck holds what Check tells of jobs.
func holdCheck(t *testing.T, l []api.Job, want api.Errno) {
	t.Helper()
	if err := Check(l); !is(err, want) {
		t.Errorf("%v: Check: got %v, want %v", l, err, want)
	}
}

// holdServe holds what Serve tells of jobs.
func holdServe(t *testing.T, l []api.Job, most int, done []int, left []api.Job) {
	t.Helper()
	a, b, err := Serve(l, most)
	if !slices.Equal(a, done) || !slices.Equal(b, left) || err != nil {
		t.Errorf("%v: Serve %d: got %v %v %v, want %v %v", l, most, a, b, err, done, left)
	}
}

// holdShares holds what Shares tells of jobs.
func holdShares(t *testing.T, l []api.Job, n int, want []int) {
	t.Helper()
	if got, err := Shares(l, n); !slices.Equal(got, want) || err != nil {
		t.Errorf("%v: Shares of %d: got %v %v, want %v", l, n, got, err, want)
	}
}

// refuseServe holds that Serve tells an error, and nothing else.
func refuseServe(t *testing.T, l []api.Job, most int, want api.Errno) {
	t.Helper()
	if a, b, err := Serve(l, most); len(a) != 0 || len(b) != 0 || !is(err, want) {
		t.Errorf("%v: Serve %d: got %v %v %v, want %v", l, most, a, b, err, want)
	}
}

// refuseShares holds that Shares tells an error, and nothing else.
func refuseShares(t *testing.T, l []api.Job, n int, want api.Errno) {
	t.Helper()
	if got, err := Shares(l, n); len(got) != 0 || !is(err, want) {
		t.Errorf("%v: Shares of %d: got %v %v, want %v", l, n, got, err, want)
	}
}

// TestServe: which job each bit was of, and what is left of each.
func TestServe(t *testing.T) {
	for _, c := range []struct {
		name, jobs string
		most       int
		done, left string
	}{
		{"no jobs", "", 5, "", ""},
		{"no jobs, no bits", "", 0, "", ""},
		{"one", "3:5", 1000, "0x5", "3:0"},
		{"one, in its weight", "3:3", 3, "0x3", "3:0"},
		{"other weights", "1:4 2:8 3:12", 12, "0 1x2 2x3 0 1x2 2x3", "1:2 2:4 3:6"},
		{"other weights, to the end", "3:6 1:2 2:4", 1000, "0x3 1 2x2 0x3 1 2x2", "3:0 1:0 2:0"},
		{"alike", "2:4 2:4", 8, "0x2 1x2 0x2 1x2", "2:0 2:0"},
		{"the greatest weight beside the least", "20:50 1:50", 45, "0x20 1 0x20 1 0x3", "20:7 1:48"},
		{"the least weight ahead of the greatest", "1:50 20:50", 45, "0 1x20 0 1x20 0 1x2", "1:47 20:8"},

		{"fewer wait than it weighs, the first round", "5:2 3:9", 10, "0x2 1x8", "5:0 3:1"},
		{"fewer wait than it weighs, the first round, of the last", "3:9 5:2", 10, "0x3 1x2 0x5", "3:1 5:0"},
		{"fewer wait than it weighs, a later round", "4:6 2:7", 12, "0x4 1x2 0x2 1x4", "4:0 2:1"},
		{"fewer wait than it weighs, of all", "9:1 9:2 9:3", 1000, "0 1x2 2x3", "9:0 9:0 9:0"},
		{"one goes on when the other ones are over", "2:1 3:9 2:2", 12, "0 1x3 2x2 1x6", "2:0 3:0 2:0"},
		{"one after the other is over", "1:1 1:2 1:3", 1000, "0 1 2 1 2 2", "1:0 1:0 1:0"},

		{"none waits of the first", "4:0 2:3", 1000, "1x3", "4:0 2:0"},
		{"none waits of one in between", "2:3 20:0 1:2", 1000, "0x2 2 0 2", "2:0 20:0 1:0"},
		{"none waits of the last", "2:3 4:0", 1000, "0x3", "2:0 4:0"},
		{"none waits of any", "2:0 4:0 20:0", 1000, "", "2:0 4:0 20:0"},
		{"none waits of one alone", "1:0", 1, "", "1:0"},

		{"no bits", "3:4 2:1", 0, "", "3:4 2:1"},
		{"no bits, and none waits", "3:0 2:0", 0, "", "3:0 2:0"},
		{"one bit", "3:4 2:1", 1, "0", "3:3 2:1"},
		{"one bit, not of the first", "3:0 2:1", 1, "1", "3:0 2:0"},
		{"ends within a turn, the first", "5:9 4:9", 3, "0x3", "5:6 4:9"},
		{"ends within a turn, the last", "5:9 4:9", 7, "0x5 1x2", "5:4 4:7"},
		{"ends within a turn of a later round", "5:9 4:9", 11, "0x5 1x4 0x2", "5:2 4:5"},
		{"ends behind a turn", "5:9 4:9 3:9", 5, "0x5", "5:4 4:9 3:9"},
		{"ends behind a turn, within a round", "5:9 4:9 3:9", 9, "0x5 1x4", "5:4 4:5 3:9"},
		{"ends behind a round", "5:9 4:9 3:9", 12, "0x5 1x4 2x3", "5:4 4:5 3:6"},
		{"ends with the last bit that waits", "2:3 1:1", 4, "0x2 1 0", "2:0 1:0"},
		{"one bit waits beyond", "2:3 1:1", 3, "0x2 1", "2:1 1:0"},
		{"fewer wait than may be done, by one", "2:3 1:1", 5, "0x2 1 0", "2:0 1:0"},
		{"fewer wait than may be done", "2:3 1:1", 1000, "0x2 1 0", "2:0 1:0"},

		{"1000 of more", "20:10000", 1000, "0x1000", "20:9000"},
		{"1000 of as many", "20:1000", 1000, "0x1000", "20:0"},
		{"1000 of one more", "1:1001", 1000, "0x1000", "1:1"},
		{"999 of more", "20:10000", 999, "0x999", "20:9001"},
		{"MaxJobs", "1:9 2:9 3:9 4:9 5:9 6:9", 23, "0 1x2 2x3 3x4 4x5 5x6 0 1", "1:7 2:6 3:6 4:5 5:4 6:3"},
	} {
		t.Run(c.name, func(t *testing.T) {
			l := jobs(t, c.jobs)
			holdCheck(t, l, api.OK)
			holdServe(t, l, c.most, numbers(t, c.done), jobs(t, c.left))
		})
	}
}

// TestServeOn: what is left may be served again; a round that was broken off is
// not gone on with, as nothing is kept of it.
func TestServeOn(t *testing.T) {
	l := jobs(t, "3:7 2:5 1:0")
	for _, c := range []struct {
		most       int
		done, left string
	}{
		{4, "0x3 1", "3:4 2:4 1:0"},
		{0, "", "3:4 2:4 1:0"},
		{1, "0", "3:3 2:4 1:0"},
		{5, "0x3 1x2", "3:0 2:2 1:0"},
		{1, "1", "3:0 2:1 1:0"},
		{9, "1", "3:0 2:0 1:0"},
		{9, "", "3:0 2:0 1:0"},
	} {
		holdServe(t, l, c.most, numbers(t, c.done), jobs(t, c.left))
		_, left, err := Serve(l, c.most)
		if err != nil {
			t.Fatal(err)
		}
		l = left
	}
}

// TestShares: of each job how many; what waits is none of it.
func TestShares(t *testing.T) {
	for _, c := range []struct {
		name, jobs string
		n          int
		want       string
	}{
		{"one", "7:5", 9, "9"},
		{"one, of which none waits", "7:0", 1000, "1000"},
		{"one, of which fewer wait", "1:1", 500, "500"},
		{"no bits", "3:1 2:1 1:1", 0, "0 0 0"},
		{"no bits, one job", "20:1", 0, "0"},
		{"one bit", "3:1 2:1 1:1", 1, "1 0 0"},
		{"one bit, and the first weighs least", "1:1 20:1 20:1", 1, "1 0 0"},

		{"divided", "1:0 2:0 3:0", 12, "2 4 6"},
		{"divided, alike", "5:0 5:0 5:0 5:0", 8, "2 2 2 2"},
		{"divided, by 1000", "1:0 3:0 4:0", 1000, "125 375 500"},
		{"divided, the sum itself", "20:0 7:0 1:0", 28, "20 7 1"},
		{"divided, the least weight", "1:0 19:0", 20, "1 19"},

		{"one is left", "1:0 2:0 3:0", 13, "3 4 6"},
		{"one is left, of all", "1:0 1:0", 3, "2 1"},
		{"two are left", "1:0 1:0 1:0", 5, "2 2 1"},
		{"one is left, and the first came out even", "2:0 1:0 1:0 4:0", 20, "6 2 2 10"},
		{"left for the first, though the last lost more", "6:0 1:0", 8, "7 1"},
		{"left for the first, though it lost nothing", "4:0 1:0 3:0", 2, "2 0 0"},
		{"as many as there are, but one", "1:0 1:0 1:0 1:0 1:0 1:0", 5, "1 1 1 1 1 0"},
		{"fewer bits than jobs", "9:0 9:0 9:0 9:0", 2, "1 1 0 0"},
		{"the least beside the greatest", "20:0 1:0", 20, "20 0"},
		{"the least ahead of the greatest", "1:0 20:0", 20, "1 19"},
		{"1000", "1:0 1:0 1:0", 1000, "334 333 333"},
		{"999", "1:0 1:0 1:0", 999, "333 333 333"},
		{"1000, MaxJobs of MaxWeight", "20:0 20:0 20:0 20:0 20:0 20:0", 1000, "167 167 167 167 166 166"},
		{"1000, the greatest among the least", "1:0 1:0 20:0 1:0 1:0 1:0", 1000, "40 40 800 40 40 40"},
		{"1000, three are left", "7:0 11:0 13:0 17:0 19:0 20:0", 1000, "81 127 150 195 218 229"},
		{"as whatever waits", "1:10000 2:0 3:7", 13, "3 4 6"},
	} {
		t.Run(c.name, func(t *testing.T) {
			l := jobs(t, c.jobs)
			holdCheck(t, l, api.OK)
			holdShares(t, l, c.n, numbers(t, c.want))
		})
	}
}
