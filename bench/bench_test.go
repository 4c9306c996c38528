package bench

import (
	"errors"
	"slices"
	"strconv"
	"strings"
	"testing"

	"yardgang/api"
	"yardgang/plain"
	"yardgang/plan"
)

// most bits that one call counts, the last step of one, and how many hands,
// tasks, and how much work of one there may be.
const (
	most  = 600
	last  = 10000
	all   = 6
	tasks = 30
	work  = 20
)

func TestNumbers(t *testing.T) {
	if api.MaxHands != all || api.MaxTasks != tasks || api.MaxWork != work {
		t.Fatal("there are 6 hands and 30 tasks, of a work of 20, at most")
	}
}

// number of a text.
func number(t *testing.T, text string) int {
	t.Helper()
	n, err := strconv.Atoi(text)
	if err != nil {
		t.Fatal(text, err)
	}
	return n
}

// numbers of a text, blanks between.
func numbers(t *testing.T, text string) []int {
	t.Helper()
	var l []int
	for _, w := range strings.Fields(text) {
		l = append(l, number(t, w))
	}
	return l
}

// bits of a text, commas between: of each its step, its hand and its task.
func bits(t *testing.T, text string) []api.Bit {
	t.Helper()
	var l []api.Bit
	for w := range strings.SplitSeq(text, ",") {
		if n := numbers(t, w); len(n) > 0 {
			l = append(l, api.Bit{Step: n[0], Hand: n[1], Task: n[2]})
		}
	}
	return l
}

// read a plan.
func read(t *testing.T, text string) api.Plan {
	t.Helper()
	p, err := plan.Parse(text)
	if err != nil {
		t.Fatal(text, err)
	}
	return p
}

// is tells whether an error is the wanted one: nil for OK, else an Errno, never OK.
func is(err error, want api.Errno) bool {
	var e api.Errno
	if err == nil || want == api.OK {
		return err == nil && want == api.OK
	}
	return errors.As(err, &e) && e == want && plain.Told(err) == want
}

// holdBusy holds what Busy tells of bits.
func holdBusy(t *testing.T, l []api.Bit, hands int, want []int) {
	t.Helper()
	if got, err := Busy(l, hands); !slices.Equal(got, want) || err != nil {
		t.Errorf("%v: Busy of %d: got %v %v, want %v", l, hands, got, err, want)
	}
}

// holdRow holds what Row tells of bits.
func holdRow(t *testing.T, l []api.Bit, want []int) {
	t.Helper()
	if got, err := Row(l); !slices.Equal(got, want) || err != nil {
		t.Errorf("%v: Row: got %v %v, want %v", l, got, err, want)
	}
}

// holdWaste holds what Waste tells of bits.
func holdWaste(t *testing.T, l []api.Bit, hands, want int) {
	t.Helper()
	if got, err := Waste(l, hands); got != want || err != nil {
		t.Errorf("%v: Waste of %d: got %v %v, want %v", l, hands, got, err, want)
	}
}

// holdSpeed holds what Speed tells of a plan.
func holdSpeed(t *testing.T, p api.Plan, hands, want int) {
	t.Helper()
	if got, err := Speed(p, hands); got != want || err != nil {
		t.Errorf("%v: Speed by %d: got %v %v, want %v", p, hands, got, err, want)
	}
}

// refuseBits holds that Busy and Waste tell an error, and nothing else.
func refuseBits(t *testing.T, l []api.Bit, hands int, want api.Errno) {
	t.Helper()
	if got, err := Busy(l, hands); len(got) != 0 || !is(err, want) {
		t.Errorf("%v: Busy of %d: got %v %v, want %v", l, hands, got, err, want)
	}
	if got, err := Waste(l, hands); got != 0 || !is(err, want) {
		t.Errorf("%v: Waste of %d: got %v %v, want %v", l, hands, got, err, want)
	}
}

// refuseRow holds that Row tells an error, and nothing else.
func refuseRow(t *testing.T, l []api.Bit, want api.Errno) {
	t.Helper()
	if got, err := Row(l); len(got) != 0 || !is(err, want) {
		t.Errorf("%v: Row: got %v %v, want %v", l, got, err, want)
	}
}

// refuseSpeed holds that Speed tells an error, and nothing else.
func refuseSpeed(t *testing.T, p api.Plan, hands int, want api.Errno) {
	t.Helper()
	if got, err := Speed(p, hands); got != 0 || !is(err, want) {
		t.Errorf("%v: Speed by %d: got %v %v, want %v", p, hands, got, err, want)
	}
}

// TestBits: how many each hand did and each step had, and how many more there
// could have been.
func TestBits(t *testing.T) {
	for _, c := range []struct {
		name, bits string
		busy, row  string
		waste      int
	}{
		{"none, one hand", "", "0", "", 0},
		{"none", "", "0 0 0", "", 0},
		{"none, MaxHands", "", "0 0 0 0 0 0", "", 0},
		{"one, one hand", "0 0 0", "1", "1", 0},
		{"one, of the first hand", "0 0 5", "1 0", "1", 1},
		{"one, of the last hand", "0 2 5", "0 0 1", "1", 2},
		{"one, in a later step", "4 1 5", "0 1", "0 0 0 0 1", 9},

		{"each step is filled", "0 0 0, 0 1 1, 1 0 2, 1 1 3", "2 2", "2 2", 0},
		{"each step is filled, by one hand", "0 0 0, 1 0 1, 2 0 0", "3", "1 1 1", 0},
		{"each step is filled, by MaxHands", "0 0 0, 0 1 1, 0 2 2, 0 3 3, 0 4 4, 0 5 5", "1 1 1 1 1 1", "6", 0},
		{"the last step is not filled", "0 0 0, 0 1 1, 1 0 2", "2 1", "2 1", 1},
		{"the first step is not filled", "0 1 0, 1 0 1, 1 1 2", "1 2", "1 2", 1},
		{"no step is filled", "0 0 0, 0 1 1, 1 2 0, 1 0 1", "2 1 1", "2 2", 2},
		{"a hand did nothing, the first", "0 1 0, 0 2 1, 1 1 0", "0 2 1", "2 1", 3},
		{"a hand did nothing, one in between", "0 0 0, 0 2 1, 1 0 0", "2 0 1", "2 1", 3},
		{"a hand did nothing, the last", "0 0 0, 0 1 1, 1 0 0", "2 1 0", "2 1", 3},
		{"one hand did all", "0 1 0, 1 1 0, 2 1 1, 3 1 1", "0 4 0 0", "1 1 1 1", 12},

		{"a step without bits, the first", "1 0 0, 1 1 1", "1 1", "0 2", 2},
		{"a step without bits, one in between", "0 0 0, 2 1 1", "1 1", "1 0 1", 4},
		{"steps without bits, of one hand", "1 0 0, 4 0 1, 5 0 0", "3", "0 1 0 0 1 1", 3},
		{"not in order of steps", "3 0 0, 0 1 1, 2 0 2, 0 0 3", "3 1", "2 0 1 1", 4},
		{"not in order of hands", "0 2 0, 0 0 1, 0 1 2", "1 1 1", "3", 0},
		{"the last step stands first", "5 0 0, 0 0 0", "2", "1 0 0 0 0 1", 4},
		{"the last step stands in between", "0 0 0, 5 0 0, 1 0 0", "3", "1 1 0 0 0 1", 3},
		{"all in one later step", "2 0 7, 2 1 8, 2 2 9", "1 1 1", "0 0 3", 6},

		{"a task by two hands in a step", "0 0 4, 0 1 4", "1 1", "2", 0},
		{"tasks count by none", "0 0 29, 1 0 29, 2 0 29", "3", "1 1 1", 0},

		{"a hand did two in a step", "0 0 0, 0 0 1, 1 1 2", "2 1", "2 1", 1},
		{"more bits in a step than hands", "0 0 0, 0 0 1, 0 1 2", "2 1", "3", -1},
		{"more bits in a step than the one hand", "0 0 0, 0 0 1, 0 0 2, 0 0 3", "4", "4", -3},
		{"more in one step, less in another", "0 0 0, 0 1 1, 0 0 2, 1 0 3", "3 1", "3 1", 0},
		{"more in one step, none in another", "1 0 0, 1 1 1, 1 0 2", "2 1", "0 3", 1},
		{"one bit, again and again", "1 1 1, 1 1 1, 1 1 1, 1 1 1, 1 1 1", "0 5", "0 5", -1},
	} {
		t.Run(c.name, func(t *testing.T) {
			l, busy := bits(t, c.bits), numbers(t, c.busy)
			holdBusy(t, l, len(busy), busy)
			holdRow(t, l, numbers(t, c.row))
			holdWaste(t, l, len(busy), c.waste)
		})
	}
}

// TestMoreHands: those that did nothing have their number too, and waste all steps.
func TestMoreHands(t *testing.T) {
	l := bits(t, "0 0 0, 1 0 0, 3 1 1")
	for hands := 2; hands <= all; hands++ {
		holdBusy(t, l, hands, append([]int{2, 1}, make([]int, hands-2)...))
		holdWaste(t, l, hands, 4*hands-3)
	}
	holdRow(t, l, []int{1, 1, 0, 1})
}

// TestSpeed: in hundredths, rounded down, by 1, 2 and so on to MaxHands.
func TestSpeed(t *testing.T) {
	for _, c := range []struct{ name, plan, want string }{
		{"no task", "", "100 100 100 100 100 100"},
		{"one", "1", "100 100 100 100 100 100"},
		{"one, of MaxWork", "20", "100 100 100 100 100 100"},
		{"a chain", "1 1<0 1<1 1<2", "100 100 100 100 100 100"},
		{"a chain, from the last one on", "3<1 4<2 2", "100 100 100 100 100 100"},

		{"beside each other, two", "1 1", "100 200 200 200 200 200"},
		{"beside each other, MaxHands", "1 1 1 1 1 1", "100 200 300 300 300 600"},
		{"beside each other, MaxHands less 1", "1 1 1 1 1", "100 166 250 250 500 500"},
		{"beside each other, MaxHands and 1", "1 1 1 1 1 1 1", "100 175 233 350 350 350"},
		{"beside each other, of other works", "2 1 3", "100 150 200 200 200 200"},
		{"the longest one is the last", "1 1 1 5", "100 133 133 160 160 160"},
		{"the longest one is the first", "5 1 1 1", "100 160 160 160 160 160"},

		{"a half is told", "2 1", "100 150 150 150 150 150"},
		{"a third is rounded down", "3 1", "100 133 133 133 133 133"},
		{"two thirds are rounded down", "3 2", "100 166 166 166 166 166"},
		{"sevenths are rounded down", "7 6", "100 185 185 185 185 185"},
		{"hardly more than with one", "20<1 1 1", "100 104 104 104 104 104"},
		{"hardly less than with one more", "20 19", "100 195 195 195 195 195"},

		{"one ahead, one behind", "3 2<0 1<0 4<1,2", "100 111 111 111 111 111"},
		{"two need the third", "1<2 1<2 1 3", "100 150 200 200 200 200"},
		{"five behind one", "1 1<0 1<0 1<0 1<0 1<0", "100 150 200 200 300 300"},
		{"one behind five", "1<1,2,3,4,5 1 1 1 1 1", "100 150 200 200 300 300"},
		{"two chains", "2 3<0 2 3<2", "100 200 200 200 200 200"},
	} {
		t.Run(c.name, func(t *testing.T) {
			p := read(t, c.plan)
			for i, want := range numbers(t, c.want) {
				holdSpeed(t, p, i+1, want)
			}
		})
	}
}
