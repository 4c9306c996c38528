package judge

import (
	"slices"
	"strconv"
	"strings"
	"testing"

	"yardgang/api"
	"yardgang/plain"
	"yardgang/plan"
)

// most tasks of a plan, work of a task, hands that there may be, and the last step.
const (
	most     = 30
	mostWork = 20
	all      = 6
	last     = 10000
)

func TestNumbers(t *testing.T) {
	if api.MaxTasks != most || api.MaxWork != mostWork || api.MaxHands != all {
		t.Fatal("a plan has 30 tasks, a task 20 units of work, and there are 6 hands, at most")
	}
}

// read a plan that is right.
func read(t *testing.T, text string) api.Plan {
	t.Helper()
	p, err := plan.Parse(text)
	if err != nil {
		t.Fatal(text, err)
	}
	return p
}

// numbers of a text, blanks between.
func numbers(t *testing.T, text string) []int {
	t.Helper()
	var l []int
	for _, w := range strings.Fields(text) {
		n, err := strconv.Atoi(w)
		if err != nil {
			t.Fatal(text, err)
		}
		l = append(l, n)
	}
	return l
}

// rows of so many numbers each, commas between.
func rows(t *testing.T, text string, width int) [][]int {
	t.Helper()
	var l [][]int
	for _, w := range strings.Split(text, ",") {
		row := numbers(t, w)
		if len(row) == 0 && text == "" {
			return nil
		}
		if len(row) != width {
			t.Fatal(text, row)
		}
		l = append(l, row)
	}
	return l
}

// bits of a text: step, hand, task.
func bits(t *testing.T, text string) []api.Bit {
	t.Helper()
	var l []api.Bit
	for _, r := range rows(t, text, 3) {
		l = append(l, api.Bit{Step: r[0], Hand: r[1], Task: r[2]})
	}
	return l
}

// stays of a text: hand, task, from, to.
func stays(t *testing.T, text string) []api.Stay {
	t.Helper()
	var l []api.Stay
	for _, r := range rows(t, text, 4) {
		l = append(l, api.Stay{Hand: r[0], Task: r[1], From: r[2], To: r[3]})
	}
	return l
}

// holdBits holds that bits may be so, and what Ends tells of them.
func holdBits(t *testing.T, p api.Plan, hands int, l []api.Bit, ends []int) {
	t.Helper()
	if err := Bits(p, hands, l); err != nil {
		t.Errorf("%v: Bits by %d of %v: got %v", p, hands, l, err)
	}
	if got, err := Ends(p, hands, l); err != nil || !slices.Equal(got, ends) {
		t.Errorf("%v: Ends by %d of %v: got %v %v, want %v", p, hands, l, got, err, ends)
	}
}

// refuseBits holds that Bits and Ends tell an error, and nothing else.
func refuseBits(t *testing.T, p api.Plan, hands int, l []api.Bit, want api.Errno) {
	t.Helper()
	if err := Bits(p, hands, l); plain.Told(err) != want {
		t.Errorf("%v: Bits by %d of %v: got %v, want %v", p, hands, l, err, want)
	}
	if got, err := Ends(p, hands, l); len(got) != 0 || plain.Told(err) != want {
		t.Errorf("%v: Ends by %d of %v: got %v %v, want %v", p, hands, l, got, err, want)
	}
}

// holdStays holds whether stays may be so.
func holdStays(t *testing.T, p api.Plan, hands int, l []api.Stay, want api.Errno) {
	t.Helper()
	if err := Stays(p, hands, l); plain.Told(err) != want {
		t.Errorf("%v: Stays by %d of %v: got %v, want %v", p, hands, l, err, want)
	}
}

func TestBitsThatMayBe(t *testing.T) {
	for _, c := range []struct {
		text  string
		hands int
		bits  string
		ends  string
	}{
		// No task: no bits.
		{"", 1, "", ""},
		{"", 6, "", ""},

		// One: by whichever hand, in whichever steps, in whatever order they stand.
		{"1", 1, "0 0 0", "0"},
		{"1", 1, "10000 0 0", "10000"},
		{"1", 6, "7 5 0", "7"},
		{"3", 1, "0 0 0, 1 0 0, 2 0 0", "2"},
		{"3", 1, "2 0 0, 0 0 0, 1 0 0", "2"},
		{"3", 1, "2 0 0, 1 0 0, 0 0 0", "2"},
		{"3", 1, "0 0 0, 9 0 0, 4 0 0", "9"},
		{"3", 3, "0 0 0, 1 2 0, 2 1 0", "2"},
		{"2", 2, "0 0 0, 10000 1 0", "10000"},

		// Beside each other: in turns, at once, and with idle steps.
		{"2 2", 1, "0 0 0, 1 0 1, 2 0 0, 3 0 1", "2 3"},
		{"2 2", 2, "0 0 0, 0 1 1, 1 0 0, 1 1 1", "1 1"},
		{"2 2", 2, "0 0 0, 0 1 1, 1 1 0, 1 0 1", "1 1"},
		{"2 2", 2, "5 1 1, 9 0 0, 8 0 1, 5 0 0", "9 8"},
		{"1 1 1", 3, "0 2 0, 0 1 1, 0 0 2", "0 0 0"},
		{"1 1 1", 1, "3 0 1, 2 0 0, 0 0 2", "2 3 0"},

		// One behind the other: in the very next step, and later.
		{"1 1<0", 1, "0 0 0, 1 0 1", "0 1"},
		{"1 1<0", 1, "1 0 1, 0 0 0", "0 1"},
		{"1 1<0", 2, "0 0 0, 1 1 1", "0 1"},
		{"1 1<0", 2, "9999 0 0, 10000 0 1", "9999 10000"},
		{"1<1 1", 1, "0 0 1, 1 0 0", "1 0"},
		{"2 2<0", 2, "0 0 0, 3 1 0, 4 1 1, 8 0 1", "3 8"},
		{"1 2<0 1<1", 6, "3 0 2, 2 0 1, 0 0 0, 1 5 1", "0 2 3"},

		// Both.
		{"3 2<0 1<0 4<1,2", 2, "0 0 0, 1 0 0, 2 0 0, 3 0 1, 3 1 2, 4 0 1, 5 0 3, 6 0 3, 7 0 3, 8 0 3", "2 4 3 8"},
		{"3 2<0 1<0 4<1,2", 2, "8 0 3, 7 1 3, 6 0 3, 5 1 3, 4 0 1, 3 1 1, 3 0 2, 2 1 0, 1 0 0, 0 1 0", "2 4 3 8"},
		{"1<2 1<2 1 3", 2, "0 0 2, 0 1 3, 1 0 0, 1 1 1, 2 0 3, 3 0 3", "1 1 0 3"},
		{"1 1 1<0", 3, "5 0 1, 0 0 0, 5 1 2", "0 5 5"},
	} {
		holdBits(t, read(t, c.text), c.hands, bits(t, c.bits), numbers(t, c.ends))
	}
}

func TestStaysThatMayBe(t *testing.T) {
	for _, c := range []struct {
		text  string
		hands int
		stays string
	}{
		// No task: no stays.
		{"", 1, ""},
		{"", 6, ""},

		// One: by whichever hand, whenever.
		{"1", 1, "0 0 0 1"},
		{"1", 1, "0 0 9999 10000"},
		{"20", 1, "0 0 9980 10000"},
		{"20", 6, "5 0 0 20"},
		{"3", 6, "2 0 4 7"},

		// Beside each other: one begins when the other ends, whichever stands first.
		{"2 3", 1, "0 0 0 2, 0 1 2 5"},
		{"2 3", 1, "0 1 2 5, 0 0 0 2"},
		{"2 3", 1, "0 0 3 5, 0 1 0 3"},
		{"2 3", 1, "0 1 0 3, 0 0 9 11"},
		{"1 1 1", 1, "0 0 0 1, 0 2 2 3, 0 1 1 2"},

		// At once, by several hands.
		{"2 3", 2, "0 0 0 2, 1 1 0 3"},
		{"2 3", 2, "1 0 1 3, 0 1 0 3"},
		{"5 5 5", 3, "2 0 0 5, 1 1 0 5, 0 2 0 5"},

		// One behind the other: when it ends, and later; whichever stands first.
		{"1 1<0", 1, "0 0 0 1, 0 1 1 2"},
		{"1 1<0", 1, "0 1 1 2, 0 0 0 1"},
		{"1 1<0", 2, "0 0 0 1, 1 1 1 2"},
		{"3 1<0", 2, "1 1 3 4, 0 0 0 3"},
		{"3 1<0", 2, "1 1 9999 10000, 0 0 0 3"},
		{"1<1 4", 2, "0 1 0 4, 1 0 4 5"},

		// Both.
		{"3 2<0 1<0 4<1,2", 2, "0 0 0 3, 0 1 3 5, 1 2 3 4, 0 3 5 9"},
		{"3 2<0 1<0 4<1,2", 2, "0 3 7 11, 1 2 6 7, 0 1 3 5, 1 0 0 3"},
		{"3 2<0 1<0 4<1,2", 1, "0 3 6 10, 0 1 3 5, 0 0 0 3, 0 2 5 6"},
	} {
		holdStays(t, read(t, c.text), c.hands, stays(t, c.stays), api.OK)
	}
}

// TestBitsWithOneFault: all else may be so.
func TestBitsWithOneFault(t *testing.T) {
	for _, c := range []struct {
		text  string
		hands int
		bits  string
		want  api.Errno
	}{
		// A number that may not be.
		{"1", 1, "-1 0 0", api.ErrRange},
		{"1", 1, "10001 0 0", api.ErrRange},
		{"1", 1, "0 -1 0", api.ErrRange},
		{"1", 1, "0 1 0", api.ErrRange},
		{"1", 5, "0 5 0", api.ErrRange},
		{"1", 6, "0 6 0", api.ErrRange},
		{"1", 1, "0 0 -1", api.ErrRange},
		{"1", 1, "0 0 1", api.ErrRange},
		{"1 1", 1, "0 0 0, 1 0 2", api.ErrRange},
		{"1 1", 1, "1 0 -1, 0 0 0", api.ErrRange},

		// A hand did two in one step, next to each other and not.
		{"1 1", 1, "0 0 0, 0 0 1", api.ErrClash},
		{"1 1", 6, "0 5 0, 0 5 1", api.ErrClash},
		{"2 1", 1, "0 0 0, 1 0 0, 0 0 1", api.ErrClash},
		{"1 1", 1, "10000 0 1, 10000 0 0", api.ErrClash},

		// A task had two in one step, by two hands and by one.
		{"2", 2, "0 0 0, 0 1 0", api.ErrClash},
		{"2", 2, "3 1 0, 3 0 0", api.ErrClash},
		{"3", 2, "0 0 0, 1 0 0, 0 1 0", api.ErrClash},
		{"2", 1, "4 0 0, 4 0 0", api.ErrClash},

		// One too many.
		{"1", 1, "0 0 0, 1 0 0", api.ErrFull},
		{"1", 1, "1 0 0, 0 0 0", api.ErrFull},
		{"2", 2, "0 0 0, 1 0 0, 2 1 0", api.ErrFull},
		{"1 1", 2, "0 0 0, 0 1 1, 1 1 1", api.ErrFull},
		{"1 1<0", 1, "0 0 0, 1 0 1, 2 0 1", api.ErrFull},

		// One too few, the first one and the last, or none at all.
		{"1", 1, "", api.ErrNone},
		{"2", 1, "0 0 0", api.ErrNone},
		{"2 1", 1, "0 0 0, 1 0 1", api.ErrNone},
		{"1 2", 1, "0 0 0, 1 0 1", api.ErrNone},
		{"1 1", 1, "0 0 0", api.ErrNone},
		{"1 1", 1, "0 0 1", api.ErrNone},
		{"1 1<0", 1, "0 0 0", api.ErrNone},
		{"1 1<0", 1, "5 0 1", api.ErrNone},

		// In the very step of one that it needs, and ahead of it.
		{"1 1<0", 2, "0 0 0, 0 1 1", api.ErrState},
		{"1 1<0", 2, "0 0 1, 0 1 0", api.ErrState},
		{"1 1<0", 1, "0 0 1, 1 0 0", api.ErrState},
		{"1 1<0", 1, "1 0 0, 0 0 1", api.ErrState},
		{"1<1 1", 1, "0 0 0, 1 0 1", api.ErrState},
		{"1<1 1", 2, "7 0 0, 7 1 1", api.ErrState},

		// Only its first bit is too early, wherever it stands.
		{"2 2<0", 2, "0 0 0, 1 0 0, 1 1 1, 2 0 1", api.ErrState},
		{"2 2<0", 2, "0 0 0, 1 0 0, 2 0 1, 1 1 1", api.ErrState},
		{"2 2<0", 2, "2 0 1, 1 1 1, 1 0 0, 0 0 0", api.ErrState},
		{"2 2<0", 1, "0 0 0, 2 0 0, 1 0 1, 3 0 1", api.ErrState},

		// Only the last one of those that it needs is not done, whichever that is.
		{"1 1 1<0,1", 1, "0 0 0, 1 0 2, 2 0 1", api.ErrState},
		{"1 1 1<0,1", 1, "2 0 0, 1 0 2, 0 0 1", api.ErrState},
		{"1 1 1 1<0,1,2", 2, "0 0 0, 0 1 2, 1 0 1, 1 1 3", api.ErrState},
	} {
		refuseBits(t, read(t, c.text), c.hands, bits(t, c.bits), c.want)
	}
}

// TestStaysWithOneFault: all else may be so.
func TestStaysWithOneFault(t *testing.T) {
	for _, c := range []struct {
		text  string
		hands int
		stays string
		want  api.Errno
	}{
		// A number that may not be.
		{"1", 1, "-1 0 0 1", api.ErrRange},
		{"1", 1, "1 0 0 1", api.ErrRange},
		{"1", 5, "5 0 0 1", api.ErrRange},
		{"1", 6, "6 0 0 1", api.ErrRange},
		{"1", 1, "0 -1 0 1", api.ErrRange},
		{"1", 1, "0 1 0 1", api.ErrRange},
		{"1", 1, "0 0 -1 0", api.ErrRange},
		{"2", 1, "0 0 -1 1", api.ErrRange},
		{"1", 1, "0 0 -2 -1", api.ErrRange},
		{"1", 1, "0 0 2 1", api.ErrRange},
		{"1", 1, "0 0 10000 10001", api.ErrRange},
		{"20", 1, "0 0 9981 10001", api.ErrRange},
		{"1 1", 1, "0 0 0 1, 0 2 1 2", api.ErrRange},

		// The other way round it would be its work.
		{"1", 1, "0 0 1 0", api.ErrRange},
		{"20", 1, "0 0 20 0", api.ErrRange},

		// To is not From and the work: more, less, and nothing at all.
		{"1", 1, "0 0 0 2", api.ErrShape},
		{"2", 1, "0 0 0 1", api.ErrShape},
		{"1", 1, "0 0 0 0", api.ErrShape},
		{"1", 1, "0 0 10000 10000", api.ErrShape},
		{"20", 1, "0 0 0 10000", api.ErrShape},
		{"5", 1, "0 0 3 5", api.ErrShape},
		{"1 2", 2, "0 0 0 1, 1 1 0 1", api.ErrShape},
		{"1 2", 2, "0 0 0 2, 1 1 0 2", api.ErrShape},

		// A task twice: at once, apart, the same.
		{"1", 1, "0 0 0 1, 0 0 1 2", api.ErrClash},
		{"1", 2, "0 0 0 1, 1 0 0 1", api.ErrClash},
		{"1", 1, "0 0 0 1, 0 0 0 1", api.ErrClash},
		{"1 1", 2, "0 0 0 1, 1 1 0 1, 1 0 7 8", api.ErrClash},

		// A hand has two that meet: in one step, at the end and at the
		// beginning; in some; in all; one within the other.
		{"1 1", 1, "0 0 0 1, 0 1 0 1", api.ErrClash},
		{"2 2", 1, "0 0 0 2, 0 1 1 3", api.ErrClash},
		{"2 2", 1, "0 0 1 3, 0 1 0 2", api.ErrClash},
		{"2 2", 2, "1 0 9998 10000, 1 1 9997 9999", api.ErrClash},
		{"5 5", 1, "0 0 0 5, 0 1 2 7", api.ErrClash},
		{"5 5", 6, "5 0 2 7, 5 1 2 7", api.ErrClash},
		{"5 1", 1, "0 0 0 5, 0 1 2 3", api.ErrClash},
		{"5 1", 1, "0 1 2 3, 0 0 0 5", api.ErrClash},
		{"20 1", 1, "0 0 0 20, 0 1 19 20", api.ErrClash},
		{"20 1", 1, "0 0 0 20, 0 1 0 1", api.ErrClash},
		{"1 1 1", 1, "0 0 0 1, 0 1 5 6, 0 2 0 1", api.ErrClash},

		// A task is not there, the first one and the last, or none at all.
		{"1", 1, "", api.ErrNone},
		{"1 1", 1, "0 0 0 1", api.ErrNone},
		{"1 1", 1, "0 1 0 1", api.ErrNone},
		{"1 1 1", 1, "0 0 0 1, 0 2 2 3", api.ErrNone},
		{"1 1<0", 1, "0 0 0 1", api.ErrNone},
		{"1 1<0", 1, "0 1 5 6", api.ErrNone},

		// One below the To of one that it needs, and far below it.
		{"2 1<0", 2, "0 0 0 2, 1 1 1 2", api.ErrState},
		{"2 1<0", 2, "1 1 1 2, 0 0 0 2", api.ErrState},
		{"1 1<0", 2, "0 0 0 1, 1 1 0 1", api.ErrState},
		{"1 1<0", 1, "0 0 1 2, 0 1 0 1", api.ErrState},
		{"1<1 1", 1, "0 0 0 1, 0 1 1 2", api.ErrState},
		{"20 20<0", 2, "0 0 9980 10000, 1 1 0 20", api.ErrState},

		// Only the last one of those that it needs is not done, whichever that is.
		{"3 1 1<0,1", 2, "0 0 0 3, 1 1 0 1, 1 2 2 3", api.ErrState},
		{"1 3 1<0,1", 2, "0 0 0 1, 1 1 0 3, 0 2 2 3", api.ErrState},
		{"1 3 1 1<0,1,2", 3, "0 0 0 1, 1 1 0 3, 2 2 0 1, 0 3 1 2", api.ErrState},
	} {
		holdStays(t, read(t, c.text), c.hands, stays(t, c.stays), c.want)
	}
}

// TestBitsWithSeveralFaults: bit by bit first, of each bit as the chapter
// names them; then that one is missing; then that one is too early.
func TestBitsWithSeveralFaults(t *testing.T) {
	for _, c := range []struct {
		text  string
		hands int
		bits  string
		want  api.Errno
	}{
		// Of one bit: what cannot be is told ahead of a clash, and a clash
		// ahead of one too many.
		{"1 1", 1, "0 0 0, 0 0 2", api.ErrRange},
		{"2", 2, "0 0 0, 0 2 0", api.ErrRange},
		{"1", 1, "0 0 0, 10001 0 0", api.ErrRange},
		{"1", 1, "0 0 0, 0 1 0", api.ErrRange},
		{"1", 1, "0 0 0, 0 0 0", api.ErrClash},
		{"1", 2, "0 0 0, 0 1 0", api.ErrClash},
		{"1 1", 1, "0 0 0, 1 0 1, 1 0 0", api.ErrClash},

		// Of several bits: the first that has a fault.
		{"1 1", 1, "0 0 0, 0 0 1, -1 0 0", api.ErrClash},
		{"1 1", 1, "-1 0 0, 0 0 0, 0 0 1", api.ErrRange},
		{"1 1", 1, "0 0 0, 1 0 0, -1 0 1", api.ErrFull},
		{"1 1", 1, "0 0 0, -1 0 1, 1 0 0", api.ErrRange},
		{"1 1", 1, "0 0 0, 1 0 0, 1 0 1", api.ErrFull},
		{"1 1", 1, "0 0 0, 0 0 1, 1 0 0", api.ErrClash},

		// Ahead of what is told of all of them.
		{"1 1", 1, "0 0 0, 0 0 2", api.ErrRange},
		{"2 2", 1, "0 0 0, 0 0 1", api.ErrClash},
		{"1 1", 1, "0 0 0, 1 0 0", api.ErrFull},
		{"1 1<0", 1, "0 0 1, 1 0 0, 2 0 2", api.ErrRange},
		{"1 2<0", 2, "0 0 1, 1 0 0, 1 0 1", api.ErrClash},
		{"1 1<0", 1, "0 0 1, 1 0 0, 2 0 1", api.ErrFull},
		{"1 1 1<1", 1, "3 0 0, 1 0 2, 2 0 1, 4 0 0", api.ErrFull},

		// One too few ahead of one too early, whichever tasks they are.
		{"2 1<0", 1, "0 0 1, 1 0 0", api.ErrNone},
		{"1 2<0", 1, "0 0 1, 1 0 0", api.ErrNone},
		{"1 1<0 1", 1, "0 0 1, 1 0 0", api.ErrNone},
		{"1 1 1<1", 1, "1 0 2, 2 0 1", api.ErrNone},
	} {
		refuseBits(t, read(t, c.text), c.hands, bits(t, c.bits), c.want)
	}
}

// TestStaysWithSeveralFaults: stay by stay first, of each stay as the chapter
// names them; then that one is missing; then that one is too early.
func TestStaysWithSeveralFaults(t *testing.T) {
	for _, c := range []struct {
		text  string
		hands int
		stays string
		want  api.Errno
	}{
		// Of one stay: what cannot be is told ahead of what is not its work,
		// and that ahead of a clash.
		{"1", 1, "1 0 0 2", api.ErrRange},
		{"1", 1, "0 1 0 2", api.ErrRange},
		{"1", 1, "0 0 -1 1", api.ErrRange},
		{"1", 1, "0 0 5 4", api.ErrRange},
		{"1", 1, "0 0 0 10001", api.ErrRange},
		{"1", 1, "0 0 0 1, 1 0 0 1", api.ErrRange},
		{"1 1", 1, "0 0 0 1, 0 2 0 1", api.ErrRange},
		{"1", 1, "0 0 0 1, 0 0 0 2", api.ErrShape},
		{"1", 1, "0 0 0 1, 0 0 0 0", api.ErrShape},
		{"3 3", 1, "0 0 0 3, 0 1 1 2", api.ErrShape},

		// Of several stays: the first that has a fault.
		{"1 1", 1, "0 0 0 1, 0 1 0 1, -1 0 0 1", api.ErrClash},
		{"1 1", 1, "-1 0 0 1, 0 0 0 1, 0 1 0 1", api.ErrRange},
		{"1 1", 1, "0 0 0 2, 0 1 0 10001", api.ErrShape},
		{"1 1", 1, "0 1 0 10001, 0 0 0 2", api.ErrRange},
		{"1 1", 1, "0 0 0 1, 0 0 1 2, 0 1 2 4", api.ErrClash},
		{"1 1", 1, "0 0 0 1, 0 1 2 4, 0 0 1 2", api.ErrShape},

		// Ahead of what is told of all of them.
		{"1 1", 1, "0 2 0 1", api.ErrRange},
		{"1 1", 1, "0 0 0 2", api.ErrShape},
		{"1 1", 1, "0 0 0 1, 0 0 1 2", api.ErrClash},
		{"1 1<0", 1, "0 0 1 2, 0 1 0 1, 0 2 2 3", api.ErrRange},
		{"1 1<0", 1, "0 1 0 1, 0 0 1 3", api.ErrShape},
		{"1 1<0", 1, "0 0 1 2, 0 1 0 1, 0 1 2 3", api.ErrClash},
		{"1 1<0", 1, "0 0 0 1, 0 1 0 1", api.ErrClash},

		// One that is missing ahead of one too early, whichever tasks they are.
		{"1 1<0 1", 1, "0 0 1 2, 0 1 0 1", api.ErrNone},
		{"1 1 1<1", 1, "0 1 1 2, 0 2 0 1", api.ErrNone},
		{"1 1<0 1<1", 1, "0 0 1 2, 0 1 0 1", api.ErrNone},
	} {
		holdStays(t, read(t, c.text), c.hands, stays(t, c.stays), c.want)
	}
}
