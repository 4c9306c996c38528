package groups

import (
	"errors"
	"slices"
	"strconv"
	"strings"
	"testing"

	"yardgang/api"
	"yardgang/plain"
	"yardgang/plan"
)

// most tasks of a plan, and groups that there may be.
const (
	mostTasks  = 30
	mostGroups = 12
)

func TestNumbers(t *testing.T) {
	if api.MaxTasks != mostTasks || api.MaxGroups != mostGroups {
		t.Fatal("a plan has 30 tasks, and there are 12 groups, at most")
	}
}

// read a plan that is right.
func read(t *testing.T, text string) api.Plan {
	t.Helper()
	p, err := plan.Parse(text)
	if err != nil {
		t.Fatal(text, err)
	}
	return p
}

// numbers of a text, blanks between.
func numbers(t *testing.T, text string) []int {
	t.Helper()
	var l []int
	for _, w := range strings.Fields(text) {
		n, err := strconv.Atoi(w)
		if err != nil {
			t.Fatal(text, err)
		}
		l = append(l, n)
	}
	return l
}

// some groups of a text: of each its parent, and x behind it, if it is cancelled.
func some(t *testing.T, text string) []api.Group {
	t.Helper()
	var g []api.Group
	for _, w := range strings.Fields(text) {
		w, cancelled := strings.CutSuffix(w, "x")
		n, err := strconv.Atoi(w)
		if err != nil {
			t.Fatal(text, err)
		}
		g = append(g, api.Group{Parent: n, Cancelled: cancelled})
	}
	return g
}

// marks of a text: 1 for each that is so.
func marks(text string) []bool {
	var l []bool
	for _, c := range text {
		l = append(l, c == '1')
	}
	return l
}

// is tells whether an error is the wanted one: nil for OK, else an Errno, never OK.
func is(err error, want api.Errno) bool {
	var e api.Errno
	if err == nil || want == api.OK {
		return err == nil && want == api.OK
	}
	return errors.As(err, &e) && e == want && plain.Told(err) == want
}

// holdGone holds what Gone tells of a group.
func holdGone(t *testing.T, g []api.Group, i int, want bool) {
	t.Helper()
	if got, err := Gone(g, i); got != want || err != nil {
		t.Errorf("%v: Gone %d: got %v %v, want %v", g, i, got, err, want)
	}
}

// holdCancel holds what Cancel tells of a group.
func holdCancel(t *testing.T, g []api.Group, i int, want []api.Group) {
	t.Helper()
	if got, err := Cancel(g, i); !slices.Equal(got, want) || err != nil {
		t.Errorf("%v: Cancel %d: got %v %v, want %v", g, i, got, err, want)
	}
}

// holdLive holds which tasks Live tells.
func holdLive(t *testing.T, p api.Plan, g []api.Group, of []int, want []bool) {
	t.Helper()
	if got, err := Live(p, g, of); !slices.Equal(got, want) || err != nil {
		t.Errorf("%v: Live in %v of %v: got %v %v, want %v", p, g, of, got, err, want)
	}
}

// refusePlace holds that Gone and Cancel tell an error, and nothing else.
func refusePlace(t *testing.T, g []api.Group, i int, want api.Errno) {
	t.Helper()
	if got, err := Gone(g, i); got || !is(err, want) {
		t.Errorf("%v: Gone %d: got %v %v, want %v", g, i, got, err, want)
	}
	if got, err := Cancel(g, i); len(got) != 0 || !is(err, want) {
		t.Errorf("%v: Cancel %d: got %v %v, want %v", g, i, got, err, want)
	}
}

// refuseLive holds that Live tells an error, and nothing else.
func refuseLive(t *testing.T, p api.Plan, g []api.Group, of []int, want api.Errno) {
	t.Helper()
	if got, err := Live(p, g, of); len(got) != 0 || !is(err, want) {
		t.Errorf("%v: Live in %v of %v: got %v %v, want %v", p, g, of, got, err, want)
	}
}

// TestGone: by place, which groups are; and that Check finds nothing wrong.
func TestGone(t *testing.T) {
	for _, c := range []struct{ groups, gone string }{
		{"", ""},
		{"-1", "0"},
		{"-1x", "1"},
		{"-1 0 1 2", "0000"},
		{"-1x 0 1 2", "1111"},
		{"-1 0x 1 2", "0111"},
		{"-1 0 1x 2", "0011"},
		{"-1 0 1 2x", "0001"},
		{"-1x 0 1x 2", "1111"},
		{"-1 -1 -1", "000"},
		{"-1x -1 -1", "100"},
		{"-1 -1x -1", "010"},
		{"-1 -1 -1x", "001"},
		{"-1x -1 -1x", "101"},
		{"-1 0 0 0", "0000"},
		{"-1 0 0x 0", "0010"},
		{"-1x 0 0 0", "1111"},
		{"-1 0x -1 1 2", "01010"},
		{"-1 -1x 0 1 2 3", "010101"},
		{"-1 0 0 1 1x 2 2 4 5", "000010010"},
		{"-1 0 0x 1 1 2 2 4 5", "001001101"},
		{"-1 0 1 -1x 3 2 4", "0001101"},
	} {
		g := some(t, c.groups)
		if err := Check(g); err != nil {
			t.Errorf("%s: Check: got %v", c.groups, err)
		}
		for i, want := range marks(c.gone) {
			holdGone(t, g, i, want)
		}
	}
}

// TestCancel: one more is cancelled, and nothing else is another.
func TestCancel(t *testing.T) {
	for _, c := range []struct {
		groups string
		i      int
		want   string
	}{
		{"-1", 0, "-1x"},
		{"-1x", 0, "-1x"},
		{"-1 0 1", 0, "-1x 0 1"},
		{"-1 0 1", 1, "-1 0x 1"},
		{"-1 0 1", 2, "-1 0 1x"},
		{"-1x 0 1", 2, "-1x 0 1x"},
		{"-1 -1 0 1", 1, "-1 -1x 0 1"},
		{"-1 0x 0 2", 1, "-1 0x 0 2"},
		{"-1 0x 0 2x", 2, "-1 0x 0x 2x"},
	} {
		holdCancel(t, some(t, c.groups), c.i, some(t, c.want))
	}
}

// TestCancelAll: one after the other, in what the one ahead told; then all are gone.
func TestCancelAll(t *testing.T) {
	g := some(t, "-1 0 0 -1 3 1")
	for _, c := range []struct {
		i    int
		gone string
	}{
		{4, "000010"},
		{1, "010011"},
		{5, "010011"},
		{3, "010111"},
		{0, "111111"},
		{2, "111111"},
	} {
		next, err := Cancel(g, c.i)
		if err != nil {
			t.Fatal(err)
		}
		g = next
		for i, want := range marks(c.gone) {
			holdGone(t, g, i, want)
		}
	}
	if want := some(t, "-1x 0x 0x -1x 3x 1x"); !slices.Equal(g, want) {
		t.Errorf("got %v, want %v", g, want)
	}
}

// TestLive: by number, which tasks can be done.
func TestLive(t *testing.T) {
	for _, c := range []struct{ name, plan, groups, of, live string }{
		{"no tasks, no groups", "", "", "", ""},
		{"no tasks", "", "-1 0x", "", ""},
		{"one", "1", "-1", "0", "1"},
		{"one that is gone", "1", "-1x", "0", "0"},
		{"none is gone", "3 2<0 1<0 4<1,2", "-1 0 0", "0 1 2 0", "1111"},
		{"one is gone of which no task is", "3 2<0 1<0 4<1,2", "-1 0 0x", "0 1 1 0", "1111"},
		{"all are gone", "1 1 1", "-1x 0 1", "0 1 2", "000"},
		{"beside each other", "1 1 1", "-1 0x 1", "0 1 2", "100"},
		{"the first of a chain", "1 1<0 1<1 1<2", "-1 -1x", "1 0 0 0", "0000"},
		{"the middle of a chain", "1 1<0 1<1 1<2 1<3", "-1 -1x", "0 0 1 0 0", "11000"},
		{"the last of a chain", "1 1<0 1<1 1<2", "-1 -1x", "0 0 0 1", "1110"},
		{"a chain from its end on", "1<1 1<2 1<3 1", "-1 -1x", "0 0 1 0", "0001"},
		{"a chain hither and thither", "1<3 1<0 1 1<2 1<1", "-1 -1x", "1 0 0 0 0", "00110"},
		{"one of two that it needs, the first", "1 1 1<0,1", "-1 -1x", "1 0 0", "010"},
		{"one of two that it needs, the last", "1 1 1<0,1", "-1 -1x", "0 1 0", "100"},
		{"the top of a diamond", "1 1<0 1<0 1<1,2", "-1x -1", "0 1 1 1", "0000"},
		{"one side of a diamond", "1 1<0 1<0 1<1,2", "-1x -1", "1 0 1 1", "1010"},
		{"the foot of a diamond", "1 1<0 1<0 1<1,2", "-1x -1", "1 1 1 0", "1110"},
		{"by the parent's parent", "1 1<0 1 1<2", "-1x 0 1 -1", "3 2 3 3", "1011"},
		{"two ways, one of them", "1 1 1<0 1<1 1<2 1<3", "-1 0x 0", "1 2 2 2 0 0", "010101"},
		{"part of what is live", "1 1<0", "-1 0x", "0 1", "10"},
		{"work is none of it", "20 1<0 20<1", "-1 -1x", "0 1 0", "100"},
	} {
		t.Run(c.name, func(t *testing.T) {
			holdLive(t, read(t, c.plan), some(t, c.groups), numbers(t, c.of), marks(c.live))
		})
	}
}

// TestLiveAlongCancel: the tasks of groups that are cancelled one after the other.
func TestLiveAlongCancel(t *testing.T) {
	p := read(t, "1 1<0 1<0 1<1 1<2 1 1<5")
	of := []int{0, 1, 2, 1, 2, 3, 0}
	g := some(t, "-1 0 0 -1")
	holdLive(t, p, g, of, marks("1111111"))
	for _, c := range []struct {
		i    int
		live string
	}{
		{2, "1101011"},
		{3, "1101000"},
		{1, "1000000"},
		{0, "0000000"},
	} {
		next, err := Cancel(g, c.i)
		if err != nil {
			t.Fatal(err)
		}
		g = next
		holdLive(t, p, g, of, marks(c.live))
	}
}
