package groups

import (
	"math"
	"slices"
	"testing"

	"yardgang/api"
)

// task of a work, with what it needs.
func task(work int, needs ...int) api.Task { return api.Task{Work: work, Needs: needs} }

// beside each other: so many tasks of work 1.
func beside(count int) api.Plan {
	p := make(api.Plan, count)
	for i := range p {
		p[i].Work = 1
	}
	return p
}

// loose groups: so many that are part of none.
func loose(count int) []api.Group {
	g := make([]api.Group, count)
	for i := range g {
		g[i].Parent = -1
	}
	return g
}

// nested groups: so many, each a part of the one ahead.
func nested(count int) []api.Group {
	g := make([]api.Group, count)
	for i := range g {
		g[i].Parent = i - 1
	}
	return g
}

// with another parent at a place.
func with(g []api.Group, i, parent int) []api.Group {
	g = slices.Clone(g)
	g[i].Parent = parent
	return g
}

// cancelled at a place, too.
func cancelled(g []api.Group, i int) []api.Group {
	g = slices.Clone(g)
	g[i].Cancelled = true
	return g
}

// nowhere are numbers that are no place of so many.
func nowhere(count int) []int {
	return []int{math.MinInt, math.MinInt + 1, math.MinInt32, -mostGroups, -2, -1, count, count + 1, count + mostGroups, 1 << 32, math.MaxInt - 1, math.MaxInt}
}

// wrongs are groups, and what is wrong with them.
var wrongs = []struct {
	name string
	g    []api.Group
	err  api.Errno
}{
	{"nil", nil, api.OK},
	{"none", []api.Group{}, api.OK},
	{"one", loose(1), api.OK},
	{"MaxGroups, loose", loose(mostGroups), api.OK},
	{"MaxGroups, nested", nested(mostGroups), api.OK},
	{"MaxGroups, the last one cancelled", cancelled(nested(mostGroups), mostGroups-1), api.OK},
	{"all of the first one", []api.Group{{Parent: -1}, {}, {}, {}}, api.OK},

	{"one more than MaxGroups", loose(mostGroups + 1), api.ErrFull},
	{"one more than MaxGroups, nested", nested(mostGroups + 1), api.ErrFull},
	{"many more", nested(1000), api.ErrFull},
	{"too many, and a wrong parent", with(loose(mostGroups+1), 3, 3), api.ErrFull},
	{"too many, and a wrong parent at the first", with(loose(mostGroups+1), 0, -2), api.ErrFull},
	{"too many, and a wrong parent at the one too many", with(loose(mostGroups+1), mostGroups, mostGroups), api.ErrFull},

	{"its own place, the first", with(loose(3), 0, 0), api.ErrRange},
	{"its own place, in between", with(loose(3), 1, 1), api.ErrRange},
	{"its own place, the last", with(nested(mostGroups), mostGroups-1, mostGroups-1), api.ErrRange},
	{"just above its place", with(loose(3), 1, 2), api.ErrRange},
	{"the first in the last", with(nested(mostGroups), 0, mostGroups-1), api.ErrRange},
	{"behind the last", with(loose(3), 1, 3), api.ErrRange},
	{"far above", with(loose(3), 2, 1000), api.ErrRange},
	{"MaxGroups", with(loose(mostGroups), mostGroups-1, mostGroups), api.ErrRange},
	{"below -1", with(loose(3), 1, -2), api.ErrRange},
	{"below -1, the first", with(loose(3), 0, -2), api.ErrRange},
	{"far below", with(loose(3), 2, -1000), api.ErrRange},
	{"the least", with(loose(3), 1, math.MinInt), api.ErrRange},
	{"the greatest", with(loose(3), 1, math.MaxInt), api.ErrRange},
	{"the least of all, of one alone", with(loose(1), 0, math.MinInt), api.ErrRange},
	{"the greatest of all, of one alone", with(loose(1), 0, math.MaxInt), api.ErrRange},
	{"beyond 32 bits", with(loose(3), 2, 1<<32), api.ErrRange},
	{"below 32 bits", with(loose(3), 2, -1-1<<32), api.ErrRange},
	{"each a part of the other", with(nested(2), 0, 1), api.ErrRange},
	{"its own place, cancelled", cancelled(with(loose(3), 1, 1), 1), api.ErrRange},
	{"two wrong ones", with(with(loose(4), 1, 7), 2, -5), api.ErrRange},
}

func TestCheck(t *testing.T) {
	for _, c := range wrongs {
		if err := Check(c.g); !is(err, c.err) {
			t.Errorf("%s: got %v, want %v", c.name, err, c.err)
		}
	}
}

// TestParents: at each place of MaxGroups all parents around, and which may be.
func TestParents(t *testing.T) {
	for i := range mostGroups {
		for parent := -3; parent <= mostGroups+2; parent++ {
			want := api.ErrRange
			if parent == -1 || parent >= 0 && parent < i {
				want = api.OK
			}
			for _, g := range [][]api.Group{with(loose(mostGroups), i, parent), with(nested(mostGroups), i, parent)} {
				if err := Check(g); !is(err, want) {
					t.Errorf("%d in %d: got %v, want %v", i, parent, err, want)
				}
			}
		}
	}
}

// TestMany: how many groups there may be, and that the calls take as many.
func TestMany(t *testing.T) {
	for count := range mostGroups + 4 {
		want := api.OK
		if count > mostGroups {
			want = api.ErrFull
		}
		if err := Check(loose(count)); !is(err, want) {
			t.Errorf("%d groups: got %v, want %v", count, err, want)
		}
		if want != api.OK {
			refusePlace(t, loose(count), 0, want)
			refuseLive(t, beside(1), loose(count), []int{0}, want)
			continue
		}
		for i := range count {
			holdGone(t, loose(count), i, false)
			holdCancel(t, loose(count), i, cancelled(loose(count), i))
			holdLive(t, beside(1), loose(count), []int{i}, []bool{true})
		}
	}
}

// TestGroupsThatCheckRefuses: the other calls tell the same, whatever place is asked.
func TestGroupsThatCheckRefuses(t *testing.T) {
	for _, c := range wrongs {
		if c.err == api.OK {
			continue
		}
		for i := range c.g {
			refusePlace(t, c.g, i, c.err)
		}
		for _, i := range nowhere(len(c.g)) {
			refusePlace(t, c.g, i, c.err)
		}
		for _, of := range [][]int{nil, {0}, {0, 0}, {-1, 0}, {0, 0, 0}, {math.MinInt, math.MaxInt}} {
			refuseLive(t, beside(2), c.g, of, c.err)
			refuseLive(t, nil, c.g, of, c.err)
		}
	}
}

// TestPlaceThatIsNone: of groups that are right.
func TestPlaceThatIsNone(t *testing.T) {
	for _, c := range wrongs {
		if c.err != api.OK {
			continue
		}
		for _, i := range nowhere(len(c.g)) {
			refusePlace(t, c.g, i, api.ErrRange)
		}
	}
}

// TestDeepest: MaxGroups, each in the one ahead, with any one of them cancelled.
func TestDeepest(t *testing.T) {
	g := nested(mostGroups)
	for at := range g {
		c, err := Cancel(g, at)
		if err != nil {
			t.Fatal(err)
		}
		for i := range g {
			holdGone(t, g, i, false)
			holdGone(t, c, i, i >= at)
			holdLive(t, beside(1), c, []int{i}, []bool{i < at})
		}
	}
}

// TestLongestChain: of MaxTasks, from either end, with any one of them gone.
func TestLongestChain(t *testing.T) {
	up, down := beside(mostTasks), beside(mostTasks)
	for i := 1; i < mostTasks; i++ {
		up[i].Needs = []int{i - 1}
		down[i-1].Needs = []int{i}
	}
	g := []api.Group{{Parent: -1}, {Parent: 0, Cancelled: true}}
	for at := range mostTasks {
		of, wantUp, wantDown := make([]int, mostTasks), make([]bool, mostTasks), make([]bool, mostTasks)
		of[at] = 1
		for i := range mostTasks {
			wantUp[i], wantDown[i] = i < at, i > at
		}
		holdLive(t, up, g, of, wantUp)
		holdLive(t, down, g, of, wantDown)
	}
}

// TestDense: MaxTasks, each of which needs all ahead of it: there are more ways
// than can be gone.
func TestDense(t *testing.T) {
	p := beside(mostTasks)
	for i := range p {
		for n := range i {
			p[i].Needs = append(p[i].Needs, n)
		}
	}
	of, want := make([]int, mostTasks), make([]bool, mostTasks)
	of[mostTasks-1] = mostGroups - 1
	for i := range mostTasks - 1 {
		want[i] = true
	}
	holdLive(t, p, cancelled(loose(mostGroups), mostGroups-1), of, want)
	holdLive(t, p, cancelled(loose(mostGroups), 0), of, make([]bool, mostTasks))
}

// plansThatCheckRefuses, and what it tells.
var plansThatCheckRefuses = []struct {
	p   api.Plan
	err api.Errno
}{
	{beside(mostTasks + 1), api.ErrFull},
	{api.Plan{task(1), task(0)}, api.ErrRange},
	{api.Plan{task(1), task(21)}, api.ErrRange},
	{api.Plan{task(1), task(math.MinInt)}, api.ErrRange},
	{api.Plan{task(1), task(1, 2)}, api.ErrRange},
	{api.Plan{task(1), task(1, -1)}, api.ErrRange},
	{api.Plan{task(1), task(1, 0, 0)}, api.ErrClash},
	{api.Plan{task(1, 0), task(1)}, api.ErrCycle},
	{api.Plan{task(1, 1), task(1, 0)}, api.ErrCycle},
}

// TestLivePlanFirst: what is wrong with a plan is told first, whatever else is.
func TestLivePlanFirst(t *testing.T) {
	for _, c := range plansThatCheckRefuses {
		fits := make([]int, len(c.p))
		off := slices.Repeat([]int{-1}, len(c.p))
		for _, of := range [][]int{fits, off, nil, {0}, append(fits, 0)} {
			refuseLive(t, c.p, loose(1), of, c.err)
			refuseLive(t, c.p, nil, of, c.err)
			refuseLive(t, c.p, loose(mostGroups+1), of, c.err)
			refuseLive(t, c.p, with(loose(1), 0, 0), of, c.err)
			refuseLive(t, c.p, cancelled(loose(1), 0), of, c.err)
		}
	}
}

// TestLiveFaults: each alone, and of several which one is told.
func TestLiveFaults(t *testing.T) {
	two, full, bad := beside(2), loose(mostGroups+1), with(loose(2), 1, 1)
	for _, c := range []struct {
		name string
		p    api.Plan
		g    []api.Group
		of   []int
		err  api.Errno
	}{
		{"fewer", two, loose(2), []int{0}, api.ErrShape},
		{"none of two", two, loose(2), nil, api.ErrShape},
		{"more", two, loose(2), []int{0, 1, 0}, api.ErrShape},
		{"many more", two, loose(2), make([]int, 1000), api.ErrShape},
		{"one, and no tasks", nil, loose(2), []int{0}, api.ErrShape},
		{"one, and no tasks, no groups", nil, nil, []int{0}, api.ErrShape},
		{"fewer, and no groups", two, nil, []int{0}, api.ErrShape},
		{"fewer than MaxTasks", beside(mostTasks), loose(2), make([]int, mostTasks-1), api.ErrShape},
		{"more than MaxTasks", beside(mostTasks), loose(2), make([]int, mostTasks+1), api.ErrShape},

		{"no groups", two, nil, []int{0, 0}, api.ErrRange},
		{"-1", two, loose(2), []int{-1, 0}, api.ErrRange},
		{"-1 at the last", two, loose(2), []int{0, -1}, api.ErrRange},
		{"behind the last group", two, loose(2), []int{0, 2}, api.ErrRange},
		{"behind MaxGroups", two, loose(mostGroups), []int{mostGroups, 0}, api.ErrRange},
		{"the least", two, loose(2), []int{0, math.MinInt}, api.ErrRange},
		{"the greatest", two, loose(2), []int{math.MaxInt, 0}, api.ErrRange},
		{"none behind one that is gone", two, cancelled(loose(2), 0), []int{0, 2}, api.ErrRange},
		{"none ahead of one that is gone", two, cancelled(loose(2), 0), []int{2, 0}, api.ErrRange},
		{"a task, but no group", beside(3), loose(2), []int{0, 1, 2}, api.ErrRange},

		{"fewer, and one is no group", two, loose(2), []int{7}, api.ErrShape},
		{"more, and one is no group", two, loose(2), []int{0, 7, 0}, api.ErrShape},
		{"more, and the one too many is no group", two, loose(2), []int{0, 0, -1}, api.ErrShape},
		{"too many groups, and fewer", two, full, []int{0}, api.ErrFull},
		{"too many groups, and one is none", two, full, []int{0, -1}, api.ErrFull},
		{"a wrong parent, and fewer", two, bad, []int{0}, api.ErrRange},
		{"a wrong parent, and more", two, bad, []int{0, 0, 0}, api.ErrRange},
		{"a wrong parent, and one is none", two, bad, []int{0, 9}, api.ErrRange},
		{"too many groups, and a wrong parent", two, with(full, 0, 0), []int{0, 0}, api.ErrFull},
	} {
		t.Run(c.name, func(t *testing.T) { refuseLive(t, c.p, c.g, c.of, c.err) })
	}
}
