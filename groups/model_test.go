package groups

import (
	"slices"
	"testing"

	"yardgang/api"
	"yardgang/plan"
)

// wrongModel tells what is wrong with groups: each parent is looked for among
// those that may be.
func wrongModel(g []api.Group) api.Errno {
	if len(g) > mostGroups {
		return api.ErrFull
	}
	may := []int{-1}
	for i, one := range g {
		if !slices.Contains(may, one.Parent) {
			return api.ErrRange
		}
		may = append(may, i)
	}
	return api.OK
}

// goneModel of groups that are right: what is cancelled is told to the parts,
// again and again, as long as that changes anything.
func goneModel(g []api.Group) []bool {
	gone := make([]bool, len(g))
	for changed := true; changed; {
		changed = false
		for i, one := range g {
			if !gone[i] && (one.Cancelled || one.Parent >= 0 && gone[one.Parent]) {
				gone[i], changed = true, true
			}
		}
	}
	return gone
}

// hangsModel of a plan: by all ways, reckoned step by step, whether a task
// hangs on another one, or is it.
func hangsModel(p api.Plan) [][]bool {
	way := make([][]bool, len(p))
	for i, t := range p {
		way[i] = make([]bool, len(p))
		way[i][i] = true
		for _, n := range t.Needs {
			way[i][n] = true
		}
	}
	for m := range p {
		for i := range p {
			for k := range p {
				way[i][k] = way[i][k] || way[i][m] && way[m][k]
			}
		}
	}
	return way
}

// liveModel: each task is held against each on which it hangs.
func liveModel(p api.Plan, g []api.Group, of []int) ([]bool, api.Errno) {
	if err := wrongModel(g); err != api.OK {
		return nil, err
	}
	if len(of) != len(p) {
		return nil, api.ErrShape
	}
	for _, i := range of {
		if i < 0 || i >= len(g) {
			return nil, api.ErrRange
		}
	}
	gone, way := goneModel(g), hangsModel(p)
	live := make([]bool, len(p))
	for i := range p {
		live[i] = true
		for k := range p {
			live[i] = live[i] && !(way[i][k] && gone[of[k]])
		}
	}
	return live, api.OK
}

// told counts how often each answer was wanted, so that none goes untested.
type told [api.ErrCycle + 1]int

// groups are compared with the model, at all places and just beside.
func (n *told) groups(t *testing.T, g []api.Group) {
	wrong := wrongModel(g)
	n[wrong]++
	if err := Check(g); !is(err, wrong) {
		t.Fatalf("%v: Check: got %v, want %v", g, err, wrong)
	}
	var gone []bool
	if wrong == api.OK {
		gone = goneModel(g)
	}
	for i := -2; i < len(g)+2; i++ {
		want, isGone, out := wrong, false, []api.Group(nil)
		if want == api.OK && (i < 0 || i >= len(g)) {
			want = api.ErrRange
		}
		if want == api.OK {
			isGone, out = gone[i], cancelled(g, i)
		}
		if got, err := Gone(g, i); got != isGone || !is(err, want) {
			t.Fatalf("%v: Gone %d: got %v %v, want %v %v", g, i, got, err, isGone, want)
		}
		if got, err := Cancel(g, i); !slices.Equal(got, out) || !is(err, want) {
			t.Fatalf("%v: Cancel %d: got %v %v, want %v %v", g, i, got, err, out, want)
		}
	}
}

// live tasks of a plan that is right are compared with the model.
func (n *told) live(t *testing.T, p api.Plan, g []api.Group, of []int) {
	want, wrong := liveModel(p, g, of)
	n[wrong]++
	got, err := Live(p, g, of)
	if !slices.Equal(got, want) || !is(err, wrong) {
		t.Fatalf("%v: Live in %v of %v: got %v %v, want %v %v", p, g, of, got, err, want, wrong)
	}
}

// each answer must have been wanted.
func (n *told) each(t *testing.T, l ...api.Errno) {
	t.Helper()
	for _, e := range l {
		if n[e] == 0 {
			t.Errorf("%v was never wanted: %v", e, *n)
		}
	}
}

// allLists of up to so many of some things, each as often as may be.
func allLists[T any](of []T, length int, do func([]T)) {
	l := make([]T, 0, length)
	var extend func()
	extend = func() {
		do(l)
		if len(l) == length {
			return
		}
		for _, one := range of {
			l = append(l, one)
			extend()
			l = l[:len(l)-1]
		}
	}
	extend()
}

// rising numbers, from one on to below another.
func rising(from, to int) []int {
	var l []int
	for n := from; n < to; n++ {
		l = append(l, n)
	}
	return l
}

// someGroups with a parent from one number on to below another, cancelled or not.
func someGroups(from, to int) []api.Group {
	var g []api.Group
	for _, n := range rising(from, to) {
		g = append(g, api.Group{Parent: n}, api.Group{Parent: n, Cancelled: true})
	}
	return g
}

// allPlans of so many tasks of work 1, with all needs that go in no ring.
func allPlans(count int, do func(api.Plan)) {
	for bits := range 1 << (count * count) {
		p := beside(count)
		for i := range p {
			for k := range p {
				if bits>>(i*count+k)&1 == 1 {
					p[i].Needs = append(p[i].Needs, k)
				}
			}
		}
		if _, err := plan.Check(p); err == nil {
			do(p)
		}
	}
}

// TestAllGroups: all of up to four, with parents that may be and that may not.
func TestAllGroups(t *testing.T) {
	var n told
	allLists(someGroups(-2, 5), 4, func(g []api.Group) { n.groups(t, g) })
	n.each(t, api.OK, api.ErrRange)
}

// TestAllRightGroups: all of up to six.
func TestAllRightGroups(t *testing.T) {
	var n told
	var extend func(g []api.Group)
	extend = func(g []api.Group) {
		n.groups(t, g)
		if len(g) == 6 {
			return
		}
		for _, one := range someGroups(-1, len(g)) {
			extend(append(slices.Clone(g), one))
		}
	}
	extend(nil)
	n.each(t, api.OK)
	if want := 1 + 2 + 8 + 48 + 384 + 3840 + 46080; n[api.OK] != want {
		t.Errorf("%d were right, want %d", n[api.OK], want)
	}
}

// TestAllLive: all plans of up to three tasks, in all of up to two groups, and
// with all places, also with one too few and one too many.
func TestAllLive(t *testing.T) {
	var n told
	for count := range 4 {
		allPlans(count, func(p api.Plan) {
			allLists(someGroups(-2, 2), 2, func(g []api.Group) {
				allLists(rising(-1, len(g)+1), count+1, func(of []int) { n.live(t, p, g, of) })
			})
		})
	}
	n.each(t, api.OK, api.ErrRange, api.ErrShape)
}

// TestAllLiveOfFour: all plans of four tasks, of which each may be gone or not.
func TestAllLiveOfFour(t *testing.T) {
	var n told
	g := []api.Group{{Parent: -1}, {Parent: -1, Cancelled: true}, {Parent: 1}}
	allPlans(4, func(p api.Plan) {
		allLists(rising(0, len(g)), 4, func(of []int) {
			if len(of) == 4 {
				n.live(t, p, g, of)
			}
		})
	})
	n.each(t, api.OK)
}

// mixer of numbers: the same ones each time.
type mixer uint64

// below a bound, the next one.
func (m *mixer) below(bound int) int {
	*m = *m*6364136223846793005 + 1442695040888963407
	return int(uint64(*m)>>33) % bound
}

// plan that is mixed: how many tasks it has, and how often one needs another,
// and so are the tasks' places.
func (m *mixer) plan() api.Plan {
	p := beside(m.below(mostTasks + 1))
	places := rising(0, len(p))
	for i := len(places) - 1; i > 0; i-- {
		k := m.below(i + 1)
		places[i], places[k] = places[k], places[i]
	}
	seldom := 1 + m.below(20)
	for i, at := range places {
		p[at].Work = 1 + m.below(api.MaxWork)
		for _, n := range places[:i] {
			if m.below(seldom) == 0 {
				p[at].Needs = append(p[at].Needs, n)
			}
		}
		slices.Sort(p[at].Needs)
	}
	return p
}

// groups that are mixed: how many there are, at least one and now and then one
// too many, and how often one is cancelled, or its parent none that may be.
func (m *mixer) groups() []api.Group {
	g := make([]api.Group, 1+m.below(mostGroups))
	if m.below(30) == 0 {
		g = make([]api.Group, mostGroups+1)
	}
	seldom, wrong := 1+m.below(12), 20+m.below(200)
	for i := range g {
		g[i] = api.Group{Parent: m.below(i+1) - 1, Cancelled: m.below(seldom) == 0}
		if m.below(wrong) == 0 {
			g[i].Parent = []int{-2, i, i + 1}[m.below(3)]
		}
	}
	return g
}

// places of groups that are mixed: of so many tasks, now and then one more or
// less, or one that is none.
func (m *mixer) places(tasks, groups int) []int {
	of := make([]int, tasks)
	for i := range of {
		of[i] = m.below(groups)
	}
	switch m.below(10) {
	case 0:
		of = append(of, 0)
	case 1:
		of = of[:max(tasks-1, 0)]
	case 2:
		if tasks > 0 {
			of[m.below(tasks)] = []int{-1, groups}[m.below(2)]
		}
	}
	return of
}

// TestMixed: greater plans and groups, right and wrong.
func TestMixed(t *testing.T) {
	m, n, alive, dead := mixer(14), told{}, 0, 0
	for range 4000 {
		p, g := m.plan(), m.groups()
		n.groups(t, g)
		of := m.places(len(p), len(g))
		n.live(t, p, g, of)
		live, _ := Live(p, g, of)
		for _, is := range live {
			if is {
				alive++
			} else {
				dead++
			}
		}
	}
	n.each(t, api.OK, api.ErrRange, api.ErrShape, api.ErrFull)
	if min(alive, dead) < 1000 {
		t.Errorf("%d tasks were live, %d were not", alive, dead)
	}
}

// TestWhoLivesNeedsWhoLive: and who is not live is gone, or needs one that is not.
func TestWhoLivesNeedsWhoLive(t *testing.T) {
	m := mixer(41)
	for range 2000 {
		p, g := m.plan(), m.groups()
		of := m.places(len(p), len(g))
		live, err := Live(p, g, of)
		if err != nil {
			continue
		}
		dead := func(n int) bool { return !live[n] }
		for i, one := range p {
			isGone, err := Gone(g, of[i])
			if err != nil {
				t.Fatal(err)
			}
			if live[i] == (isGone || slices.ContainsFunc(one.Needs, dead)) {
				t.Fatalf("%v: Live in %v of %v: got %v, wrong at %d", p, g, of, live, i)
			}
		}
	}
}
