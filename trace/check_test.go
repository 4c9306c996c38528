package trace

import (
	"math"
	"slices"
	"testing"

	"yardgang/api"
	"yardgang/plain"
	"yardgang/plan"
)

// TestCheck: deeds of plans, and what is told of them; of those that may have
// been, each beginning may have been, too.
func TestCheck(t *testing.T) {
	for _, c := range []struct {
		name, plan string
		hands      int
		deeds      string
		want       api.Errno
	}{
		{"nothing of nothing", "", 1, "", api.OK},
		{"nothing of some tasks", "1 1<0", 2, "", api.OK},
		{"one begun", "5", 1, "took 0 0", api.OK},
		{"one begun, fetched", "5", 1, "fetched 0 0", api.OK},
		{"one begun, stolen", "5", 2, "stole 0 0 1", api.OK},
		{"one done", "5", 1, "took 0 0, finished 0 0", api.OK},
		{"one done, by the last hand", "5", 6, "fetched 5 0, finished 5 0", api.OK},
		{"asleep", "1", 1, "slept 0", api.OK},
		{"asleep, and awake", "1", 1, "slept 0, woke 0", api.OK},
		{"asleep again", "1", 1, "slept 0, woke 0, slept 0, woke 0, slept 0", api.OK},
		{"asleep, of no tasks", "", 6, "slept 5, slept 0, woke 5, slept 5", api.OK},
		{"awake in whatever order", "1", 3, "slept 0, slept 1, slept 2, woke 2, woke 0, woke 1", api.OK},
		{"two at once", "1 1", 2, "took 0 1, took 1 0, finished 0 1, finished 1 0", api.OK},
		{"one behind the other", "1 1 1", 1, "took 0 2, finished 0 2, fetched 0 0, finished 0 0, took 0 1, finished 0 1", api.OK},
		{"one behind whom it needs, by the same", "1 1<0", 1, "took 0 0, finished 0 0, took 0 1, finished 0 1", api.OK},
		{"one behind whom it needs, by another", "1 1<0", 2, "took 0 0, finished 0 0, stole 1 1 0, finished 1 1", api.OK},
		{"one behind whom it needs, of a greater number", "1<1 1", 1, "took 0 1, finished 0 1, took 0 0", api.OK},
		{"one behind all that it needs", "1 1 1<0,1", 2, "took 0 0, took 1 1, finished 1 1, finished 0 0, took 1 2", api.OK},
		{"awake, and it takes", "1", 1, "slept 0, woke 0, took 0 0", api.OK},
		{"done, and it sleeps", "1", 1, "took 0 0, finished 0 0, slept 0", api.OK},
		{"one sleeps, another works", "1 1<0", 2, "slept 0, took 1 0, finished 1 0, woke 0, stole 0 1 1, finished 0 1", api.OK},
		{"stolen from one that sleeps", "1", 2, "slept 1, stole 0 0 1", api.OK},
		{"stolen from one that has another", "1 1", 2, "took 1 1, stole 0 0 1", api.OK},

		{"a hand that is none, took", "1", 2, "took 2 0", api.ErrRange},
		{"a hand that is none, stole", "1", 2, "stole 2 0 1", api.ErrRange},
		{"a hand that is none, fetched", "1", 2, "fetched 2 0", api.ErrRange},
		{"a hand that is none, finished", "1", 2, "finished 2 0", api.ErrRange},
		{"a hand that is none, slept", "1", 2, "slept 2", api.ErrRange},
		{"a hand that is none, woke", "1", 2, "woke 2", api.ErrRange},
		{"another that is none", "1", 2, "stole 0 0 2", api.ErrRange},
		{"another that is none, far", "1", 5, "stole 0 0 5", api.ErrRange},
		{"both are none, and the same", "1", 2, "stole 3 0 3", api.ErrRange},
		{"a task that is none, took", "1 1", 2, "took 0 2", api.ErrRange},
		{"a task that is none, stole", "1 1", 2, "stole 0 2 1", api.ErrRange},
		{"a task that is none, fetched", "1 1", 2, "fetched 0 2", api.ErrRange},
		{"a task that is none, finished", "1 1", 2, "finished 0 2", api.ErrRange},
		{"a task of no tasks", "", 1, "took 0 0", api.ErrRange},
		{"a task of no tasks, finished", "", 1, "finished 0 0", api.ErrRange},

		{"has one, takes", "1 1", 2, "fetched 0 0, took 0 1", api.ErrClash},
		{"has one, steals", "1 1", 2, "fetched 0 0, stole 0 1 1", api.ErrClash},
		{"has one, fetches", "1 1", 2, "fetched 0 0, fetched 0 1", api.ErrClash},
		{"has the same", "1 1", 2, "took 0 0, took 0 0", api.ErrClash},
		{"another has it", "1 1", 2, "took 0 0, took 1 0", api.ErrClash},
		{"another has it, stolen from that", "1 1", 2, "took 0 0, stole 1 0 0", api.ErrClash},
		{"another stole it", "1 1", 3, "stole 0 0 2, stole 1 0 2", api.ErrClash},
		{"another fetched it", "1 1", 2, "fetched 0 0, fetched 1 0", api.ErrClash},
		{"it was done, by the same", "1", 1, "took 0 0, finished 0 0, took 0 0", api.ErrClash},
		{"it was done, by another", "1", 2, "took 0 0, finished 0 0, fetched 1 0", api.ErrClash},
		{"it was done long ago", "1 1", 2, "took 0 0, finished 0 0, took 0 1, finished 0 1, stole 1 0 0", api.ErrClash},

		{"needs one that nobody had, took", "1 1<0", 1, "took 0 1", api.ErrState},
		{"needs one that nobody had, stole", "1 1<0", 2, "stole 0 1 1", api.ErrState},
		{"needs one that nobody had, fetched", "1 1<0", 1, "fetched 0 1", api.ErrState},
		{"needs one that is not done", "1 1<0", 2, "took 0 0, took 1 1", api.ErrState},
		{"needs two, the first is missing", "1 1 1<0,1", 2, "took 0 1, finished 0 1, took 0 2", api.ErrState},
		{"needs two, the last is missing", "1 1 1<0,1", 2, "took 0 0, finished 0 0, took 0 2", api.ErrState},
		{"needs one of a greater number", "1<1 1", 1, "took 0 0", api.ErrState},
		{"sleeps, and takes", "1", 1, "slept 0, took 0 0", api.ErrState},
		{"sleeps, and steals", "1", 2, "slept 0, stole 0 0 1", api.ErrState},
		{"sleeps, and fetches", "1", 1, "slept 0, fetched 0 0", api.ErrState},
		{"sleeps again, and takes", "1", 1, "slept 0, woke 0, slept 0, took 0 0", api.ErrState},

		{"stole from oneself", "1", 2, "stole 0 0 0", api.ErrShape},
		{"stole from oneself, the only one", "1", 1, "stole 0 0 0", api.ErrShape},
		{"stole from oneself, the last one", "1 1", 6, "took 0 1, stole 5 0 5", api.ErrShape},

		{"finished what nobody had", "1", 1, "finished 0 0", api.ErrState},
		{"finished what another has", "1", 2, "took 0 0, finished 1 0", api.ErrState},
		{"finished what another has, and has one", "1 1", 2, "took 0 0, took 1 1, finished 1 0", api.ErrState},
		{"finished another one than it has", "1 1", 1, "took 0 1, finished 0 0", api.ErrState},
		{"finished 0, but has 1", "1 1", 1, "took 0 0, finished 0 1", api.ErrState},
		{"finished twice", "1", 1, "took 0 0, finished 0 0, finished 0 0", api.ErrState},
		{"finished by another again", "1", 2, "took 0 0, finished 0 0, finished 1 0", api.ErrState},
		{"finished asleep", "1", 1, "slept 0, finished 0 0", api.ErrState},
		{"finished what needs one that is not done", "1 1<0", 1, "finished 0 1", api.ErrState},

		{"slept asleep", "1", 1, "slept 0, slept 0", api.ErrState},
		{"slept asleep, another awake in between", "1", 2, "slept 0, slept 1, woke 1, slept 0", api.ErrState},
		{"slept with a task", "1", 1, "took 0 0, slept 0", api.ErrState},
		{"slept with a task, stolen", "1 1", 2, "took 1 1, stole 0 0 1, slept 0", api.ErrState},
		{"slept with a task, fetched", "1", 1, "fetched 0 0, slept 0", api.ErrState},
		{"slept with the next task", "1 1", 1, "took 0 0, finished 0 0, took 0 1, slept 0", api.ErrState},
		{"woke awake", "1", 1, "woke 0", api.ErrState},
		{"woke twice", "1", 1, "slept 0, woke 0, woke 0", api.ErrState},
		{"woke, but another sleeps", "1", 2, "slept 1, woke 0", api.ErrState},
		{"woke with a task", "1", 1, "took 0 0, woke 0", api.ErrState},
	} {
		t.Run(c.name, func(t *testing.T) {
			p, l := chart(t, c.plan), deeds(t, c.deeds)
			holdCheck(t, p, c.hands, l, c.want)
			for i := range l {
				holdCheck(t, p, c.hands, l[:i], api.OK)
			}
		})
	}
}

// TestSeveral faults of one deed: the one that is named first is told.
func TestSeveral(t *testing.T) {
	for _, c := range []struct {
		name, plan string
		hands      int
		deeds      string
		want       api.Errno
	}{
		{"no hand, and the task was had", "1", 2, "took 0 0, took 2 0", api.ErrRange},
		{"no hand, and the task needs one", "1 1<0", 2, "took 2 1", api.ErrRange},
		{"no task, and the hand has one", "1", 2, "took 0 0, took 0 1", api.ErrRange},
		{"no task, and the hand sleeps", "1", 2, "slept 0, took 0 1", api.ErrRange},
		{"no task, and stolen from oneself", "1", 2, "stole 0 1 0", api.ErrRange},
		{"no other, and the hand has one", "1 1", 2, "took 0 0, stole 0 1 2", api.ErrRange},
		{"no other, and the task was had", "1 1", 2, "took 0 0, stole 1 0 2", api.ErrRange},
		{"no other, and the task needs one", "1 1<0", 2, "stole 1 1 2", api.ErrRange},
		{"no task finished, and the hand has none", "1", 2, "finished 0 1", api.ErrRange},
		{"no hand that sleeps twice", "1", 2, "slept 1, slept 2", api.ErrRange},

		{"has one, and the task was had", "1 1", 2, "took 0 0, took 1 1, took 0 1", api.ErrClash},
		{"has one, and the task needs one", "1 1<0", 1, "took 0 0, took 0 1", api.ErrClash},
		{"has one, and stole from oneself", "1 1", 1, "took 0 0, stole 0 1 0", api.ErrClash},
		{"has one, needs one, and stole from oneself", "1 1<0", 1, "took 0 0, stole 0 1 0", api.ErrClash},
		{"the task was had, and the hand sleeps", "1", 2, "took 0 0, slept 1, took 1 0", api.ErrClash},
		{"the task was had, and stole from oneself", "1", 2, "took 0 0, stole 1 0 1", api.ErrClash},
		{"the task was had, sleeps, and stole from oneself", "1", 2, "took 0 0, slept 1, stole 1 0 1", api.ErrClash},
		{"the task was done, and the hand sleeps", "1", 1, "took 0 0, finished 0 0, slept 0, fetched 0 0", api.ErrClash},

		{"needs one, and sleeps", "1 1<0", 1, "slept 0, took 0 1", api.ErrState},
		{"needs one, and stole from oneself", "1 1<0", 1, "stole 0 1 0", api.ErrState},
		{"sleeps, and stole from oneself", "1", 1, "slept 0, stole 0 0 0", api.ErrState},
		{"needs one, sleeps, and stole from oneself", "1 1<0", 1, "slept 0, stole 0 1 0", api.ErrState},
	} {
		t.Run(c.name, func(t *testing.T) {
			p, l := chart(t, c.plan), deeds(t, c.deeds)
			holdCheck(t, p, c.hands, l, c.want)
			holdCheck(t, p, c.hands, l[:len(l)-1], api.OK)
		})
	}
}

// TestFirstThatWasNot: of several deeds that may not have been, what is wrong
// with the first.
func TestFirstThatWasNot(t *testing.T) {
	p := chart(t, "1 1<0 1 1")
	right := deeds(t, "took 0 3, slept 1")
	wrong := map[api.Errno]string{
		api.ErrRange: "took 3 2, took 2 4, stole 2 2 3, slept 3",
		api.ErrClash: "took 0 2, fetched 2 3",
		api.ErrState: "took 2 1, took 1 2, finished 1 3, slept 0, woke 0",
		api.ErrShape: "stole 2 2 2",
	}
	for want, first := range wrong {
		for _, second := range wrong {
			for _, a := range deeds(t, first) {
				for _, b := range deeds(t, second) {
					holdCheck(t, p, 3, append(slices.Clone(right), a, b), want)
				}
			}
		}
	}
}

// wrongPlans, and what is told of them.
var wrongPlans = []struct {
	name string
	p    api.Plan
	want api.Errno
}{
	{"too many", beside(31, 1), api.ErrFull},
	{"far too many, that are wrong too", beside(300, 0), api.ErrFull},
	{"no work", api.Plan{{Work: 0}}, api.ErrRange},
	{"too much work", api.Plan{{Work: 21}}, api.ErrRange},
	{"needs one that is none", api.Plan{{Work: 1, Needs: []int{1}}}, api.ErrRange},
	{"needs one below 0", api.Plan{{Work: 1}, {Work: 1, Needs: []int{-1}}}, api.ErrRange},
	{"needs that fall", api.Plan{{Work: 1}, {Work: 1}, {Work: 1, Needs: []int{1, 0}}}, api.ErrClash},
	{"needs the same twice", api.Plan{{Work: 1}, {Work: 1, Needs: []int{0, 0}}}, api.ErrClash},
	{"needs itself", api.Plan{{Work: 1}, {Work: 1, Needs: []int{1}}}, api.ErrCycle},
	{"needs what needs it", api.Plan{{Work: 1, Needs: []int{1}}, {Work: 1, Needs: []int{0}}}, api.ErrCycle},
}

// wrongHands are numbers of hands that may not be.
var wrongHands = []int{0, -1, -2, -6, -1 << 8, -1 << 32, math.MinInt, math.MinInt + 1, 7, 8, 12, 1<<8 + 1, 1 << 32, 1<<32 + 1, math.MaxInt - 1, math.MaxInt}

// faulty lists of deeds: each has another fault, of Print's or of the deeds'
// own, or none.
func faulty(t *testing.T) [][]api.Deed {
	return [][]api.Deed{
		nil,
		deeds(t, "took 0 0, finished 0 0"),
		alike(api.Deed{What: 5}, mostDeeds+1),
		{{What: 7}},
		{{What: 1, Other: 1}},
		deeds(t, "took 5 0"),
		deeds(t, "took 0 0, took 0 0"),
		deeds(t, "woke 0"),
		deeds(t, "stole 0 0 0"),
	}
}

// TestWrongPlans: what is wrong with the plan is told ahead of all others.
func TestWrongPlans(t *testing.T) {
	for _, c := range wrongPlans {
		if _, err := plan.Check(c.p); plain.Told(err) != c.want {
			t.Fatalf("%s: Check: got %v", c.name, err)
		}
		for _, l := range faulty(t) {
			for _, hands := range append([]int{1, 2, 6}, wrongHands...) {
				holdCheck(t, c.p, hands, l, c.want)
			}
		}
	}
}

// TestWrongHands: they are told ahead of what is wrong with the deeds, also of
// no tasks.
func TestWrongHands(t *testing.T) {
	for _, hands := range wrongHands {
		for _, l := range faulty(t) {
			holdCheck(t, nil, hands, l, api.ErrRange)
			holdCheck(t, chart(t, "3 1<0"), hands, l, api.ErrRange)
			holdCheck(t, beside(mostTasks, 20), hands, l, api.ErrRange)
		}
	}
}

// TestEachHand: with each number of hands there are just these.
func TestEachHand(t *testing.T) {
	for hands := 1; hands <= mostHands; hands++ {
		p := beside(mostTasks, 1)
		holdCheck(t, p, hands, nil, api.OK)
		for h := range mostHands {
			want, stolen := api.OK, api.OK
			if h >= hands {
				want, stolen = api.ErrRange, api.ErrRange
			} else if h == 0 {
				stolen = api.ErrShape
			}
			for _, what := range []int{api.Took, api.Fetched} {
				holdCheck(t, p, hands, []api.Deed{{What: what, Hand: h, Task: 29}, {What: api.Finished, Hand: h, Task: 29}}, want)
			}
			holdCheck(t, p, hands, []api.Deed{{What: api.Slept, Hand: h}, {What: api.Woke, Hand: h}}, want)
			holdCheck(t, p, hands, []api.Deed{{What: api.Stole, Hand: 0, Other: h}}, stolen)
			holdCheck(t, p, hands, []api.Deed{{What: api.Stole, Hand: h}}, stolen)
		}
	}
}

// TestEachTask: of each number of tasks there are just these.
func TestEachTask(t *testing.T) {
	for count := range mostTasks + 1 {
		for i := range mostTasks {
			want := api.OK
			if i >= count {
				want = api.ErrRange
			}
			for _, d := range []api.Deed{{What: 1, Task: i}, {What: 3, Task: i}, {What: 2, Task: i, Other: 1}} {
				holdCheck(t, beside(count, 1), 2, []api.Deed{d, {What: api.Finished, Task: i}}, want)
			}
		}
	}
}

// TestPrintsErrorsFirst: what is wrong with a deed by itself is told ahead of
// what may not have been, though that stands ahead.
func TestPrintsErrorsFirst(t *testing.T) {
	far, misshapen := wrongDeeds()
	for _, text := range []string{"took 5 0", "took 0 0, took 0 0", "woke 0", "stole 0 0 0"} {
		l := deeds(t, text)
		for _, d := range far {
			holdCheck(t, chart(t, "1"), 1, append(l[:len(l):len(l)], d), api.ErrRange)
		}
		for _, d := range misshapen {
			holdCheck(t, chart(t, "1"), 1, append(l[:len(l):len(l)], d), api.ErrShape)
		}
		holdCheck(t, chart(t, "1"), 1, append(l[:len(l):len(l)], alike(api.Deed{What: 5}, mostDeeds)...), api.ErrFull)
	}
}

// TestManyDeeds: as many as may be told together, that may have been; and one
// more that may have been, too, but are too many.
func TestManyDeeds(t *testing.T) {
	l := slices.Repeat(deeds(t, "slept 0, woke 0"), mostDeeds/2)
	p := chart(t, "1")
	holdCheck(t, p, 1, l, api.OK)
	holdCheck(t, p, 1, l[1:], api.ErrState)
	holdCheck(t, p, 1, append(l[:len(l)-1:len(l)-1], l[0]), api.ErrState)
	holdCheck(t, p, 1, append(l, l[0]), api.ErrFull)
}
