package gang

import (
	"fmt"
	"math"
	"slices"
	"testing"

	"yardgang/api"
	"yardgang/plain"
	"yardgang/plan"
)

// refused by New, with nothing made.
func refused(t *testing.T, p api.Plan, hands, room int, want api.Errno) {
	t.Helper()
	if g, err := New(p, hands, room); g != nil || plain.Told(err) != want {
		t.Fatalf("New(%v, %d, %d): got %v %v, want %v", p, hands, room, g, err, want)
	}
}

// outside of 1 to a greatest number; some are inside in their last bits.
func outside(greatest int) []int {
	return []int{
		0, -1, -2, -greatest, -greatest - 1, -1 << 8, -1<<32 + 1, math.MinInt, math.MinInt + 1,
		greatest + 1, greatest + 2, 2 * greatest, 1 << 8, 1<<8 + 1, 1 << 16, 1<<16 + 1, 1<<32 + 1, 1<<32 + greatest, math.MaxInt - 1, math.MaxInt,
	}
}

// wrong plans, and what Check tells of them.
var wrong = []struct {
	name string
	p    api.Plan
	want api.Errno
}{
	{"too many", beside(31, 1), api.ErrFull},
	{"far too many, that are wrong too", beside(300, 0), api.ErrFull},
	{"no work", api.Plan{{Work: 0}}, api.ErrRange},
	{"work below 0", api.Plan{{Work: 1}, {Work: -1}}, api.ErrRange},
	{"too much work", api.Plan{{Work: 21}}, api.ErrRange},
	{"needs one that is none", api.Plan{{Work: 1, Needs: []int{1}}}, api.ErrRange},
	{"needs one below 0", api.Plan{{Work: 1}, {Work: 1, Needs: []int{-1}}}, api.ErrRange},
	{"needs that fall", api.Plan{{Work: 1}, {Work: 1}, {Work: 1, Needs: []int{1, 0}}}, api.ErrClash},
	{"needs the same twice", api.Plan{{Work: 1}, {Work: 1, Needs: []int{0, 0}}}, api.ErrClash},
	{"needs itself", api.Plan{{Work: 1}, {Work: 1, Needs: []int{1}}}, api.ErrCycle},
	{"needs what needs it", api.Plan{{Work: 1, Needs: []int{1}}, {Work: 1, Needs: []int{0}}}, api.ErrCycle},
	{"a fall ahead of no work", api.Plan{{Work: 1, Needs: []int{1, 0}}, {Work: 0}}, api.ErrClash},
	{"no work ahead of a fall", api.Plan{{Work: 0}, {Work: 1, Needs: []int{1, 0}}}, api.ErrRange},
	{"a fall and a ring", api.Plan{{Work: 1, Needs: []int{0}}, {Work: 1, Needs: []int{1, 0}}}, api.ErrClash},
}

// TestWrongPlans: Check's error, also where hands and room are wrong.
func TestWrongPlans(t *testing.T) {
	for _, c := range wrong {
		if _, err := plan.Check(c.p); plain.Told(err) != c.want {
			t.Fatalf("%s: Check: got %v", c.name, err)
		}
		for _, hands := range []int{1, 2, 6, 0, -1, 7, math.MinInt, math.MaxInt} {
			for _, room := range []int{1, 4, 16, 0, -1, 17, math.MinInt, math.MaxInt} {
				refused(t, c.p, hands, room, c.want)
			}
		}
	}
}

// TestWrongHandsAndRooms: ErrRange, of one of them and of both, also of a plan
// of no tasks.
func TestWrongHandsAndRooms(t *testing.T) {
	for _, p := range []api.Plan{nil, {}, beside(1, 1), fan(4, 3), beside(30, 20)} {
		for _, hands := range outside(mostHands) {
			for room := 1; room <= mostRoom; room++ {
				refused(t, p, hands, room, api.ErrRange)
			}
			for _, room := range outside(mostRoom) {
				refused(t, p, hands, room, api.ErrRange)
			}
		}
		for hands := 1; hands <= mostHands; hands++ {
			for _, room := range outside(mostRoom) {
				refused(t, p, hands, room, api.ErrRange)
			}
		}
	}
}

// TestHandsAndRooms: all that there may be, with no tasks, with one, and with
// as many as may be: what New made stands as it should.
func TestHandsAndRooms(t *testing.T) {
	for hands := 1; hands <= mostHands; hands++ {
		for room := 1; room <= mostRoom; room++ {
			for _, count := range []int{0, 1, 2, 29, 30} {
				g := made(t, beside(count, 20), hands, room)
				begun(t, g, hands, count)
			}
		}
	}
}

// begun with so many tasks, all of them ready: no hand has one yet, and then
// each fetches one, as long as there are some.
func begun(t *testing.T, g *Gang, hands, count int) {
	t.Helper()
	for h := range hands {
		if n, err := g.Has(h); n != -1 || err != nil {
			t.Fatalf("Has(%d) at first: got %d %v", h, n, err)
		}
	}
	if left, held := g.Left(), g.Held(); left != count || !slices.Equal(held, rising(0, count)) {
		t.Fatalf("at first: left %d, held %v", left, held)
	}
	for h := range hands {
		want, has := fmt.Sprintf("fetched %d %d", h, h), h
		if h >= count {
			want, has = fmt.Sprintf("slept %d", h), -1
		}
		tells(t, g, fmt.Sprintf("%d/%d", h, h), want)
		if n, err := g.Has(h); n != has || err != nil {
			t.Fatalf("Has(%d): got %d %v, want %d", h, n, err, has)
		}
	}
	if left, held := g.Left(), g.Held(); left != count || !slices.Equal(held, rising(0, count)) {
		t.Fatalf("then: left %d, held %v", left, held)
	}
}

// TestMostTasks: as many as may be, with as much work as may be, by one hand:
// each is had for just its work.
func TestMostTasks(t *testing.T) {
	g := made(t, beside(mostTasks, mostWork), 1, 1)
	for i := range mostTasks {
		tells(t, g, "0", fmt.Sprintf("fetched 0 %d", i))
		for range mostWork - 1 {
			tells(t, g, "0", "-")
		}
		if g.Left() != mostTasks-i {
			t.Fatalf("task %d: left %d", i, g.Left())
		}
		tells(t, g, "0", fmt.Sprintf("finished 0 %d", i))
		if held := g.Held(); g.Left() != mostTasks-1-i || !slices.Equal(held, rising(i+1, mostTasks-1-i)) {
			t.Fatalf("task %d: left %d, held %v", i, g.Left(), held)
		}
	}
	tells(t, g, "0 0", "slept 0; -")
}

// strange numbers, that are no hand of so many; some are one in their last
// bits.
func strange(hands int) []int {
	return []int{
		-1, -2, -hands, -hands - 1, -1 << 8, -1 << 31, -1 << 32, -1<<32 + 1, math.MinInt, math.MinInt + 1,
		hands, hands + 1, 2 * hands, 6, 7, 1 << 6, 1 << 8, 1<<8 + 1, 1 << 16, 1 << 31, 1 << 32, 1<<32 + 1, math.MaxInt - 1, math.MaxInt,
	}
}

// below0 numbers.
func below0() []int {
	return []int{-1, -2, -3, -6, -1 << 8, -1 << 31, -1 << 32, -1<<32 + 1, math.MinInt + 1, math.MinInt}
}

// refusesAll that may not be, and stands behind each as it stood ahead.
func refusesAll(t *testing.T, g *Gang, hands int) {
	t.Helper()
	before := standing(t, g, hands)
	refuses := func(h, pick int) {
		t.Helper()
		if l, err := g.Step(h, pick); len(l) != 0 || plain.Told(err) != api.ErrRange {
			t.Fatalf("Step(%d, %d): got %v %v", h, pick, l, err)
		}
		if got := standing(t, g, hands); got != before {
			t.Fatalf("Step(%d, %d): was %s, is %s", h, pick, before, got)
		}
	}
	for _, none := range strange(hands) {
		for _, pick := range []int{0, 1, hands, math.MaxInt, -1, math.MinInt} {
			refuses(none, pick)
		}
		if n, err := g.Has(none); n != 0 || plain.Told(err) != api.ErrRange {
			t.Fatalf("Has(%d): got %d %v", none, n, err)
		}
	}
	for _, pick := range below0() {
		for h := range hands {
			refuses(h, pick)
		}
	}
}

// TestRefused: hands that are none, and picks below 0, at all that a hand may
// be about: it works, it has its own, it could fetch, it could rob, it has
// nothing to do, it sleeps. Nothing changes: what comes next is as if nothing
// had been asked.
func TestRefused(t *testing.T) {
	lines := []string{
		"0: fetched 0 0 | 0 -1 -1 | 6 | 0",
		"2: slept 2 | same",
		"0: - | same",
		"0: finished 0 0, woke 2 | -1 -1 -1 | 5 | 1 2 3 4",
		"1: fetched 1 1 | -1 1 -1 | 5 | 1 2 3 4",
		"2/3: stole 2 2 0 | -1 1 2 | 5 | 1 2 3 4",
		"1: - | same",
		"0: took 0 4 | 4 1 2 | 5 | 1 2 3 4",
		"1: finished 1 1 | 4 -1 2 | 4 | 2 3 4",
		"1/2: slept 1 | same",
		"0: finished 0 4, woke 1 | -1 -1 2 | 3 | 2 3 5",
		"1/6: stole 1 3 0 | -1 3 2 | 3 | 2 3 5",
		"0: took 0 5 | 5 3 2 | 3 | 2 3 5",
		"0: finished 0 5 | -1 3 2 | 2 | 2 3",
		"0/2: slept 0 | same",
		"2: finished 2 2 | -1 3 -1 | 1 | 3",
		"1: - | same",
		"1: finished 1 3 | -1 -1 -1 | 0 |",
		"2/1: slept 2 | same",
		"1/2: slept 1 | same",
		"0: - | same",
	}
	p := read(t, "2 2<0 1<0 2<0 1<0 1<4")
	play(t, made(t, p, 3, 2), 3, lines...)
	g := made(t, p, 3, 2)
	for _, line := range lines {
		refusesAll(t, g, 3)
		play(t, g, 3, line)
	}
	refusesAll(t, g, 3)
}

// TestRefusedByAllHands: with each number of hands that there may be, those
// that are awake and those that sleep.
func TestRefusedByAllHands(t *testing.T) {
	for hands := 1; hands <= mostHands; hands++ {
		for _, count := range []int{0, 1, 2, 30} {
			g := made(t, beside(count, 1), hands, 1)
			refusesAll(t, g, hands)
			for h := range hands {
				called(t, g, fmt.Sprint(h))
				refusesAll(t, g, hands)
			}
		}
	}
}

// TestAskingChangesNothing: Left, Has and Held may be asked as often as one
// likes, and so may one that sleeps do its step.
func TestAskingChangesNothing(t *testing.T) {
	g := made(t, read(t, "1 1<0 1<0"), 2, 1)
	tells(t, g, "0 1", "fetched 0 0; slept 1")
	for range 40 {
		play(t, g, 2, "1: - | 0 -1 | 3 | 0")
	}
	tells(t, g, "0", "finished 0 0, woke 1")
	for range 40 {
		if got := standing(t, g, 2); got != "-1 -1 | 2 | 1 2" {
			t.Fatal(got)
		}
	}
	tells(t, g, "1/2 0 0 1", "stole 1 1 0; took 0 2; finished 0 2; finished 1 1")
}
