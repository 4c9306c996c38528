package gang

import (
	"fmt"
	"slices"
	"strconv"
	"strings"
	"testing"

	"yardgang/api"
	"yardgang/plain"
	"yardgang/plan"
)

// most tasks of a plan, work of a task, hands, and room that there may be.
const (
	mostTasks = 30
	mostWork  = 20
	mostHands = 6
	mostRoom  = 16
)

func TestNumbers(t *testing.T) {
	if api.MaxTasks != mostTasks || api.MaxWork != mostWork || api.MaxHands != mostHands || api.MaxRing != mostRoom {
		t.Fatal("a plan has 30 tasks, a task 20 units of work, and there are 6 hands, with room for 16, at most")
	}
}

// read a plan that is right.
func read(t *testing.T, text string) api.Plan {
	t.Helper()
	p, err := plan.Parse(text)
	if err != nil {
		t.Fatal(text, err)
	}
	return p
}

// made gang, of what may be.
func made(t *testing.T, p api.Plan, hands, room int) *Gang {
	t.Helper()
	g, err := New(p, hands, room)
	if err != nil || g == nil {
		t.Fatalf("New(%v, %d, %d): got %v %v", p, hands, room, g, err)
	}
	return g
}

// fan of tasks: the first one, and behind it so many others, each of a work.
func fan(count, work int) api.Plan {
	p := beside(count+1, work)
	for i := 1; i < len(p); i++ {
		p[i].Needs = []int{0}
	}
	return p
}

// beside each other so many tasks, each of a work.
func beside(count, work int) api.Plan {
	p := make(api.Plan, count)
	for i := range p {
		p[i].Work = work
	}
	return p
}

// rising numbers, from one on.
func rising(from, count int) []int {
	l := make([]int, count)
	for i := range l {
		l[i] = from + i
	}
	return l
}

// word of a deed. Where a field isn't 0 that should be, it is told as it is.
func word(d api.Deed) string {
	names := []string{api.Took: "took", api.Stole: "stole", api.Fetched: "fetched", api.Finished: "finished", api.Slept: "slept", api.Woke: "woke"}
	if d.What < 1 || d.What >= len(names) || d.What != api.Stole && d.Other != 0 {
		return fmt.Sprintf("%+v", d)
	}
	s := names[d.What] + " " + strconv.Itoa(d.Hand)
	switch d.What {
	case api.Slept, api.Woke:
		if d.Task != 0 {
			return fmt.Sprintf("%+v", d)
		}
		return s
	case api.Stole:
		return s + " " + strconv.Itoa(d.Task) + " " + strconv.Itoa(d.Other)
	}
	return s + " " + strconv.Itoa(d.Task)
}

// words of deeds, with commas between them; of none a dash.
func words(l []api.Deed) string {
	if len(l) == 0 {
		return "-"
	}
	var w []string
	for _, d := range l {
		w = append(w, word(d))
	}
	return strings.Join(w, ", ")
}

// standing of a gang: what each hand has, how many are left, and what is held.
// Beside the hands there must be no other one.
func standing(t *testing.T, g *Gang, hands int) string {
	t.Helper()
	var w []string
	for h := range hands {
		n, err := g.Has(h)
		if err != nil {
			t.Fatalf("Has(%d): got %v", h, err)
		}
		w = append(w, strconv.Itoa(n))
	}
	for _, none := range []int{-1, hands} {
		if n, err := g.Has(none); n != 0 || plain.Told(err) != api.ErrRange {
			t.Fatalf("Has(%d) of %d: got %d %v", none, hands, n, err)
		}
	}
	held := g.Held()
	if !slices.IsSorted(held) || len(slices.Compact(slices.Clone(held))) != len(held) {
		t.Fatalf("Held: got %v", held)
	}
	return strings.Join(w, " ") + " | " + strconv.Itoa(g.Left()) + " | " + strings.Trim(fmt.Sprint(held), "[]")
}

// called by a text: "1" is Step(1, 0), "1/2" is Step(1, 2). The words of what
// comes of it.
func called(t *testing.T, g *Gang, call string) string {
	t.Helper()
	first, second, is := strings.Cut(call, "/")
	if !is {
		second = "0"
	}
	h, err := strconv.Atoi(first)
	if err != nil {
		t.Fatal(err)
	}
	pick, err := strconv.Atoi(second)
	if err != nil {
		t.Fatal(err)
	}
	l, err := g.Step(h, pick)
	if err == nil {
		return words(l)
	}
	if len(l) != 0 {
		t.Fatalf("Step(%d, %d): got %v %v", h, pick, l, err)
	}
	return plain.Told(err).Error()
}

// play lines on a gang, each of them a call, a colon, what comes of it, and
// how the gang stands behind it; "same" is for how it stood ahead.
func play(t *testing.T, g *Gang, hands int, lines ...string) {
	t.Helper()
	before := standing(t, g, hands)
	for i, line := range lines {
		call, want, _ := strings.Cut(line, ": ")
		want = strings.Replace(want, "| same", "| "+before, 1)
		if strings.HasSuffix(want, "|") {
			want += " "
		}
		answer := called(t, g, call)
		before = standing(t, g, hands)
		if got := answer + " | " + before; got != want {
			t.Fatalf("line %d, %s: got %q, want %q", i, call, got, want)
		}
	}
}

// tells holds what comes of calls, one behind the other, against what is
// wanted, with semicolons between.
func tells(t *testing.T, g *Gang, calls, want string) {
	t.Helper()
	var w []string
	for call := range strings.FieldsSeq(calls) {
		w = append(w, called(t, g, call))
	}
	if got := strings.Join(w, "; "); got != want {
		t.Fatalf("%s: got %q, want %q", calls, got, want)
	}
}

// run of lines on a gang that was just made.
type run struct {
	name, text  string
	hands, room int
	lines       []string
}

func TestRuns(t *testing.T) {
	for _, c := range []run{
		{"no tasks", "", 2, 3, []string{
			"1/9: slept 1 | -1 -1 | 0 |",
			"0/9: slept 0 | same",
			"0/9: - | same",
			"1/9: - | same",
		}},
		{"one task, one hand", "3", 1, 1, []string{
			"0: fetched 0 0 | 0 | 1 | 0",
			"0: - | same",
			"0: - | same",
			"0: finished 0 0 | -1 | 0 |",
			"0: slept 0 | same",
			"0: - | same",
		}},
		{"a unit of work that is the first and the last", "1", 2, 1, []string{
			"1: fetched 1 0 | -1 0 | 1 | 0",
			"1: finished 1 0 | -1 -1 | 0 |",
		}},
		{"two have one each, and each works at its own", "2 2", 2, 1, []string{
			"1: fetched 1 0 | -1 0 | 2 | 0 1",
			"0: fetched 0 1 | 1 0 | 2 | 0 1",
			"0: - | same",
			"1: - | same",
			"0: finished 0 1 | -1 0 | 1 | 0",
			"1: finished 1 0 | -1 -1 | 0 |",
		}},
		{"those that are ready at first are fetched in their order, whatever the room", "1 1<0 1 1<0 1", 1, 1, []string{
			"0: fetched 0 0 | 0 | 5 | 0 2 4",
			"0: finished 0 0 | -1 | 4 | 1 2 3 4",
			// Of 1 and 3 the last is near; the own come ahead of the spilled.
			"0: took 0 3 | 3 | 4 | 1 2 3 4",
			"0: finished 0 3 | -1 | 3 | 1 2 4",
			"0: took 0 1 | 1 | 3 | 1 2 4",
			"0: finished 0 1 | -1 | 2 | 2 4",
			"0: fetched 0 2 | 2 | 2 | 2 4",
			"0: finished 0 2 | -1 | 1 | 4",
			"0: fetched 0 4 | 4 | 1 | 4",
			"0: finished 0 4 | -1 | 0 |",
			"0: slept 0 | same",
		}},
		{"who needs two is ready by the last of them, in the hand that does it", "1 1 1<0,1", 2, 2, []string{
			"0: fetched 0 0 | 0 -1 | 3 | 0 1",
			"1: fetched 1 1 | 0 1 | 3 | 0 1",
			"0: finished 0 0 | -1 1 | 2 | 1",
			"0/1: slept 0 | same",
			"1: finished 1 1, woke 0 | -1 -1 | 1 | 2",
			// What is near is not robbed.
			"0/1: slept 0 | same",
			"1: took 1 2 | -1 2 | 1 | 2",
			"1: finished 1 2 | -1 -1 | 0 |",
		}},
		{"what is near, then the last one of the ring", "1 1<0 1<0 1<0 1<0", 1, 3, []string{
			"0: fetched 0 0 | 0 | 5 | 0",
			"0: finished 0 0 | -1 | 4 | 1 2 3 4",
			"0: took 0 4 | 4 | 4 | 1 2 3 4",
			"0: finished 0 4 | -1 | 3 | 1 2 3",
			"0: took 0 3 | 3 | 3 | 1 2 3",
			"0: finished 0 3 | -1 | 2 | 1 2",
			"0: took 0 2 | 2 | 2 | 1 2",
			"0: finished 0 2 | -1 | 1 | 1",
			"0: took 0 1 | 1 | 1 | 1",
			"0: finished 0 1 | -1 | 0 |",
		}},
	} {
		t.Run(c.name, func(t *testing.T) {
			play(t, made(t, read(t, c.text), c.hands, c.room), c.hands, c.lines...)
		})
	}
}

// TestOut: what goes out of a Hand that is full comes into the Spill, in
// order, and another hand fetches it, ahead of robbing.
func TestOut(t *testing.T) {
	for _, c := range []struct {
		count, room int
		want        []int // what is fetched, in order; the others are taken
	}{
		{1, 1, nil},
		{2, 1, nil},
		{3, 1, []int{1}},
		{4, 1, []int{1, 2}},
		{7, 1, []int{1, 2, 3, 4, 5}},
		{3, 2, nil},
		{4, 2, []int{1}},
		{6, 2, []int{1, 2, 3}},
		{4, 3, nil},
		{5, 3, []int{1, 2}},
		{6, 3, []int{1, 2}},
		{7, 3, []int{1, 2, 3, 4}},
		{5, 4, nil},
		{6, 4, []int{1, 2}},
		{7, 4, []int{1, 2}},
		{8, 4, []int{1, 2, 3, 4}},
		{17, 16, nil},
		{18, 16, []int{1, 2, 3, 4, 5, 6, 7, 8}},
		{25, 16, []int{1, 2, 3, 4, 5, 6, 7, 8}},
		{26, 16, rising(1, 16)},
		{29, 15, rising(1, 16)},
		{29, 1, rising(1, 27)},
	} {
		g := made(t, fan(c.count, 1), 2, c.room)
		tells(t, g, "0 0", "fetched 0 0; finished 0 0")
		for _, n := range c.want {
			tells(t, g, "1/0 1/0", fmt.Sprintf("fetched 1 %d; finished 1 %d", n, n))
		}
		for n := c.count; n > len(c.want); n-- {
			tells(t, g, "0/1 0/1", fmt.Sprintf("took 0 %d; finished 0 %d", n, n))
		}
		tells(t, g, "0/1 1/0", "slept 0; slept 1")
	}
}

// TestOutOfARingAlone: none is near, and the ring is full: one more becomes
// near, and nothing goes out; with the next one some do.
func TestOutOfARingAlone(t *testing.T) {
	// Finished, 0 leaves 1 and 2 in the ring and 3 near; 3 makes 4, or 4 and 5, ready.
	g := made(t, read(t, "1 1<0 1<0 1<0 1<3"), 2, 2)
	tells(t, g, "0 0 0 0", "fetched 0 0; finished 0 0; took 0 3; finished 0 3")
	tells(t, g, "1/1 0 0", "slept 1; took 0 4; finished 0 4")
	tells(t, g, "0 0 0 0", "took 0 2; finished 0 2; took 0 1; finished 0 1")

	g = made(t, read(t, "1 1<0 1<0 1<0 1<3 1<3"), 2, 2)
	tells(t, g, "0 0 0 0", "fetched 0 0; finished 0 0; took 0 3; finished 0 3")
	tells(t, g, "1/1 1 1/1", "fetched 1 1; finished 1 1; slept 1")
	tells(t, g, "0 0 0 0 0 0", "took 0 5; finished 0 5; took 0 4; finished 0 4; took 0 2; finished 0 2")
}

// TestOutBehindWhatIsSpilled: what goes out is fetched behind what was there.
func TestOutBehindWhatIsSpilled(t *testing.T) {
	g := made(t, read(t, "1 1<0 1<0 1<0 1<0 1 1"), 2, 1)
	tells(t, g, "0 0", "fetched 0 0; finished 0 0")
	tells(t, g, "1 1 1 1 1 1 1 1", "fetched 1 5; finished 1 5; fetched 1 6; finished 1 6; fetched 1 1; finished 1 1; fetched 1 2; finished 1 2")
	tells(t, g, "0 0 0 0 0", "took 0 4; finished 0 4; took 0 3; finished 0 3; slept 0")
}

// TestRobbed: of a ring the first half, rounded up: the robber has the first
// of these, and the others are in its own Hand, as if they were put there.
func TestRobbed(t *testing.T) {
	for _, c := range []struct {
		count, room int
		want        []int // what is robbed
	}{
		{1, 1, nil},
		{1, 16, nil},
		{2, 1, []int{1}},
		{2, 16, []int{1}},
		{3, 16, []int{1}},
		{4, 16, []int{1, 2}},
		{5, 16, []int{1, 2}},
		{6, 16, []int{1, 2, 3}},
		{6, 5, []int{1, 2, 3}},
		{7, 16, []int{1, 2, 3}},
		{8, 7, []int{1, 2, 3, 4}},
		{16, 16, []int{1, 2, 3, 4, 5, 6, 7, 8}},
		{17, 16, []int{1, 2, 3, 4, 5, 6, 7, 8}},
	} {
		g := made(t, fan(c.count, 1), 3, c.room)
		tells(t, g, "2 2", "fetched 2 0; finished 2 0")
		if len(c.want) == 0 {
			tells(t, g, "1/2", "slept 1")
			continue
		}
		play(t, g, 3, fmt.Sprintf("1/2: stole 1 1 2 | -1 1 -1 | %d | %s", c.count, strings.Trim(fmt.Sprint(rising(1, c.count)), "[]")))
		tells(t, g, "1/2", "finished 1 1")
		for _, n := range slices.Backward(c.want[1:]) {
			tells(t, g, "1/2 1/2", fmt.Sprintf("took 1 %d; finished 1 %d", n, n))
		}
		for n := c.count; n > len(c.want); n-- {
			tells(t, g, "2/1 2/1", fmt.Sprintf("took 2 %d; finished 2 %d", n, n))
		}
		tells(t, g, "2/1 1/2 0/1", "slept 2; slept 1; slept 0")
	}
}

// TestRobbedInEveryRoom: from a ring that is full; nothing goes out of the
// robber's Hand, so there is nothing to be fetched.
func TestRobbedInEveryRoom(t *testing.T) {
	for room := 1; room <= mostRoom; room++ {
		g := made(t, fan(room+1, 1), 3, room)
		tells(t, g, "0 0 1/3 2/2", "fetched 0 0; finished 0 0; stole 1 1 0; slept 2")
		tells(t, g, "1", "finished 1 1")
		half := (room + 1) / 2
		for n := half; n > 1; n-- {
			tells(t, g, "1/1 1/1", fmt.Sprintf("took 1 %d; finished 1 %d", n, n))
		}
		tells(t, g, "1/1", "slept 1")
		for n := room + 1; n > half; n-- {
			tells(t, g, "0/0 0/0", fmt.Sprintf("took 0 %d; finished 0 %d", n, n))
		}
		tells(t, g, "0/0", "slept 0")
	}
}

// TestRobbedAgain: a robber is robbed, and one is robbed by several.
func TestRobbedAgain(t *testing.T) {
	g := made(t, fan(9, 1), 4, 16)
	tells(t, g, "0 0", "fetched 0 0; finished 0 0")
	// 1 to 8 in the ring of 0, 9 near.
	tells(t, g, "1/0 2/1 3/2", "stole 1 1 0; stole 2 2 1; slept 3")
	// 1 has 1, 3 in the ring, 4 near; 2 has 2; 0 has 5 to 8, and 9 near.
	tells(t, g, "2 2/1", "finished 2 2; stole 2 3 1")
	tells(t, g, "2 2/1 1 1", "finished 2 3; slept 2; finished 1 1; took 1 4")
	tells(t, g, "1 1/0 1 1", "finished 1 4; stole 1 5 0; finished 1 5; took 1 6")
	tells(t, g, "1 1/0 0 0 0 0", "finished 1 6; stole 1 7 0; took 0 9; finished 0 9; took 0 8; finished 0 8")
}

// TestPicks: which hand is robbed is the pick modulo the hands, up to the
// greatest number that there is.
func TestPicks(t *testing.T) {
	const greatest = 1<<63 - 1
	for hands := 2; hands <= mostHands; hands++ {
		for _, pick := range []int{0, 1, 2, 3, 4, 5, 6, 7, 11, 12, 13, 59, 60, 61, 1 << 8, 1<<8 + 1, 1 << 31, 1<<32 - 1, 1 << 32, 1<<32 + 1, greatest - 5, greatest - 4, greatest - 3, greatest - 2, greatest - 1, greatest} {
			for rich := range hands {
				for poor := range hands {
					if poor == rich {
						continue
					}
					g := made(t, fan(2, 1), hands, 1)
					tells(t, g, fmt.Sprintf("%d %d", rich, rich), fmt.Sprintf("fetched %d 0; finished %d 0", rich, rich))
					want := fmt.Sprintf("slept %d", poor)
					if pick%hands == rich {
						want = fmt.Sprintf("stole %d 1 %d", poor, rich)
					}
					tells(t, g, fmt.Sprintf("%d/%d", poor, pick), want)
				}
			}
		}
	}
}

// TestPickIsOfNoUse: where a hand has its own, or one may be fetched, or it
// works, or sleeps, every pick does the same.
func TestPickIsOfNoUse(t *testing.T) {
	for _, pick := range []int{0, 1, 2, 3, 1 << 40, 1<<63 - 1} {
		g := made(t, read(t, "2 1<0 1<0 1<0 1<0 1"), 3, 3)
		for _, c := range []struct {
			h    int
			want string
		}{
			{0, "fetched 0 0"}, {0, "-"}, {0, "finished 0 0"}, {1, "fetched 1 5"}, {1, "finished 1 5"}, {0, "took 0 4"}, {0, "finished 0 4"}, {0, "took 0 3"},
		} {
			tells(t, g, fmt.Sprintf("%d/%d", c.h, pick), c.want)
		}
		tells(t, g, "2/1", "slept 2")
		tells(t, g, fmt.Sprintf("2/%d 2/%d", pick, pick), "-; -")
	}
}

// TestOwnPick: a hand does not rob itself, nor anybody else instead.
func TestOwnPick(t *testing.T) {
	for hands := 1; hands <= mostHands; hands++ {
		for h := range hands {
			for _, pick := range []int{h, h + hands, h + 1000*hands} {
				g := made(t, fan(4, 1), hands, 4)
				if hands > 1 {
					rich := (h + 1) % hands
					tells(t, g, fmt.Sprintf("%d %d", rich, rich), fmt.Sprintf("fetched %d 0; finished %d 0", rich, rich))
				} else {
					g = made(t, nil, 1, 4)
				}
				tells(t, g, fmt.Sprintf("%d/%d", h, pick), fmt.Sprintf("slept %d", h))
			}
		}
	}
}

// TestWoken: as many as became ready, those that fell asleep first, in that
// order; all, if no more sleep; none, if none became ready.
func TestWoken(t *testing.T) {
	for _, c := range []struct {
		ready  int
		asleep []int
		want   []int
	}{
		{0, nil, nil},
		{0, []int{1, 2, 3}, nil},
		{1, nil, nil},
		{1, []int{3}, []int{3}},
		{1, []int{3, 1}, []int{3}},
		{1, []int{1, 3}, []int{1}},
		{2, []int{5, 2, 4}, []int{5, 2}},
		{3, []int{5, 2, 4}, []int{5, 2, 4}},
		{4, []int{5, 2, 4}, []int{5, 2, 4}},
		{4, []int{4, 5, 3, 1, 2}, []int{4, 5, 3, 1}},
		{5, []int{4, 5, 3, 1, 2}, []int{4, 5, 3, 1, 2}},
		{29, []int{5, 4, 3, 2, 1}, []int{5, 4, 3, 2, 1}},
	} {
		// With room for one most of them go into the Spill: they count too.
		for _, room := range []int{1, 16} {
			g := made(t, fan(c.ready, 2), mostHands, room)
			tells(t, g, "0 0", "fetched 0 0; -")
			for _, h := range c.asleep {
				tells(t, g, strconv.Itoa(h), fmt.Sprintf("slept %d", h))
			}
			want := "finished 0 0"
			for _, h := range c.want {
				want += fmt.Sprintf(", woke %d", h)
			}
			tells(t, g, "0", want)
			for _, h := range c.asleep[len(c.want):] {
				tells(t, g, strconv.Itoa(h), "-")
			}
		}
	}
}

// TestWokenAgain: who woke and fell asleep again is behind those that slept on.
func TestWokenAgain(t *testing.T) {
	g := made(t, read(t, "1 1<0 1<1 1<2"), 3, 1)
	tells(t, g, "0 2 1", "fetched 0 0; slept 2; slept 1")
	tells(t, g, "0 2 0 0", "finished 0 0, woke 2; slept 2; took 0 1; finished 0 1, woke 1")
	tells(t, g, "2 1 0 0", "-; slept 1; took 0 2; finished 0 2, woke 2")
	tells(t, g, "1 0 0", "-; took 0 3; finished 0 3")
}

// TestAsleep: one that sleeps does nothing, though there is something to be
// fetched, or robbed, till it is woken.
func TestAsleep(t *testing.T) {
	g := made(t, read(t, "1 1<0 1<0 1<0 1<0 1<4"), 4, 1)
	play(t, g, 4,
		"0: fetched 0 0 | 0 -1 -1 -1 | 6 | 0",
		"3/0: slept 3 | same",
		"3/0: - | same",
		"0: finished 0 0, woke 3 | -1 -1 -1 -1 | 5 | 1 2 3 4",
		"3: fetched 3 1 | -1 -1 -1 1 | 5 | 1 2 3 4",
		"2: fetched 2 2 | -1 -1 2 1 | 5 | 1 2 3 4",
		"1/3: slept 1 | same",
		// 3 is in the ring of 0: 1 would rob it, if it were awake.
		"1/0: - | same",
		"1/0: - | same",
		"0: took 0 4 | 4 -1 2 1 | 5 | 1 2 3 4",
		"3: finished 3 1 | 4 -1 2 -1 | 4 | 2 3 4",
		"1/0: - | same",
		"0: finished 0 4, woke 1 | -1 -1 2 -1 | 3 | 2 3 5",
		"1/0: stole 1 3 0 | -1 3 2 -1 | 3 | 2 3 5",
	)
}

// TestOneHandAlone: a hand does all, while the others never do a step.
func TestOneHandAlone(t *testing.T) {
	for hands := 1; hands <= mostHands; hands++ {
		for h := range hands {
			g := made(t, read(t, "3 2<0 1<0 4<1,2"), hands, 1)
			h := strconv.Itoa(h)
			tells(t, g, strings.Repeat(h+" ", 15), strings.ReplaceAll(
				"fetched H 0; -; -; finished H 0; took H 2; finished H 2; took H 1; -; finished H 1; took H 3; -; -; -; finished H 3; slept H", "H", h))
			if g.Left() != 0 || len(g.Held()) != 0 {
				t.Fatalf("left %d, held %v", g.Left(), g.Held())
			}
		}
	}
}
