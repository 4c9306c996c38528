package gang

import (
	"reflect"
	"slices"
	"testing"

	"yardgang/api"
)

// handed in: a plan that has more memory behind its lengths, filled with what
// belongs to no plan.
type handed struct {
	p    api.Plan
	back []int // in which the needs of the last task stand
}

func guarded() handed {
	h := handed{p: make(api.Plan, 3, 5), back: []int{0, 1, -7, -7}}
	h.p[0], h.p[1], h.p[2] = api.Task{Work: 2}, api.Task{Work: 1, Needs: []int{0}}, api.Task{Work: 3, Needs: h.back[:2]}
	copy(h.p[3:5], []api.Task{{Work: -1}, {Work: -1, Needs: []int{9}}})
	return h
}

// whole memory behind what was handed in.
func (h handed) whole() handed { return handed{p: h.p[:5], back: h.back[:4]} }

// guardedRun does all of a guarded plan by two hands, of which one tries too.
func guardedRun(t *testing.T, g *Gang) {
	t.Helper()
	tells(t, g, "0 1 0 0", "fetched 0 0; slept 1; -; finished 0 0, woke 1")
	tells(t, g, "1 0 0", "slept 1; took 0 1; finished 0 1, woke 1")
	tells(t, g, "0 0 0 0 0", "took 0 2; -; -; finished 0 2; slept 0")
}

// TestNothingHandedInIsWritten: nor read, what lies behind a length.
func TestNothingHandedInIsWritten(t *testing.T) {
	h := guarded()
	guardedRun(t, made(t, h.p, 2, 1))
	refused(t, h.p, 0, 1, api.ErrRange)
	refused(t, h.p, 1, 17, api.ErrRange)
	refused(t, h.p[:5], 2, 1, api.ErrRange)
	if got, want := h.whole(), guarded().whole(); !reflect.DeepEqual(got, want) {
		t.Errorf("got %v, want %v", got, want)
	}
}

// TestNothingHandedInIsKept: when the plan becomes another one, in the same
// memory, the gang does the one that it was given.
func TestNothingHandedInIsKept(t *testing.T) {
	h := guarded()
	g := made(t, h.p, 2, 1)
	other := made(t, h.p, 2, 1)
	h.p[0].Work, h.p[1].Work, h.p[2].Work = 9, 9, 9
	h.back[0], h.back[1] = 1, 2
	h.p[1].Needs[0] = 2
	guardedRun(t, g)
	clear(h.back)
	clear(h.p[:5])
	guardedRun(t, other)
}

// spoil deeds, with what lies behind their length.
func spoil(l []api.Deed) {
	l = l[:cap(l)]
	for i := range l {
		l[i] = api.Deed{What: 99, Hand: 99, Task: 99, Other: 99}
	}
}

// spoilTasks likewise.
func spoilTasks(l []int) {
	l = l[:cap(l)]
	for i := range l {
		l[i] = 99
	}
}

// TestWhatIsToldIsTheCallers: neither the gang nor another list shares the
// memory of what Step or Held told.
func TestWhatIsToldIsTheCallers(t *testing.T) {
	g := made(t, read(t, "2 1<0 1<0 1<0 1<0 1<0 1<4,5"), 3, 2)
	clean := made(t, read(t, "2 1<0 1<0 1<0 1<0 1<0 1<4,5"), 3, 2)
	var deeds, wantDeeds [][]api.Deed
	var held, wantHeld [][]int
	for _, h := range []int{0, 1, 2, 0, 0, 1, 2, 0, 1, 2, 0, 0, 1, 1, 0, 2, 1, 1, 0, 0, 0, 2, 1} {
		got, err := g.Step(h, 0)
		want, wantErr := clean.Step(h, 0)
		if !slices.Equal(got, want) || err != wantErr {
			t.Fatalf("Step(%d, 0): got %v %v, want %v %v", h, got, err, want, wantErr)
		}
		deeds, wantDeeds = append(deeds, got), append(wantDeeds, slices.Clone(want))
		for range 2 {
			l := g.Held()
			if !slices.Equal(l, clean.Held()) {
				t.Fatalf("Held: got %v, want %v", l, clean.Held())
			}
			held, wantHeld = append(held, l), append(wantHeld, slices.Clone(l))
		}
		// Each second one is spoiled at once, so that the gang would stumble on it.
		if len(deeds)%2 == 0 {
			spoil(got)
			wantDeeds[len(deeds)-1] = slices.Clone(got)
			spoilTasks(held[len(held)-1])
			wantHeld[len(held)-1] = slices.Clone(held[len(held)-1])
		}
	}
	if g.Left() != 0 {
		t.Fatalf("left %d: the run is too short", g.Left())
	}
	for i := range deeds {
		if !slices.Equal(deeds[i], wantDeeds[i]) {
			t.Errorf("deeds %d were %v, and are %v", i, wantDeeds[i], deeds[i])
		}
		spoil(deeds[i])
	}
	for i := range held {
		if !slices.Equal(held[i], wantHeld[i]) {
			t.Errorf("held %d was %v, and is %v", i, wantHeld[i], held[i])
		}
		spoilTasks(held[i])
	}
}

// TestGangsAreApart: of one plan, and of others: what one does, no other one
// tells.
func TestGangsAreApart(t *testing.T) {
	p := read(t, "1 1<0 1<0 1<0")
	a, b := made(t, p, 2, 1), made(t, p, 2, 1)
	c := made(t, read(t, "1"), 2, 1)
	tells(t, a, "0 1", "fetched 0 0; slept 1")
	play(t, b, 2, "1: fetched 1 0 | -1 0 | 4 | 0", "1: finished 1 0 | -1 -1 | 3 | 1 2 3")
	play(t, a, 2, "1: - | 0 -1 | 4 | 0", "0: finished 0 0, woke 1 | -1 -1 | 3 | 1 2 3")
	tells(t, c, "1 0", "fetched 1 0; slept 0")
	tells(t, a, "1 1", "fetched 1 1; finished 1 1")
	tells(t, b, "0 0", "fetched 0 1; finished 0 1")
	tells(t, a, "1/0 0 1", "stole 1 2 0; took 0 3; finished 1 2")
	tells(t, b, "0/1 1 0", "stole 0 2 1; took 1 3; finished 0 2")
	tells(t, c, "0 1 1", "-; finished 1 0; slept 1")
	play(t, a, 2, "0: finished 0 3 | -1 -1 | 0 |")
	play(t, b, 2, "0/1: slept 0 | -1 3 | 1 | 3")
	if got := standing(t, made(t, p, 2, 1), 2); got != "-1 -1 | 4 | 0" {
		t.Error(got)
	}
}

// TestNothingIsKept: of what is over.
func TestNothingIsKept(t *testing.T) {
	g := made(t, beside(mostTasks, 1), mostHands, 3)
	for i := range 2 * mostTasks {
		h := i % mostHands
		if _, err := g.Step(h, 0); err != nil {
			t.Fatal(err)
		}
		has := 0
		for h := range mostHands {
			if n, _ := g.Has(h); n >= 0 {
				has++
			}
		}
		if len(g.has) != has {
			t.Fatalf("step %d: %d hands have a task, and of %d it is kept", i, has, len(g.has))
		}
	}
	if len(g.has) != 0 || g.Left() != 0 {
		t.Errorf("kept %v, left %d", g.has, g.Left())
	}
}
