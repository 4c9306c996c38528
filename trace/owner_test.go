package trace

import (
	"reflect"
	"slices"
	"strings"
	"testing"

	"yardgang/api"
)

// handed in: lists that have more memory behind their length, filled with what
// may not be.
type handed struct {
	p    api.Plan
	back []int // in which the needs of the last task stand
	l    []api.Deed
}

func guarded(t *testing.T) handed {
	h := handed{p: make(api.Plan, 3, 5), back: []int{0, 1, -7, -7}}
	h.p[0], h.p[1], h.p[2] = api.Task{Work: 2}, api.Task{Work: 1}, api.Task{Work: 1, Needs: h.back[:2]}
	copy(h.p[3:5], []api.Task{{Work: -1}, {Work: -1, Needs: []int{9}}})
	right := deeds(t, "fetched 0 0, slept 2, fetched 1 1, finished 1 1, slept 1, finished 0 0, woke 2, stole 2 2 0, finished 2 2")
	h.l = append(right, api.Deed{What: -1}, api.Deed{What: 9, Hand: 9, Task: 99, Other: 9})[:len(right)]
	return h
}

// text and counts of what is handed in.
const guardedText = "fetched 0 0\nslept 2\nfetched 1 1\nfinished 1 1\nslept 1\nfinished 0 0\nwoke 2\nstole 2 2 0\nfinished 2 2\n"

var guardedCounts = []int{0, 1, 2, 3, 2, 1}

// whole memory behind what was handed in.
func (h handed) whole() handed {
	return handed{p: h.p[:5], back: h.back[:4], l: h.l[:len(h.l)+2]}
}

// holdAll holds what all calls tell of it.
func (h handed) holdAll(t *testing.T) {
	t.Helper()
	holdPrint(t, h.l, guardedText)
	holdParse(t, guardedText, h.l)
	holdCounts(t, h.l, guardedCounts...)
	holdCheck(t, h.p, 3, h.l, api.OK)
}

// TestNothingHandedInIsWritten: nor read, what lies behind a length; whether it
// may be so or not.
func TestNothingHandedInIsWritten(t *testing.T) {
	h := guarded(t)
	for range 2 {
		h.holdAll(t)
		refuse(t, h.l[:len(h.l)+1], api.ErrRange)
		for i := range h.l {
			holdCheck(t, h.p, 3, h.l[:i], api.OK)
		}
		holdCheck(t, h.p, 3, h.l[2:], api.ErrState)
		holdCheck(t, h.p, 2, h.l, api.ErrRange)
		holdCheck(t, h.p, 0, h.l, api.ErrRange)
		holdCheck(t, h.p[:2], 3, h.l, api.ErrRange)
		holdCheck(t, h.p[:5], 3, h.l, api.ErrRange)
		holdCheck(t, h.p, 3, append(h.l[:len(h.l):len(h.l)], h.l[0]), api.ErrClash)
	}
	if got, want := h.whole(), guarded(t).whole(); !reflect.DeepEqual(got, want) {
		t.Errorf("got %v, want %v", got, want)
	}
}

// TestNothingHandedInIsKept: when plan and deeds become other ones, in the same
// memory, those are told of; what was told of the first ones stays.
func TestNothingHandedInIsKept(t *testing.T) {
	h := guarded(t)
	h.holdAll(t)
	text, err := Print(h.l)
	if err != nil {
		t.Fatal(err)
	}
	counts, err := Counts(h.l)
	if err != nil {
		t.Fatal(err)
	}

	h.back[0], h.back[1] = 1, 2
	holdCheck(t, h.p, 3, h.l, api.ErrCycle)
	h.p[2].Needs = h.back[:1]
	holdCheck(t, h.p, 3, h.l, api.OK)
	h.l[7].Other = 2
	holdCheck(t, h.p, 3, h.l, api.ErrShape)
	h.l[7] = api.Deed{What: api.Took, Hand: 2, Task: 2}
	holdCheck(t, h.p, 3, h.l, api.OK)
	holdCounts(t, h.l, 1, 0, 2, 3, 2, 1)
	holdPrint(t, h.l, strings.Replace(guardedText, "stole 2 2 0", "took 2 2", 1))
	clear(h.l)
	refuse(t, h.l, api.ErrRange)
	clear(h.p)
	clear(h.back)
	holdCheck(t, h.p, 3, nil, api.ErrRange)

	if text != guardedText || !slices.Equal(counts, guardedCounts) {
		t.Errorf("got %q %v", text, counts)
	}
	guarded(t).holdAll(t)
}

// TestNothingIsToldAgain: what was told ahead, right or wrong, is not held
// against what is told now.
func TestNothingIsToldAgain(t *testing.T) {
	h := guarded(t)
	for range 3 {
		holdCheck(t, h.p, 3, deeds(t, "took 0 0, slept 1, slept 2"), api.OK)
		holdCheck(t, h.p, 3, deeds(t, "took 0 0, finished 0 0, took 0 0"), api.ErrClash)
		holdCheck(t, h.p, 3, deeds(t, "woke 1"), api.ErrState)
		holdCheck(t, h.p, 3, deeds(t, "took 0 2"), api.ErrState)
		refuse(t, []api.Deed{{What: 1, Other: 1}}, api.ErrShape)
		refuseParse(t, "took 0 0", api.ErrSyntax)
		h.holdAll(t)
	}
}

// TestListsAreTheCallers: no two that were told share memory, even of the same
// deeds, and none is told again.
func TestListsAreTheCallers(t *testing.T) {
	h := guarded(t)
	var counts [][]int
	var parsed [][]api.Deed
	for range 4 {
		c, err := Counts(h.l)
		if err != nil {
			t.Fatal(err)
		}
		l, err := Parse(guardedText)
		if err != nil {
			t.Fatal(err)
		}
		counts, parsed = append(counts, c), append(parsed, l)
	}
	for i := range counts {
		if !slices.Equal(counts[i], guardedCounts) || !slices.Equal(parsed[i], h.l) {
			t.Errorf("lists %d: got %v %v", i, counts[i], parsed[i])
		}
		clear(counts[i][:cap(counts[i])])
		clear(parsed[i][:cap(parsed[i])])
		h.holdAll(t)
	}
	if got, want := h.whole(), guarded(t).whole(); !reflect.DeepEqual(got, want) {
		t.Errorf("got %v, want %v", got, want)
	}
}
