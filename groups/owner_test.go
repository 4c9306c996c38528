package groups

import (
	"reflect"
	"slices"
	"testing"

	"yardgang/api"
)

// handed in: lists that have more memory behind their length, filled with what
// belongs to none of them and may not be so.
type handed struct {
	p    api.Plan
	back []int // in which the needs of the last task stand
	g    []api.Group
	of   []int
}

func guarded(t *testing.T) handed {
	h := handed{p: make(api.Plan, 3, 5), back: []int{0, 1, -7, -7}}
	h.p[0], h.p[1], h.p[2] = task(2), task(1, 0), api.Task{Work: 1, Needs: h.back[:2]}
	copy(h.p[3:5], []api.Task{task(-1), task(-1, 9)})
	h.g = some(t, "-1 0x 0 -9x 99x")[:3]
	h.of = []int{0, 2, 1, -7, 99}[:3]
	return h
}

// whole memory behind what was handed in.
func (h handed) whole() handed {
	return handed{p: h.p[:5], back: h.back[:4], g: h.g[:5], of: h.of[:5]}
}

// hold what the calls tell of it.
func (h handed) hold(t *testing.T) {
	t.Helper()
	if err := Check(h.g); err != nil {
		t.Errorf("Check: got %v", err)
	}
	for i, want := range marks("010") {
		holdGone(t, h.g, i, want)
	}
	holdCancel(t, h.g, 0, some(t, "-1x 0x 0"))
	holdCancel(t, h.g, 1, some(t, "-1 0x 0"))
	holdCancel(t, h.g, 2, some(t, "-1 0x 0x"))
	holdLive(t, h.p, h.g, h.of, marks("110"))
}

// TestNothingHandedInIsWritten: nor read, what lies behind a length; whether
// it is right or wrong.
func TestNothingHandedInIsWritten(t *testing.T) {
	h := guarded(t)
	for range 2 {
		h.hold(t)
		refusePlace(t, h.g, 3, api.ErrRange)
		refusePlace(t, h.g, -1, api.ErrRange)
		refusePlace(t, h.g[:4], 0, api.ErrRange)
		refuseLive(t, h.p[:5], h.g, h.of, api.ErrRange)
		refuseLive(t, h.p, h.g[:5], h.of, api.ErrRange)
		refuseLive(t, h.p, h.g, h.of[:4], api.ErrShape)
		refuseLive(t, h.p, h.g, h.of[:2], api.ErrShape)
		refuseLive(t, h.p, h.g, h.of[2:5], api.ErrRange)
		refuseLive(t, h.p, h.g[:1], h.of, api.ErrRange)
	}
	if got, want := h.whole(), guarded(t).whole(); !reflect.DeepEqual(got, want) {
		t.Errorf("got %v, want %v", got, want)
	}
}

// TestNothingHandedInIsKept: when plan, groups and places become other ones, in
// the same memory, those count; what was told of the first ones stays.
func TestNothingHandedInIsKept(t *testing.T) {
	h := guarded(t)
	h.hold(t)
	out, err := Cancel(h.g, 2)
	if err != nil {
		t.Fatal(err)
	}
	live, err := Live(h.p, h.g, h.of)
	if err != nil {
		t.Fatal(err)
	}

	h.of[0], h.of[2] = 1, 0
	holdLive(t, h.p, h.g, h.of, marks("000"))
	h.p[1].Needs = nil
	holdLive(t, h.p, h.g, h.of, marks("010"))
	h.back[0] = 1
	h.p[2].Needs = h.back[:1]
	holdLive(t, h.p, h.g, h.of, marks("011"))
	h.g[1].Cancelled, h.g[2].Cancelled = false, true
	holdGone(t, h.g, 1, false)
	holdGone(t, h.g, 2, true)
	holdLive(t, h.p, h.g, h.of, marks("100"))
	h.g[2].Parent, h.g[2].Cancelled = -1, false
	h.g[0].Cancelled = true
	holdGone(t, h.g, 2, false)
	holdLive(t, h.p, h.g, h.of, marks("010"))
	clear(h.g)
	refusePlace(t, h.g, 1, api.ErrRange)
	clear(h.p)
	clear(h.of)
	clear(h.back)

	if want := some(t, "-1 0x 0x"); !slices.Equal(out, want) {
		t.Errorf("got %v, want %v", out, want)
	}
	if want := marks("110"); !slices.Equal(live, want) {
		t.Errorf("got %v, want %v", live, want)
	}
	guarded(t).hold(t)
}

// TestCancelledAreTheCallers: no two lists that Cancel told share memory, even
// of the same groups, nor with those, also where that one was cancelled already.
func TestCancelledAreTheCallers(t *testing.T) {
	for i := range 3 {
		h := guarded(t)
		want := cancelled(h.g, i)
		var told [][]api.Group
		for range 4 {
			l, err := Cancel(h.g, i)
			if err != nil {
				t.Fatal(err)
			}
			told = append(told, l)
		}
		for k, l := range told {
			if !slices.Equal(l, want) {
				t.Errorf("list %d is %v, want %v", k, l, want)
			}
			l = l[:cap(l)]
			for at := range l {
				l[at] = api.Group{Parent: 99, Cancelled: true}
			}
			h.hold(t)
		}
		if got, want := h.whole(), guarded(t).whole(); !reflect.DeepEqual(got, want) {
			t.Errorf("got %v, want %v", got, want)
		}
	}
}

// TestLiveAreTheCallers: no two lists that Live told share memory, even of the
// same plan, and none is told again.
func TestLiveAreTheCallers(t *testing.T) {
	h := guarded(t)
	want := marks("110")
	var told [][]bool
	for range 4 {
		l, err := Live(h.p, h.g, h.of)
		if err != nil {
			t.Fatal(err)
		}
		told = append(told, l)
	}
	for k, l := range told {
		if !slices.Equal(l, want) {
			t.Errorf("list %d is %v, want %v", k, l, want)
		}
		l = l[:cap(l)]
		for at := range l {
			l[at] = k%2 == 0
		}
		h.hold(t)
	}
	if got, want := h.whole(), guarded(t).whole(); !reflect.DeepEqual(got, want) {
		t.Errorf("got %v, want %v", got, want)
	}
}
