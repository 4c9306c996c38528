package judge

import (
	"reflect"
	"slices"
	"testing"

	"yardgang/api"
)

// handed in: lists that have more memory behind their length, filled with what
// belongs to no plan and may not be so.
type handed struct {
	p     api.Plan
	back  []int // in which the needs of the last task stand
	bits  []api.Bit
	stays []api.Stay
}

func guarded(t *testing.T) handed {
	h := handed{p: make(api.Plan, 3, 5), back: []int{0, 1, -7, -7}}
	h.p[0], h.p[1], h.p[2] = task(2), task(1, 0), api.Task{Work: 1, Needs: h.back[:2]}
	copy(h.p[3:5], []api.Task{task(-1), task(-1, 9)})
	h.bits = bits(t, "7 0 2, 1 0 0, 0 1 0, 5 1 1, -1 0 0, 7 7 7")[:4]
	h.stays = stays(t, "0 2 6 7, 1 1 3 4, 0 0 1 3, 0 0 -1 0, 7 7 7 7")[:3]
	return h
}

// whole memory behind what was handed in.
func (h handed) whole() handed {
	return handed{p: h.p[:5], back: h.back[:4], bits: h.bits[:6], stays: h.stays[:5]}
}

// TestNothingHandedInIsWritten: nor read, what lies behind a length; whether
// it may be so or not.
func TestNothingHandedInIsWritten(t *testing.T) {
	h := guarded(t)
	for range 2 {
		holdBits(t, h.p, 2, h.bits, []int{1, 5, 7})
		holdStays(t, h.p, 2, h.stays, api.OK)
		refuseBits(t, h.p, 2, h.bits[:3], api.ErrNone)
		refuseBits(t, h.p, 2, h.bits[:5], api.ErrRange)
		refuseBits(t, h.p, 1, h.bits, api.ErrRange)
		holdStays(t, h.p, 2, h.stays[:2], api.ErrNone)
		holdStays(t, h.p, 2, h.stays[:4], api.ErrRange)
		holdStays(t, h.p, 1, h.stays, api.ErrRange)
		refuseBits(t, h.p, all+1, h.bits, api.ErrRange)
		holdStays(t, h.p, 0, h.stays, api.ErrRange)
		refuseBits(t, h.p[:5], 2, h.bits, api.ErrRange)
		holdStays(t, h.p[:5], 2, h.stays, api.ErrRange)
	}
	if got, want := h.whole(), guarded(t).whole(); !reflect.DeepEqual(got, want) {
		t.Errorf("got %v, want %v", got, want)
	}
}

// TestNothingHandedInIsKept: when plan, bits and stays become other ones, in
// the same memory, those are judged; what was told of the first ones stays.
func TestNothingHandedInIsKept(t *testing.T) {
	h := guarded(t)
	ends, err := Ends(h.p, 2, h.bits)
	if err != nil {
		t.Fatal(err)
	}
	holdStays(t, h.p, 2, h.stays, api.OK)

	h.bits[0].Step, h.stays[0].From, h.stays[0].To = 3, 3, 4
	refuseBits(t, h.p, 2, h.bits, api.ErrState)
	holdStays(t, h.p, 2, h.stays, api.ErrState)
	h.back[1] = -7
	h.p[2].Needs = h.back[:1]
	holdBits(t, h.p, 2, h.bits, []int{1, 5, 3})
	holdStays(t, h.p, 2, h.stays, api.OK)
	h.p[2].Work = 2
	refuseBits(t, h.p, 2, h.bits, api.ErrNone)
	holdStays(t, h.p, 2, h.stays, api.ErrShape)
	h.p[2].Work = 1
	clear(h.bits)
	clear(h.stays)
	refuseBits(t, h.p, 2, h.bits, api.ErrClash)
	holdStays(t, h.p, 2, h.stays, api.ErrShape)
	clear(h.back)
	clear(h.p[:5])
	refuseBits(t, h.p, 2, nil, api.ErrRange)

	if want := []int{1, 5, 7}; !slices.Equal(ends, want) {
		t.Errorf("got %v, want %v", ends, want)
	}
	h = guarded(t)
	holdBits(t, h.p, 2, h.bits, []int{1, 5, 7})
	holdStays(t, h.p, 2, h.stays, api.OK)
}

// TestNothingIsSeenAgain: what was judged ahead, right or wrong, is not held
// against what is judged now.
func TestNothingIsSeenAgain(t *testing.T) {
	h := guarded(t)
	for range 3 {
		refuseBits(t, h.p, 2, bits(t, "0 0 0, 0 0 1"), api.ErrClash)
		holdStays(t, h.p, 2, stays(t, "0 0 0 2, 0 1 1 2"), api.ErrClash)
		refuseBits(t, h.p, 2, bits(t, "7 0 2"), api.ErrNone)
		holdStays(t, h.p, 2, stays(t, "0 2 6 7"), api.ErrNone)
		holdBits(t, h.p, 2, h.bits, []int{1, 5, 7})
		holdStays(t, h.p, 2, h.stays, api.OK)
	}
}

// spoil numbers, with what lies behind their length.
func spoil(l []int) {
	l = l[:cap(l)]
	for i := range l {
		l[i] = 99
	}
}

// TestEndsAreTheCallers: no two lists that were told share memory, even of the
// same bits, and none is told again.
func TestEndsAreTheCallers(t *testing.T) {
	h := guarded(t)
	want := []int{1, 5, 7}
	var told [][]int
	for range 4 {
		l, err := Ends(h.p, 2, h.bits)
		if err != nil {
			t.Fatal(err)
		}
		told = append(told, l)
	}
	for i, l := range told {
		if !slices.Equal(l, want) {
			t.Errorf("list %d is %v, want %v", i, l, want)
		}
		spoil(l)
		holdBits(t, h.p, 2, h.bits, want)
	}
	holdStays(t, h.p, 2, h.stays, api.OK)
	if got, want := h.whole(), guarded(t).whole(); !reflect.DeepEqual(got, want) {
		t.Errorf("got %v, want %v", got, want)
	}
}
