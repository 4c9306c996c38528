package bench

import (
	"reflect"
	"slices"
	"testing"

	"yardgang/api"
)

// handed in: lists that have more memory behind their length, filled with what
// belongs to them not and may not be so.
type handed struct {
	bits []api.Bit
	p    api.Plan
	back []int // in which the needs of the last task stand
}

func guarded(t *testing.T) handed {
	t.Helper()
	h := handed{p: make(api.Plan, 3, 5), back: []int{0, 1, -7, -7}}
	h.bits = bits(t, "3 1 9, 0 0 0, 0 2 1, 1 1 7, 9 0 0, -1 0 0, 7 99 99")[:4]
	h.p[0], h.p[1], h.p[2] = api.Task{Work: 2}, api.Task{Work: 3}, api.Task{Work: 4, Needs: h.back[:2]}
	copy(h.p[3:5], api.Plan{{Work: -1}, {Work: -1, Needs: []int{9}}})
	return h
}

// whole memory behind what was handed in.
func (h handed) whole() handed {
	return handed{bits: h.bits[:7], p: h.p[:5], back: h.back[:4]}
}

// hold what the calls tell of it.
func (h handed) hold(t *testing.T) {
	t.Helper()
	holdBusy(t, h.bits, 3, []int{1, 2, 1})
	holdRow(t, h.bits, []int{2, 1, 0, 1})
	holdWaste(t, h.bits, 3, 8)
	holdSpeed(t, h.p, 1, 100)
	holdSpeed(t, h.p, 2, 128)
}

// TestNothingHandedInIsWritten: nor read, what lies behind a length; whether it
// is right or wrong.
func TestNothingHandedInIsWritten(t *testing.T) {
	h := guarded(t)
	for range 2 {
		h.hold(t)
		refuseBits(t, h.bits, 2, api.ErrRange)
		refuseBits(t, h.bits, 0, api.ErrRange)
		refuseBits(t, h.bits, all+1, api.ErrRange)
		refuseBits(t, h.bits[:6], 3, api.ErrRange)
		refuseRow(t, h.bits[:6], api.ErrRange)
		refuseRow(t, h.bits[:7], api.ErrRange)
		holdBusy(t, h.bits[:0], 3, []int{0, 0, 0})
		holdRow(t, h.bits[:0], nil)
		holdWaste(t, h.bits[:0], 3, 0)
		refuseSpeed(t, h.p, 0, api.ErrRange)
		refuseSpeed(t, h.p, all+1, api.ErrRange)
		refuseSpeed(t, h.p[:5], 2, api.ErrRange)
		holdSpeed(t, h.p[:0], 2, 100)
	}
	if got, want := h.whole(), guarded(t).whole(); !reflect.DeepEqual(got, want) {
		t.Errorf("got %v, want %v", got, want)
	}
}

// TestFullIsNotWritten: of more bits, and of more tasks, than there may be.
func TestFullIsNotWritten(t *testing.T) {
	l, p := rising(most+1), alike(tasks+1, 1)
	refuseBits(t, l, 3, api.ErrFull)
	refuseRow(t, l, api.ErrFull)
	refuseSpeed(t, p, 3, api.ErrFull)
	if !slices.Equal(l, rising(most+1)) || !reflect.DeepEqual(p, alike(tasks+1, 1)) {
		t.Errorf("got %v and %v", l, p)
	}
}

// TestNothingHandedInIsKept: when bits and plan become other ones, in the same
// memory, those count; what was told of the first ones stays.
func TestNothingHandedInIsKept(t *testing.T) {
	h := guarded(t)
	h.hold(t)
	busy, err := Busy(h.bits, 3)
	if err != nil {
		t.Fatal(err)
	}
	row, err := Row(h.bits)
	if err != nil {
		t.Fatal(err)
	}

	h.bits[0] = api.Bit{Step: 1, Hand: 0, Task: 2}
	holdBusy(t, h.bits, 3, []int{2, 1, 1})
	holdRow(t, h.bits, []int{2, 2})
	holdWaste(t, h.bits, 3, 2)
	h.bits[3].Task = tasks
	refuseBits(t, h.bits, 3, api.ErrRange)
	refuseRow(t, h.bits, api.ErrRange)
	clear(h.bits)
	holdBusy(t, h.bits, 3, []int{4, 0, 0})
	holdRow(t, h.bits, []int{4})
	holdWaste(t, h.bits, 3, -1)

	h.p[2].Work = 1
	holdSpeed(t, h.p, 2, 150)
	h.back[1] = 0
	refuseSpeed(t, h.p, 2, api.ErrClash)
	clear(h.p)
	refuseSpeed(t, h.p, 2, api.ErrRange)

	if want := []int{1, 2, 1}; !slices.Equal(busy, want) {
		t.Errorf("got %v, want %v", busy, want)
	}
	if want := []int{2, 1, 0, 1}; !slices.Equal(row, want) {
		t.Errorf("got %v, want %v", row, want)
	}
	guarded(t).hold(t)
}

// spoil a list, and all the memory behind it.
func spoil(l []int) {
	l = l[:cap(l)]
	for i := range l {
		l[i] = 99
	}
}

// TestWhatIsToldIsTheCallers: no two lists that were told share memory, even of
// the same bits, and none is told again.
func TestWhatIsToldIsTheCallers(t *testing.T) {
	h := guarded(t)
	calls := []func(l []api.Bit) ([]int, error){
		Row,
		func(l []api.Bit) ([]int, error) { return Busy(l, 3) },
		func(l []api.Bit) ([]int, error) { return Busy(l, all) },
	}
	var lists, wanted [][]int
	for range 3 {
		for _, call := range calls {
			for _, l := range [][]api.Bit{h.bits, h.bits[:1], h.bits[:0]} {
				one, err := call(l)
				if err != nil {
					t.Fatal(err)
				}
				lists, wanted = append(lists, one), append(wanted, slices.Clone(one))
			}
		}
	}
	for i, l := range lists {
		if !slices.Equal(l, wanted[i]) {
			t.Errorf("list %d was %v, and is %v", i, wanted[i], l)
		}
		spoil(l)
		h.hold(t)
	}
	if got, want := h.whole(), guarded(t).whole(); !reflect.DeepEqual(got, want) {
		t.Errorf("got %v, want %v", got, want)
	}
}
