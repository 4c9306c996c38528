package cells

import (
	"math"
	"reflect"
	"slices"
	"testing"

	"yardgang/api"
)

// handed in: lists that have more memory behind their length, filled with what
// belongs to none of them and may not be so.
type handed struct {
	p     api.Plan
	back  []int // in which the needs of the last task stand
	l     []api.Op
	order []int
	in    []api.Cell
}

func guarded(t *testing.T) handed {
	h := handed{p: make(api.Plan, 3, 5), back: []int{0, 1, -7, -7}}
	h.p[0], h.p[1], h.p[2] = task(2, 1), task(1), api.Task{Work: 1, Needs: h.back[:2]}
	copy(h.p[3:5], []api.Task{task(-1), task(-1, 9)})
	h.l = append(ops(t, "sum 5 product 3 sum 1"), api.Op{What: 9}, api.Op{What: 1, N: math.MaxInt})[:3]
	h.order = []int{1, 0, 2, -7, 99}[:3]
	h.in = append(row(t, "4 -6 9"), api.Cell{N: math.MaxInt}, api.Cell{N: 7, Fault: true})[:3]
	return h
}

// whole memory behind what was handed in.
func (h handed) whole() handed {
	return handed{p: h.p[:5], back: h.back[:4], l: h.l[:5], order: h.order[:5], in: h.in[:5]}
}

// hold what the calls tell of it.
func (h handed) hold(t *testing.T) {
	t.Helper()
	for _, c := range []struct{ op, want string }{
		{"sum 2", "9"},
		{"most 2", "9"},
		{"product 2", "-432"},
		{"split 30", "4"},
		{"first 2", "4"},
	} {
		holdDo(t, ops(t, c.op)[0], h.in, row(t, c.want)[0])
	}
	holdAll(t, h.p, h.l, row(t, "8 3 12"))
	holdAlong(t, h.p, h.l, h.order, row(t, "8 3 12"))
}

// TestNothingHandedInIsWritten: nor read, what lies behind a length; whether
// it is right or wrong.
func TestNothingHandedInIsWritten(t *testing.T) {
	h := guarded(t)
	for range 2 {
		h.hold(t)
		for what := api.Sum; what <= api.First; what++ {
			refuseDo(t, api.Op{What: what}, h.in[:4], api.ErrRange)
			refuseDo(t, api.Op{What: what + 5}, h.in, api.ErrRange)
		}
		refuseBoth(t, h.p[:5], h.l, h.order, api.ErrRange)
		refuseBoth(t, h.p, h.l[:4], h.order, api.ErrShape)
		refuseBoth(t, h.p, h.l[:2], h.order, api.ErrShape)
		refuseBoth(t, h.p, h.l[2:5], h.order, api.ErrRange)
		refuseAlong(t, h.p, h.l, h.order[:4], api.ErrShape)
		refuseAlong(t, h.p, h.l, h.order[:2], api.ErrShape)
		refuseAlong(t, h.p, h.l, h.order[2:5], api.ErrShape)
		refuseAlong(t, h.p, h.l, []int{0, 1, 2}, api.ErrState)
	}
	if got, want := h.whole(), guarded(t).whole(); !reflect.DeepEqual(got, want) {
		t.Errorf("got %v, want %v", got, want)
	}
}

// TestNothingHandedInIsKept: when plan, ops, order and cells become other ones,
// in the same memory, those count; what was told of the first ones stays.
func TestNothingHandedInIsKept(t *testing.T) {
	h := guarded(t)
	h.hold(t)
	all, err := All(h.p, h.l)
	if err != nil {
		t.Fatal(err)
	}
	along, err := Along(h.p, h.l, h.order)
	if err != nil {
		t.Fatal(err)
	}

	h.in[1] = api.Cell{Fault: true}
	holdDo(t, api.Op{What: api.Sum}, h.in, api.Cell{Fault: true})
	h.in[0] = api.Cell{Fault: true}
	holdDo(t, api.Op{What: api.First}, h.in, api.Cell{N: 9})
	h.l[1] = api.Op{What: api.Sum, N: -5}
	holdAll(t, h.p, h.l, row(t, "0 -5 -4"))
	holdAlong(t, h.p, h.l, h.order, row(t, "0 -5 -4"))
	h.back[0] = 1
	h.p[2].Needs = h.back[:1]
	holdAll(t, h.p, h.l, row(t, "0 -5 -4"))
	holdAlong(t, h.p, h.l, h.order, row(t, "0 -5 -4"))
	h.p[0].Needs = nil
	h.order[0], h.order[1] = 0, 1
	holdAll(t, h.p, h.l, row(t, "5 -5 -4"))
	holdAlong(t, h.p, h.l, h.order, row(t, "5 -5 -4"))
	h.order[1], h.order[2] = 2, 1
	refuseAlong(t, h.p, h.l, h.order, api.ErrState)
	clear(h.order)
	refuseAlong(t, h.p, h.l, h.order, api.ErrShape)
	clear(h.l)
	refuseBoth(t, h.p, h.l, h.order, api.ErrRange)
	clear(h.p)
	clear(h.in)
	clear(h.back)

	for _, got := range [][]api.Cell{all, along} {
		if want := row(t, "8 3 12"); !slices.Equal(got, want) {
			t.Errorf("got %v, want %v", got, want)
		}
	}
	guarded(t).hold(t)
}

// TestCellsAreTheCallers: no two lists that All or Along told share memory,
// even of the same plan, and none is told again.
func TestCellsAreTheCallers(t *testing.T) {
	h := guarded(t)
	want := row(t, "8 3 12")
	var told [][]api.Cell
	for range 4 {
		all, err := All(h.p, h.l)
		if err != nil {
			t.Fatal(err)
		}
		along, err := Along(h.p, h.l, h.order)
		if err != nil {
			t.Fatal(err)
		}
		told = append(told, all, along)
	}
	for k, l := range told {
		if !slices.Equal(l, want) {
			t.Errorf("list %d is %v, want %v", k, l, want)
		}
		l = l[:cap(l)]
		for at := range l {
			l[at] = api.Cell{N: 99, Fault: true}
		}
		h.hold(t)
	}
	if got, want := h.whole(), guarded(t).whole(); !reflect.DeepEqual(got, want) {
		t.Errorf("got %v, want %v", got, want)
	}
}

// TestNothingIsSeenAgain: what a call answers hangs on no call ahead of it.
func TestNothingIsSeenAgain(t *testing.T) {
	h, fault := guarded(t), api.Cell{Fault: true}
	for range 3 {
		holdDo(t, api.Op{What: api.Product, N: greatest}, row(t, "M M"), fault)
		refuseDo(t, api.Op{What: api.Sum}, make([]api.Cell, mostTasks+1), api.ErrFull)
		refuseBoth(t, h.p, nil, nil, api.ErrShape)
		refuseAlong(t, h.p, h.l, []int{0, 1, 2}, api.ErrState)
		h.hold(t)
	}
}
