package list

import (
	"reflect"
	"slices"
	"testing"

	"yardgang/api"
)

// handed in: lists that have more memory behind their length, filled with what
// belongs to no plan and no order.
type handed struct {
	p     api.Plan
	back  []int // in which the needs of the last task stand
	order []int
}

func guarded() handed {
	h := handed{p: make(api.Plan, 3, 5), back: []int{0, 1, -7, -7}, order: []int{2, 1, 0, -7, 3}[:3]}
	h.p[0], h.p[1], h.p[2] = task(2), task(3, 0), api.Task{Work: 4, Needs: h.back[:2]}
	copy(h.p[3:5], []api.Task{task(-1), task(-1, 9)})
	return h
}

// whole memory behind what was handed in.
func (h handed) whole() handed {
	return handed{p: h.p[:5], back: h.back[:4], order: h.order[:5]}
}

const guardedRun = "0:0@0-2 0:1@2-5 0:2@5-9"

// TestNothingHandedInIsWritten: nor read, what lies behind a length.
func TestNothingHandedInIsWritten(t *testing.T) {
	h := guarded()
	for hands := 1; hands <= all; hands++ {
		hold(t, h.p, hands, h.order, guardedRun, 9)
		refuses(t, "guarded", h.p, hands, h.order[:2], api.ErrShape)
		refuses(t, "guarded", h.p, hands, h.order[:4], api.ErrShape)
		refuses(t, "guarded, with what lies behind", h.p[:5], hands, h.order[:5], api.ErrRange)
	}
	refuses(t, "guarded", h.p, 0, h.order, api.ErrRange)
	refuses(t, "guarded", h.p, all+1, h.order, api.ErrRange)
	holdUrgent(t, h.p, []int{0, 1, 2})
	if got, want := h.whole(), guarded().whole(); !reflect.DeepEqual(got, want) {
		t.Errorf("got %v, want %v", got, want)
	}
}

// TestNothingHandedInIsKept: when plan and order become other ones, in the
// same memory, those are told of; what was told of the first ones stays.
func TestNothingHandedInIsKept(t *testing.T) {
	h := guarded()
	stays := ran(t, h.p, 2, h.order)
	urgent, _ := Urgent(h.p)
	h.p[0].Work, h.p[2].Work = 1, 9
	h.back[1] = -7
	h.p[2].Needs = h.back[:1]
	hold(t, h.p, 2, h.order, "0:0@0-1 0:2@1-10 1:1@1-4", 10)
	copy(h.order, []int{0, 1, 2})
	hold(t, h.p, 2, h.order, "0:0@0-1 0:1@1-4 1:2@1-10", 10)
	holdUrgent(t, h.p, []int{0, 2, 1})
	clear(h.back)
	clear(h.order)
	refuses(t, "cleared order", h.p, 2, h.order, api.ErrShape)
	clear(h.p[:5])
	refuses(t, "cleared", h.p, 2, h.order, api.ErrRange)
	if got := words(stays); got != guardedRun {
		t.Errorf("got %s, want %s", got, guardedRun)
	}
	if want := []int{0, 1, 2}; !slices.Equal(urgent, want) {
		t.Errorf("got %v, want %v", urgent, want)
	}
	h = guarded()
	hold(t, h.p, 2, h.order, guardedRun, 9)
}

// spoil stays, with what lies behind their length.
func spoil(stays []api.Stay) {
	stays = stays[:cap(stays)]
	for i := range stays {
		stays[i] = api.Stay{Hand: 99, Task: 99, From: 99, To: 99}
	}
}

// spoilOrder likewise.
func spoilOrder(order []int) {
	order = order[:cap(order)]
	for i := range order {
		order[i] = 99
	}
}

// TestStaysAreTheCallers: no two lists that were told share memory, even of
// the same plan, and none is told again.
func TestStaysAreTheCallers(t *testing.T) {
	var told [][]api.Stay
	var want []string
	for range 3 {
		for _, text := range []string{"", "1", "3 2<0 1<0 4<1,2", "2 1 3", "1 1 1 1 1 1 1"} {
			for hands := range all + 2 {
				p := read(t, text)
				l, _ := Run(p, hands, rising(0, len(p)))
				told = append(told, l)
				want = append(want, words(l))
			}
		}
	}
	for i, l := range told {
		if got := words(l); got != want[i] {
			t.Errorf("list %d was %s, and is %s", i, want[i], got)
		}
		spoil(l)
	}
	for range 3 {
		spoil(ran(t, read(t, "2 1 3"), 2, rising(0, 3)))
		hold(t, read(t, "2 1 3"), 2, rising(0, 3), "0:0@0-2 1:1@0-1 1:2@1-4", 4)
	}
}

// TestUrgentOrdersAreTheCallers: likewise; and a run by one leaves it as it is.
func TestUrgentOrdersAreTheCallers(t *testing.T) {
	var told [][]int
	for range 3 {
		for _, c := range []struct{ text, want string }{{"", ""}, {"1", "0"}, {"1 2 3", "2 1 0"}, {"3 2<0 1<0 4<1,2", "0 1 2 3"}} {
			p := read(t, c.text)
			l, err := Urgent(p)
			if err != nil {
				t.Fatal(c.text, err)
			}
			spoil(ran(t, p, 2, l))
			if !slices.Equal(l, numbers(t, c.want)) {
				t.Errorf("%s: got %v, want %s", c.text, l, c.want)
			}
			told = append(told, l)
			holdUrgent(t, p, numbers(t, c.want))
		}
	}
	kept := make([][]int, len(told))
	for i, l := range told {
		kept[i] = slices.Clone(l)
	}
	for i, l := range told {
		if !slices.Equal(l, kept[i]) {
			t.Errorf("order %d was %v, and is %v", i, kept[i], l)
		}
		spoilOrder(l)
	}
	holdUrgent(t, read(t, "1 2 3"), []int{2, 1, 0})
}
