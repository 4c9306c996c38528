package log

import (
	"reflect"
	"slices"
	"testing"

	"yardgang/api"
)

// handed in: a plan that has more memory behind its lengths, filled with what
// belongs to no plan.
type handed struct {
	p    api.Plan
	back []int // in which the needs of the last task stand
}

func guarded() handed {
	h := handed{p: make(api.Plan, 3, 5), back: []int{0, 1, -7, -7}}
	h.p[0], h.p[1], h.p[2] = api.Task{Work: 2}, api.Task{Work: 1, Needs: []int{0}}, api.Task{Work: 3, Needs: h.back[:2]}
	copy(h.p[3:5], []api.Task{{Work: -1}, {Work: -1, Needs: []int{9}}})
	return h
}

// whole memory behind what was handed in.
func (h handed) whole() handed { return handed{p: h.p[:5], back: h.back[:4]} }

// guardedRun does all of a guarded plan, with crashes between, behind which the
// plan is looked at again.
func guardedRun(t *testing.T, l *Log) {
	t.Helper()
	stands(t, l, " | 0 | 0 0")
	does(t, l, "d0 d1 c2")
	stands(t, l, "0 | 1 | 2 2")
	does(t, l, "d1 f0 d2")
	stands(t, l, "0 1 | 2 | 5 2")
	does(t, l, "c0")
	stands(t, l, "0 | 1 | 2 2")
	does(t, l, "d1 s d2 c100")
	stands(t, l, "0 1 2 |  | 6 6")
}

// TestNothingHandedInIsWritten: nor read, what lies behind a length.
func TestNothingHandedInIsWritten(t *testing.T) {
	h := guarded()
	guardedRun(t, made(t, h.p))
	if l, err := New(h.p[:5]); l != nil || err == nil {
		t.Errorf("got %v %v", l, err)
	}
	if got, want := h.whole(), guarded().whole(); !reflect.DeepEqual(got, want) {
		t.Errorf("got %v, want %v", got, want)
	}
}

// TestNothingHandedInIsKept: when the plan becomes another one, in the same
// memory, the log has the one that it was given.
func TestNothingHandedInIsKept(t *testing.T) {
	h := guarded()
	l, other, third := made(t, h.p), made(t, h.p), made(t, h.p)
	h.p[1].Needs[0] = 2
	guardedRun(t, l)
	h.back[0], h.back[1] = 1, 2
	h.p[0].Work, h.p[1].Work, h.p[2].Work = 0, -1, 99
	guardedRun(t, other)
	clear(h.back)
	clear(h.p[:5])
	guardedRun(t, third)
}

// spoil a list, with what lies behind its length.
func spoil(l []int) {
	l = l[:cap(l)]
	for i := range l {
		l[i] = 99
	}
}

// TestWhatIsToldIsTheCallers: neither the log nor another list shares the memory
// of what All or Ready told.
func TestWhatIsToldIsTheCallers(t *testing.T) {
	l := read(t, "1 1 1<0 1<1 1<2,3 1")
	clean := read(t, "1 1 1<0 1<1 1<2,3 1")
	var told, want [][]int
	for _, call := range []string{"d1", "d0", "s", "d3", "f1", "d5", "d2", "c2", "d3", "d5", "c3", "d2", "s", "d5", "d4", "f0", "s", "c9"} {
		if got, wanted := does(t, l, call), does(t, clean, call); got != wanted {
			t.Fatalf("%s: got %v, want %v", call, got, wanted)
		}
		stands(t, l, standing(clean))
		for range 2 {
			told = append(told, l.All(), l.Ready())
			want = append(want, clean.All(), clean.Ready())
		}
		// Some are spoiled at once, so that the log would stumble on them.
		for _, k := range []int{len(told) - 1, len(told) - 4} {
			spoil(told[k])
			want[k] = slices.Clone(told[k])
		}
		stands(t, l, standing(clean))
	}
	for i := range told {
		if !slices.Equal(told[i], want[i]) {
			t.Errorf("list %d was %v, and is %v", i, want[i], told[i])
		}
		spoil(told[i])
	}
	stands(t, l, standing(clean))
}

// TestLogsAreApart: of one plan: what one does, no other one tells.
func TestLogsAreApart(t *testing.T) {
	p := parsed(t, "1 1<0 1<0")
	a, b := made(t, p), made(t, p)
	does(t, a, "d0 s d1")
	stands(t, b, " | 0 | 0 0")
	does(t, b, "f0 d0")
	stands(t, b, " | 0 | 1 0")
	stands(t, a, "0 1 | 2 | 4 2")
	if said := does(t, a, "d2"); said != api.OK {
		t.Fatal(said)
	}
	does(t, b, "c1 d0 d2")
	stands(t, b, "0 2 | 1 | 4 0")
	does(t, a, "c2")
	stands(t, a, "0 1 | 2 | 4 4")
	stands(t, b, "0 2 | 1 | 4 0")
	stands(t, made(t, p), " | 0 | 0 0")
}
