package spill

import (
	"slices"
	"testing"

	"yardgang/api"
	"yardgang/plain"
)

// pair of a spill and a model of it, that are asked the same, and what they
// were asked so far: above 0 Put of so many, each time of other numbers,
// else Get of so many. The model does one number after the other, as the
// chapter says it.
type pair struct {
	t             *testing.T
	spill         *Spill
	room          int
	front, behind []int
	next          int
	calls         []int
}

// begin a pair with an empty spill.
func begin(t *testing.T, room int) *pair {
	s, err := New(room)
	if err != nil {
		t.Fatalf("New(%d): got %v", room, err)
	}
	return &pair{t: t, spill: s, room: room, next: 100}
}

// hold an answer against the one that is wanted.
func (p *pair) hold(what string, got, want []int, told error, err api.Errno) {
	if !slices.Equal(got, want) || plain.Told(told) != err {
		p.t.Fatalf("room %d, %v: %s: got %v %v, want %v %v", p.room, p.calls, what, got, told, want, err)
	}
}

// call the spill and the model.
func (p *pair) call(what int) {
	p.calls = append(p.calls, what)
	if what > 0 {
		p.put(what)
	} else {
		p.get(-what)
	}
	front, behind := p.spill.Len()
	if front != len(p.front) || behind != len(p.behind) {
		p.t.Fatalf("room %d, %v: Len: got %d %d, want %d %d", p.room, p.calls, front, behind, len(p.front), len(p.behind))
	}
}

func (p *pair) put(count int) {
	l := rising(p.next, count)
	p.next += count
	err := p.spill.Put(l)
	if len(p.front)+len(p.behind)+count > 60 {
		p.hold("Put", nil, nil, err, api.ErrFull)
		return
	}
	p.hold("Put", nil, nil, err, api.OK)
	for _, n := range l {
		if len(p.front) < p.room && len(p.behind) == 0 {
			p.front = append(p.front, n)
		} else {
			p.behind = append(p.behind, n)
		}
	}
}

func (p *pair) get(most int) {
	got, err := p.spill.Get(most)
	if most < 1 || most > 60 {
		p.hold("Get", got, nil, err, api.ErrRange)
		return
	}
	var want []int
	for range most {
		from := &p.front
		if len(p.front) == 0 {
			from = &p.behind
		}
		if len(*from) > 0 {
			want = append(want, (*from)[0])
			*from = (*from)[1:]
		}
	}
	for len(p.front) < p.room && len(p.behind) > 0 {
		p.front = append(p.front, p.behind[0])
		p.behind = p.behind[1:]
	}
	p.hold("Get", got, want, err, api.OK)
}

// TestAllShortRuns: all runs of six calls, in spills with little room.
func TestAllShortRuns(t *testing.T) {
	calls := []int{1, 2, 3, 7, -1, -2, -3, -5}
	for room := 1; room <= 4; room++ {
		for run := range 1 << 18 {
			p := begin(t, room)
			for i := range 6 {
				p.call(calls[run>>(3*i)&7])
			}
		}
	}
}

// TestAllRunsNearFull: all runs of four calls, from where a spill is nearly
// full, with little room and much; then all that is left is taken.
func TestAllRunsNearFull(t *testing.T) {
	calls := []int{1, 2, 3, 60, -1, -2, -59, 0}
	for room := 1; room <= 16; room += 3 {
		for there := 57; there <= 60; there++ {
			for run := range 1 << 12 {
				p := begin(t, room)
				p.call(there)
				for i := range 4 {
					p.call(calls[run>>(3*i)&7])
				}
				p.call(-60)
			}
		}
	}
}

// TestLongRuns: in which some calls come more often, so that spills are full
// for long, or empty, or now and then overflow.
func TestLongRuns(t *testing.T) {
	for room := 1; room <= 16; room++ {
		for _, calls := range [][]int{
			{1, -1}, {1, 2, -1}, {1, -1, -2}, {5, -1, -1, -1, -1}, {20, -3, -4}, {3, 9, -60},
			{1, 2, 5, 17, -1, -4, -16}, {16, -15}, {15, -16}, {30, 31, -7, -61}, {60, -59, 59, -60},
		} {
			p := begin(t, room)
			seed := uint32(room)
			for range 1500 {
				seed = seed*1664525 + 1013904223
				p.call(calls[int(seed>>16)%len(calls)])
				// Only the last ones, lest what is told of a fault is endless.
				p.calls = p.calls[max(0, len(p.calls)-40):]
			}
		}
	}
}
