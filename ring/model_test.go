package ring

import (
	"slices"
	"testing"

	"yardgang/api"
	"yardgang/plain"
)

// pair of a ring and a model of it, a list of what is there, that are asked
// the same, and what they were asked so far.
type pair struct {
	t     *testing.T
	ring  *Ring
	room  int
	all   []int
	next  int
	calls []byte
}

// begin a pair with an empty ring.
func begin(t *testing.T, room int) *pair {
	t.Helper()
	r, err := New(room)
	if err != nil {
		t.Fatalf("New(%d): got %v", room, err)
	}
	return &pair{t: t, ring: r, room: room, next: 100}
}

// hold an answer against the one that is wanted.
func (p *pair) hold(what string, got, want []int, told error, err api.Errno) {
	if !slices.Equal(got, want) || plain.Told(told) != err {
		p.t.Fatalf("room %d, %s: %s: got %v %v, want %v %v", p.room, p.calls, what, got, told, want, err)
	}
}

// call the ring and the model: + is Push, each time of another number,
// > Pop, < Steal, h Half.
func (p *pair) call(what byte) {
	p.calls = append(p.calls, what)
	switch what {
	case '+':
		p.push()
	case '>':
		n, err := p.ring.Pop()
		p.taken("Pop", n, err, len(p.all)-1)
	case '<':
		n, err := p.ring.Steal()
		p.taken("Steal", n, err, 0)
	case 'h':
		half := len(p.all) - len(p.all)/2
		p.hold("Half", p.ring.Half(), p.all[:half], nil, api.OK)
		p.all = p.all[half:]
	default:
		p.t.Fatalf("no call: %q", what)
	}
	p.hold("All", p.ring.All(), p.all, nil, api.OK)
	p.hold("Len", []int{p.ring.Len()}, []int{len(p.all)}, nil, api.OK)
}

func (p *pair) push() {
	p.next++
	err := p.ring.Push(p.next)
	if len(p.all) == p.room {
		p.hold("Push", nil, nil, err, api.ErrFull)
		return
	}
	p.hold("Push", nil, nil, err, api.OK)
	p.all = append(p.all, p.next)
}

// taken is what Pop or Steal told: of the model it is the one at i.
func (p *pair) taken(what string, n int, err error, i int) {
	if len(p.all) == 0 {
		p.hold(what, []int{n}, []int{0}, err, api.ErrNone)
		return
	}
	p.hold(what, []int{n}, p.all[i:i+1], err, api.OK)
	p.all = slices.Concat(p.all[:i], p.all[i+1:])
}

// TestAllShortRuns: all runs of eight calls, in small rings.
func TestAllShortRuns(t *testing.T) {
	const calls = "+><h"
	for room := 1; room <= 5; room++ {
		for run := range 1 << 16 {
			p := begin(t, room)
			for i := range 8 {
				p.call(calls[run>>(2*i)&3])
			}
		}
	}
}

// TestFromAnyPlace: every call, in a ring with so many in it, of every room,
// whose first one stands anywhere; then it is filled, and taken from, again.
func TestFromAnyPlace(t *testing.T) {
	for room := 1; room <= api.MaxRing; room++ {
		for gone := range 2*api.MaxRing + 1 {
			for count := range room + 1 {
				for _, what := range []byte("+><h") {
					p := begin(t, room)
					for range gone {
						p.call('+')
						p.call('<')
					}
					for range count {
						p.call('+')
					}
					p.call(what)
					for range room + 1 - count/2 {
						p.call('+')
					}
					for range room/2 + 1 {
						p.call('>')
						p.call('<')
					}
				}
			}
		}
	}
}

// TestManyTimesAround: long runs, in which some calls come more often, so
// that rings are full for long, or empty, or go around.
func TestManyTimesAround(t *testing.T) {
	for room := 1; room <= api.MaxRing; room++ {
		for _, calls := range []string{"+", "+<", "+++<", "++<>", "++++h", "+><h", "++++++<<>h", "+<<>"} {
			p := begin(t, room)
			seed := uint32(room)
			for range 2000 {
				seed = seed*1664525 + 1013904223
				p.call(calls[int(seed>>16)%len(calls)])
				// Only the last ones, lest what is told of a fault is endless.
				p.calls = p.calls[max(0, len(p.calls)-40):]
			}
		}
	}
}
