package hand

import (
	"slices"
	"testing"

	"yardgang/api"
	"yardgang/plain"
)

// pair of a hand and a model of it, that are asked the same, and what they
// were asked so far. The model has one list for all, the last of which is
// the near one, if there is one near.
type pair struct {
	t     *testing.T
	hand  *Hand
	room  int
	all   []int
	near  bool
	out   []int
	next  int
	calls []byte
}

// begin a pair with a hand that has nothing.
func begin(t *testing.T, room int) *pair {
	t.Helper()
	h, err := New(room)
	if err != nil {
		t.Fatalf("New(%d): got %v", room, err)
	}
	return &pair{t: t, hand: h, room: room}
}

// hold an answer against the one that is wanted.
func (p *pair) hold(what string, got, want []int, told error, err api.Errno) {
	if !slices.Equal(got, want) || plain.Told(told) != err {
		p.t.Fatalf("room %d, %s: %s: got %v %v, want %v %v", p.room, p.calls, what, got, told, want, err)
	}
}

// call the hand and the model: + is Put, each time of another number, from 0
// on, - Take, r Rob.
func (p *pair) call(what byte) {
	p.calls = append(p.calls, what)
	switch what {
	case '+':
		p.put()
	case '-':
		p.take()
	case 'r':
		want := p.half()
		p.hold("Rob", p.hand.Rob(), want, nil, api.OK)
	default:
		p.t.Fatalf("no call: %q", what)
	}
	near := -1
	if p.near {
		near = p.all[len(p.all)-1]
	}
	p.hold("Near", []int{p.hand.Near()}, []int{near}, nil, api.OK)
	p.hold("Len", []int{p.hand.Len()}, []int{len(p.all)}, nil, api.OK)
}

// half of what is not near goes out of the model.
func (p *pair) half() []int {
	count := len(p.all)
	if p.near {
		count--
	}
	half := p.all[:count-count/2]
	p.all = p.all[len(half):]
	p.out = append(p.out, half...)
	return half
}

func (p *pair) put() {
	var want []int
	if p.near && len(p.all) == p.room+1 {
		want = p.half()
	}
	p.hold("Put", p.hand.Put(p.next), want, nil, api.OK)
	p.all = append(p.all, p.next)
	p.near = true
	p.next++
}

func (p *pair) take() {
	n, err := p.hand.Take()
	if len(p.all) == 0 {
		p.hold("Take", []int{n}, []int{0}, err, api.ErrNone)
		return
	}
	last := len(p.all) - 1
	p.hold("Take", []int{n}, p.all[last:], err, api.OK)
	p.out = append(p.out, p.all[last])
	p.all = slices.Clone(p.all[:last])
	p.near = false
}

// end of a run: the hand gives all that it has, and then each that was put
// came out, once.
func (p *pair) end() {
	for range len(p.all) + 1 {
		p.call('-')
	}
	slices.Sort(p.out)
	for i, n := range p.out {
		if i != n {
			p.t.Fatalf("room %d, %s: %d was put, and came out as %d", p.room, p.calls, i, n)
		}
	}
	if len(p.out) != p.next {
		p.t.Fatalf("room %d, %s: %d were put, %d came out", p.room, p.calls, p.next, len(p.out))
	}
}

// TestAllShortRuns: all runs of nine calls, in small rooms.
func TestAllShortRuns(t *testing.T) {
	const calls, long = "+-r", 9
	runs := 1
	for range long {
		runs *= len(calls)
	}
	for room := 1; room <= 5; room++ {
		for run := range runs {
			p := begin(t, room)
			for range long {
				p.call(calls[run%len(calls)])
				run /= len(calls)
			}
			p.end()
		}
	}
}

// TestAllRunsNearFull: all runs of six calls, in every room, from where the
// ring is full, or nearly, with one near and with none.
func TestAllRunsNearFull(t *testing.T) {
	const calls, runs = "+-r", 729
	for room := 1; room <= api.MaxRing; room++ {
		for _, more := range []string{"", "+", "++", "-", "+-", "++-", "++r-", "++r+"} {
			for run := range runs {
				p := begin(t, room)
				for range room {
					p.call('+')
				}
				for _, what := range []byte(more) {
					p.call(what)
				}
				for range 6 {
					p.call(calls[run%len(calls)])
					run /= len(calls)
				}
				p.end()
			}
		}
	}
}

// TestLongRuns: in which some calls come more often, so that rings are full
// for long, or empty.
func TestLongRuns(t *testing.T) {
	for room := 1; room <= api.MaxRing; room++ {
		for _, calls := range []string{"+", "+-", "++-", "+++r", "++++++r-", "+-r", "+--", "++++--r"} {
			p := begin(t, room)
			seed := uint32(room)
			for range 2000 {
				seed = seed*1664525 + 1013904223
				p.call(calls[int(seed>>16)%len(calls)])
				// Only the last ones, lest what is told of a fault is endless.
				p.calls = p.calls[max(0, len(p.calls)-40):]
			}
			p.end()
		}
	}
}
