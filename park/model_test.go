package park

import (
	"slices"
	"strconv"
	"testing"

	"yardgang/api"
	"yardgang/plain"
)

// pair of a park and a model of it, that are asked the same, and what they
// were asked so far. The model has of each hand the number of the call by
// which it fell asleep; 0: it is awake.
type pair struct {
	t     *testing.T
	park  *Park
	since []int
	count int
	calls []string
}

// begin a pair of which no hand sleeps.
func begin(t *testing.T, hands int) *pair {
	t.Helper()
	return &pair{t: t, park: made(t, hands), since: make([]int, hands)}
}

// call of a pair: Sleep of n, or Wake of n; then all that may be asked is.
func (p *pair) call(sleep bool, n int) {
	p.count++
	if sleep {
		p.calls = append(p.calls, "s"+strconv.Itoa(n))
		p.sleep(n)
	} else {
		p.calls = append(p.calls, "w"+strconv.Itoa(n))
		p.wake(n)
	}
	p.ask()
}

// hold an answer against the one that is wanted.
func (p *pair) hold(what string, got, want []int, told error, err api.Errno) {
	if !slices.Equal(got, want) || plain.Told(told) != err {
		p.t.Fatalf("%d hands, %v: %s: got %v %v, want %v %v", len(p.since), p.calls, what, got, told, want, err)
	}
}

func (p *pair) sleep(h int) {
	err := p.park.Sleep(h)
	switch {
	case h < 0 || h >= len(p.since):
		p.hold("Sleep", nil, nil, err, api.ErrRange)
	case p.since[h] != 0:
		p.hold("Sleep", nil, nil, err, api.ErrState)
	default:
		p.hold("Sleep", nil, nil, err, api.OK)
		p.since[h] = p.count
	}
}

func (p *pair) wake(n int) {
	l, err := p.park.Wake(n)
	if n < 0 {
		p.hold("Wake", l, nil, err, api.ErrRange)
		return
	}
	var want []int
	for range n {
		h := p.longest()
		if h < 0 {
			break
		}
		p.since[h] = 0
		want = append(want, h)
	}
	p.hold("Wake", l, want, err, api.OK)
}

// longest asleep of the model's hands; -1: none.
func (p *pair) longest() int {
	longest := -1
	for h, at := range p.since {
		if at != 0 && (longest < 0 || at < p.since[longest]) {
			longest = h
		}
	}
	return longest
}

// ask of each hand, and of those that are none at both ends, whether it is
// awake, and how many sleep.
func (p *pair) ask() {
	many := 0
	for h := -1; h <= len(p.since); h++ {
		awake, err := p.park.Awake(h)
		if h < 0 || h == len(p.since) {
			p.hold("Awake", []int{bit(awake)}, []int{0}, err, api.ErrRange)
			continue
		}
		p.hold("Awake", []int{bit(awake)}, []int{bit(p.since[h] == 0)}, err, api.OK)
		many += bit(p.since[h] != 0)
	}
	p.hold("Many", []int{p.park.Many()}, []int{many}, nil, api.OK)
}

func bit(is bool) int {
	if is {
		return 1
	}
	return 0
}

// TestAllShortRuns: all runs of so many calls of few hands, the ones that are
// refused among them.
func TestAllShortRuns(t *testing.T) {
	for _, c := range []struct{ hands, long int }{{1, 6}, {2, 5}, {3, 5}} {
		// Sleep of each hand and of those next to them, Wake from -1 to one
		// more than there are.
		kinds := c.hands + 2
		runs := 1
		for range c.long {
			runs *= 2*kinds + 1
		}
		for run := range runs {
			p := begin(t, c.hands)
			for range c.long {
				what := run % (2*kinds + 1)
				run /= 2*kinds + 1
				if what < kinds {
					p.call(true, what-1)
				} else {
					p.call(false, what-kinds-1)
				}
			}
		}
	}
}

// orders of n numbers, all of them.
func orders(n int) [][]int {
	if n == 0 {
		return [][]int{nil}
	}
	var all [][]int
	for _, l := range orders(n - 1) {
		for at := range n {
			all = append(all, slices.Insert(slices.Clone(l), at, n-1))
		}
	}
	return all
}

// TestAllOrders: all orders in which hands fall asleep; some wake, fall
// asleep again from the last to the first, and all wake.
func TestAllOrders(t *testing.T) {
	for hands := 1; hands <= api.MaxHands; hands++ {
		for _, order := range orders(hands) {
			for n := range hands + 2 {
				p := begin(t, hands)
				for _, h := range order {
					p.call(true, h)
				}
				p.call(false, n)
				for _, h := range slices.Backward(order) {
					p.call(true, h)
				}
				p.call(false, hands)
			}
		}
	}
}

// TestLongRuns: in which they fall asleep more often, or wake, so that many
// sleep for long, or few.
func TestLongRuns(t *testing.T) {
	for hands := 1; hands <= api.MaxHands; hands++ {
		for rare := 1; rare <= 8; rare++ {
			p := begin(t, hands)
			seed := uint32(hands*100 + rare)
			next := func(n int) int {
				seed = seed*1664525 + 1013904223
				return int(seed>>16) % n
			}
			for range 2000 {
				if next(rare+1) == 0 {
					p.call(false, next(hands+3)-1)
				} else {
					p.call(true, next(hands+2)-1)
				}
				// Only the last ones, lest what is told of a fault is endless.
				p.calls = p.calls[max(0, len(p.calls)-40):]
			}
		}
	}
}
