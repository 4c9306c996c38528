package picks

import (
	"slices"
	"testing"

	"yardgang/api"
	"yardgang/plain"
)

// pair of picks and a model of them, that are asked the same. The model has
// all numbers, and how many it is beyond the first one.
type pair struct {
	t     *testing.T
	picks *Picks
	all   []int
	at    int
	calls []call
}

// call of Next or of Shuffle.
type call struct {
	shuffle bool
	n       int
}

// begin a pair of which none is taken.
func begin(t *testing.T, l []int) *pair {
	t.Helper()
	return &pair{t: t, picks: made(t, l...), all: l}
}

// fault, with what was called till then.
func (p *pair) fault(got, want any, err error) {
	p.t.Helper()
	p.t.Fatalf("%v, calls %v: got %v %v, want %v", p.all, p.calls, got, err, want)
}

// next of the model: by what is left over when n goes into it as often as it
// can.
func (p *pair) next(n int) int {
	if p.at == len(p.all) {
		return 0
	}
	p.at++
	return p.all[p.at-1] - p.all[p.at-1]/n*n
}

// shuffled numbers of the model: one is drawn for the last place, and its
// gap is closed by the last one of those that are left, and so on.
func (p *pair) shuffled(n int) []int {
	var drawn []int
	left := rising(n)
	for len(left) > 1 {
		last := len(left) - 1
		k := p.next(len(left))
		drawn = append(drawn, left[k])
		left[k] = left[last]
		left = left[:last]
	}
	drawn = append(drawn, left...)
	slices.Reverse(drawn)
	return drawn
}

// call one of the picks and the model.
func (p *pair) call(c call) {
	p.t.Helper()
	p.calls = append(p.calls, c)
	if c.shuffle {
		p.callShuffle(c.n)
	} else {
		p.callNext(c.n)
	}
	if got := p.picks.Used(); got != p.at {
		p.fault(got, p.at, nil)
	}
}

func (p *pair) callShuffle(n int) {
	p.t.Helper()
	wrong := api.ErrRange
	var want []int
	if n >= 0 && n <= tasks {
		wrong, want = api.OK, p.shuffled(n)
	}
	if got, err := p.picks.Shuffle(n); plain.Told(err) != wrong || !slices.Equal(got, want) {
		p.fault(got, want, err)
	}
}

func (p *pair) callNext(n int) {
	p.t.Helper()
	wrong, want := api.ErrRange, 0
	if n >= 1 && n <= most {
		wrong, want = api.OK, p.next(n)
	}
	if got, err := p.picks.Next(n); plain.Told(err) != wrong || got != want {
		p.fault(got, want, err)
	}
}

// lists of at most so many numbers, each one of these.
func lists(long int, of []int) [][]int {
	all := [][]int{nil}
	last := all
	for range long {
		var longer [][]int
		for _, l := range last {
			for _, n := range of {
				longer = append(longer, append(slices.Clone(l), n))
			}
		}
		all, last = append(all, longer...), longer
	}
	return all
}

// TestAllRuns of three calls, those that are refused among them, on all
// lists of at most four numbers out of four.
func TestAllRuns(t *testing.T) {
	var calls []call
	for _, n := range []int{-1, 0, 1, 2, 3, most, most + 1} {
		calls = append(calls, call{false, n})
	}
	for _, n := range []int{-1, 0, 1, 2, 3, 4, tasks, tasks + 1} {
		calls = append(calls, call{true, n})
	}
	for _, l := range lists(4, []int{0, 1, 2, 403}) {
		for _, a := range calls {
			for _, b := range calls {
				for _, c := range calls {
					p := begin(t, l)
					p.call(a)
					p.call(b)
					p.call(c)
				}
			}
		}
	}
}

// TestEveryOrderComesOnce: of all lists of numbers that differ modulo what
// is asked, no two shuffle to the same.
func TestEveryOrderComesOnce(t *testing.T) {
	for n := range 8 {
		all := 1
		for i := 2; i <= n; i++ {
			all *= i
		}
		seen := map[string]int{}
		for code := range all {
			var l []int
			for i := n; i > 1; i-- {
				l = append(l, code%i)
				code /= i
			}
			s, err := made(t, l...).Shuffle(n)
			if err != nil || !slices.Equal(slices.Sorted(slices.Values(s)), rising(n)) {
				t.Fatalf("%v: Shuffle(%d): got %v %v", l, n, s, err)
			}
			seen[words(s)]++
		}
		if len(seen) != all {
			t.Errorf("Shuffle(%d): got %d orders, want %d", n, len(seen), all)
		}
	}
}

// TestLongRuns: mixed calls on mixed lists of up to 400 numbers, till all of
// them are taken, and beyond.
func TestLongRuns(t *testing.T) {
	seed := uint32(7)
	mixed := func(n int) int {
		seed = seed*1664525 + 1013904223
		return int(seed>>16) % n
	}
	for count := range most + 1 {
		l := make([]int, count)
		for i := range l {
			l[i] = mixed(1000) << mixed(54)
		}
		p := begin(t, l)
		for beyond := 0; beyond < 10; {
			if p.at == count {
				beyond++
			}
			if mixed(8) == 0 {
				p.call(call{true, mixed(tasks+3) - 1})
			} else {
				p.call(call{false, mixed(most+3) - 1})
			}
		}
	}
}
