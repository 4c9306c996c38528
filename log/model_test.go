package log

import (
	"slices"
	"strconv"
	"strings"
	"testing"

	"yardgang/api"
	"yardgang/plain"
)

// model of a log that knows no bytes: those done in order, how many of them are
// safe, and whether half a record stands behind them.
type model struct {
	p       api.Plan
	done    []int
	safe    int
	half    bool
	stopped bool
	steps   int // that were taken
	stopAt  int // the step that stops it; below 0: none
}

// ready tells whether a task of the model is: all that it needs is done.
func (m *model) ready(i int) bool {
	if slices.Contains(m.done, i) {
		return false
	}
	for _, n := range m.p[i].Needs {
		if !slices.Contains(m.done, n) {
			return false
		}
	}
	return true
}

// step of the model: whether it goes well.
func (m *model) step() bool {
	m.stopped = m.steps == m.stopAt
	m.steps++
	return !m.stopped
}

func (m *model) Done(i int) api.Errno {
	switch {
	case m.stopped:
		return api.ErrState
	case i < 0 || i >= len(m.p):
		return api.ErrRange
	case !m.ready(i):
		return api.ErrState
	case !m.step():
		m.half = true
		return api.ErrState
	}
	m.done = append(m.done, i)
	return api.OK
}

func (m *model) Sync() api.Errno {
	if m.stopped || !m.step() {
		return api.ErrState
	}
	m.safe = len(m.done)
	return api.OK
}

func (m *model) Fail(n int) {
	m.stopAt = -1
	if n >= 0 {
		m.stopAt = m.steps + n
	}
}

func (m *model) Crash(keep int) {
	for keep >= size && m.safe < len(m.done) {
		m.safe++
		keep -= size
	}
	*m = model{p: m.p, done: m.done[:m.safe], safe: m.safe, stopAt: -1}
}

// standing of the model, as that of a log.
func (m *model) standing() string {
	var ready []int
	for i := range m.p {
		if m.ready(i) {
			ready = append(ready, i)
		}
	}
	bytes := len(m.done) * size
	if m.half {
		bytes += size / 2
	}
	return words(m.done) + " | " + words(ready) + " | " + words([]int{bytes, m.safe * size})
}

// pair of a log and its model, that are asked the same, and what they were
// asked so far.
type pair struct {
	t     *testing.T
	log   *Log
	model *model
	calls []string
}

// begin a pair of a plan.
func begin(t *testing.T, p api.Plan) *pair {
	t.Helper()
	return &pair{t: t, log: made(t, p), model: &model{p: p, stopAt: -1}}
}

// call of a pair; then all that may be asked is.
func (p *pair) call(what byte, n int) {
	p.t.Helper()
	p.calls = append(p.calls, string(what)+strconv.Itoa(n))
	var err error
	want := api.OK
	switch what {
	case 'd':
		err, want = p.log.Done(n), p.model.Done(n)
	case 's':
		err, want = p.log.Sync(), p.model.Sync()
	case 'f':
		p.log.Fail(n)
		p.model.Fail(n)
	case 'c':
		p.log.Crash(n)
		p.model.Crash(n)
	}
	if got := standing(p.log); plain.Told(err) != want || got != p.model.standing() {
		p.t.Fatalf("%v, %s: got %v, %q, want %v, %q", p.model.p, strings.Join(p.calls, " "), err, got, want, p.model.standing())
	}
}

// choice of a call.
type choice struct {
	what byte
	n    int
}

// choices of calls of a plan: each task and those next to them, Sync, Fail in
// few steps, Crash with few bytes kept.
func choices(count, fails, keeps int) []choice {
	l := []choice{{'s', 0}}
	for i := -1; i <= count; i++ {
		l = append(l, choice{'d', i})
	}
	for n := -1; n <= fails; n++ {
		l = append(l, choice{'f', n})
	}
	for n := -1; n <= keeps; n++ {
		l = append(l, choice{'c', n})
	}
	return l
}

// TestAllShortRuns: all runs of so many calls of small plans, those that are
// refused among them.
func TestAllShortRuns(t *testing.T) {
	for _, c := range []struct {
		text               string
		fails, keeps, long int
	}{
		{"", 1, 1, 4},
		{"1", 2, 3, 4},
		{"1 1", 1, 3, 4},
		{"1 1<0", 1, 3, 5},
		{"1 1<0 1<0", 1, 5, 4},
	} {
		all := choices(len(parsed(t, c.text)), c.fails, c.keeps)
		runs := 1
		for range c.long {
			runs *= len(all)
		}
		for run := range runs {
			p := begin(t, parsed(t, c.text))
			for range c.long {
				call := all[run%len(all)]
				run /= len(all)
				p.call(call.what, call.n)
			}
		}
	}
}

// mixer of numbers: the same ones each time.
type mixer uint32

func (m *mixer) next(n int) int {
	*m = *m*1664525 + 1013904223
	return int(*m>>16) % n
}

// mixed plan of so many tasks: each needs some of those ahead of it in an order
// that is mixed, too.
func mixed(m *mixer, count int) api.Plan {
	order := falling(count)
	for i := range order {
		k := i + m.next(count-i)
		order[i], order[k] = order[k], order[i]
	}
	p := beside(count)
	for at, i := range order {
		for _, n := range order[:at] {
			if m.next(4) == 0 {
				p[i].Needs = append(p[i].Needs, n)
			}
		}
		slices.Sort(p[i].Needs)
	}
	return p
}

// mixedCall of a pair: mostly a Done of what is ready.
func mixedCall(m *mixer, p *pair, rare int) {
	switch m.next(rare) {
	case 0:
		p.call('s', 0)
	case 1:
		p.call('f', m.next(9)-2)
	case 2:
		p.call('c', m.next(20)-2)
	case 3:
		p.call('d', m.next(len(p.model.p)+2)-1)
	default:
		l := p.log.Ready()
		if len(l) == 0 {
			p.call('c', m.next(20)-2)
			return
		}
		p.call('d', l[m.next(len(l))])
	}
}

// TestLongRuns: of plans of all sizes, in which a log stops, or crashes, more
// often or less.
func TestLongRuns(t *testing.T) {
	done, stopped := 0, 0
	for count := 1; count <= most; count++ {
		for _, rare := range []int{5, 8, 15, 30} {
			m := mixer(count*100 + rare)
			p := begin(t, mixed(&m, count))
			for range 300 {
				mixedCall(&m, p, rare)
				if len(p.model.done) == count {
					done++
					p = begin(t, mixed(&m, count))
				}
				if p.model.half {
					stopped++
				}
			}
		}
	}
	if done < 100 || stopped < 100 {
		t.Errorf("%d runs were done, %d calls behind half a record: the calls are badly mixed", done, stopped)
	}
}

// TestSafeIsKept: whatever comes, what was safe once is done for ever, as it was.
func TestSafeIsKept(t *testing.T) {
	for seed := range 200 {
		m := mixer(seed)
		p := begin(t, mixed(&m, 1+m.next(most)))
		var kept []int
		for range 200 {
			mixedCall(&m, p, 7)
			all := p.log.All()
			if len(all) < len(kept) || !slices.Equal(all[:len(kept)], kept) {
				t.Fatalf("%v: kept %v, and done are %v", p.calls, kept, all)
			}
			kept = all[:p.log.Safe()/size]
		}
	}
}
