package yard

import (
	"cmp"
	"slices"
	"testing"

	"yardgang/api"
)

// wrongModel tells what is wrong with jobs, number by number.
func wrongModel(l []api.Job) api.Errno {
	if len(l) > maxJobs {
		return api.ErrFull
	}
	for _, j := range l {
		if j.Weight < 1 || j.Weight > maxWeight {
			return api.ErrRange
		}
		if j.Waits < 0 || j.Waits > maxWaits {
			return api.ErrRange
		}
	}
	return api.OK
}

// serveModel: of each bit of each job it is known ahead in which round its turn
// comes; all are laid in order, and the first ones are done.
func serveModel(l []api.Job, most int) ([]int, []api.Job, api.Errno) {
	if err := wrongModel(l); err != api.OK {
		return nil, nil, err
	}
	if most < 0 || most > maxBits {
		return nil, nil, api.ErrRange
	}
	type turn struct{ round, job int }
	var all []turn
	for i, j := range l {
		// No more than most of one job can be done.
		for k := range min(j.Waits, most) {
			all = append(all, turn{round: k / j.Weight, job: i})
		}
	}
	slices.SortFunc(all, func(a, b turn) int {
		return cmp.Or(cmp.Compare(a.round, b.round), cmp.Compare(a.job, b.job))
	})
	var done []int
	left := slices.Clone(l)
	for _, one := range all[:min(most, len(all))] {
		done = append(done, one.job)
		left[one.job].Waits--
	}
	return done, left, api.OK
}

// sharesModel: each share is looked for from 0 on, as the greatest that is not
// too great; what is left is handed out one by one.
func sharesModel(l []api.Job, n int) ([]int, api.Errno) {
	if err := wrongModel(l); err != api.OK {
		return nil, err
	}
	if len(l) == 0 {
		return nil, api.ErrNone
	}
	if n < 0 || n > maxBits {
		return nil, api.ErrRange
	}
	sum, given := 0, 0
	for _, j := range l {
		sum += j.Weight
	}
	out := make([]int, len(l))
	for i, j := range l {
		for (out[i]+1)*sum <= n*j.Weight {
			out[i]++
			given++
		}
	}
	for i := 0; given < n; i++ {
		out[i]++
		given++
	}
	return out, api.OK
}

// told counts how often each answer was wanted, so that none goes untested.
type told [api.ErrCycle + 1]int

// compare all calls with the model.
func (n *told) compare(t *testing.T, l []api.Job, bits int) {
	if err, want := Check(l), wrongModel(l); !is(err, want) {
		t.Fatalf("%v: Check: got %v, want %v", l, err, want)
	}
	done, left, wrong := serveModel(l, bits)
	n[wrong]++
	a, b, err := Serve(l, bits)
	if !slices.Equal(a, done) || !slices.Equal(b, left) || !is(err, wrong) {
		t.Fatalf("%v: Serve %d: got %v %v %v, want %v %v %v", l, bits, a, b, err, done, left, wrong)
	}
	want, wrong := sharesModel(l, bits)
	n[wrong]++
	got, err := Shares(l, bits)
	if !slices.Equal(got, want) || !is(err, wrong) {
		t.Fatalf("%v: Shares of %d: got %v %v, want %v %v", l, bits, got, err, want, wrong)
	}
}

// each answer must have been wanted.
func (n *told) each(t *testing.T, l ...api.Errno) {
	t.Helper()
	for _, e := range l {
		if n[e] == 0 {
			t.Errorf("%v was never wanted: %v", e, *n)
		}
	}
}

// allLists of up to so many of some things, each as often as may be.
func allLists[T any](of []T, length int, do func([]T)) {
	l := make([]T, 0, length)
	var extend func()
	extend = func() {
		do(l)
		if len(l) == length {
			return
		}
		for _, one := range of {
			l = append(l, one)
			extend()
			l = l[:len(l)-1]
		}
	}
	extend()
}

// someJobs of all of these weights, of which all of these numbers wait.
func someJobs(weights, waiting []int) []api.Job {
	var l []api.Job
	for _, w := range weights {
		for _, n := range waiting {
			l = append(l, api.Job{Weight: w, Waits: n})
		}
	}
	return l
}

// TestAllFew: all of up to three jobs that are small, and all that could be done
// of them.
func TestAllFew(t *testing.T) {
	var n told
	few := someJobs([]int{1, 2, 3}, []int{0, 1, 2, 3, 4, 5})
	allLists(few, 3, func(l []api.Job) {
		for bits := range 17 {
			n.compare(t, l, bits)
		}
	})
	n.each(t, api.OK, api.ErrNone)
}

// TestAllEdges: all of up to three jobs at the edges, with numbers at theirs.
func TestAllEdges(t *testing.T) {
	var n told
	edges := someJobs([]int{0, 1, maxWeight, maxWeight + 1}, []int{-1, 0, 1, maxWaits, maxWaits + 1})
	allLists(edges, 3, func(l []api.Job) {
		for _, bits := range []int{-1, 0, 1, 21, maxBits, maxBits + 1} {
			n.compare(t, l, bits)
		}
	})
	n.each(t, api.OK, api.ErrRange, api.ErrNone)
}

// TestAllLengths: all of up to one job too many, of a few.
func TestAllLengths(t *testing.T) {
	var n told
	few := []api.Job{{Weight: 1, Waits: 3}, {Weight: 4, Waits: 0}, {Weight: 3, Waits: 7}, {Weight: 0, Waits: 1}}
	allLists(few, maxJobs+1, func(l []api.Job) {
		for _, bits := range []int{-1, 0, 5, 24, 60} {
			n.compare(t, l, bits)
		}
	})
	n.each(t, api.OK, api.ErrRange, api.ErrFull, api.ErrNone)
}

// TestAllPairs: the shares of all pairs of weights, of all numbers.
func TestAllPairs(t *testing.T) {
	for a := 1; a <= maxWeight; a++ {
		for b := 1; b <= maxWeight; b++ {
			for n := range maxBits + 1 {
				// Rounded down, the second one has what it has; the first one has
				// all the rest, be that its own or what is left.
				second := n * b / (a + b)
				holdShares(t, []api.Job{{Weight: a}, {Weight: b}}, n, []int{n - second, second})
			}
		}
	}
}

// mixer of numbers: the same ones each time.
type mixer uint64

// below a bound, the next one.
func (m *mixer) below(bound int) int {
	*m = *m*6364136223846793005 + 1442695040888963407
	return int(uint64(*m)>>33) % bound
}

// jobs that are mixed and right: how many there are, and how much waits of each.
func (m *mixer) jobs() []api.Job {
	l := make([]api.Job, m.below(maxJobs+1))
	for i := range l {
		much := []int{1, 10, 100, 500, maxWaits + 1}[m.below(5)]
		l[i] = api.Job{Weight: 1 + m.below(maxWeight), Waits: m.below(much)}
	}
	return l
}

// spoiled jobs: one is such as may not be, or there are too many.
func (m *mixer) spoiled(l []api.Job) []api.Job {
	if m.below(2) == 0 || len(l) == 0 {
		return append(l, alike(maxJobs+1-len(l))...)
	}
	return with(l, m.below(len(l)), wrongJobs[m.below(len(wrongJobs))])
}

// TestMixed: greater ones, right and wrong.
func TestMixed(t *testing.T) {
	m, n := mixer(16), told{}
	for range 4000 {
		l, bits := m.jobs(), m.below(maxBits+1)
		switch m.below(12) {
		case 0:
			l = m.spoiled(l)
		case 1:
			bits = outside[m.below(len(outside))]
		case 2:
			l, bits = m.spoiled(l), outside[m.below(len(outside))]
		}
		n.compare(t, l, bits)
	}
	n.each(t, api.OK, api.ErrRange, api.ErrFull, api.ErrNone)
}

// TestNoBitIsLost: of each job what was done and what is left is what waited,
// as much is done as may be, and the weights stay.
func TestNoBitIsLost(t *testing.T) {
	m := mixer(61)
	for range 2000 {
		l, most := m.jobs(), m.below(maxBits+1)
		done, left, err := Serve(l, most)
		if err != nil || len(left) != len(l) {
			t.Fatalf("%v: Serve %d: got %v %v", l, most, left, err)
		}
		waiting := 0
		for i, j := range l {
			waiting += j.Waits
			left[i].Waits += count(done, i)
		}
		if !slices.Equal(left, l) || len(done) != min(most, waiting) {
			t.Fatalf("%v: Serve %d: got %d bits, and together %v", l, most, len(done), left)
		}
	}
}

// count how often a number stands in a list.
func count(l []int, n int) int {
	many := 0
	for _, one := range l {
		if one == n {
			many++
		}
	}
	return many
}

// TestServedMoreIsTheSameAhead: what is done of fewer bits is the beginning of
// what is done of more.
func TestServedMoreIsTheSameAhead(t *testing.T) {
	m := mixer(7)
	for range 20 {
		l := m.jobs()
		all, _, err := Serve(l, maxBits)
		if err != nil {
			t.Fatal(err)
		}
		for most := range maxBits + 1 {
			done, _, err := Serve(l, most)
			if want := all[:min(most, len(all))]; !slices.Equal(done, want) || err != nil {
				t.Fatalf("%v: Serve %d: got %v %v, want %v", l, most, done, err, want)
			}
		}
	}
}

// TestSharesAreTogetherAll: and each is less than one beside what it would be
// without rounding down, or one above where what was left came to it; nobody
// behind one that had none of that has any.
func TestSharesAreTogetherAll(t *testing.T) {
	m := mixer(71)
	for range 4000 {
		l, n := append(m.jobs(), api.Job{Weight: 1}), m.below(maxBits+1)
		l = l[:min(len(l), maxJobs)]
		got, err := Shares(l, n)
		if err != nil || len(got) != len(l) {
			t.Fatalf("%v: Shares of %d: got %v %v", l, n, got, err)
		}
		weights, together, ended := 0, 0, false
		for _, j := range l {
			weights += j.Weight
		}
		for i, j := range l {
			together += got[i]
			more := got[i] - n*j.Weight/weights
			if more < 0 || more > 1 || more == 1 && ended {
				t.Fatalf("%v: Shares of %d: got %v, wrong at %d", l, n, got, i)
			}
			ended = more == 0
		}
		if together != n {
			t.Fatalf("%v: Shares of %d: got %v, together %d", l, n, got, together)
		}
	}
}

// TestFullRoundsAreShares: while more waits of each than is done, whole rounds
// give each job just its share.
func TestFullRoundsAreShares(t *testing.T) {
	m := mixer(17)
	for range 500 {
		l, weights := append(m.jobs(), api.Job{Weight: 1})[:1], 0
		for range m.below(maxJobs) {
			l = append(l, api.Job{Weight: 1 + m.below(maxWeight)})
		}
		for i := range l {
			l[i].Waits = maxBits + m.below(maxWaits-maxBits+1)
			weights += l[i].Weight
		}
		n := weights * m.below(maxBits/weights+1)
		done, _, err := Serve(l, n)
		if err != nil {
			t.Fatal(err)
		}
		want := make([]int, len(l))
		for i := range l {
			want[i] = count(done, i)
		}
		holdShares(t, l, n, want)
	}
}
