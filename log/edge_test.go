package log

import (
	"math"
	"slices"
	"testing"

	"yardgang/api"
	"yardgang/plain"
)

// task of a work, with what it needs.
func task(work int, needs ...int) api.Task { return api.Task{Work: work, Needs: needs} }

// TestPlansThatAreNone: Check's error, and no log.
func TestPlansThatAreNone(t *testing.T) {
	for _, c := range []struct {
		name string
		p    api.Plan
		err  api.Errno
	}{
		{"too many", beside(most + 1), api.ErrFull},
		{"far too many", make(api.Plan, 10*most), api.ErrFull},
		{"one too many, and a ring", append(beside(most), task(1, most)), api.ErrFull},
		{"work 0", api.Plan{task(1), task(0)}, api.ErrRange},
		{"work below", api.Plan{task(-1)}, api.ErrRange},
		{"work above", api.Plan{task(api.MaxWork + 1)}, api.ErrRange},
		{"work least", api.Plan{task(math.MinInt)}, api.ErrRange},
		{"work greatest", api.Plan{task(math.MaxInt)}, api.ErrRange},
		{"need below", api.Plan{task(1, -1)}, api.ErrRange},
		{"need above", api.Plan{task(1), task(1, 2)}, api.ErrRange},
		{"need least", api.Plan{task(1, math.MinInt)}, api.ErrRange},
		{"need greatest", api.Plan{task(1, math.MaxInt)}, api.ErrRange},
		{"need twice", api.Plan{task(1), task(1, 0, 0)}, api.ErrClash},
		{"needs fall", api.Plan{task(1), task(1), task(1, 1, 0)}, api.ErrClash},
		{"needs itself", api.Plan{task(1), task(1, 1)}, api.ErrCycle},
		{"two need each other", api.Plan{task(1, 1), task(1, 0)}, api.ErrCycle},
		{"ring, and one beside", api.Plan{task(1), task(1, 3), task(1, 1), task(1, 2)}, api.ErrCycle},
		{"clash ahead of work", api.Plan{task(1), task(1, 0, 0), task(0)}, api.ErrClash},
		{"work ahead of a clash", api.Plan{task(0), task(1, 0, 0)}, api.ErrRange},
		{"ring, and a later work", api.Plan{task(1, 0), task(0)}, api.ErrRange},
	} {
		l, err := New(c.p)
		if l != nil || plain.Told(err) != c.err {
			t.Errorf("%s: got %v %v, want %v", c.name, l, err, c.err)
		}
	}
}

// strange numbers of tasks: there are none such, however many there are.
var strange = []int{math.MinInt, math.MinInt + 1, math.MinInt32, -1 << 32, -257, -256, -255, -2, -1, most, most + 1, 127, 128, 254, 255, 256, 257, 1 << 16, math.MaxInt32, 1 << 32, 1<<32 + 1, math.MaxInt - 1, math.MaxInt}

// refusesAll strange numbers, and the first that is no task, and stands as it did.
func refusesAll(t *testing.T, l *Log, count int, want api.Errno) {
	t.Helper()
	stood := standing(l)
	for _, i := range slices.Concat(strange, []int{count}) {
		if err := l.Done(i); plain.Told(err) != want {
			t.Errorf("Done(%d) of %d: got %v, want %v", i, count, err, want)
		}
		stands(t, l, stood)
	}
}

// TestTasksThatAreNone: ahead of all, between, behind all; of one that will stop
// by its next step, of one that has stopped, and of one that goes on.
func TestTasksThatAreNone(t *testing.T) {
	for _, count := range []int{0, 1, 2, 5, most} {
		l := made(t, beside(count))
		for i := range count {
			refusesAll(t, l, count, api.ErrRange)
			l.Fail(0)
			refusesAll(t, l, count, api.ErrRange)
			if err := l.Done(i); plain.Told(err) != api.ErrState {
				t.Fatalf("Done(%d): got %v", i, err)
			}
			refusesAll(t, l, count, api.ErrState)
			l.Crash(math.MaxInt)
			refusesAll(t, l, count, api.ErrRange)
			if err := l.Done(i); err != nil {
				t.Fatalf("Done(%d): got %v", i, err)
			}
		}
		refusesAll(t, l, count, api.ErrRange)
		l.Fail(0)
		if err := l.Sync(); plain.Told(err) != api.ErrState {
			t.Fatal(err)
		}
		refusesAll(t, l, count, api.ErrState)
	}
}

// TestFailFar: the greatest number is never met, the least is never.
func TestFailFar(t *testing.T) {
	for _, n := range []int{math.MaxInt, math.MaxInt - 1, 1 << 32, 1<<32 + 1, math.MaxInt32, 1 << 16, 256, 1 << 62, math.MinInt, math.MinInt + 1, -1 << 32, math.MinInt32, -256, -1} {
		l := made(t, beside(most))
		l.Fail(n)
		for i := range most {
			if err := l.Done(i); err != nil {
				t.Fatalf("Fail(%d): Done(%d): got %v", n, i, err)
			}
			if err := l.Sync(); err != nil || l.Safe() != (i+1)*size {
				t.Fatalf("Fail(%d): Sync: got %v, %d safe", n, err, l.Safe())
			}
		}
	}
}

// TestFailAtEach: each number of steps up to more than there are, of a run in
// which each Done has its Sync.
func TestFailAtEach(t *testing.T) {
	for n := range 2*most + 3 {
		l := made(t, beside(most))
		l.Fail(n)
		for step := range 2 * most {
			bytes, safe := l.Bytes(), l.Safe()
			var err error
			if step%2 == 0 {
				err = l.Done(step / 2)
			} else {
				err = l.Sync()
			}
			switch {
			case step < n:
				bytes, safe = (step/2+1)*size, (step+1)/2*size
			case step == n && step%2 == 0:
				bytes += size / 2
			}
			if (err == nil) != (step < n) || err != nil && plain.Told(err) != api.ErrState {
				t.Fatalf("Fail(%d): step %d: got %v", n, step, err)
			}
			if l.Bytes() != bytes || l.Safe() != safe || len(l.All()) != bytes/size {
				t.Fatalf("Fail(%d): step %d: got %d %d %v, want %d %d", n, step, l.Bytes(), l.Safe(), l.All(), bytes, safe)
			}
		}
	}
}

// TestCrashAtEach: each number of bytes up to one more than are not safe, of
// logs of which so many tasks are done and so many of them are safe, with half
// a record at the end or none.
func TestCrashAtEach(t *testing.T) {
	for _, count := range []int{1, 2, 3, 7, most} {
		for done := range count + 1 {
			for safe := range done + 1 {
				for keep := -1; keep <= (done-safe)*size+size/2+1; keep++ {
					crashAt(t, count, done, safe, keep, false)
					if done < count {
						crashAt(t, count, done, safe, keep, true)
					}
				}
				for _, keep := range []int{math.MinInt, math.MinInt + 1, -2, 1 << 32, 1<<32 + 1, math.MaxInt - size, math.MaxInt - 1, math.MaxInt} {
					crashAt(t, count, done, safe, keep, false)
				}
			}
		}
	}
}

// crashAt a number of bytes, and hold what is left, and that it goes on.
func crashAt(t *testing.T, count, done, safe, keep int, half bool) {
	t.Helper()
	l := made(t, beside(count))
	order := falling(count)
	for k, i := range order[:done] {
		if k == safe {
			l.Sync()
		}
		l.Done(i)
	}
	if safe == done {
		l.Sync()
	}
	if half {
		l.Fail(0)
		l.Done(order[done])
	}
	if got, want := l.Safe(), safe*size; got != want {
		t.Fatalf("%d safe, want %d", got, want)
	}
	l.Crash(keep)
	left := safe + min(max(keep, 0)/size, done-safe)
	if got := l.All(); !slices.Equal(got, order[:left]) || l.Bytes() != left*size || l.Safe() != left*size {
		t.Fatalf("%d of %d done, %d safe, half %v: Crash(%d): got %v, %d %d, want %v", done, count, safe, half, keep, got, l.Bytes(), l.Safe(), order[:left])
	}
	if got := l.Ready(); len(got) != count-left {
		t.Fatalf("ready: got %v", got)
	}
	for _, i := range order[left:] {
		if err := l.Done(i); err != nil {
			t.Fatalf("Crash(%d): Done(%d): got %v", keep, i, err)
		}
	}
	if got := l.All(); !slices.Equal(got, order) || l.Bytes() != count*size || l.Safe() != left*size {
		t.Fatalf("Crash(%d): at the end: got %v, %d %d", keep, got, l.Bytes(), l.Safe())
	}
}

// TestCrashBehindCrash: nothing is lost by it, whatever is kept.
func TestCrashBehindCrash(t *testing.T) {
	for _, first := range []int{math.MinInt, -1, 0, 1, 2, 3, 4, 5, 6, 7, math.MaxInt} {
		for _, second := range []int{math.MinInt, -1, 0, 1, 2, 3, 4, 5, 6, 7, math.MaxInt} {
			l := read(t, "1 1<0 1<1 1<2 1<3")
			does(t, l, "d0 d1 s d2 d3 f0 d4")
			l.Crash(first)
			stood := standing(l)
			l.Crash(second)
			stands(t, l, stood)
		}
	}
}

// TestManyCrashes: a log goes on however often it was lost, and no more bytes
// gather than belong to what is done.
func TestManyCrashes(t *testing.T) {
	l := read(t, "1 1<0 1<1")
	for range 1000 {
		does(t, l, "d0 d1 f0 d2")
		stands(t, l, "0 1 | 2 | 5 0")
		does(t, l, "c1")
		stands(t, l, " | 0 | 0 0")
	}
	does(t, l, "d0 s d1 d2")
	stands(t, l, "0 1 2 |  | 6 2")
}

// TestChain: most tasks one behind the other: which is ready is told behind each
// crash by those that are left.
func TestChain(t *testing.T) {
	p := beside(most)
	for i := range most - 1 {
		p[i].Needs = []int{i + 1}
	}
	for keep := range most*size + 2 {
		l := made(t, p)
		for _, i := range falling(most) {
			if err := l.Done(i); err != nil {
				t.Fatal(err)
			}
		}
		l.Crash(keep)
		left := min(keep/size, most)
		var ready []int
		if left < most {
			ready = []int{most - 1 - left}
		}
		stands(t, l, words(falling(most)[:left])+" | "+words(ready)+" | "+words([]int{left * size, left * size}))
	}
}
