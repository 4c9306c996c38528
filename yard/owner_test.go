package yard

import (
	"slices"
	"testing"

	"yardgang/api"
)

// guarded jobs: a list that has more memory behind its length, filled with what
// belongs to it not and may not be so.
func guarded(t *testing.T) []api.Job {
	t.Helper()
	return jobs(t, "3:7 1:0 2:5 -9:-9 99:99999 0:1 0:1")[:3]
}

// whole memory behind guarded jobs.
func whole(l []api.Job) []api.Job { return l[:7] }

// holdGuarded holds what the calls tell of them.
func holdGuarded(t *testing.T, l []api.Job) {
	t.Helper()
	holdCheck(t, l, api.OK)
	holdServe(t, l, 0, nil, jobs(t, "3:7 1:0 2:5"))
	holdServe(t, l, 9, numbers(t, "0x3 2x2 0x3 2"), jobs(t, "3:1 1:0 2:2"))
	holdServe(t, l, 1000, numbers(t, "0x3 2x2 0x3 2x2 0 2"), jobs(t, "3:0 1:0 2:0"))
	holdShares(t, l, 8, []int{5, 1, 2})
	holdShares(t, l, 0, []int{0, 0, 0})
}

// TestNothingHandedInIsWritten: nor read, what lies behind a length; whether it
// is right or wrong.
func TestNothingHandedInIsWritten(t *testing.T) {
	l := guarded(t)
	for range 2 {
		holdGuarded(t, l)
		refuseServe(t, l, -1, api.ErrRange)
		refuseServe(t, l, 1001, api.ErrRange)
		refuseShares(t, l, -1, api.ErrRange)
		refuseShares(t, l, 1001, api.ErrRange)
		refuse(t, l[:4], api.ErrRange)
		refuse(t, l[:7], api.ErrFull)
		holdServe(t, l[:0], 7, nil, nil)
		refuseShares(t, l[:0], 7, api.ErrNone)
	}
	if got, want := whole(l), whole(guarded(t)); !slices.Equal(got, want) {
		t.Errorf("got %v, want %v", got, want)
	}
}

// TestNothingHandedInIsKept: when jobs become other ones, in the same memory,
// those count; what was told of the first ones stays.
func TestNothingHandedInIsKept(t *testing.T) {
	l := guarded(t)
	holdGuarded(t, l)
	done, left, err := Serve(l, 9)
	if err != nil {
		t.Fatal(err)
	}
	parts, err := Shares(l, 8)
	if err != nil {
		t.Fatal(err)
	}

	l[1].Waits = 2
	holdServe(t, l, 9, numbers(t, "0x3 1 2x2 0x3"), jobs(t, "3:1 1:1 2:3"))
	l[0].Weight = 1
	holdServe(t, l, 9, numbers(t, "0 1 2x2 0 1 2x2 0"), jobs(t, "1:4 1:0 2:1"))
	holdShares(t, l, 9, []int{3, 2, 4})
	l[2] = api.Job{Weight: 3, Waits: -1}
	refuse(t, l, api.ErrRange)
	clear(l)
	refuse(t, l, api.ErrRange)

	if want := numbers(t, "0x3 2x2 0x3 2"); !slices.Equal(done, want) {
		t.Errorf("got %v, want %v", done, want)
	}
	if want := jobs(t, "3:1 1:0 2:2"); !slices.Equal(left, want) {
		t.Errorf("got %v, want %v", left, want)
	}
	if want := []int{5, 1, 2}; !slices.Equal(parts, want) {
		t.Errorf("got %v, want %v", parts, want)
	}
	holdGuarded(t, guarded(t))
}

// spoil a list, and all the memory behind it.
func spoil[T any](l []T, by T) {
	l = l[:cap(l)]
	for i := range l {
		l[i] = by
	}
}

// TestServedAreTheCallers: no two lists that Serve told share memory, even of
// the same jobs, nor with those, also where nothing was served.
func TestServedAreTheCallers(t *testing.T) {
	for _, most := range []int{0, 1, 9, 1000} {
		l := guarded(t)
		wantDone, wantLeft, err := Serve(slices.Clone(l), most)
		if err != nil {
			t.Fatal(err)
		}
		var done [][]int
		var left [][]api.Job
		for range 4 {
			a, b, err := Serve(l, most)
			if err != nil {
				t.Fatal(err)
			}
			done, left = append(done, a), append(left, b)
		}
		for k := range done {
			if !slices.Equal(done[k], wantDone) || !slices.Equal(left[k], wantLeft) {
				t.Errorf("%d: told %v %v, want %v %v", k, done[k], left[k], wantDone, wantLeft)
			}
			spoil(done[k], 99)
			spoil(left[k], api.Job{Weight: 99, Waits: -99})
			holdGuarded(t, l)
		}
		if got, want := whole(l), whole(guarded(t)); !slices.Equal(got, want) {
			t.Errorf("got %v, want %v", got, want)
		}
	}
}

// TestSharesAreTheCallers: no two lists that Shares told share memory, even of
// the same jobs, and none is told again.
func TestSharesAreTheCallers(t *testing.T) {
	for _, n := range []int{0, 8, 9, 1000} {
		l := guarded(t)
		want, err := Shares(slices.Clone(l), n)
		if err != nil {
			t.Fatal(err)
		}
		var told [][]int
		for range 4 {
			s, err := Shares(l, n)
			if err != nil {
				t.Fatal(err)
			}
			told = append(told, s)
		}
		for k, s := range told {
			if !slices.Equal(s, want) {
				t.Errorf("list %d is %v, want %v", k, s, want)
			}
			spoil(s, 99)
			holdGuarded(t, l)
		}
		if got, want := whole(l), whole(guarded(t)); !slices.Equal(got, want) {
			t.Errorf("got %v, want %v", got, want)
		}
	}
}
