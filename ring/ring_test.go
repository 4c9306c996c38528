package ring

import (
	"math"
	"slices"
	"strconv"
	"strings"
	"testing"

	"yardgang/api"
	"yardgang/plain"
)

// made ring with these in it.
func made(t *testing.T, room int, l ...int) *Ring {
	t.Helper()
	r, err := New(room)
	if err != nil || r == nil {
		t.Fatalf("New(%d): got %v %v", room, r, err)
	}
	for _, n := range l {
		if err := r.Push(n); err != nil {
			t.Fatalf("room %d: Push(%d): got %v", room, n, err)
		}
	}
	return r
}

// has tells a fault if other numbers than these are in a ring.
func has(t *testing.T, r *Ring, want ...int) {
	t.Helper()
	if got := r.All(); !slices.Equal(got, want) || r.Len() != len(want) {
		t.Fatalf("got %v, %d of them, want %v", got, r.Len(), want)
	}
}

// words of a list.
func words(l []int) string {
	var w []string
	for _, n := range l {
		w = append(w, strconv.Itoa(n))
	}
	return "[" + strings.Join(w, " ") + "]"
}

// one that was taken, or what was wrong.
func one(n int, err error) string {
	if err != nil && n == 0 {
		return plain.Told(err).Error()
	}
	return strconv.Itoa(n)
}

// play calls, and tell the answers: a number is Pushed.
func play(t *testing.T, r *Ring, calls string) string {
	t.Helper()
	var told []string
	for call := range strings.FieldsSeq(calls) {
		switch call {
		case "pop":
			told = append(told, one(r.Pop()))
		case "steal":
			told = append(told, one(r.Steal()))
		case "half":
			told = append(told, words(r.Half()))
		case "len":
			told = append(told, strconv.Itoa(r.Len()))
		case "all":
			told = append(told, words(r.All()))
		default:
			n, err := strconv.Atoi(call)
			if err != nil {
				t.Fatal(err)
			}
			told = append(told, plain.Told(r.Push(n)).Error())
		}
	}
	return strings.Join(told, " ")
}

func TestRuns(t *testing.T) {
	for _, c := range []struct {
		room        int
		calls, want string
	}{
		// One that was just made.
		{4, "len all half len", "0 [] [] 0"},
		{4, "pop steal pop len", "ErrNone ErrNone ErrNone 0"},

		// The last one, and the first one.
		{4, "5 6 7 len all", "OK OK OK 3 [5 6 7]"},
		{4, "5 6 7 pop len all", "OK OK OK 7 2 [5 6]"},
		{4, "5 6 7 steal len all", "OK OK OK 5 2 [6 7]"},
		{4, "5 6 7 pop pop pop pop len", "OK OK OK 7 6 5 ErrNone 0"},
		{4, "5 6 7 steal steal steal steal len", "OK OK OK 5 6 7 ErrNone 0"},
		{4, "5 6 7 pop steal all pop steal", "OK OK OK 7 5 [6] 6 ErrNone"},
		{4, "5 pop 6 steal 7 all", "OK 5 OK 6 OK [7]"},

		// Half of none, one, even and odd numbers.
		{8, "half len 5 all", "[] 0 OK [5]"},
		{8, "5 half len all", "OK [5] 0 []"},
		{8, "5 6 half len all", "OK OK [5] 1 [6]"},
		{8, "5 6 7 half len all", "OK OK OK [5 6] 1 [7]"},
		{8, "5 6 7 8 half len all", "OK OK OK OK [5 6] 2 [7 8]"},
		{8, "5 6 7 8 9 half len all", "OK OK OK OK OK [5 6 7] 2 [8 9]"},
		{8, "1 2 3 4 5 6 7 8 half half half half half len", "OK OK OK OK OK OK OK OK [1 2 3 4] [5 6] [7] [8] [] 0"},
		{3, "1 2 3 half 4 5 all half steal", "OK OK OK [1 2] OK OK [3 4 5] [3 4] 5"},

		// Full ones; there is room again, whatever was taken.
		{3, "1 2 3 4 len all", "OK OK OK ErrFull 3 [1 2 3]"},
		{3, "1 2 3 4 pop 5 6 all", "OK OK OK ErrFull 3 OK ErrFull [1 2 5]"},
		{3, "1 2 3 4 steal 5 6 all", "OK OK OK ErrFull 1 OK ErrFull [2 3 5]"},
		{3, "1 2 3 4 half 5 6 7 all", "OK OK OK ErrFull [1 2] OK OK ErrFull [3 5 6]"},
		{2, "1 2 steal 3 steal 4 steal 5 steal 6 all pop pop pop", "OK OK 1 OK 2 OK 3 OK 4 OK [5 6] 6 5 ErrNone"},

		// Room for one.
		{1, "len 1 2 len all pop len", "0 OK ErrFull 1 [1] 1 0"},
		{1, "1 2 steal 3 pop 4 half 5 all 6", "OK ErrFull 1 OK 3 OK [4] OK [5] ErrFull"},

		// The same number more than once.
		{4, "7 7 7 pop all steal all 7 half", "OK OK OK 7 [7 7] 7 [7] OK [7]"},
	} {
		if got := play(t, made(t, c.room), c.calls); got != c.want {
			t.Errorf("room %d: %s: got %s, want %s", c.room, c.calls, got, c.want)
		}
	}
}

func TestRooms(t *testing.T) {
	if api.MaxRing != 16 {
		t.Fatal("a ring has room for 16 at most")
	}
	for room := 1; room <= 16; room++ {
		var l []int
		for i := range room {
			l = append(l, i-3)
		}
		r := made(t, room, l...)
		has(t, r, l...)
		for range 3 {
			if err := r.Push(99); plain.Told(err) != api.ErrFull {
				t.Errorf("room %d: one more: got %v", room, err)
			}
		}
		has(t, r, l...)
		half := (room + 1) / 2
		if got := r.Half(); !slices.Equal(got, l[:half]) {
			t.Errorf("room %d: Half: got %v", room, got)
		}
		has(t, r, l[half:]...)
	}
}

func TestRoomsThatAreNone(t *testing.T) {
	for _, room := range []int{0, -1, -2, -16, -17, 17, 18, 32, 100, 257, 1 << 16, 1<<32 + 1, 1<<32 + 16, -1<<32 + 1, math.MaxInt, math.MinInt, math.MinInt + 1} {
		if r, err := New(room); r != nil || plain.Told(err) != api.ErrRange {
			t.Errorf("New(%d): got %v %v", room, r, err)
		}
	}
}

// TestAnyNumbers: a ring has whatever is put in, and tells 0 from none.
func TestAnyNumbers(t *testing.T) {
	all := []int{0, -1, math.MaxInt, math.MinInt, 0, 1 << 32, -1 << 31, 0}
	r := made(t, len(all), all...)
	has(t, r, all...)
	for i := range 2 {
		if n, err := r.Steal(); n != all[i] || err != nil {
			t.Errorf("Steal: got %d %v, want %d", n, err, all[i])
		}
		want := all[len(all)-1-i]
		if n, err := r.Pop(); n != want || err != nil {
			t.Errorf("Pop: got %d %v, want %d", n, err, want)
		}
	}
	if got := r.Half(); !slices.Equal(got, all[2:4]) {
		t.Errorf("Half: got %v, want %v", got, all[2:4])
	}
	has(t, r, all[4:6]...)
}

// TestRefused: what is refused leaves nothing, however often it is asked.
func TestRefused(t *testing.T) {
	r := made(t, 2)
	for range 40 {
		if n, err := r.Pop(); n != 0 || plain.Told(err) != api.ErrNone {
			t.Fatalf("Pop of none: got %d %v", n, err)
		}
		if n, err := r.Steal(); n != 0 || plain.Told(err) != api.ErrNone {
			t.Fatalf("Steal of none: got %d %v", n, err)
		}
		if got := r.Half(); len(got) != 0 {
			t.Fatalf("Half of none: got %v", got)
		}
		has(t, r)
	}
	if got := play(t, r, "5 6"); got != "OK OK" {
		t.Fatalf("Push behind what was refused: got %s", got)
	}
	for range 40 {
		if err := r.Push(7); plain.Told(err) != api.ErrFull {
			t.Fatalf("Push into a full one: got %v", err)
		}
		has(t, r, 5, 6)
	}
	if got := play(t, r, "pop steal pop steal 8 all"); got != "6 5 ErrNone ErrNone OK [8]" {
		t.Errorf("behind what was refused: got %s", got)
	}
}

// TestAskingChangesNothing: Len and All may be asked as often as one likes.
func TestAskingChangesNothing(t *testing.T) {
	r := made(t, 3, 4, 5, 6)
	play(t, r, "steal 7")
	for range 40 {
		has(t, r, 5, 6, 7)
	}
	if got := play(t, r, "8 steal pop half"); got != "ErrFull 5 7 [6]" {
		t.Errorf("got %s", got)
	}
}

// spoil a list, with what lies behind its length.
func spoil(l []int) {
	l = l[:cap(l)]
	for i := range l {
		l[i] = -99
	}
}

// TestListsAreTheCallers: wherever the ones of the ring stand.
func TestListsAreTheCallers(t *testing.T) {
	for gone := range 2 * api.MaxRing {
		r := made(t, 6)
		for range gone {
			play(t, r, "1 steal")
		}
		play(t, r, "1 2 3 4 5 6")
		spoil(r.All())
		has(t, r, 1, 2, 3, 4, 5, 6)
		half, all := r.Half(), r.All()
		play(t, r, "7 8 9")
		if !slices.Equal(half, []int{1, 2, 3}) || !slices.Equal(all, []int{4, 5, 6}) {
			t.Fatalf("behind %d: the ring wrote into what it told: %v %v", gone, half, all)
		}
		spoil(half)
		if !slices.Equal(all, []int{4, 5, 6}) {
			t.Fatalf("behind %d: Half and All share memory", gone)
		}
		has(t, r, 4, 5, 6, 7, 8, 9)
		again, more := r.All(), r.All()
		spoil(again)
		if !slices.Equal(more, []int{4, 5, 6, 7, 8, 9}) {
			t.Fatalf("behind %d: All and All share memory", gone)
		}
		next, last := r.Half(), r.Half()
		spoil(next)
		if !slices.Equal(last, []int{7, 8}) {
			t.Fatalf("behind %d: Half and Half share memory", gone)
		}
		spoil(last)
		has(t, r, 9)
	}
}

// TestRingsAreApart: what one is asked, no other one tells.
func TestRingsAreApart(t *testing.T) {
	a, b := made(t, 2, 1, 2), made(t, 3, 7)
	play(t, a, "steal 3")
	has(t, b, 7)
	play(t, b, "8 9 half")
	has(t, a, 2, 3)
	has(t, b, 9)
	has(t, made(t, 2))
}

// TestNothingIsKept: what is there no more stands in no place of the ring.
func TestNothingIsKept(t *testing.T) {
	for gone := range api.MaxRing + 1 {
		r := made(t, 5)
		for range gone {
			play(t, r, "1 steal")
		}
		play(t, r, "1 2 3 4 5 half pop steal 6")
		kept := slices.DeleteFunc(slices.Clone(r.places[:]), func(n int) bool { return n == 0 })
		if !slices.Equal(kept, []int{6}) {
			t.Errorf("behind %d: got %v", gone, kept)
		}
	}
}
