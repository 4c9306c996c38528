package hand

import (
	"math"
	"slices"
	"strconv"
	"strings"
	"testing"

	"yardgang/api"
	"yardgang/plain"
	"yardgang/ring"
)

// made hand, into which these were put, of which nothing goes out.
func made(t *testing.T, room int, l ...int) *Hand {
	t.Helper()
	h, err := New(room)
	if err != nil || h == nil {
		t.Fatalf("New(%d): got %v %v", room, h, err)
	}
	for _, n := range l {
		put(t, h, n)
	}
	return h
}

// put one, and hold what goes out against what is wanted.
func put(t *testing.T, h *Hand, n int, want ...int) {
	t.Helper()
	if got := h.Put(n); !slices.Equal(got, want) {
		t.Fatalf("Put(%d): got %v, want %v", n, got, want)
	}
}

// rob a hand of what is wanted.
func rob(t *testing.T, h *Hand, want ...int) {
	t.Helper()
	if got := h.Rob(); !slices.Equal(got, want) {
		t.Fatalf("Rob: got %v, want %v", got, want)
	}
}

// has tells a fault if another one is near, or it has not so many.
func has(t *testing.T, h *Hand, near, count int) {
	t.Helper()
	if h.Near() != near || h.Len() != count {
		t.Fatalf("got %d near and %d in all, want %d and %d", h.Near(), h.Len(), near, count)
	}
}

// gives tells a fault if other ones than these are taken, till none is left.
func gives(t *testing.T, h *Hand, want ...int) {
	t.Helper()
	for i, n := range want {
		if got, err := h.Take(); got != n || err != nil {
			t.Fatalf("Take: got %d %v, want %d", got, err, n)
		}
		has(t, h, -1, len(want)-1-i)
	}
	if got, err := h.Take(); got != 0 || plain.Told(err) != api.ErrNone {
		t.Fatalf("Take of none: got %d %v", got, err)
	}
	has(t, h, -1, 0)
}

// rising numbers, from one on.
func rising(from, count int) []int {
	l := make([]int, count)
	for i := range l {
		l[i] = from + i
	}
	return l
}

// words of a list, with commas between them.
func words(l []int) string {
	var w []string
	for _, n := range l {
		w = append(w, strconv.Itoa(n))
	}
	return "[" + strings.Join(w, ",") + "]"
}

// play calls, and tell the answers, each with what Near and Len tell behind
// it: a number is Put.
func play(t *testing.T, h *Hand, calls string) string {
	t.Helper()
	var told []string
	for call := range strings.FieldsSeq(calls) {
		answer := ""
		switch call {
		case "take":
			n, err := h.Take()
			answer = strconv.Itoa(n)
			if err != nil {
				answer += plain.Told(err).Error()
			}
		case "rob":
			answer = words(h.Rob())
		default:
			n, err := strconv.Atoi(call)
			if err != nil {
				t.Fatal(err)
			}
			answer = words(h.Put(n))
		}
		told = append(told, answer+":"+strconv.Itoa(h.Near())+"/"+strconv.Itoa(h.Len()))
	}
	return strings.Join(told, " ")
}

func TestRuns(t *testing.T) {
	for _, c := range []struct {
		room        int
		calls, want string
	}{
		// One that was just made.
		{3, "take take", "0ErrNone:-1/0 0ErrNone:-1/0"},
		{3, "rob rob", "[]:-1/0 []:-1/0"},

		// Put into one that has nothing, with one near, with none near.
		{3, "5", "[]:5/1"},
		{3, "5 6 7", "[]:5/1 []:6/2 []:7/3"},
		{3, "5 take 6", "[]:5/1 5:-1/0 []:6/1"},
		{3, "5 6 take 7", "[]:5/1 []:6/2 6:-1/1 []:7/2"},
		{3, "5 6 take 7 take take take", "[]:5/1 []:6/2 6:-1/1 []:7/2 7:-1/1 5:-1/0 0ErrNone:-1/0"},

		// Put with the ring full: its half goes out, in order, and what was
		// near is there behind it.
		{3, "1 2 3 4 5", "[]:1/1 []:2/2 []:3/3 []:4/4 [1,2]:5/3"},
		{3, "1 2 3 4 5 take take take take", "[]:1/1 []:2/2 []:3/3 []:4/4 [1,2]:5/3 5:-1/2 4:-1/1 3:-1/0 0ErrNone:-1/0"},
		{3, "1 2 3 4 5 rob rob take", "[]:1/1 []:2/2 []:3/3 []:4/4 [1,2]:5/3 [3]:5/2 [4]:5/1 5:-1/0"},
		{4, "1 2 3 4 5 6 7 8", "[]:1/1 []:2/2 []:3/3 []:4/4 []:5/5 [1,2]:6/4 []:7/5 [3,4]:8/4"},
		{2, "1 2 3 4 5 6", "[]:1/1 []:2/2 []:3/3 [1]:4/3 [2]:5/3 [3]:6/3"},

		// Put with the ring full and none near: nothing is pushed, so that
		// nothing has to go out.
		{2, "1 2 3 take 4 5", "[]:1/1 []:2/2 []:3/3 3:-1/2 []:4/3 [1]:5/3"},
		{1, "1 2 take 3 4 take", "[]:1/1 []:2/2 2:-1/1 []:3/2 [1]:4/2 4:-1/1"},

		// Take of what is near, else of the last one of the ring.
		{3, "1 2 3 take take take take", "[]:1/1 []:2/2 []:3/3 3:-1/2 2:-1/1 1:-1/0 0ErrNone:-1/0"},
		{3, "1 2 3 rob take take", "[]:1/1 []:2/2 []:3/3 [1]:3/2 3:-1/1 2:-1/0"},

		// Rob of a ring of none, of one, of an odd and of an even number.
		{5, "1 rob take", "[]:1/1 []:1/1 1:-1/0"},
		{5, "1 2 rob rob", "[]:1/1 []:2/2 [1]:2/1 []:2/1"},
		{5, "1 2 3 rob rob rob", "[]:1/1 []:2/2 []:3/3 [1]:3/2 [2]:3/1 []:3/1"},
		{5, "1 2 3 4 rob rob", "[]:1/1 []:2/2 []:3/3 []:4/4 [1,2]:4/2 [3]:4/1"},
		{5, "1 2 3 4 5 rob rob", "[]:1/1 []:2/2 []:3/3 []:4/4 []:5/5 [1,2]:5/3 [3]:5/2"},
		{5, "1 2 take rob take", "[]:1/1 []:2/2 2:-1/1 [1]:-1/0 0ErrNone:-1/0"},

		// There is room again behind a Rob.
		{2, "1 2 3 rob 4 5 rob", "[]:1/1 []:2/2 []:3/3 [1]:3/2 []:4/3 [2]:5/3 [3]:5/2"},

		// Room for one.
		{1, "1 2 3 4", "[]:1/1 []:2/2 [1]:3/2 [2]:4/2"},
		{1, "1 2 rob 3 rob take take", "[]:1/1 []:2/2 [1]:2/1 []:3/2 [2]:3/1 3:-1/0 0ErrNone:-1/0"},

		// 0 is one like any other.
		{2, "0 take", "[]:0/1 0:-1/0"},
		{2, "0 0 0 0 rob take take take", "[]:0/1 []:0/2 []:0/3 [0]:0/3 [0]:0/2 0:-1/1 0:-1/0 0ErrNone:-1/0"},

		// The same number more than once.
		{2, "7 7 7 rob 7 7 take", "[]:7/1 []:7/2 []:7/3 [7]:7/2 []:7/3 [7]:7/3 7:-1/2"},
	} {
		if got := play(t, made(t, c.room), c.calls); got != c.want {
			t.Errorf("room %d: %s: got %s, want %s", c.room, c.calls, got, c.want)
		}
	}
}

// TestRooms: in every room, as many are there as it is for, and the near
// one, ahead of the first that goes out.
func TestRooms(t *testing.T) {
	if api.MaxRing != 16 {
		t.Fatal("a ring has room for 16 at most")
	}
	for room := 1; room <= 16; room++ {
		h := made(t, room)
		has(t, h, -1, 0)
		for n := range room + 1 {
			put(t, h, n)
			has(t, h, n, n+1)
		}
		half := (room + 1) / 2
		put(t, h, 99, rising(0, half)...)
		has(t, h, 99, room+2-half)
		left := rising(half, room+1-half)
		slices.Reverse(left)
		gives(t, h, append([]int{99}, left...)...)
	}
}

func TestRoomsThatAreNone(t *testing.T) {
	for _, room := range []int{0, -1, -2, -16, -17, 17, 18, 32, 100, 257, 1 << 16, 1<<32 + 1, 1<<32 + 16, -1<<32 + 1, math.MaxInt, math.MinInt, math.MinInt + 1} {
		_, want := ring.New(room)
		h, err := New(room)
		if h != nil || plain.Told(err) != api.ErrRange || plain.Told(err) != plain.Told(want) {
			t.Errorf("New(%d): got %v %v, want a ring's %v", room, h, err, want)
		}
	}
}

// TestRobbed: of rings of every length, with one near and with none.
func TestRobbed(t *testing.T) {
	for count := range api.MaxRing + 1 {
		half := count - count/2
		h := made(t, 16, rising(0, count+1)...)
		rob(t, h, rising(0, half)...)
		has(t, h, count, count+1-half)

		h = made(t, 16, rising(0, count+1)...)
		if n, err := h.Take(); n != count || err != nil {
			t.Fatalf("Take: got %d %v, want %d", n, err, count)
		}
		rob(t, h, rising(0, half)...)
		has(t, h, -1, count-half)
		left := rising(half, count-half)
		slices.Reverse(left)
		gives(t, h, left...)
	}
}

// TestNearIsNotRobbed: however often it is tried.
func TestNearIsNotRobbed(t *testing.T) {
	h := made(t, 4, 5)
	for range 40 {
		rob(t, h)
		has(t, h, 5, 1)
	}
	gives(t, h, 5)
}

// TestRefused: what is refused leaves nothing, however often it is asked.
func TestRefused(t *testing.T) {
	h := made(t, 2)
	for range 40 {
		gives(t, h)
		rob(t, h)
	}
	put(t, h, 5)
	put(t, h, 6)
	put(t, h, 7)
	put(t, h, 8, 5)
	gives(t, h, 8, 7, 6)
}

// TestNumbers: the edges of what may be put.
func TestNumbers(t *testing.T) {
	h := made(t, 4, 0, math.MaxInt, 1<<32, 1<<31, 1<<63-2)
	has(t, h, 1<<63-2, 5)
	put(t, h, 0, 0, math.MaxInt)
	has(t, h, 0, 4)
	gives(t, h, 0, 1<<63-2, 1<<31, 1<<32)
}

// TestNumbersThatAreNone: what is below 0 is not put, whatever the hand has.
func TestNumbersThatAreNone(t *testing.T) {
	for _, n := range []int{-1, -2, -16, -1 << 31, -1 << 32, math.MinInt + 1, math.MinInt} {
		h := made(t, 2)
		put(t, h, n)
		has(t, h, -1, 0)
		for i := range 3 {
			put(t, h, i)
			put(t, h, n)
			has(t, h, i, i+1)
		}
		gives(t, h, 2, 1, 0)
	}
}

// TestAskingChangesNothing: Near and Len may be asked as often as one likes.
func TestAskingChangesNothing(t *testing.T) {
	h := made(t, 2, 5, 6, 7)
	for range 40 {
		has(t, h, 7, 3)
	}
	gives(t, h, 7, 6, 5)
	for range 40 {
		has(t, h, -1, 0)
	}
}

// spoil a list, with what lies behind its length.
func spoil(l []int) {
	l = l[:cap(l)]
	for i := range l {
		l[i] = 99
	}
}

// TestWhatPutTellsIsTheCallers: neither the hand nor another list shares its
// memory.
func TestWhatPutTellsIsTheCallers(t *testing.T) {
	for room := 1; room <= api.MaxRing; room++ {
		half := (room + 1) / 2
		h := made(t, room, rising(0, room+1)...)
		next := room + 1
		first := h.Put(next)
		for range half - 1 {
			next++
			put(t, h, next)
		}
		next++
		second := h.Put(next)
		if !slices.Equal(first, rising(0, half)) || !slices.Equal(second, rising(half, half)) {
			t.Fatalf("room %d: Put told %v and %v", room, first, second)
		}
		spoil(first)
		if !slices.Equal(second, rising(half, half)) {
			t.Fatalf("room %d: Put and Put share memory: %v", room, second)
		}
		spoil(second)
		left := rising(2*half, next+1-2*half)
		slices.Reverse(left)
		gives(t, h, left...)
	}
}

// TestWhatRobTellsIsTheCallers: neither the hand nor another list shares its
// memory.
func TestWhatRobTellsIsTheCallers(t *testing.T) {
	for room := 2; room <= api.MaxRing; room++ {
		h := made(t, room, rising(0, room+1)...)
		first := h.Rob()
		second := h.Rob()
		put(t, h, 71)
		a, b := (room+1)/2, (room/2+1)/2
		if !slices.Equal(first, rising(0, a)) || !slices.Equal(second, rising(a, b)) {
			t.Fatalf("room %d: Rob told %v and %v", room, first, second)
		}
		spoil(first)
		if !slices.Equal(second, rising(a, b)) {
			t.Fatalf("room %d: Rob and Rob share memory: %v", room, second)
		}
		spoil(second)
		left := rising(a+b, room+1-a-b)
		slices.Reverse(left)
		gives(t, h, append([]int{71}, left...)...)
	}
}

// TestWhatIsToldOfNothing: an empty list isn't the hand's either.
func TestWhatIsToldOfNothing(t *testing.T) {
	h := made(t, 2)
	none, robbed := h.Put(5), h.Rob()
	put(t, h, 6)
	spoil(none)
	spoil(robbed)
	gives(t, h, 6, 5)
}

// TestOneRobsAnother: what one is robbed of may be put into another one.
func TestOneRobsAnother(t *testing.T) {
	a, b := made(t, 4, 1, 2, 3, 4, 5), made(t, 4)
	l := a.Rob()
	for _, n := range l {
		put(t, b, n)
	}
	spoil(l)
	has(t, a, 5, 3)
	has(t, b, 2, 2)
	gives(t, a, 5, 4, 3)
	gives(t, b, 2, 1)
}

// TestHandsAreApart: what one is asked, no other one tells.
func TestHandsAreApart(t *testing.T) {
	a, b := made(t, 2, 1, 2), made(t, 3, 7)
	rob(t, a, 1)
	has(t, b, 7, 1)
	put(t, b, 8)
	has(t, a, 2, 1)
	gives(t, b, 8, 7)
	gives(t, a, 2)
	has(t, made(t, 2), -1, 0)
}
