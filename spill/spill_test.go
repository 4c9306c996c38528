package spill

import (
	"math"
	"slices"
	"strconv"
	"strings"
	"testing"

	"yardgang/api"
	"yardgang/plain"
)

// made spill with these in it.
func made(t *testing.T, room int, l ...int) *Spill {
	t.Helper()
	s, err := New(room)
	if err != nil || s == nil {
		t.Fatalf("New(%d): got %v %v", room, s, err)
	}
	put(t, s, l...)
	return s
}

// put a list that there is room for.
func put(t *testing.T, s *Spill, l ...int) {
	t.Helper()
	if err := s.Put(l); err != nil {
		t.Fatalf("Put(%v): got %v", l, err)
	}
}

// get what is wanted.
func get(t *testing.T, s *Spill, most int, want ...int) {
	t.Helper()
	if got, err := s.Get(most); !slices.Equal(got, want) || err != nil {
		t.Fatalf("Get(%d): got %v %v, want %v", most, got, err, want)
	}
}

// has tells a fault if not so many are in front, and behind.
func has(t *testing.T, s *Spill, front, behind int) {
	t.Helper()
	if f, b := s.Len(); f != front || b != behind {
		t.Fatalf("Len: got %d %d, want %d %d", f, b, front, behind)
	}
}

// rising numbers, from one on.
func rising(from, count int) []int {
	l := make([]int, count)
	for i := range l {
		l[i] = from + i
	}
	return l
}

// numbers of a text, with commas between them.
func numbers(t *testing.T, text string) (l []int) {
	t.Helper()
	for w := range strings.SplitSeq(text, ",") {
		if w == "" {
			continue
		}
		n, err := strconv.Atoi(w)
		if err != nil {
			t.Fatal(err)
		}
		l = append(l, n)
	}
	return l
}

// play calls, and tell the answers, each with what Len tells behind it:
// +1,2 is Put, +1..9 Put of all from 1 to 9, -3 Get.
func play(t *testing.T, s *Spill, calls string) string {
	t.Helper()
	var told []string
	for call := range strings.FieldsSeq(calls) {
		answer := ""
		if l, is := strings.CutPrefix(call, "+"); is {
			list := numbers(t, strings.ReplaceAll(l, "..", ","))
			if strings.Contains(l, "..") {
				list = rising(list[0], list[1]-list[0]+1)
			}
			answer = plain.Told(s.Put(list)).Error()
		} else {
			most := numbers(t, strings.TrimPrefix(call, "-"))
			got, err := s.Get(most[0])
			for _, n := range got {
				answer += strconv.Itoa(n) + ","
			}
			answer += plain.Told(err).Error()
		}
		front, behind := s.Len()
		told = append(told, answer+":"+strconv.Itoa(front)+"/"+strconv.Itoa(behind))
	}
	return strings.Join(told, " ")
}

func TestRuns(t *testing.T) {
	for _, c := range []struct {
		room        int
		calls, want string
	}{
		// One that was just made, and lists of none.
		{3, "+ -1 -60 +", "OK:0/0 OK:0/0 OK:0/0 OK:0/0"},
		{3, "+ +5 + -1 +", "OK:0/0 OK:1/0 OK:1/0 5,OK:0/0 OK:0/0"},
		{2, "+5,6,7 + -1", "OK:2/1 OK:2/1 5,OK:2/0"},

		// Lists that there is room for in front, that fill it, that overflow.
		{3, "+5 +6 -2", "OK:1/0 OK:2/0 5,6,OK:0/0"},
		{3, "+5,6,7 -3", "OK:3/0 5,6,7,OK:0/0"},
		{3, "+5,6 +7 +8", "OK:2/0 OK:3/0 OK:3/1"},
		{3, "+5,6,7,8 -4", "OK:3/1 5,6,7,8,OK:0/0"},
		{3, "+5,6 +7,8,9 +10", "OK:2/0 OK:3/2 OK:3/3"},

		// Get of less than there is, of as much, of more, of none there.
		{3, "+5,6,7,8,9 -1 -4", "OK:3/2 5,OK:3/1 6,7,8,9,OK:0/0"},
		{3, "+5,6,7,8,9 -5 -1", "OK:3/2 5,6,7,8,9,OK:0/0 OK:0/0"},
		{3, "+5,6,7,8,9 -6 -60", "OK:3/2 5,6,7,8,9,OK:0/0 OK:0/0"},
		{3, "+5,6,7,8,9 -60 -60", "OK:3/2 5,6,7,8,9,OK:0/0 OK:0/0"},

		// What comes to the front: no more than there are behind, no more
		// than there is room for.
		{3, "+1..9 -1 -1 -1", "OK:3/6 1,OK:3/5 2,OK:3/4 3,OK:3/3"},
		{3, "+1..9 -2 -3 -3 -3", "OK:3/6 1,2,OK:3/4 3,4,5,OK:3/1 6,7,8,OK:1/0 9,OK:0/0"},
		{3, "+1..9 -4 -4 -4", "OK:3/6 1,2,3,4,OK:3/2 5,6,7,8,OK:1/0 9,OK:0/0"},
		{3, "+1..9 -8 -1", "OK:3/6 1,2,3,4,5,6,7,8,OK:1/0 9,OK:0/0"},

		// Put behind a Get: behind as long as one is behind, then in front.
		{3, "+1..5 -1 +6 -9", "OK:3/2 1,OK:3/1 OK:3/2 2,3,4,5,6,OK:0/0"},
		{3, "+1..5 -3 +6 +7 -9", "OK:3/2 1,2,3,OK:2/0 OK:3/0 OK:3/1 4,5,6,7,OK:0/0"},
		{3, "+1..3 -1 +4,5 -2 +6 -9", "OK:3/0 1,OK:2/0 OK:3/1 2,3,OK:2/0 OK:3/0 4,5,6,OK:0/0"},
		{3, "+1..5 -5 +6,7 -1 +8..10 -9", "OK:3/2 1,2,3,4,5,OK:0/0 OK:2/0 6,OK:1/0 OK:3/1 7,8,9,10,OK:0/0"},

		// Room for one.
		{1, "+5 +6,7 -1 -1 -1 -1", "OK:1/0 OK:1/2 5,OK:1/1 6,OK:1/0 7,OK:0/0 OK:0/0"},
		{1, "+5,6,7 -2 +8 -2", "OK:1/2 5,6,OK:1/0 OK:1/1 7,8,OK:0/0"},

		// Room for as many as may be.
		{16, "+1..16 +17 -2 +18", "OK:16/0 OK:16/1 1,2,OK:15/0 OK:16/0"},
		{16, "+1..60 -2", "OK:16/44 1,2,OK:16/42"},

		// As many as may be there in all, and one more.
		{3, "+1..60 +61 + -1", "OK:3/57 ErrFull:3/57 OK:3/57 1,OK:3/56"},
		{3, "+1..61 -60", "ErrFull:0/0 OK:0/0"},
		{3, "+1..59 +60,61 +60 +61", "OK:3/56 ErrFull:3/56 OK:3/57 ErrFull:3/57"},
		{3, "+1,2 +3..61 -1 +3..61", "OK:2/0 ErrFull:2/0 1,OK:1/0 OK:3/57"},
		{3, "+1..60 -2 +61..63 +61,62 +63", "OK:3/57 1,2,OK:3/55 ErrFull:3/55 OK:3/57 ErrFull:3/57"},

		// A most that is none.
		{3, "+1..5 -0 --1 -61 -5", "OK:3/2 ErrRange:3/2 ErrRange:3/2 ErrRange:3/2 1,2,3,4,5,OK:0/0"},
		{3, "-0 -61 --60 +7", "ErrRange:0/0 ErrRange:0/0 ErrRange:0/0 OK:1/0"},

		// The same number more than once.
		{2, "+7,7,7 +7 -3 +7 -9", "OK:2/1 OK:2/2 7,7,7,OK:1/0 OK:2/0 7,7,OK:0/0"},
	} {
		if got := play(t, made(t, c.room), c.calls); got != c.want {
			t.Errorf("room %d: %s: got %s, want %s", c.room, c.calls, got, c.want)
		}
	}
}

// TestRooms: in every room, as many are in front as it is for, up to the
// very last one that may be there.
func TestRooms(t *testing.T) {
	if api.MaxRing != 16 || api.MaxSpill != 60 {
		t.Fatal("in front is room for 16 at most, and in all there are 60 at most")
	}
	for room := 1; room <= 16; room++ {
		s := made(t, room)
		for n := range 60 {
			has(t, s, min(n, room), max(0, n-room))
			put(t, s, n)
		}
		has(t, s, room, 60-room)
		if err := s.Put([]int{99}); plain.Told(err) != api.ErrFull {
			t.Errorf("room %d: one more: got %v", room, err)
		}
		for n := range 60 {
			has(t, s, min(60-n, room), max(0, 60-n-room))
			get(t, s, 1, n)
		}
		has(t, s, 0, 0)
	}
}

func TestRoomsThatAreNone(t *testing.T) {
	for _, room := range []int{0, -1, -2, -16, -17, 17, 18, 32, 60, 100, 257, 1 << 16, 1<<32 + 1, 1<<32 + 16, -1<<32 + 1, math.MaxInt, math.MinInt, math.MinInt + 1} {
		if s, err := New(room); s != nil || plain.Told(err) != api.ErrRange {
			t.Errorf("New(%d): got %v %v", room, s, err)
		}
	}
}

// TestMosts: every most that is one, with every number there.
func TestMosts(t *testing.T) {
	for count := range 61 {
		for most := 1; most <= 60; most++ {
			s := made(t, 5, rising(100, count)...)
			got := min(count, most)
			get(t, s, most, rising(100, got)...)
			left := count - got
			has(t, s, min(5, left), max(0, left-5))
			get(t, s, 60, rising(100+got, left)...)
		}
	}
}

// TestMostsThatAreNone: they are refused, whether or not one is there, and
// leave nothing, however often they are asked.
func TestMostsThatAreNone(t *testing.T) {
	empty, some := made(t, 2), made(t, 2, 5, 6, 7)
	for range 3 {
		for _, most := range []int{0, -1, -2, -60, -61, 61, 62, 64, 257, 1 << 16, 1<<32 + 1, 1<<32 + 60, -1<<32 + 1, math.MaxInt, math.MinInt, math.MinInt + 1} {
			for _, s := range []*Spill{empty, some} {
				if got, err := s.Get(most); len(got) != 0 || plain.Told(err) != api.ErrRange {
					t.Errorf("Get(%d): got %v %v", most, got, err)
				}
			}
		}
		has(t, empty, 0, 0)
		has(t, some, 2, 1)
	}
	get(t, empty, 60)
	get(t, some, 60, 5, 6, 7)
}

// TestFull: of a list that is too long nothing is put, wherever there would
// be room for its first ones, and one that is short enough may follow.
func TestFull(t *testing.T) {
	for _, room := range []int{1, 2, 5, 15, 16} {
		for there := range 61 {
			s := made(t, room, rising(0, there)...)
			for more := 61 - there; more <= 70; more++ {
				if err := s.Put(rising(500, more)); plain.Told(err) != api.ErrFull {
					t.Fatalf("room %d, %d there: %d more: got %v", room, there, more, err)
				}
				has(t, s, min(there, room), max(0, there-room))
			}
			put(t, s, rising(there, 60-there)...)
			has(t, s, room, 60-room)
			get(t, s, 60, rising(0, 60)...)
		}
	}
}

// TestLongLists: that are far too long.
func TestLongLists(t *testing.T) {
	s := made(t, 4, 1, 2)
	for _, long := range []int{1 << 10, 1 << 16, 1<<16 + 1, 1 << 20} {
		if err := s.Put(make([]int, long)); plain.Told(err) != api.ErrFull {
			t.Errorf("Put of %d: got %v", long, err)
		}
	}
	has(t, s, 2, 0)
	get(t, s, 60, 1, 2)
}

// TestAnyNumbers: a spill has whatever is put in.
func TestAnyNumbers(t *testing.T) {
	all := []int{0, -1, math.MaxInt, math.MinInt, 0, 1 << 32, -1 << 31, 0}
	s := made(t, 3, all...)
	get(t, s, 2, all[:2]...)
	has(t, s, 3, 3)
	get(t, s, 60, all[2:]...)
}

// TestAskingChangesNothing: Len may be asked as often as one likes.
func TestAskingChangesNothing(t *testing.T) {
	s := made(t, 2, 5, 6, 7)
	for range 40 {
		has(t, s, 2, 1)
	}
	get(t, s, 3, 5, 6, 7)
	for range 40 {
		has(t, s, 0, 0)
	}
}

// spoil a list, with what lies behind its length.
func spoil(l []int) {
	l = l[:cap(l)]
	for i := range l {
		l[i] = -99
	}
}

// TestWhatIsHandedIn: it is not written into, whatever comes behind, and not
// kept; and what lies behind its length isn't read.
func TestWhatIsHandedIn(t *testing.T) {
	for count := range 8 {
		whole := rising(10, 12)
		s := made(t, 3)
		if err := s.Put(whole[:count]); err != nil {
			t.Fatal(err)
		}
		put(t, s, 71, 72)
		get(t, s, 1, append(rising(10, count), 71)[0])
		put(t, s, 73)
		if err := s.Put(whole[:0]); err != nil {
			t.Fatal(err)
		}
		if !slices.Equal(whole, rising(10, 12)) {
			t.Fatalf("%d handed in: the spill wrote into it: %v", count, whole)
		}
		spoil(whole)
		get(t, s, 60, append(append(rising(10, count), 71)[1:], 72, 73)...)
	}
	full := made(t, 3, rising(0, 59)...)
	refused := rising(10, 4)
	if err := full.Put(refused[:2]); plain.Told(err) != api.ErrFull || !slices.Equal(refused, rising(10, 4)) {
		t.Errorf("a list that is refused: got %v, and it is %v", err, refused)
	}
}

// TestWhatIsToldIsTheCallers: neither the spill nor another list shares its
// memory.
func TestWhatIsToldIsTheCallers(t *testing.T) {
	for most := 1; most <= 6; most++ {
		s := made(t, 2, rising(0, 20)...)
		first, err := s.Get(most)
		if err != nil {
			t.Fatal(err)
		}
		second, err := s.Get(most)
		if err != nil {
			t.Fatal(err)
		}
		put(t, s, 71, 72, 73)
		get(t, s, 1, 2*most)
		if !slices.Equal(first, rising(0, most)) || !slices.Equal(second, rising(most, most)) {
			t.Fatalf("the spill wrote into what it told: %v %v", first, second)
		}
		spoil(first)
		if !slices.Equal(second, rising(most, most)) {
			t.Fatalf("Get and Get share memory: %v", second)
		}
		spoil(second)
		get(t, s, 60, append(rising(2*most+1, 19-2*most), 71, 72, 73)...)
	}
}

// TestAllThatIsToldIsTheCallers: also where nothing is left in the spill.
func TestAllThatIsToldIsTheCallers(t *testing.T) {
	s := made(t, 2, 1, 2, 3)
	all, err := s.Get(60)
	if err != nil {
		t.Fatal(err)
	}
	put(t, s, 7, 8, 9)
	if !slices.Equal(all, []int{1, 2, 3}) {
		t.Errorf("the spill wrote into what it told: %v", all)
	}
	spoil(all)
	get(t, s, 60, 7, 8, 9)
	none, err := s.Get(1)
	if err != nil || len(none) != 0 {
		t.Fatalf("Get of none: got %v %v", none, err)
	}
	put(t, s, 4)
	spoil(none)
	get(t, s, 1, 4)
}

// TestOneIntoAnother: what one tells may be put into another one, or into
// itself again.
func TestOneIntoAnother(t *testing.T) {
	a, b := made(t, 2, 1, 2, 3, 4, 5), made(t, 3)
	l, err := a.Get(3)
	if err != nil {
		t.Fatal(err)
	}
	put(t, b, l...)
	put(t, a, l...)
	spoil(l)
	has(t, a, 2, 3)
	has(t, b, 3, 0)
	get(t, b, 60, 1, 2, 3)
	get(t, a, 60, 4, 5, 1, 2, 3)
}

// TestSpillsAreApart: what one is asked, no other one tells.
func TestSpillsAreApart(t *testing.T) {
	a, b := made(t, 2, 1, 2, 3), made(t, 3, 7)
	get(t, a, 1, 1)
	has(t, b, 1, 0)
	put(t, b, 8, 9, 10)
	has(t, a, 2, 0)
	has(t, b, 3, 1)
	get(t, a, 60, 2, 3)
	get(t, b, 60, 7, 8, 9, 10)
	has(t, made(t, 2), 0, 0)
}

// TestNothingIsKept: what is there no more stands nowhere in the spill.
func TestNothingIsKept(t *testing.T) {
	for most := 1; most <= 60; most++ {
		s := made(t, 5, rising(1, 60)...)
		get(t, s, most, rising(1, most)...)
		for i, n := range s.all[:cap(s.all)] {
			if i < len(s.all) && n <= most || i >= len(s.all) && n != 0 {
				t.Fatalf("Get(%d): at %d stands %d", most, i, n)
			}
		}
	}
}
