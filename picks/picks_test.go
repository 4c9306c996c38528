package picks

import (
	"math"
	"slices"
	"strconv"
	"strings"
	"testing"

	"yardgang/api"
	"yardgang/plain"
)

// most numbers that may be handed in, and most that are shuffled.
const (
	most  = 400
	tasks = 30
)

// made picks of numbers that are right.
func made(t *testing.T, l ...int) *Picks {
	t.Helper()
	p, err := New(l)
	if err != nil || p == nil {
		t.Fatalf("New(%v): got %v %v", l, p, err)
	}
	return p
}

// nexts holds the next one against what is wanted.
func nexts(t *testing.T, p *Picks, n, want int) {
	t.Helper()
	if got, err := p.Next(n); err != nil || got != want {
		t.Fatalf("Next(%d): got %d %v, want %d", n, got, err, want)
	}
}

// shuffles holds the shuffled numbers, with commas between, against what is
// wanted.
func shuffles(t *testing.T, p *Picks, n int, want string) {
	t.Helper()
	if got, err := p.Shuffle(n); err != nil || words(got) != want {
		t.Fatalf("Shuffle(%d): got %s %v, want %s", n, words(got), err, want)
	}
}

// refuses Next of a number.
func refuses(t *testing.T, p *Picks, n int) {
	t.Helper()
	if got, err := p.Next(n); got != 0 || plain.Told(err) != api.ErrRange {
		t.Fatalf("Next(%d): got %d %v", n, got, err)
	}
}

// refusesShuffle of so many.
func refusesShuffle(t *testing.T, p *Picks, n int) {
	t.Helper()
	if got, err := p.Shuffle(n); len(got) != 0 || plain.Told(err) != api.ErrRange {
		t.Fatalf("Shuffle(%d): got %v %v", n, got, err)
	}
}

// used so many, however often it is asked.
func used(t *testing.T, p *Picks, want int) {
	t.Helper()
	for range 3 {
		if got := p.Used(); got != want {
			t.Fatalf("Used: got %d, want %d", got, want)
		}
	}
}

// words of a list, with commas between them.
func words(l []int) string {
	var w []string
	for _, n := range l {
		w = append(w, strconv.Itoa(n))
	}
	return "[" + strings.Join(w, ",") + "]"
}

// numbers of a text.
func numbers(t *testing.T, text string) []int {
	t.Helper()
	var l []int
	for w := range strings.FieldsSeq(text) {
		n, err := strconv.Atoi(w)
		if err != nil {
			t.Fatal(err)
		}
		l = append(l, n)
	}
	return l
}

// rising numbers, from 0 to below one.
func rising(to int) []int {
	l := make([]int, to)
	for i := range l {
		l[i] = i
	}
	return l
}

// play calls: a number is Next of it, one behind an s Shuffle of it. Each
// answer comes with what Used tells behind it.
func play(t *testing.T, l []int, calls string) string {
	t.Helper()
	p := made(t, l...)
	used(t, p, 0)
	var told []string
	for call := range strings.FieldsSeq(calls) {
		text, shuffle := strings.CutPrefix(call, "s")
		n := numbers(t, text)[0]
		var answer string
		var err error
		if shuffle {
			var s []int
			s, err = p.Shuffle(n)
			answer = words(s)
		} else {
			var k int
			k, err = p.Next(n)
			answer = strconv.Itoa(k)
		}
		if err != nil {
			answer += plain.Told(err).Error()
		}
		told = append(told, answer+":"+strconv.Itoa(p.Used()))
	}
	return strings.Join(told, " ")
}

func TestRuns(t *testing.T) {
	for _, c := range []struct{ l, calls, want string }{
		// No number: 0 each time, and none is taken.
		{"", "1 2 400 7", "0:0 0:0 0:0 0:0"},
		{"", "s0 s1 s2 s3 s4", "[]:0 [0]:0 [1,0]:0 [1,2,0]:0 [1,2,3,0]:0"},

		// One.
		{"7", "10 10", "7:1 0:1"},
		{"7", "7 7", "0:1 0:1"},
		{"7", "4 4 1", "3:1 0:1 0:1"},
		{"7", "s1 s0 s2 s2", "[0]:0 []:0 [0,1]:1 [1,0]:1"},
		{"0", "5 5", "0:1 0:1"},

		// In order, each modulo what is asked of it.
		{"5 6 7 8", "10 10 10 10 10", "5:1 6:2 7:3 8:4 0:4"},
		{"5 6 7 8", "5 5 5 5", "0:1 1:2 2:3 3:4"},
		{"5 6 7 8", "3 4 2 9", "2:1 2:2 1:3 8:4"},
		{"9 9 9 9", "1 2 8 9", "0:1 1:2 1:3 0:4"},

		// 1 leaves nothing over, and takes one all the same.
		{"5 6 7", "1 10 1 10", "0:1 6:2 0:3 0:3"},

		// The greatest that may be asked.
		{"399 400 401 799 800", "400 400 400 400 400", "399:1 0:2 1:3 399:4 0:5"},

		// What is refused takes none, ahead, between and behind.
		{"5 6", "0 10 -1 401 10 0 401 10", "0ErrRange:0 5:1 0ErrRange:1 0ErrRange:1 6:2 0ErrRange:2 0ErrRange:2 0:2"},
		{"5 6", "s-1 10 s31 10 s-1 s31", "[]ErrRange:0 5:1 []ErrRange:1 6:2 []ErrRange:2 []ErrRange:2"},

		// Shuffles: the last one changes places first, maybe with itself.
		{"3 2 1", "s4", "[0,1,2,3]:3"},
		{"0 0 0", "s4", "[1,2,3,0]:3"},
		{"0 1", "s3", "[2,1,0]:2"},
		{"1 0", "s3", "[2,0,1]:2"},
		{"2 0", "s3", "[1,0,2]:2"},
		{"1 2 0", "s4", "[3,0,2,1]:3"},
		{"0 2 1", "s4", "[3,1,2,0]:3"},

		// Each number counts modulo one more than the place.
		{"7 5 3", "s4", "[0,1,2,3]:3"},
		{"4 3 2", "s4", "[1,2,3,0]:3"},
		{"5 39 28 13 10 8", "s7", "[2,0,4,1,6,3,5]:6"},

		// None and one need no number.
		{"5 6", "s0 s1 s0 s1 10", "[]:0 [0]:0 []:0 [0]:0 5:1"},

		// The numbers end on the way: 0 for all the others.
		{"3", "s4", "[1,2,0,3]:1"},
		{"3 2", "s4", "[1,0,2,3]:2"},
		{"1", "s3", "[2,0,1]:1"},
		{"2", "s3 s3", "[1,0,2]:1 [1,2,0]:1"},

		// Both, one behind the other: each goes on where the one ahead ended.
		{"5 1 0 6 7", "10 s3 10 10 10", "5:1 [2,0,1]:3 6:4 7:5 0:5"},
		{"1 2 1 0 1", "s2 s3 s2 3", "[0,1]:1 [0,1,2]:3 [1,0]:4 1:5"},
		{"1 2 1 0 1", "s3 0 s-1 s3 3", "[2,0,1]:2 0ErrRange:2 []ErrRange:2 [2,0,1]:4 1:5"},
	} {
		if got := play(t, numbers(t, c.l), c.calls); got != c.want {
			t.Errorf("%q: %s: got %s, want %s", c.l, c.calls, got, c.want)
		}
	}
}

// TestNoNumbers: an empty list and nil are the same.
func TestNoNumbers(t *testing.T) {
	below := []int{-1, -1, 5}
	for _, l := range [][]int{nil, {}, make([]int, 0, 4), below[:0]} {
		p := made(t, l...)
		used(t, p, 0)
		nexts(t, p, 1, 0)
		nexts(t, p, most, 0)
		shuffles(t, p, 3, "[1,2,0]")
		refuses(t, p, 0)
		refusesShuffle(t, p, -1)
		used(t, p, 0)
	}
}

// TestMostNumbers: all of them are kept, and taken in order.
func TestMostNumbers(t *testing.T) {
	if api.MaxPicks != most || api.MaxTasks != tasks {
		t.Fatal("400 numbers are picked from, and 30 shuffled, at most")
	}
	for _, count := range []int{most - 1, most} {
		p := made(t, rising(count)...)
		for i := range count {
			used(t, p, i)
			nexts(t, p, most, i)
		}
		for range 3 {
			used(t, p, count)
			nexts(t, p, most, 0)
			shuffles(t, p, 3, "[1,2,0]")
		}
	}
}

// TestTooMany: whatever the numbers are, and there are no picks of them.
func TestTooMany(t *testing.T) {
	for _, count := range []int{most + 1, most + 2, 2 * most, 100 * most} {
		for _, n := range []int{0, 1, -1, math.MinInt, math.MaxInt} {
			for _, at := range []int{0, most - 1, most, count - 1} {
				l := make([]int, count)
				l[at] = n
				if p, err := New(l); p != nil || plain.Told(err) != api.ErrFull {
					t.Fatalf("%d numbers, %d of them: got %v %v", count, n, p, err)
				}
			}
		}
	}
}

// TestBelow: a number below 0, the first, between or the last, or several.
func TestBelow(t *testing.T) {
	for _, count := range []int{1, 2, 3, 7, most - 1, most} {
		for _, below := range []int{-1, -2, -most, -1 << 32, math.MinInt + 1, math.MinInt} {
			for at := range count {
				l := rising(count)
				l[at] = below
				if p, err := New(l); p != nil || plain.Told(err) != api.ErrRange {
					t.Fatalf("%d of %d is %d: got %v %v", at, count, below, p, err)
				}
			}
		}
	}
	if p, err := New([]int{-1, 5, -1}); p != nil || plain.Told(err) != api.ErrRange {
		t.Errorf("two below: got %v %v", p, err)
	}
}

// TestGreatNumbers: there is no bound above.
func TestGreatNumbers(t *testing.T) {
	for _, great := range []int{401, 1 << 31, 1<<32 + 3, 1 << 62, math.MaxInt - 1, math.MaxInt} {
		for n := 1; n <= most; n++ {
			p := made(t, great, great)
			nexts(t, p, n, great-great/n*n)
			used(t, p, 1)
		}
	}
	p := made(t, math.MaxInt, math.MaxInt)
	nexts(t, p, 10, 7)
	shuffles(t, p, 2, "[0,1]")
	used(t, p, 2)
}

// outOfRange of what Next is asked.
var outOfRange = []int{math.MinInt, math.MinInt + 1, -1 << 32, -most, -2, -1, 0, most + 1, most + 2, 1 << 32, 1<<32 + 1, math.MaxInt - 1, math.MaxInt}

// outOfShuffle are numbers that are not shuffled.
var outOfShuffle = []int{math.MinInt, math.MinInt + 1, -1 << 32, -tasks, -2, -1, tasks + 1, tasks + 2, most, most + 1, 1 << 32, 1<<32 + 1, math.MaxInt - 1, math.MaxInt}

// TestRefused: what is refused changes nothing, however often it is tried,
// when none is taken, some, and all.
func TestRefused(t *testing.T) {
	p := made(t, 5, 6, 7, 1, 1)
	refused := func(count int) {
		t.Helper()
		for range 40 {
			for _, n := range outOfRange {
				refuses(t, p, n)
				used(t, p, count)
			}
			for _, n := range outOfShuffle {
				refusesShuffle(t, p, n)
				used(t, p, count)
			}
		}
	}
	refused(0)
	nexts(t, p, 10, 5)
	refused(1)
	nexts(t, p, 10, 6)
	nexts(t, p, 10, 7)
	refused(3)
	shuffles(t, p, 3, "[0,2,1]")
	refused(5)
	nexts(t, p, 10, 0)
	shuffles(t, p, 3, "[1,2,0]")
	refused(5)
}

// TestAllThatMayBeAsked: of Next, and of Shuffle, which takes one fewer than
// it shuffles.
func TestAllThatMayBeAsked(t *testing.T) {
	for n := 1; n <= most; n++ {
		p := made(t, n-1, n, n+1)
		nexts(t, p, n, n-1)
		nexts(t, p, n, 0)
		nexts(t, p, n, 1%n)
		nexts(t, p, n, 0)
		used(t, p, 3)
	}
	for n := range tasks + 1 {
		p := made(t, rising(most)...)
		if l, err := p.Shuffle(n); err != nil || len(l) != n {
			t.Fatalf("Shuffle(%d): got %v %v", n, l, err)
		}
		used(t, p, max(n-1, 0))
	}
}

// TestMostShuffled: the greatest shuffle, with each changing places with
// itself, all with the first one, and with one above the first.
func TestMostShuffled(t *testing.T) {
	var itself []int
	for i := tasks - 1; i >= 1; i-- {
		itself = append(itself, i)
	}
	p := made(t, append(itself, 9)...)
	shuffles(t, p, tasks, words(rising(tasks)))
	used(t, p, tasks-1)
	nexts(t, p, 10, 9)

	first := append(rising(tasks)[1:], 0)
	p = made(t, make([]int, tasks-1)...)
	shuffles(t, p, tasks, words(first))
	used(t, p, tasks-1)
	shuffles(t, p, tasks, words(first))
	used(t, p, tasks-1)

	second := append([]int{0}, append(rising(tasks)[2:], 1)...)
	p = made(t, slices.Repeat([]int{1}, tasks-1)...)
	shuffles(t, p, tasks, words(second))
	used(t, p, tasks-1)
}

// TestNumbersEndOnTheWay: of the greatest shuffle, at each place.
func TestNumbersEndOnTheWay(t *testing.T) {
	for count := range tasks {
		// Those that the numbers reach stay; all the others change places
		// with the first one.
		var l []int
		for i := range count {
			l = append(l, tasks-1-i)
		}
		want := rising(tasks)
		rest := want[:tasks-count]
		copy(rest, rest[1:])
		rest[len(rest)-1] = 0
		p := made(t, l...)
		shuffles(t, p, tasks, words(want))
		used(t, p, count)
		shuffles(t, p, 2, "[1,0]")
		used(t, p, count)
	}
}

// TestBehindTheLength: what lies there is neither read nor written.
func TestBehindTheLength(t *testing.T) {
	back := []int{5, 6, 7, -1, -1}
	p := made(t, back[:3]...)
	nexts(t, p, 10, 5)
	shuffles(t, p, 4, "[3,0,1,2]")
	nexts(t, p, 10, 0)
	used(t, p, 3)
	if want := []int{5, 6, 7, -1, -1}; !slices.Equal(back, want) {
		t.Errorf("got %v, want %v", back, want)
	}
	used(t, made(t, rising(2 * most)[:most]...), 0)
}

// TestNothingHandedInIsWritten: neither by New nor by what comes behind it.
func TestNothingHandedInIsWritten(t *testing.T) {
	l := []int{3, 14, 15, 92, 65, 35}
	was := slices.Clone(l)
	p, err := New(l)
	if err != nil {
		t.Fatal(err)
	}
	nexts(t, p, 2, 1)
	refuses(t, p, 0)
	shuffles(t, p, 4, "[1,3,0,2]")
	shuffles(t, p, 4, "[3,0,2,1]")
	nexts(t, p, 2, 0)
	if !slices.Equal(l, was) {
		t.Errorf("got %v, want %v", l, was)
	}
	for _, wrong := range [][]int{{4, -1, 2}, append(rising(most), -1)} {
		was := slices.Clone(wrong)
		if _, err := New(wrong); err == nil || !slices.Equal(wrong, was) {
			t.Errorf("got %v %v, want %v", wrong, err, was)
		}
	}
}

// TestNothingHandedInIsKept: what becomes of the list, the picks do not feel.
func TestNothingHandedInIsKept(t *testing.T) {
	l := []int{5, 6, 7, 1, 0, 8}
	p, err := New(l)
	if err != nil {
		t.Fatal(err)
	}
	spoil(l)
	nexts(t, p, 10, 5)
	clear(l)
	nexts(t, p, 10, 6)
	l[2] = -1
	nexts(t, p, 10, 7)
	l[3], l[4] = 2, 1
	shuffles(t, p, 3, "[2,0,1]")
	l[5] = 3
	nexts(t, p, 10, 8)
	nexts(t, p, 10, 0)
	used(t, p, 6)
}

// spoil a list, with what lies behind its length.
func spoil(l []int) {
	l = l[:cap(l)]
	for i := range l {
		l[i] = 99
	}
}

// TestWhatIsToldIsTheCallers: neither the picks nor another list shares the
// memory of a list that was told, even of an empty one.
func TestWhatIsToldIsTheCallers(t *testing.T) {
	p := made(t, rising(60)...)
	var told [][]int
	var want []string
	keep := func(n int) {
		l, _ := p.Shuffle(n)
		told = append(told, l)
		want = append(want, words(l))
	}
	for range 4 {
		for _, n := range []int{0, 1, 2, 5, 5, 8, -1, 31} {
			keep(n)
		}
	}
	keep(tasks)
	for i, l := range told {
		if got := words(l); got != want[i] {
			t.Errorf("list %d was %s, and is %s", i, want[i], got)
		}
		spoil(l)
	}
}

// TestSpoiledListsAreNotFelt: what was told is spoiled at once, and all goes
// on as it would.
func TestSpoiledListsAreNotFelt(t *testing.T) {
	p := made(t, 1, 0, 2, 1, 5)
	for _, want := range []string{"[2,0,1]", "[0,1,2]"} {
		l, err := p.Shuffle(3)
		if err != nil || words(l) != want {
			t.Fatalf("got %v %v, want %s", l, err, want)
		}
		spoil(l)
	}
	used(t, p, 4)
	nexts(t, p, 10, 5)
	l, _ := p.Shuffle(3)
	spoil(l)
	shuffles(t, p, 3, "[1,2,0]")
	used(t, p, 5)
}

// TestPicksAreApart: what one takes, no other one of that list tells.
func TestPicksAreApart(t *testing.T) {
	l := []int{5, 1, 0, 6}
	a, b := made(t, l...), made(t, l...)
	nexts(t, a, 10, 5)
	used(t, b, 0)
	shuffles(t, a, 3, "[2,0,1]")
	nexts(t, b, 10, 5)
	nexts(t, b, 10, 1)
	used(t, a, 3)
	used(t, b, 2)
	nexts(t, a, 10, 6)
	nexts(t, b, 10, 0)
	nexts(t, b, 10, 6)
	used(t, made(t, l...), 0)
}
