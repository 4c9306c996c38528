package park

import (
	"math"
	"slices"
	"strconv"
	"strings"
	"testing"

	"yardgang/api"
	"yardgang/plain"
)

// made park, of which these fell asleep, in this order.
func made(t *testing.T, hands int, l ...int) *Park {
	t.Helper()
	p, err := New(hands)
	if err != nil || p == nil {
		t.Fatalf("New(%d): got %v %v", hands, p, err)
	}
	for _, h := range l {
		sleeps(t, p, h)
	}
	return p
}

// sleeps: a hand that is awake falls asleep.
func sleeps(t *testing.T, p *Park, h int) {
	t.Helper()
	if err := p.Sleep(h); err != nil {
		t.Fatalf("Sleep(%d): got %v", h, err)
	}
}

// refuses to have a hand fall asleep.
func refuses(t *testing.T, p *Park, h int, want api.Errno) {
	t.Helper()
	if err := p.Sleep(h); plain.Told(err) != want {
		t.Fatalf("Sleep(%d): got %v, want %v", h, err, want)
	}
}

// wakes so many, and holds which they are against what is wanted.
func wakes(t *testing.T, p *Park, n int, want ...int) {
	t.Helper()
	if got, err := p.Wake(n); err != nil || !slices.Equal(got, want) {
		t.Fatalf("Wake(%d): got %v %v, want %v", n, got, err, want)
	}
}

// wakesNone, as n is below 0.
func wakesNone(t *testing.T, p *Park, n int) {
	t.Helper()
	if got, err := p.Wake(n); len(got) != 0 || plain.Told(err) != api.ErrRange {
		t.Fatalf("Wake(%d): got %v %v", n, got, err)
	}
}

// stands tells a fault if others sleep than these, a letter a hand: z sleeps,
// a is awake; or Many tells something else of them, or there are more hands.
func stands(t *testing.T, p *Park, states string) {
	t.Helper()
	if got := standing(t, p, len(states)); got != states {
		t.Fatalf("got %s, want %s", got, states)
	}
}

// standing of so many hands: a letter each. Many is held against them.
func standing(t *testing.T, p *Park, hands int) string {
	t.Helper()
	states := ""
	for h := range hands {
		awake, err := p.Awake(h)
		if err != nil {
			t.Fatalf("Awake(%d): got %v", h, err)
		}
		if awake {
			states += "a"
		} else {
			states += "z"
		}
	}
	for _, none := range []int{-1, hands} {
		if awake, err := p.Awake(none); awake || plain.Told(err) != api.ErrRange {
			t.Fatalf("Awake(%d) of %d: got %v %v", none, hands, awake, err)
		}
	}
	if got := p.Many(); got != strings.Count(states, "z") {
		t.Fatalf("Many: got %d, and the hands are %s", got, states)
	}
	return states
}

// words of a list, with commas between them.
func words(l []int) string {
	var w []string
	for _, n := range l {
		w = append(w, strconv.Itoa(n))
	}
	return "[" + strings.Join(w, ",") + "]"
}

// play calls, and tell the answers, each with how the hands stand behind it:
// s2 is Sleep, w2 Wake.
func play(t *testing.T, hands int, calls string) string {
	t.Helper()
	p := made(t, hands)
	told := []string{standing(t, p, hands)}
	for call := range strings.FieldsSeq(calls) {
		n, err := strconv.Atoi(call[1:])
		if err != nil {
			t.Fatal(err)
		}
		answer := ""
		switch call[0] {
		case 's':
			err = p.Sleep(n)
		case 'w':
			var l []int
			l, err = p.Wake(n)
			answer = words(l)
		default:
			t.Fatalf("no call: %s", call)
		}
		if err != nil {
			answer += plain.Told(err).Error()
		}
		told = append(told, answer+":"+standing(t, p, hands))
	}
	return strings.Join(told, " ")
}

func TestRuns(t *testing.T) {
	for _, c := range []struct {
		hands       int
		calls, want string
	}{
		// One that was just made: none sleeps.
		{1, "", "a"},
		{6, "", "aaaaaa"},
		{3, "w0 w1 w3 w9", "aaa []:aaa []:aaa []:aaa []:aaa"},

		// One hand.
		{1, "s0 w1", "a :z [0]:a"},
		{1, "s0 s0 w1 w1 s0", "a :z ErrState:z [0]:a []:a :z"},
		{1, "s1 s-1 s0 s1 s-1", "a ErrRange:a ErrRange:a :z ErrRange:z ErrRange:z"},

		// They wake in the order in which they fell asleep, not in that of
		// their numbers.
		{3, "s0 s1 s2 w3", "aaa :zaa :zza :zzz [0,1,2]:aaa"},
		{3, "s2 s1 s0 w3", "aaa :aaz :azz :zzz [2,1,0]:aaa"},
		{3, "s1 s2 s0 w1 w1 w1", "aaa :aza :azz :zzz [1]:zaz [2]:zaa [0]:aaa"},
		{6, "s3 s5 s0 s4 s1 s2 w6", "aaaaaa :aaazaa :aaazaz :zaazaz :zaazzz :zzazzz :zzzzzz [3,5,0,4,1,2]:aaaaaa"},

		// Some, and then the others.
		{4, "s3 s0 s2 w2 w2", "aaaa :aaaz :zaaz :zazz [3,0]:aaza [2]:aaaa"},
		{4, "s3 s0 s2 w1 w2 w1", "aaaa :aaaz :zaaz :zazz [3]:zaza [0,2]:aaaa []:aaaa"},

		// None, as many as sleep, and more.
		{3, "s1 w0 s2 w0 w2", "aaa :aza []:aza :azz []:azz [1,2]:aaa"},
		{3, "s1 s2 w3 w1", "aaa :aza :azz [1,2]:aaa []:aaa"},
		{3, "s2 s0 w100 w0", "aaa :aaz :zaz [2,0]:aaa []:aaa"},

		// One that woke and fell asleep again is behind those that slept on.
		{3, "s0 s1 w1 s0 w1 w1", "aaa :zaa :zza [0]:aza :zza [1]:zaa [0]:aaa"},
		{3, "s0 s1 s2 w2 s1 s0 w3", "aaa :zaa :zza :zzz [0,1]:aaz :azz :zzz [2,1,0]:aaa"},
		{2, "s1 s0 w1 s1 w1 s0 w1 s1 w2", "aa :az :zz [1]:za :zz [0]:az :zz [1]:za :zz [0,1]:aa"},
		{4, "s2 w1 s1 s2 s3 w1 s1 s0 w4", "aaaa :aaza [2]:aaaa :azaa :azza :azzz [1]:aazz :azzz :zzzz [2,3,1,0]:aaaa"},

		// One that sleeps does not fall asleep again, and keeps its place.
		{3, "s0 s1 s0 w1 s0 w2", "aaa :zaa :zza ErrState:zza [0]:aza :zza [1,0]:aaa"},
		{3, "s2 s2 s1 s2 s1 w3", "aaa :aaz ErrState:aaz :azz ErrState:azz ErrState:azz [2,1]:aaa"},

		// Hands that are none, and an n below 0.
		{2, "s2 s-1 s1 s2 w-1 w2", "aa ErrRange:aa ErrRange:aa :az ErrRange:az []ErrRange:az [1]:aa"},
		{2, "w-1 s0 w-1 s1 w-2 w1 w-1 w1", "aa []ErrRange:aa :za []ErrRange:za :zz []ErrRange:zz [0]:az []ErrRange:az [1]:aa"},
		{6, "s5 s6 s7 w1", "aaaaaa :aaaaaz ErrRange:aaaaaz ErrRange:aaaaaz [5]:aaaaaa"},
	} {
		if got := play(t, c.hands, c.calls); got != c.want {
			t.Errorf("%d hands: %s: got %s, want %s", c.hands, c.calls, got, c.want)
		}
	}
}

// TestHands: with each number of hands that there may be, each of them falls
// asleep, and wakes.
func TestHands(t *testing.T) {
	if api.MaxHands != 6 {
		t.Fatal("there are 6 hands at most")
	}
	for hands := 1; hands <= 6; hands++ {
		p := made(t, hands)
		for h := range hands {
			stands(t, p, strings.Repeat("z", h)+strings.Repeat("a", hands-h))
			sleeps(t, p, h)
		}
		stands(t, p, strings.Repeat("z", hands))
		for h := range hands {
			wakes(t, p, 1, h)
			stands(t, p, strings.Repeat("a", h+1)+strings.Repeat("z", hands-h-1))
		}
	}
}

func TestHandsThatAreTooFewOrTooMany(t *testing.T) {
	for _, hands := range []int{0, -1, -2, -6, -7, 7, 8, 30, 257, 1 << 16, 1<<32 + 1, 1<<32 + 6, -1<<32 + 1, math.MaxInt, math.MaxInt - 1, math.MinInt, math.MinInt + 1} {
		if p, err := New(hands); p != nil || plain.Told(err) != api.ErrRange {
			t.Errorf("New(%d): got %v %v", hands, p, err)
		}
	}
}

// strange numbers, that are no hand of so many; some are one in their last
// bits.
func strange(hands int) []int {
	return []int{
		-1, -2, -hands, -hands - 1, -1 << 8, -1 << 31, -1 << 32, -1<<32 + 1, math.MinInt, math.MinInt + 1,
		hands, hands + 1, 2 * hands, 6, 7, 1 << 6, 1 << 8, 1<<8 + 1, 1 << 16, 1 << 31, 1 << 32, 1<<32 + 1, math.MaxInt - 1, math.MaxInt,
	}
}

// TestHandsThatAreNone: ErrRange, and nothing changes, whoever sleeps: also
// where all do, so that no hand could fall asleep, and ErrState isn't told.
func TestHandsThatAreNone(t *testing.T) {
	for hands := 1; hands <= 6; hands++ {
		p := made(t, hands)
		var asleep []int
		for h := hands; h >= 0; h-- {
			if h < hands {
				sleeps(t, p, h)
				asleep = append(asleep, h)
			}
			states := strings.Repeat("a", h) + strings.Repeat("z", hands-h)
			for _, none := range strange(hands) {
				refuses(t, p, none, api.ErrRange)
				if awake, err := p.Awake(none); awake || plain.Told(err) != api.ErrRange {
					t.Fatalf("%s: Awake(%d): got %v %v", states, none, awake, err)
				}
				stands(t, p, states)
			}
		}
		wakes(t, p, hands, asleep...)
	}
}

// TestHowManyWake: with none asleep, some and all, each n around how many
// there are, and the greatest that there is.
func TestHowManyWake(t *testing.T) {
	for hands := 1; hands <= 6; hands++ {
		for count := range hands + 1 {
			var order []int
			for i := range count {
				order = append(order, (hands+2-i)%hands)
			}
			for _, n := range []int{0, 1, 2, 3, 4, 5, 6, 7, count, hands, hands + 1, 1 << 8, 1<<8 + 1, 1 << 16, 1 << 31, 1 << 32, 1<<32 + 1, math.MaxInt - 1, math.MaxInt} {
				p := made(t, hands, order...)
				woken := min(n, count)
				wakes(t, p, n, order[:woken]...)
				for h := range hands {
					awake, err := p.Awake(h)
					if err != nil || awake == slices.Contains(order[woken:], h) {
						t.Fatalf("%v asleep, Wake(%d): Awake(%d): got %v %v", order, n, h, awake, err)
					}
				}
				if got := p.Many(); got != count-woken {
					t.Fatalf("%v asleep, Wake(%d): Many: got %d", order, n, got)
				}
				wakes(t, p, hands, order[woken:]...)
			}
		}
	}
}

// TestWakeBelowNone: nobody wakes, whoever sleeps.
func TestWakeBelowNone(t *testing.T) {
	for _, c := range []struct {
		states string
		order  []int
	}{
		{"a", nil},
		{"z", []int{0}},
		{"aaa", nil},
		{"aza", []int{1}},
		{"zaz", []int{2, 0}},
		{"zzz", []int{1, 2, 0}},
		{"zzzzzz", []int{5, 4, 3, 0, 1, 2}},
	} {
		p := made(t, len(c.states), c.order...)
		for _, n := range []int{-1, -2, -3, -6, -7, -1 << 8, -1<<8 + 1, -1 << 31, -1 << 32, -1<<32 + 1, math.MinInt + 1, math.MinInt} {
			wakesNone(t, p, n)
			stands(t, p, c.states)
		}
		wakes(t, p, math.MaxInt, c.order...)
	}
}

// TestRefused: what is refused changes nothing, however often it is tried.
func TestRefused(t *testing.T) {
	p := made(t, 3)
	refused := func(states string) {
		t.Helper()
		for range 40 {
			for h, c := range states {
				if c == 'z' {
					refuses(t, p, h, api.ErrState)
				}
			}
			refuses(t, p, -1, api.ErrRange)
			refuses(t, p, 3, api.ErrRange)
			wakesNone(t, p, -1)
			stands(t, p, states)
		}
	}
	refused("aaa")
	sleeps(t, p, 2)
	refused("aaz")
	sleeps(t, p, 0)
	refused("zaz")
	sleeps(t, p, 1)
	refused("zzz")
	wakes(t, p, 1, 2)
	refused("zza")
	sleeps(t, p, 2)
	refused("zzz")
	wakes(t, p, 2, 0, 1)
	refused("aaz")
	wakes(t, p, 2, 2)
	refused("aaa")
}

// TestAskingChangesNothing: it may be asked as often as one likes, and none
// may be woken as often.
func TestAskingChangesNothing(t *testing.T) {
	p := made(t, 4, 3, 1)
	for range 40 {
		stands(t, p, "azaz")
		wakes(t, p, 0)
	}
	wakes(t, p, 1, 3)
	for range 40 {
		stands(t, p, "azaa")
		wakes(t, p, 0)
	}
	wakes(t, p, 4, 1)
	for range 40 {
		stands(t, p, "aaaa")
		wakes(t, p, 4)
	}
}

// spoil a list, with what lies behind its length.
func spoil(l []int) {
	l = l[:cap(l)]
	for i := range l {
		l[i] = 99
	}
}

// TestWhatIsToldIsTheCallers: neither the park nor another list shares the
// memory of a list that Wake told, even of an empty one.
func TestWhatIsToldIsTheCallers(t *testing.T) {
	for n := range 4 {
		p := made(t, 6, 5, 4, 3, 2, 1, 0)
		first, err := p.Wake(n)
		if err != nil {
			t.Fatal(err)
		}
		second, err := p.Wake(n)
		if err != nil {
			t.Fatal(err)
		}
		order := []int{5, 4, 3, 2, 1, 0}
		for _, h := range order[:2*n] {
			sleeps(t, p, h)
		}
		if !slices.Equal(first, order[:n]) || !slices.Equal(second, order[n:2*n]) {
			t.Fatalf("Wake(%d): the park wrote into what it told: %v %v", n, first, second)
		}
		spoil(first)
		if !slices.Equal(second, order[n:2*n]) {
			t.Fatalf("Wake(%d): two lists share memory: %v", n, second)
		}
		spoil(second)
		stands(t, p, "zzzzzz")
		wakes(t, p, 6, append(slices.Clone(order[2*n:]), order[:2*n]...)...)
		spoil(first)
		spoil(second)
		stands(t, p, "aaaaaa")
	}
}

// TestParksAreApart: what one is asked, no other one tells.
func TestParksAreApart(t *testing.T) {
	a, b := made(t, 3, 2, 0), made(t, 3)
	stands(t, a, "zaz")
	stands(t, b, "aaa")
	wakes(t, b, 3)
	stands(t, a, "zaz")
	sleeps(t, b, 1)
	sleeps(t, b, 0)
	refuses(t, b, 0, api.ErrState)
	stands(t, a, "zaz")
	sleeps(t, a, 1)
	wakes(t, a, 2, 2, 0)
	stands(t, b, "zza")
	stands(t, a, "aza")
	wakes(t, b, 2, 1, 0)
	stands(t, a, "aza")
	wakes(t, a, 3, 1)
	stands(t, made(t, 3), "aaa")
	stands(t, made(t, 6), "aaaaaa")
	sleeps(t, made(t, 1), 0)
	stands(t, made(t, 1), "a")
}

// TestNothingIsKept: who woke does not stand behind those that sleep, and
// however long a park is used it does not grow.
func TestNothingIsKept(t *testing.T) {
	p := made(t, 6)
	for i := range 10_000 {
		sleeps(t, p, 1+i%5)
		if i >= 3 {
			wakes(t, p, 1, 1+(i-3)%5)
		}
		for _, h := range p.asleep[len(p.asleep):cap(p.asleep)] {
			if h != 0 {
				t.Fatalf("step %d: behind those that sleep stands %d", i, h)
			}
		}
	}
	if got := cap(p.asleep); got > 2*api.MaxHands {
		t.Errorf("there are places for %d", got)
	}
}
