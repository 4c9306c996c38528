package log

import (
	"slices"
	"strconv"
	"strings"
	"testing"

	"yardgang/api"
	"yardgang/plain"
	"yardgang/plan"
)

// size of each record.
const size = 2

// most tasks that there may be.
const most = 30

// made log of a plan that is right.
func made(t *testing.T, p api.Plan) *Log {
	t.Helper()
	l, err := New(p)
	if err != nil || l == nil {
		t.Fatalf("New(%v): got %v %v", p, l, err)
	}
	return l
}

// parsed plan.
func parsed(t *testing.T, text string) api.Plan {
	t.Helper()
	p, err := plan.Parse(text)
	if err != nil {
		t.Fatal(text, err)
	}
	return p
}

// read a log of a plan by its text.
func read(t *testing.T, text string) *Log {
	t.Helper()
	return made(t, parsed(t, text))
}

// words of a list.
func words(l []int) string {
	var w []string
	for _, n := range l {
		w = append(w, strconv.Itoa(n))
	}
	return strings.Join(w, " ")
}

// standing of a log: those that are done, those that are ready, how many bytes
// there are, and how many of them are safe.
func standing(l *Log) string {
	return words(l.All()) + " | " + words(l.Ready()) + " | " + words([]int{l.Bytes(), l.Safe()})
}

// stands tells a fault if a log stands otherwise.
func stands(t *testing.T, l *Log, want string) {
	t.Helper()
	if got := standing(l); got != want {
		t.Fatalf("got %q, want %q", got, want)
	}
}

// does calls, one word each: dN is Done, s is Sync, fN is Fail, cN is Crash.
// It tells what the last one of them said.
func does(t *testing.T, l *Log, calls string) api.Errno {
	t.Helper()
	said := api.OK
	for call := range strings.FieldsSeq(calls) {
		if call == "s" {
			said = plain.Told(l.Sync())
			continue
		}
		n, err := strconv.Atoi(call[1:])
		if err != nil {
			t.Fatal(call, err)
		}
		said = api.OK
		switch call[0] {
		case 'd':
			said = plain.Told(l.Done(n))
		case 'f':
			l.Fail(n)
		case 'c':
			l.Crash(n)
		default:
			t.Fatal(call)
		}
	}
	return said
}

// play calls, each with what it says, and how the log stands behind it. An
// answer that is not named is OK.
func play(t *testing.T, text string, lines ...string) {
	t.Helper()
	l := read(t, text)
	for i, line := range lines {
		call, want, _ := strings.Cut(line, ": ")
		call, name, named := strings.Cut(call, " ")
		if !named {
			name = "OK"
		}
		said := does(t, l, call)
		if got := standing(l); said.Error() != name || got != want {
			t.Fatalf("%q, line %d: %s: got %v, %q, want %s, %q", text, i, call, said, got, name, want)
		}
	}
}

// TestNew: nothing is done, nothing is there.
func TestNew(t *testing.T) {
	stands(t, made(t, nil), " |  | 0 0")
	stands(t, made(t, api.Plan{}), " |  | 0 0")
	stands(t, read(t, "1"), " | 0 | 0 0")
	stands(t, read(t, "1 1<0 1"), " | 0 2 | 0 0")
	stands(t, read(t, "20<2 3<0,2 1"), " | 2 | 0 0")
}

// TestDone: each makes a record, and none of it is safe.
func TestDone(t *testing.T) {
	play(t, "1", "d0: 0 |  | 2 0")
	play(t, "1 1 1",
		"d2: 2 | 0 1 | 2 0",
		"d0: 2 0 | 1 | 4 0",
		"d1: 2 0 1 |  | 6 0",
	)
	play(t, "3 2<0 1<0 4<1,2",
		"d0: 0 | 1 2 | 2 0",
		"d2: 0 2 | 1 | 4 0",
		"d1: 0 2 1 | 3 | 6 0",
		"d3: 0 2 1 3 |  | 8 0",
	)
}

// TestDoneRefused: it leaves no byte.
func TestDoneRefused(t *testing.T) {
	play(t, "", "d0 ErrRange:  |  | 0 0", "d-1 ErrRange:  |  | 0 0")
	play(t, "1 1<0",
		"d1 ErrState:  | 0 | 0 0",
		"d2 ErrRange:  | 0 | 0 0",
		"d-1 ErrRange:  | 0 | 0 0",
		"d0: 0 | 1 | 2 0",
		"d0 ErrState: 0 | 1 | 2 0",
		"d2 ErrRange: 0 | 1 | 2 0",
		"s: 0 | 1 | 2 2",
		"d0 ErrState: 0 | 1 | 2 2",
		"d-1 ErrRange: 0 | 1 | 2 2",
		"d1: 0 1 |  | 4 2",
		"d1 ErrState: 0 1 |  | 4 2",
		"d0 ErrState: 0 1 |  | 4 2",
	)
}

// TestSync: all that is there is safe, and nothing that comes behind it.
func TestSync(t *testing.T) {
	play(t, "", "s:  |  | 0 0", "s:  |  | 0 0")
	play(t, "1 1 1",
		"s:  | 0 1 2 | 0 0",
		"d1: 1 | 0 2 | 2 0",
		"s: 1 | 0 2 | 2 2",
		"s: 1 | 0 2 | 2 2",
		"d2: 1 2 | 0 | 4 2",
		"d0: 1 2 0 |  | 6 2",
		"s: 1 2 0 |  | 6 6",
	)
}

// TestFailNext: half a record is there, and none is done by it.
func TestFailNext(t *testing.T) {
	play(t, "1 1<0",
		"f0:  | 0 | 0 0",
		"d0 ErrState:  | 0 | 1 0",
		"d0 ErrState:  | 0 | 1 0",
		"d1 ErrState:  | 0 | 1 0",
		"d-1 ErrState:  | 0 | 1 0",
		"d2 ErrState:  | 0 | 1 0",
		"s ErrState:  | 0 | 1 0",
	)
	play(t, "1 1<0 1<1",
		"d0: 0 | 1 | 2 0",
		"s: 0 | 1 | 2 2",
		"d1: 0 1 | 2 | 4 2",
		"f0: 0 1 | 2 | 4 2",
		"d2 ErrState: 0 1 | 2 | 5 2",
		"s ErrState: 0 1 | 2 | 5 2",
		"d2 ErrState: 0 1 | 2 | 5 2",
		"d0 ErrState: 0 1 | 2 | 5 2",
	)
}

// TestFailSync: it makes nothing safe.
func TestFailSync(t *testing.T) {
	play(t, "", "f0:  |  | 0 0", "s ErrState:  |  | 0 0", "d0 ErrState:  |  | 0 0", "c0:  |  | 0 0", "d0 ErrRange:  |  | 0 0", "s:  |  | 0 0")
	play(t, "1 1",
		"d0: 0 | 1 | 2 0",
		"f0: 0 | 1 | 2 0",
		"s ErrState: 0 | 1 | 2 0",
		"s ErrState: 0 | 1 | 2 0",
		"d1 ErrState: 0 | 1 | 2 0",
	)
	play(t, "1 1",
		"d0: 0 | 1 | 2 0",
		"s: 0 | 1 | 2 2",
		"f0: 0 | 1 | 2 2",
		"s ErrState: 0 | 1 | 2 2",
	)
}

// TestFailLater: steps are told by their number, whether a Done or a Sync; a
// Done that is refused is none.
func TestFailLater(t *testing.T) {
	play(t, "1 1<0 1<1",
		"f1:  | 0 | 0 0",
		"d0: 0 | 1 | 2 0",
		"d1 ErrState: 0 | 1 | 3 0",
	)
	play(t, "1 1<0 1<1",
		"f1:  | 0 | 0 0",
		"s:  | 0 | 0 0",
		"d0 ErrState:  | 0 | 1 0",
	)
	play(t, "1 1<0 1<1",
		"f1:  | 0 | 0 0",
		"d0: 0 | 1 | 2 0",
		"s ErrState: 0 | 1 | 2 0",
	)
	play(t, "1 1<0 1<1",
		"f3:  | 0 | 0 0",
		"d1 ErrState:  | 0 | 0 0",
		"d0: 0 | 1 | 2 0",
		"d0 ErrState: 0 | 1 | 2 0",
		"d3 ErrRange: 0 | 1 | 2 0",
		"s: 0 | 1 | 2 2",
		"d-1 ErrRange: 0 | 1 | 2 2",
		"d1: 0 1 | 2 | 4 2",
		"d1 ErrState: 0 1 | 2 | 4 2",
		"d0 ErrState: 0 1 | 2 | 4 2",
		"d9 ErrRange: 0 1 | 2 | 4 2",
		"d2 ErrState: 0 1 | 2 | 5 2",
		"d9 ErrState: 0 1 | 2 | 5 2",
	)
}

// TestFailRefusedIsNoStep: though it is the next one that stops it, a Done that
// is refused by the join is not it.
func TestFailRefusedIsNoStep(t *testing.T) {
	play(t, "1 1<0",
		"f0:  | 0 | 0 0",
		"d1 ErrState:  | 0 | 0 0",
		"d2 ErrRange:  | 0 | 0 0",
		"f-1:  | 0 | 0 0",
		"d0: 0 | 1 | 2 0",
		"f0: 0 | 1 | 2 0",
		"d0 ErrState: 0 | 1 | 2 0",
		"d-1 ErrRange: 0 | 1 | 2 0",
		"d1 ErrState: 0 | 1 | 3 0",
		"d-1 ErrState: 0 | 1 | 3 0",
	)
}

// TestFailNever: below 0, at first or in place of another one.
func TestFailNever(t *testing.T) {
	for _, fail := range []string{"f-1", "f-2", "f-1000", "f0 f-1", "f1 f-1", "f2 f-7", "f0 f1 f2 f-1"} {
		l := read(t, "1 1 1")
		if said := does(t, l, fail+" d0 s d1 s s d2 s d2"); said != api.ErrState {
			t.Errorf("%s: a Done of what is done said %v", fail, said)
		}
		stands(t, l, "0 1 2 |  | 6 6")
		if said := does(t, l, "s"); said != api.OK {
			t.Errorf("%s: Sync said %v", fail, said)
		}
	}
}

// TestFailBehindFail: the new one takes the place of the one ahead, and counts
// from where it is said.
func TestFailBehindFail(t *testing.T) {
	play(t, "1 1 1",
		"f0:  | 0 1 2 | 0 0",
		"f2:  | 0 1 2 | 0 0",
		"d0: 0 | 1 2 | 2 0",
		"f1: 0 | 1 2 | 2 0",
		"d1: 0 1 | 2 | 4 0",
		"f1: 0 1 | 2 | 4 0",
		"s: 0 1 | 2 | 4 4",
		"d2 ErrState: 0 1 | 2 | 5 4",
	)
	play(t, "1 1 1",
		"f5:  | 0 1 2 | 0 0",
		"d0: 0 | 1 2 | 2 0",
		"f0: 0 | 1 2 | 2 0",
		"d1 ErrState: 0 | 1 2 | 3 0",
	)
	play(t, "1 1 1",
		"f-1:  | 0 1 2 | 0 0",
		"s:  | 0 1 2 | 0 0",
		"f0:  | 0 1 2 | 0 0",
		"s ErrState:  | 0 1 2 | 0 0",
	)
}

// TestFailOfWhatHasStopped: it does not go on by it, and behind a Crash it is
// forgotten.
func TestFailOfWhatHasStopped(t *testing.T) {
	for _, fail := range []string{"f-1", "f-100", "f0", "f1", "f2", "f1000", "f3 f-1", "f-1 f0"} {
		for _, stop := range []string{"f1 d0 d1", "d0 f0 d1"} {
			l := read(t, "1 1 1")
			does(t, l, stop+" "+fail)
			for _, call := range strings.Fields("d1 d0 d3 d-1 s d1 s") {
				if said := does(t, l, call); said != api.ErrState {
					t.Errorf("%s %s %s: said %v", stop, fail, call, said)
				}
				stands(t, l, "0 | 1 2 | 3 0")
			}
			does(t, l, "c100")
			stands(t, l, "0 | 1 2 | 2 2")
			for _, call := range strings.Fields("d1 s d2 s s") {
				if said := does(t, l, call); said != api.OK {
					t.Errorf("%s %s, behind a Crash: %s said %v", stop, fail, call, said)
				}
			}
			stands(t, l, "0 1 2 |  | 6 6")
		}
	}
}

// TestCrash: of what is not safe whole records are left, as far as they are kept.
func TestCrash(t *testing.T) {
	for _, c := range []struct{ calls, want string }{
		// With nothing in it.
		{"c-1", " | 0 3 | 0 0"},
		{"c0", " | 0 3 | 0 0"},
		{"c1", " | 0 3 | 0 0"},
		{"c100", " | 0 3 | 0 0"},
		{"s c0", " | 0 3 | 0 0"},

		// Nothing is safe.
		{"d0 d1 d3 c-1", " | 0 3 | 0 0"},
		{"d0 d1 d3 c0", " | 0 3 | 0 0"},
		{"d0 d1 d3 c1", " | 0 3 | 0 0"},
		{"d0 d1 d3 c2", "0 | 1 3 | 2 2"},
		{"d0 d1 d3 c3", "0 | 1 3 | 2 2"},
		{"d0 d1 d3 c4", "0 1 | 2 3 | 4 4"},
		{"d0 d1 d3 c5", "0 1 | 2 3 | 4 4"},
		{"d0 d1 d3 c6", "0 1 3 | 2 | 6 6"},
		{"d0 d1 d3 c7", "0 1 3 | 2 | 6 6"},

		// All is safe.
		{"d0 d3 s c-1", "0 3 | 1 | 4 4"},
		{"d0 d3 s c0", "0 3 | 1 | 4 4"},
		{"d0 d3 s c1", "0 3 | 1 | 4 4"},
		{"d0 d3 s c4", "0 3 | 1 | 4 4"},

		// What is kept counts from what is safe.
		{"d3 s d0 d1 c-9", "3 | 0 | 2 2"},
		{"d3 s d0 d1 c0", "3 | 0 | 2 2"},
		{"d3 s d0 d1 c1", "3 | 0 | 2 2"},
		{"d3 s d0 d1 c2", "3 0 | 1 | 4 4"},
		{"d3 s d0 d1 c3", "3 0 | 1 | 4 4"},
		{"d3 s d0 d1 c4", "3 0 1 | 2 | 6 6"},
		{"d3 s d0 d1 c5", "3 0 1 | 2 | 6 6"},

		// Half a record at its end.
		{"f0 d0 c-1", " | 0 3 | 0 0"},
		{"f0 d0 c0", " | 0 3 | 0 0"},
		{"f0 d0 c1", " | 0 3 | 0 0"},
		{"f0 d0 c2", " | 0 3 | 0 0"},
		{"d0 s f0 d1 c0", "0 | 1 3 | 2 2"},
		{"d0 s f0 d1 c1", "0 | 1 3 | 2 2"},
		{"d0 s f0 d1 c9", "0 | 1 3 | 2 2"},
		{"d0 s d3 f0 d1 c1", "0 | 1 3 | 2 2"},
		{"d0 s d3 f0 d1 c2", "0 3 | 1 | 4 4"},
		{"d0 s d3 f0 d1 c3", "0 3 | 1 | 4 4"},
		{"d0 s d3 f0 d1 c4", "0 3 | 1 | 4 4"},

		// A Sync that stops leaves what was not safe to be lost.
		{"d0 f0 s c0", " | 0 3 | 0 0"},
		{"d0 s d1 f0 s c0", "0 | 1 3 | 2 2"},
		{"d0 s d1 f0 s c2", "0 1 | 2 3 | 4 4"},
	} {
		l := read(t, "1 1<0 1<1 1")
		if said := does(t, l, c.calls); said != api.OK {
			t.Fatalf("%s: said %v", c.calls, said)
		}
		if got := standing(l); got != c.want {
			t.Errorf("%s: got %q, want %q", c.calls, got, c.want)
		}
	}
}

// TestCrashGoesOn: what was lost may be done again, in another order.
func TestCrashGoesOn(t *testing.T) {
	play(t, "1 1<0 1<1 1",
		"d3: 3 | 0 | 2 0",
		"s: 3 | 0 | 2 2",
		"d0: 3 0 | 1 | 4 2",
		"d1: 3 0 1 | 2 | 6 2",
		"c2: 3 0 | 1 | 4 4",
		"d3 ErrState: 3 0 | 1 | 4 4",
		"d0 ErrState: 3 0 | 1 | 4 4",
		"d2 ErrState: 3 0 | 1 | 4 4",
		"d4 ErrRange: 3 0 | 1 | 4 4",
		"d1: 3 0 1 | 2 | 6 4",
		"c0: 3 0 | 1 | 4 4",
		"c100: 3 0 | 1 | 4 4",
		"d1: 3 0 1 | 2 | 6 4",
		"d2: 3 0 1 2 |  | 8 4",
		"s: 3 0 1 2 |  | 8 8",
		"c-1: 3 0 1 2 |  | 8 8",
		"d2 ErrState: 3 0 1 2 |  | 8 8",
	)
	play(t, "1 1 1",
		"d0: 0 | 1 2 | 2 0",
		"d1: 0 1 | 2 | 4 0",
		"c1:  | 0 1 2 | 0 0",
		"d2: 2 | 0 1 | 2 0",
		"d1: 2 1 | 0 | 4 0",
		"c2: 2 | 0 1 | 2 2",
		"d0: 2 0 | 1 | 4 2",
		"d1: 2 0 1 |  | 6 2",
	)
}

// TestCrashForgetsFail: whether it has stopped by it or not.
func TestCrashForgetsFail(t *testing.T) {
	play(t, "1 1 1",
		"f0:  | 0 1 2 | 0 0",
		"c0:  | 0 1 2 | 0 0",
		"d0: 0 | 1 2 | 2 0",
		"f0: 0 | 1 2 | 2 0",
		"s ErrState: 0 | 1 2 | 2 0",
		"c2: 0 | 1 2 | 2 2",
		"d1: 0 1 | 2 | 4 2",
		"f1: 0 1 | 2 | 4 2",
		"s: 0 1 | 2 | 4 4",
		"c0: 0 1 | 2 | 4 4",
		"s: 0 1 | 2 | 4 4",
		"d2: 0 1 2 |  | 6 4",
		"s: 0 1 2 |  | 6 6",
	)
	play(t, "1 1 1",
		"f0:  | 0 1 2 | 0 0",
		"d0 ErrState:  | 0 1 2 | 1 0",
		"c100:  | 0 1 2 | 0 0",
		"d0: 0 | 1 2 | 2 0",
		"f1: 0 | 1 2 | 2 0",
		"d1: 0 1 | 2 | 4 0",
		"d2 ErrState: 0 1 | 2 | 5 0",
		"c5: 0 1 | 2 | 4 4",
		"s: 0 1 | 2 | 4 4",
		"d2: 0 1 2 |  | 6 4",
	)
}

// TestAskingChangesNothing: it may be asked as often as one likes.
func TestAskingChangesNothing(t *testing.T) {
	l := read(t, "1 1<0 1<0")
	ask := func(want string) {
		t.Helper()
		for range 20 {
			stands(t, l, want)
		}
	}
	ask(" | 0 | 0 0")
	does(t, l, "f3 d0")
	ask("0 | 1 2 | 2 0")
	does(t, l, "s")
	ask("0 | 1 2 | 2 2")
	does(t, l, "d2")
	ask("0 2 | 1 | 4 2")
	if said := does(t, l, "d1"); said != api.ErrState {
		t.Fatal(said)
	}
	ask("0 2 | 1 | 5 2")
	does(t, l, "c1")
	ask("0 | 1 2 | 2 2")
}

// TestRecords: each has at least two bytes, all have the same number of them,
// and their number stays where another one is done ahead of it.
func TestRecords(t *testing.T) {
	for i := range most {
		l := made(t, beside(most))
		if err := l.Done(i); err != nil || l.Bytes() < 2 || l.Bytes() != size {
			t.Errorf("Done(%d): got %v, %d bytes", i, err, l.Bytes())
		}
	}
	l := made(t, beside(most))
	for i := range most {
		if err := l.Done(most - 1 - i); err != nil || l.Bytes() != (i+1)*size || l.Safe() != 0 {
			t.Errorf("Done(%d): got %v, %d bytes, %d safe", i, err, l.Bytes(), l.Safe())
		}
	}
	if got := l.All(); !slices.Equal(got, falling(most)) {
		t.Errorf("got %v", got)
	}
}

// beside each other: so many tasks.
func beside(count int) api.Plan { return slices.Repeat(api.Plan{{Work: 1}}, count) }

// falling numbers, all below one.
func falling(count int) []int {
	var l []int
	for i := range count {
		l = append(l, count-1-i)
	}
	return l
}
