package trace

import (
	"fmt"
	"regexp"
	"slices"
	"strings"
	"testing"

	"yardgang/api"
	"yardgang/gang"
	"yardgang/plain"
	"yardgang/plan"
)

// within two numbers.
func within(n, least, greatest int) bool { return n >= least && n <= greatest }

// deedModel tells what is wrong with a deed by itself.
func deedModel(d api.Deed) api.Errno {
	switch {
	case !within(d.What, 1, 6), !within(d.Hand, 0, 5), !within(d.Task, 0, 29):
		return api.ErrRange
	case d.What == api.Stole && !within(d.Other, 0, 5):
		return api.ErrRange
	case d.What != api.Stole && d.Other != 0, d.What >= api.Slept && d.Task != 0:
		return api.ErrShape
	}
	return api.OK
}

// printModel tells what is wrong with deeds by themselves.
func printModel(l []api.Deed) api.Errno {
	if len(l) > mostDeeds {
		return api.ErrFull
	}
	for _, d := range l {
		if e := deedModel(d); e != api.OK {
			return e
		}
	}
	return api.OK
}

// lastOf a hand's deeds, of some kinds; its What is 0 if there is none.
func lastOf(l []api.Deed, hand int, kinds ...int) api.Deed {
	for _, d := range slices.Backward(l) {
		if d.Hand == hand && slices.Contains(kinds, d.What) {
			return d
		}
	}
	return api.Deed{}
}

// holds a hand a task: the last one that it began, if it has finished none behind it.
func holds(l []api.Deed, hand int) (int, bool) {
	d := lastOf(l, hand, api.Took, api.Stole, api.Fetched, api.Finished)
	return d.Task, d.What != 0 && d.What != api.Finished
}

// wasTold tells whether a task stands in one of the deeds of some kinds.
func wasTold(l []api.Deed, task int, kinds ...int) bool {
	return slices.ContainsFunc(l, func(d api.Deed) bool { return d.Task == task && slices.Contains(kinds, d.What) })
}

// nextModel tells what is wrong with a deed behind others that were done: all
// is looked up in them.
func nextModel(p api.Plan, hands int, before []api.Deed, d api.Deed) api.Errno {
	if d.Hand >= hands || d.What == api.Stole && d.Other >= hands || d.What < api.Slept && d.Task >= len(p) {
		return api.ErrRange
	}
	task, busy := holds(before, d.Hand)
	sleeps := lastOf(before, d.Hand, api.Slept, api.Woke).What == api.Slept
	switch d.What {
	case api.Finished:
		if !busy || task != d.Task {
			return api.ErrState
		}
	case api.Slept:
		if sleeps || busy {
			return api.ErrState
		}
	case api.Woke:
		if !sleeps {
			return api.ErrState
		}
	default:
		if busy || wasTold(before, d.Task, api.Took, api.Stole, api.Fetched) {
			return api.ErrClash
		}
		for _, n := range p[d.Task].Needs {
			sleeps = sleeps || !wasTold(before, n, api.Finished)
		}
		if sleeps {
			return api.ErrState
		}
		if d.What == api.Stole && d.Other == d.Hand {
			return api.ErrShape
		}
	}
	return api.OK
}

// checkModel tells whether deeds may have been, of a plan and hands that are right.
func checkModel(p api.Plan, hands int, l []api.Deed) api.Errno {
	if e := printModel(l); e != api.OK {
		return e
	}
	for i, d := range l {
		if e := nextModel(p, hands, l[:i], d); e != api.OK {
			return e
		}
	}
	return api.OK
}

// told counts how often each answer was wanted, so that none goes untested.
type told [api.ErrCycle + 1]int

// check is compared with the model.
func (n *told) check(t *testing.T, p api.Plan, hands int, l []api.Deed) api.Errno {
	t.Helper()
	want := checkModel(p, hands, l)
	n[want]++
	holdCheck(t, p, hands, l, want)
	return want
}

// print is compared with the model, and so is Counts.
func (n *told) print(t *testing.T, l []api.Deed) {
	t.Helper()
	want := printModel(l)
	n[want]++
	text, counts := "", []int(nil)
	if want == api.OK {
		counts = make([]int, 6)
		for _, d := range l {
			text += line(d)
			counts[d.What-1]++
		}
	}
	if got, err := Print(l); got != text || !is(err, want) {
		t.Fatalf("Print of %v: got %q %v, want %q %v", some(l), start(got), err, start(text), want)
	}
	if got, err := Counts(l); !slices.Equal(got, counts) || !is(err, want) {
		t.Fatalf("Counts of %v: got %v %v, want %v %v", some(l), got, err, counts, want)
	}
}

// each answer must have been wanted.
func (n *told) each(t *testing.T, l ...api.Errno) {
	t.Helper()
	for _, e := range l {
		if n[e] == 0 {
			t.Errorf("%v was never wanted: %v", e, *n)
		}
	}
}

// allDeeds of these numbers.
func allDeeds(whats, hands, tasks, others []int) []api.Deed {
	var l []api.Deed
	for _, what := range whats {
		for _, hand := range hands {
			for _, task := range tasks {
				for _, other := range others {
					l = append(l, api.Deed{What: what, Hand: hand, Task: task, Other: other})
				}
			}
		}
	}
	return l
}

// TestAllAlone: all deeds at the edges, each alone.
func TestAllAlone(t *testing.T) {
	var n told
	whats := []int{-1, 0, 1, 2, 3, 4, 5, 6, 7, 8}
	hands := []int{-2, -1, 0, 1, 4, 5, 6, 7}
	tasks := []int{-2, -1, 0, 1, 28, 29, 30, 31}
	for _, d := range allDeeds(whats, hands, tasks, hands) {
		n.print(t, []api.Deed{d})
	}
	n.each(t, api.OK, api.ErrRange, api.ErrShape)
}

// TestAllPairs: all pairs of deeds at the edges.
func TestAllPairs(t *testing.T) {
	var n told
	l := allDeeds([]int{0, 1, 2, 5, 6}, []int{0, 5, 6}, []int{-1, 0, 29}, []int{0, 5, 6})
	for _, a := range l {
		for _, b := range l {
			n.print(t, []api.Deed{a, b})
		}
	}
	n.each(t, api.OK, api.ErrRange, api.ErrShape)
}

// needing plan of n tasks: by a bit each, whether a task needs another one,
// or itself.
func needing(n, bits int) api.Plan {
	p := beside(n, 1)
	for i := range p {
		for k := range n {
			if bits&1 == 1 {
				p[i].Needs = append(p[i].Needs, k)
			}
			bits >>= 1
		}
	}
	return p
}

// allStories of a plan, of these deeds, up to a length: each that may have been
// is gone on with by each deed; and what was wrong stays so, whatever follows.
func allStories(t *testing.T, n *told, p api.Plan, hands, length int, of []api.Deed) {
	l := make([]api.Deed, 0, length+1)
	var extend func()
	extend = func() {
		for i, d := range of {
			l = append(l, d)
			if want := n.check(t, p, hands, l); want != api.OK {
				holdCheck(t, p, hands, append(l, of[(i+len(l))%len(of)]), want)
			} else if len(l) < length {
				extend()
			}
			l = l[:len(l)-1]
		}
	}
	extend()
}

// TestAllStories: all that may have been, and all that go wrong at last, of all
// plans of up to two tasks, with hands and tasks among them that are none.
func TestAllStories(t *testing.T) {
	var n told
	of := slices.DeleteFunc(allDeeds([]int{1, 2, 3, 4, 5, 6}, []int{0, 1, 2}, []int{0, 1, 2}, []int{0, 1, 2}), func(d api.Deed) bool { return deedModel(d) != api.OK })
	for count := range 3 {
		for bits := range 1 << (count * count) {
			p := needing(count, bits)
			if _, err := plan.Check(p); err != nil {
				continue
			}
			allStories(t, &n, p, 1, 5, of)
			allStories(t, &n, p, 2, 4, of)
		}
	}
	n.each(t, api.OK, api.ErrRange, api.ErrShape, api.ErrState, api.ErrClash)
}

// TestAllStoriesOfThree: of all plans of three tasks, longer ones, of fewer kinds
// of deeds.
func TestAllStoriesOfThree(t *testing.T) {
	var n told
	of := deeds(t, "took 0 0, took 0 1, took 0 2, fetched 1 0, fetched 1 1, fetched 1 2")
	of = append(of, deeds(t, "finished 0 0, finished 0 1, finished 0 2, finished 1 0, finished 1 1, finished 1 2, slept 1, woke 1")...)
	for bits := range 1 << 9 {
		p := needing(3, bits)
		if _, err := plan.Check(p); err == nil {
			allStories(t, &n, p, 2, 6, of)
		}
	}
	n.each(t, api.OK, api.ErrState, api.ErrClash)
}

// mixer of numbers: the same ones each time.
type mixer uint64

// below a bound, the next one.
func (m *mixer) below(bound int) int {
	*m = *m*6364136223846793005 + 1442695040888963407
	return int(uint64(*m)>>33) % bound
}

// mixed plan: how many tasks it has, how often one needs another, and how much
// work they are, is mixed, and so are the tasks' places.
func (m *mixer) mixed() api.Plan {
	p := beside(m.below(mostTasks+1), 1)
	places := make([]int, len(p))
	for i := range places {
		k := m.below(i + 1)
		places[i], places[k] = places[k], i
	}
	seldom, works := 1+m.below(20), 1+m.below(5)
	for i, at := range places {
		p[at].Work = 1 + m.below(works)
		for _, n := range places[:i] {
			if m.below(seldom) == 0 {
				p[at].Needs = append(p[at].Needs, n)
			}
		}
		slices.Sort(p[at].Needs)
	}
	return p
}

// played by a gang: all its deeds, till all is done, and some steps beyond.
func (m *mixer) played(t *testing.T, p api.Plan, hands int) []api.Deed {
	t.Helper()
	g, err := gang.New(p, hands, 1+m.below(api.MaxRing))
	if err != nil {
		t.Fatal(err)
	}
	var l []api.Deed
	for beyond := 0; beyond < 3*hands; {
		if g.Left() == 0 {
			beyond++
		}
		told, err := g.Step(m.below(hands), m.below(100))
		if err != nil {
			t.Fatal(err)
		}
		l = append(l, told...)
	}
	return l
}

// changed deeds: one number is another one, a deed is left out, one more is
// laid anywhere, or two are in each other's place.
func (m *mixer) changed(p api.Plan, hands int, l []api.Deed) []api.Deed {
	one := api.Deed{What: m.below(8), Hand: m.below(hands+2) - 1, Task: m.below(len(p)+2) - 1, Other: m.below(hands+2) - 1}
	if one.What != api.Stole && m.below(4) > 0 {
		one.Other = 0
	}
	if one.What >= api.Slept && m.below(4) > 0 {
		one.Task = 0
	}
	if len(l) == 0 {
		return append(l, one)
	}
	at, other := m.below(len(l)), m.below(len(l))
	switch m.below(8) {
	case 0:
		l[at].What = one.What
	case 1:
		l[at].Hand = one.Hand
	case 2:
		l[at].Task = one.Task
	case 3:
		l[at].Other = one.Other
	case 4:
		return slices.Delete(l, at, at+1)
	case 5:
		return slices.Insert(l, at, one)
	case 6:
		l[at], l[other] = l[other], l[at]
	case 7:
		return slices.Insert(l, at, l[other])
	}
	return l
}

// TestGangs: what a gang told may have been, the whole and each beginning of
// it, but by no fewer hands than there were; with a few changes it is as the
// model says. Print tells it, and Parse takes that back.
func TestGangs(t *testing.T) {
	m, n, whats := mixer(17), told{}, [7]int{}
	for range 300 {
		p := m.mixed()
		for hands := 1; hands <= mostHands; hands++ {
			l := m.played(t, p, hands)
			for i := range len(l) + 1 {
				holdCheck(t, p, hands, l[:i], api.OK)
			}
			n.print(t, l)
			for h := 1; h < hands; h++ {
				n.check(t, p, h, l)
			}
			text, err := Print(l)
			if err != nil {
				t.Fatal(err)
			}
			holdParse(t, text, l)
			for range 12 {
				changed := slices.Clone(l)
				for range 1 + m.below(2) {
					changed = m.changed(p, hands, changed)
				}
				n.check(t, p, hands, changed)
				n.print(t, changed)
			}
			for _, d := range l {
				whats[d.What]++
			}
		}
	}
	n.each(t, api.OK, api.ErrRange, api.ErrShape, api.ErrState, api.ErrClash)
	if slices.Contains(whats[1:], 0) {
		t.Errorf("some What was never told: %v", whats)
	}
}

// TestGangsAreWhole: of what a gang told to the end, each task was begun once
// and finished once.
func TestGangsAreWhole(t *testing.T) {
	m := mixer(71)
	for range 300 {
		p, hands := m.mixed(), 1+m.below(mostHands)
		counts, err := Counts(m.played(t, p, hands))
		if err != nil || len(counts) != 6 {
			t.Fatal(counts, err)
		}
		if begun := counts[0] + counts[1] + counts[2]; begun != len(p) || counts[3] != len(p) || counts[5] > counts[4] {
			t.Fatalf("of %d tasks: got %v", len(p), counts)
		}
	}
}

// lineForm of a text of deeds, by what the chapter says.
var lineForm = strings.ReplaceAll(`(?:(?:took|fetched|finished) N N|stole N N N|(?:slept|woke) N)\n`, "N", `(?:0|[1-9][0-9]?)`)

// textForm of many such lines.
var textForm = regexp.MustCompile(`\A(?:` + lineForm + `)*\z`)

// parse is compared with the model: the form by an expression, the rest by
// what the lines have.
func (n *told) parse(t *testing.T, text string) {
	t.Helper()
	want, l := api.OK, []api.Deed(nil)
	if !textForm.MatchString(text) {
		want = api.ErrSyntax
	} else {
		l = deeds(t, strings.ReplaceAll(text, "\n", ","))
		want = printModel(l)
	}
	n[want]++
	if want != api.OK {
		refuseParse(t, text, want)
		return
	}
	holdParse(t, text, l)
	holdPrint(t, l, text)
}

// TestAllShortTexts: all texts of a few pieces.
func TestAllShortTexts(t *testing.T) {
	var n told
	pieces := []string{"took", "stole", "slept", " ", "0", "6", "\n", "-"}
	text := make([]string, 0, 6)
	var extend func()
	extend = func() {
		n.parse(t, strings.Join(text, ""))
		if len(text) == cap(text) {
			return
		}
		for _, one := range pieces {
			text = append(text, one)
			extend()
			text = text[:len(text)-1]
		}
	}
	extend()
	n.each(t, api.OK, api.ErrSyntax, api.ErrRange)
}

// changedText: a piece is left out, laid anywhere else, or another byte.
func (m *mixer) changedText(text string) string {
	from := m.below(len(text) + 1)
	to := min(from+m.below(4), len(text))
	switch m.below(5) {
	case 0:
		return text[:from] + text[to:]
	case 1:
		at := m.below(len(text) + 1)
		return text[:at] + text[from:to] + text[at:]
	case 2:
		return text[:from] + fmt.Sprint(m.below(120)) + text[to:]
	case 3:
		signs := "\n \n 0123456789-+tookslept\r\t\x00\xff"
		at := m.below(len(signs))
		return text[:from] + signs[at:at+1] + text[to:]
	}
	return text[:from] + string([]byte{byte(m.below(256))}) + text[from:]
}

// TestMixedTexts: what Print told of a gang's deeds, with a few changes.
func TestMixedTexts(t *testing.T) {
	m, n := mixer(7), told{}
	for range 300 {
		p := m.mixed()
		l := m.played(t, p, 1+m.below(mostHands))
		text, err := Print(l[:min(len(l), m.below(20))])
		if err != nil {
			t.Fatal(err)
		}
		for range 60 {
			changed := text
			for range 1 + m.below(2) {
				changed = m.changedText(changed)
			}
			n.parse(t, changed)
		}
	}
	n.each(t, api.OK, api.ErrSyntax, api.ErrRange)
}

// FuzzParse: whatever the text, Parse is as the model says.
func FuzzParse(f *testing.F) {
	for _, text := range []string{"", "took 0 1\n", "stole 5 29 0\nslept 1\nwoke 1\n", "finished 6 30\n", "fetched 01 -1\n"} {
		f.Add(text)
	}
	f.Fuzz(func(t *testing.T, text string) {
		var n told
		n.parse(t, text)
	})
}

// TestToldIsPlain: what the calls tell may be asked of package plain.
func TestToldIsPlain(t *testing.T) {
	_, err := Parse("took")
	if plain.Told(err) != api.ErrSyntax || plain.Told(Check(nil, 0, nil)) != api.ErrRange || plain.Told(Check(nil, 1, nil)) != api.OK {
		t.Fatal(err)
	}
}
