package trace

import (
	"math"
	"slices"
	"strings"
	"testing"

	"yardgang/api"
)

// strange numbers, that are none from 0 to below a bound; some are one in their
// last bits.
func strange(bound int) []int {
	return []int{
		-1, -2, -bound, -bound - 1, -1 << 8, -1 << 31, -1 << 32, -1<<32 + 1, math.MinInt, math.MinInt + 1,
		bound, bound + 1, 2 * bound, 99, 100, 1 << 8, 1<<8 + 1, 1 << 16, 1 << 31, 1 << 32, 1<<32 + 1, math.MaxInt - 1, math.MaxInt,
	}
}

// one right deed of each What.
func ofEach() []api.Deed {
	return []api.Deed{{What: 1, Hand: 1, Task: 2}, {What: 2, Hand: 1, Task: 2, Other: 3}, {What: 3, Hand: 1, Task: 2}, {What: 4, Hand: 1, Task: 2}, {What: 5, Hand: 1}, {What: 6, Hand: 1}}
}

// taken by Print and Counts, alone.
func taken(t *testing.T, d api.Deed) {
	t.Helper()
	holdPrint(t, []api.Deed{d}, line(d))
	if _, err := Counts([]api.Deed{d}); err != nil {
		t.Fatalf("Counts of %v: got %v", d, err)
	}
}

// refuseOne deed: alone, and behind and ahead of right ones.
func refuseOne(t *testing.T, d api.Deed, want api.Errno) {
	t.Helper()
	refuse(t, []api.Deed{d}, want)
	refuse(t, append(ofEach(), d), want)
	refuse(t, append([]api.Deed{d}, ofEach()...), want)
}

// TestWhats: 1 to 6 are some, all others are none.
func TestWhats(t *testing.T) {
	for what := -20; what <= 40; what++ {
		if what < 1 || what > 6 {
			refuseOne(t, api.Deed{What: what}, api.ErrRange)
			continue
		}
		taken(t, api.Deed{What: what})
	}
	for _, what := range slices.Concat(strange(7), []int{0}) {
		refuseOne(t, api.Deed{What: what}, api.ErrRange)
		refuseOne(t, api.Deed{What: what, Hand: 5, Task: 29, Other: 5}, api.ErrRange)
	}
}

// TestHands: of each What, those that may be and those that may not.
func TestHands(t *testing.T) {
	for _, d := range ofEach() {
		for d.Hand = range mostHands {
			taken(t, d)
		}
		for _, d.Hand = range strange(mostHands) {
			refuseOne(t, d, api.ErrRange)
		}
	}
}

// TestTasks: of each What, those that may be and those that may not; of Slept
// and Woke all but 0 are out of shape.
func TestTasks(t *testing.T) {
	for _, d := range ofEach() {
		for d.Task = range mostTasks {
			if d.What >= api.Slept && d.Task > 0 {
				refuseOne(t, d, api.ErrShape)
				continue
			}
			taken(t, d)
		}
		for _, d.Task = range strange(mostTasks) {
			refuseOne(t, d, api.ErrRange)
		}
	}
}

// TestOthers: of Stole a hand; of each other What 0, and whatever else is out
// of shape, be it a hand or none.
func TestOthers(t *testing.T) {
	for _, d := range ofEach() {
		for d.Other = range mostHands {
			if d.What != api.Stole && d.Other > 0 {
				refuseOne(t, d, api.ErrShape)
				continue
			}
			taken(t, d)
		}
		for _, d.Other = range strange(mostHands) {
			if d.What == api.Stole {
				refuseOne(t, d, api.ErrRange)
				continue
			}
			refuseOne(t, d, api.ErrShape)
		}
	}
}

// TestRangeAheadOfShape: in one deed.
func TestRangeAheadOfShape(t *testing.T) {
	for _, d := range []api.Deed{
		{What: 0, Hand: 0, Task: 0, Other: 1},
		{What: 7, Hand: 1, Task: 1, Other: 1},
		{What: 1, Hand: -1, Task: 0, Other: 1},
		{What: 3, Hand: 6, Task: 0, Other: 1},
		{What: 4, Hand: 0, Task: 30, Other: 1},
		{What: 1, Hand: 0, Task: -1, Other: -1},
		{What: 5, Hand: 6, Task: 1},
		{What: 6, Hand: -1, Task: 1},
		{What: 5, Hand: 0, Task: 30},
		{What: 6, Hand: 0, Task: -1},
		{What: 5, Hand: 0, Task: 30, Other: 7},
		{What: 6, Hand: 6, Task: 30, Other: 7},
		{What: 2, Hand: 6, Task: 0, Other: 0},
		{What: 2, Hand: 6, Task: 30, Other: 6},
	} {
		refuseOne(t, d, api.ErrRange)
	}
	for _, d := range []api.Deed{
		{What: 5, Hand: 0, Task: 1, Other: 1},
		{What: 6, Hand: 5, Task: 29, Other: -1},
		{What: 5, Hand: 5, Task: 29, Other: math.MaxInt},
		{What: 1, Hand: 5, Task: 29, Other: 6},
	} {
		refuseOne(t, d, api.ErrShape)
	}
}

// wrongDeeds, of which each is out of its range, and misshapen ones.
func wrongDeeds() (far, misshapen []api.Deed) {
	far = []api.Deed{{What: 0}, {What: 7}, {What: 1, Hand: 6}, {What: 5, Hand: -1}, {What: 4, Task: 30}, {What: 2, Other: 6}, {What: 6, Task: -1}}
	misshapen = []api.Deed{{What: 1, Other: 1}, {What: 3, Other: -1}, {What: 4, Other: 9}, {What: 5, Other: 1}, {What: 6, Other: 5}, {What: 5, Task: 1}, {What: 6, Task: 29}}
	return far, misshapen
}

// TestFirstWrongDeed: of several, what is wrong with the first one.
func TestFirstWrongDeed(t *testing.T) {
	far, misshapen := wrongDeeds()
	for _, a := range far {
		for _, b := range misshapen {
			refuse(t, []api.Deed{a, b}, api.ErrRange)
			refuse(t, []api.Deed{b, a}, api.ErrShape)
			refuse(t, append(ofEach(), a, ofEach()[0], b), api.ErrRange)
			refuse(t, append(ofEach(), b, ofEach()[0], a), api.ErrShape)
		}
	}
}

// TestFullFirst: that there are too many is told ahead of what is wrong with
// one, wherever it stands.
func TestFullFirst(t *testing.T) {
	far, misshapen := wrongDeeds()
	for _, d := range slices.Concat(far, misshapen) {
		for _, at := range []int{0, 1, mostDeeds - 1, mostDeeds} {
			l := alike(api.Deed{What: 1}, mostDeeds+1)
			l[at] = d
			refuse(t, l, api.ErrFull)
		}
		refuse(t, alike(d, mostDeeds+1), api.ErrFull)
	}
	for _, at := range []int{0, 1, mostDeeds - 1} {
		l := alike(api.Deed{What: 1}, mostDeeds)
		l[at] = far[0]
		refuse(t, l, api.ErrRange)
		l[at] = misshapen[0]
		refuse(t, l, api.ErrShape)
	}
}

// TestNoText: what is no text of deeds.
func TestNoText(t *testing.T) {
	for _, c := range []struct{ name, text string }{
		{"the last line is not ended", "took 0 1"},
		{"the last line is not ended, behind another one", "slept 1\ntook 0 1"},
		{"nothing but a word", "slept"},
		{"ended otherwise", "slept 1;"},
		{"ended by byte 13", "slept 1\r"},
		{"ended by byte 13, too", "slept 1\r\n"},
		{"ended by byte 0", "slept 1\x00"},
		{"ended by byte 10 in two bytes", "slept 1\xc2\x8a"},
		{"ended by another sign for a line's end", "slept 1\u2028"},

		{"an empty line alone", "\n"},
		{"an empty line ahead", "\nslept 1\n"},
		{"an empty line in between", "slept 1\n\nslept 2\n"},
		{"an empty line behind", "slept 1\n\n"},
		{"two empty lines", "\n\n"},
		{"a blank alone", " "},
		{"a line of a blank", " \n"},

		{"a blank at the beginning", " slept 1\n"},
		{"a blank at the beginning of a later line", "slept 1\n slept 2\n"},
		{"a blank at the end", "slept 1 \n"},
		{"a blank behind the last line", "slept 1\n "},
		{"two blanks behind the word", "took  0 1\n"},
		{"two blanks between the numbers", "took 0  1\n"},
		{"two blanks ahead of the last number", "stole 0 1  2\n"},
		{"two blanks at the end", "took 0 1  \n"},
		{"byte 9 for a blank", "took\t0 1\n"},
		{"byte 9 between the numbers", "took 0\t1\n"},
		{"a comma for a blank", "took 0,1\n"},
		{"another sign for a blank", "took 0\u00a01\n"},
		{"no blank behind the word", "took0 1\n"},
		{"no blank between the numbers", "took 01\n"},
		{"a line that goes on in the next", "took 0\n1\n"},

		{"no word", "0 1\n"},
		{"no word, but a blank", " 0 1\n"},
		{"a number for a word", "1 0 1\n"},
		{"a word that is none", "lost 0 1\n"},
		{"a word of the same length", "toot 0 1\n"},
		{"a word in another time", "sleep 0\n"},
		{"the beginning of a word", "too 0 1\n"},
		{"a word and more", "tooks 0 1\n"},
		{"two words", "took took 0 1\n"},
		{"a word at the end", "took 0 1 took\n"},
		{"two deeds on a line", "slept 0 slept 1\n"},
		{"a word in great letters", "TOOK 0 1\n"},
		{"a word with a great letter", "Took 0 1\n"},
		{"a word that is none, without numbers", "lost\n"},
		{"a word behind the numbers", "0 1 took\n"},

		{"no number", "took 0 \n"},
		{"a letter for a number", "took 0 x\n"},
		{"a letter behind a number", "took 0 1x\n"},
		{"a letter ahead of a number", "took 0 x1\n"},
		{"a letter for a hand", "slept o\n"},
		{"a 0 ahead", "took 0 01\n"},
		{"a 0 ahead of a hand", "took 01 1\n"},
		{"a 0 ahead of 0", "took 0 00\n"},
		{"a 0 ahead of another's number", "stole 0 0 05\n"},
		{"a sign below 0", "took 0 -1\n"},
		{"a sign above 0", "took 0 +1\n"},
		{"a sign of 0", "took -0 0\n"},
		{"a sign of 0, above", "took +0 0\n"},
		{"a sign alone", "took - 0\n"},
		{"two signs", "took 0 --\n"},
		{"a sign behind", "took 0 1-\n"},
		{"three digits", "took 0 100\n"},
		{"three digits, a hand", "slept 100\n"},
		{"three digits, another", "stole 0 0 100\n"},
		{"three digits, two of them 0", "took 0 001\n"},
		{"three digits, all 0", "slept 000\n"},
		{"three digits, of what could be in two", "took 0 029\n"},
		{"more digits than a number has", "took 0 99999999999999999999999999999999\n"},
		{"digits that come round to a number", "slept 18446744073709551617\n"},
		{"a dot", "took 0 1.\n"},
		{"a low line", "took 0 1_\n"},
		{"in another base", "took 0 0x1\n"},
		{"digits of another script", "slept \u0661\n"},
		{"a byte that is none of a letter", "slept \xff\n"},
		{"a byte 0", "slept \x00\n"},
	} {
		t.Run(c.name, func(t *testing.T) {
			refuseParse(t, c.text, api.ErrSyntax)
			refuseParse(t, "took 1 2\nwoke 0\n"+c.text, api.ErrSyntax)
			if strings.HasSuffix(c.text, "\n") {
				refuseParse(t, c.text+"took 1 2\nwoke 0\n", api.ErrSyntax)
			}
		})
	}
}

// TestWords: each word with up to five numbers: just so many as it has.
func TestWords(t *testing.T) {
	for _, d := range ofEach() {
		whole := strings.Fields(line(d))
		for count := range 6 {
			w := append([]string{whole[0]}, slices.Repeat([]string{"1"}, count)...)
			text := strings.Join(w, " ") + "\n"
			if len(w) != len(whole) {
				refuseParse(t, text, api.ErrSyntax)
				continue
			}
			got, err := Parse(text)
			if err != nil || len(got) != 1 || got[0].What != d.What || line(got[0]) != text {
				t.Fatalf("Parse of %q: got %v %v", text, got, err)
			}
		}
	}
}

// TestTextNumbers: all of one digit and of two, at each place: some are hands or
// tasks, all others are out of range, and none is of no form.
func TestTextNumbers(t *testing.T) {
	for n := range 100 {
		digits := strings.TrimLeft(string([]byte{byte('0' + n/10), byte('0' + n%10)}), "0")
		if n == 0 {
			digits = "0"
		}
		for _, c := range []struct {
			text  string
			bound int
			want  api.Deed
		}{
			{"took N 2\n", 6, api.Deed{What: 1, Hand: n, Task: 2}},
			{"took 1 N\n", 30, api.Deed{What: 1, Hand: 1, Task: n}},
			{"stole N 2 3\n", 6, api.Deed{What: 2, Hand: n, Task: 2, Other: 3}},
			{"stole 1 N 3\n", 30, api.Deed{What: 2, Hand: 1, Task: n, Other: 3}},
			{"stole 1 2 N\n", 6, api.Deed{What: 2, Hand: 1, Task: 2, Other: n}},
			{"fetched N 2\n", 6, api.Deed{What: 3, Hand: n, Task: 2}},
			{"fetched 1 N\n", 30, api.Deed{What: 3, Hand: 1, Task: n}},
			{"finished N 2\n", 6, api.Deed{What: 4, Hand: n, Task: 2}},
			{"finished 1 N\n", 30, api.Deed{What: 4, Hand: 1, Task: n}},
			{"slept N\n", 6, api.Deed{What: 5, Hand: n}},
			{"woke N\n", 6, api.Deed{What: 6, Hand: n}},
		} {
			text := strings.Replace(c.text, "N", digits, 1)
			if n >= c.bound {
				refuseParse(t, text, api.ErrRange)
				refuseParse(t, "slept 0\n"+text+"slept 0\n", api.ErrRange)
				continue
			}
			holdParse(t, text, []api.Deed{c.want})
		}
	}
}

// TestTextFaults: a form that is wrong is told ahead of too many lines, and
// those ahead of a number that may not be, wherever they stand.
func TestTextFaults(t *testing.T) {
	right, far, none := "took 1 2\n", "took 6 2\n", "took 1\n"
	many := strings.Repeat(right, mostDeeds)
	for _, c := range []struct {
		name, text string
		want       api.Errno
	}{
		{"out of range, ahead of no form", far + none, api.ErrSyntax},
		{"no form, ahead of out of range", none + far, api.ErrSyntax},
		{"both on a line", "took 6 -2\n", api.ErrSyntax},
		{"both on a line, the other way", "took 100 30\n", api.ErrSyntax},
		{"out of range, and not ended", "took 6 2", api.ErrSyntax},
		{"too many, and no form at first", none + many + right, api.ErrSyntax},
		{"too many, and no form at last", many + right + none, api.ErrSyntax},
		{"too many, and no form far behind", many + many + many + none, api.ErrSyntax},
		{"too many, and not ended", many + right + "took 1 2", api.ErrSyntax},
		{"one too many, which is not ended", many + "took 1 2", api.ErrSyntax},
		{"too many, and an empty line behind", many + right + "\n", api.ErrSyntax},
		{"one too many, which is empty", many + "\n", api.ErrSyntax},
		{"too many, and out of range at first", far + many, api.ErrFull},
		{"too many, and out of range at last", many + far, api.ErrFull},
		{"too many, and out of range far behind", many + many + far, api.ErrFull},
		{"too many, all out of range", strings.Repeat(far, mostDeeds+1), api.ErrFull},
		{"as many as may be, the first out of range", far + many[len(right):], api.ErrRange},
		{"as many as may be, the last out of range", many[len(right):] + far, api.ErrRange},
		{"all three", far + many + none, api.ErrSyntax},
	} {
		t.Run(c.name, func(t *testing.T) { refuseParse(t, c.text, c.want) })
	}
}
