package run

import (
	"errors"
	"strconv"
	"strings"
	"testing"

	"yardgang/api"
)

func TestNoByte(t *testing.T) { hold(t, "", "") }

// TestLong: by bytes, whatever they are.
func TestLong(t *testing.T) {
	const long = "too long\n"
	for _, c := range []struct{ text, want string }{
		{strings.Repeat("left\n", 600), strings.Repeat("ErrState\n", 600)},
		{strings.Repeat("left\n", 600) + "\n", long},
		{strings.Repeat("left\n", 600) + "l", long},
		{strings.Repeat("left\n", 599) + "show", strings.Repeat("ErrState\n", 599) + "\n"},
		{strings.Repeat("\n", 3000), strings.Repeat("bad\n", 3000)},
		{strings.Repeat("\n", 3001), long},
		{strings.Repeat("x", 2999), "bad\n"},
		{strings.Repeat("x", 2999) + "\n", "bad\n"},
		{strings.Repeat("x", 3000), "bad\n"},
		{strings.Repeat("x", 3000) + "\n", long},
		{strings.Repeat("x", 3001), long},
		{strings.Repeat("é", 1500), "bad\n"},
		{strings.Repeat("é", 1500) + "x", long},
		{strings.Repeat("é", 1501), long},
		{strings.Repeat("\xff", 3000), "bad\n"},
		{strings.Repeat("\xff", 3001), long},
		{strings.Repeat("\x00", 3001), long},
		{"plan 1\n" + strings.Repeat(" ", 3000), long},
		{strings.Repeat("show\n", 1<<17), long},
	} {
		if got := Run(c.text); got != c.want {
			t.Errorf("%d bytes, %.20q and so on: got %.60q, want %.60q", len(c.text), c.text, got, c.want)
		}
	}
}

// longest line that there may be: in its middle a piece again and again.
func longest(t *testing.T, begin, piece, end string) string {
	t.Helper()
	line := begin + strings.Repeat(piece, (most-len(begin)-len(end))/len(piece)) + end
	if len(line) != most {
		t.Fatalf("%q, %q, %q: %d bytes", begin, piece, end, len(line))
	}
	return line
}

// TestLongestLine: it is read as any other one.
func TestLongestLine(t *testing.T) {
	for _, c := range []struct{ begin, piece, end, want string }{
		{"weave ", "1", "", "ErrFull\n"},
		{"weave ", " ", "", "ErrFull\n"},
		{"plan ", "1 ", "1", "ErrFull\n"},
		{"plan 1", "1 ", "", "ErrSyntax\n"},
		{"plan ", "1", "", "ErrSyntax\n"},
		{"plan ", " ", "", "ErrSyntax\n"},
		{"plan 1<0", ",0", "", "ErrClash\n"},
		{"plan 1<10", ",0", ",", "ErrSyntax\n"},
		{"show", " ", "", "bad\n"},
		{"greedy ", "0", "", "bad\n"},
		{"greedy ", "0", "1", "bad\n"},
		{"gang ", "1", "", "bad\n"},
		{"step", " 0", "", "bad\n"},
		{"step 0 ", "0", "", "bad\n"},
		{"step 0", " ", "0", "bad\n"},
		{"left", "left", "", "bad\n"},
		{"", " ", "left", "bad\n"},
		{"", "\r", "", "bad\n"},
	} {
		hold(t, longest(t, c.begin, c.piece, c.end), c.want)
	}
}

// TestEnds of lines: the last one may be without one, and an empty one counts
// wherever it stands, as long as it is ended.
func TestEnds(t *testing.T) {
	for _, c := range []struct{ text, want string }{
		{"\n", "bad\n"},
		{"\n\n", "bad\nbad\n"},
		{"left", "ErrState\n"},
		{"left\n", "ErrState\n"},
		{"left\n\n", "ErrState\nbad\n"},
		{"left\n\n\n", "ErrState\nbad\nbad\n"},
		{"\nleft", "bad\nErrState\n"},
		{"\nleft\n", "bad\nErrState\n"},
		{"left\n\nleft", "ErrState\nbad\nErrState\n"},
		{"left\n\nleft\n", "ErrState\nbad\nErrState\n"},
		{"\n\nleft\n\n\nleft\n\n", "bad\nbad\nErrState\nbad\nbad\nErrState\nbad\n"},
		{"show", "\n"},
		{"show\n", "\n"},
		{"show\nshow", "\n\n"},
		{"plan \nshow\n", "ok\n\n"},
		{"plan ", "ok\n"},
		{"plan 1 2\nshow", "ok\n1 2\n"},
		{"weave ", "ErrSyntax\n"},
		{"weave 1\n;2\n", "1 1\nbad\n"},
		{"plan 1\n 2\n", "ok\nbad\n"},
		{"gang\n1\n", "bad\nbad\n"},
		{"gang 1\nleft", "ok\n0\n"},
		{"gang 1\nstep 0 0", "ok\nslept 0;\n"},
		{" ", "bad\n"},
		{" \n", "bad\n"},
		{"\n ", "bad\nbad\n"},
		// No other byte ends a line.
		{"\r", "bad\n"},
		{"left\r\n", "bad\n"},
		{"left\rleft\n", "bad\n"},
		{"left\r", "bad\n"},
		{"left\x00left", "bad\n"},
		{"left\vleft\fleft\u0085left\u2028left\n", "bad\n"},
		{"plan 1\r\nshow\n", "ErrSyntax\n\n"},
		{"weave 1\r\n", "ErrSyntax\n"},
		{"greedy 1\r\nstep 0 0\r\n", "bad\nbad\n"},
	} {
		hold(t, c.text, c.want)
	}
}

// refuse a line as bad: alone, and amidst others, for which nothing changes.
func refuse(t *testing.T, line string) {
	t.Helper()
	if line != "" {
		hold(t, line, "bad\n")
	}
	hold(t, line+"\n", "bad\n")
	hold(t, "left\n"+line+"\nshow\nstep 0 0\n"+line+"\n", "ErrState\nbad\n\nErrState\nbad\n")
	hold(t,
		"plan 2 1<0\n"+line+"\nleft\ngang 2\nstep 1 0\n"+line+"\nshow\nleft\nstep 1 0\n"+line+"\nstep 1 0\nshow\nleft\n"+line+"\n",
		"ok\nbad\nErrState\nok\nfetched 1 0;\nbad\n2 1<0\n2\n-\nbad\nfinished 1 0;\n2 1<0\n1\nbad\n",
	)
}

// TestWords: a blank or a word too many, or too few.
func TestWords(t *testing.T) {
	for _, line := range []string{
		"", " ", "  ", "0", "1", "ok", "bad", "fly", "help", "-", ";",
		" show", "show ", "  show", "show  ", "show 1", "show 0", "show show", "show left", "showshow", "show1", "show,",
		" left", "left ", "  left", "left  ", "left 1", "left 0", "left left", "left 0 0", "leftleft", "left1", "left;",
		"greedy", "greedy ", "greedy  ", " greedy 1", "greedy  1", "greedy 1 ", "greedy 1  ", "greedy 1 1", "greedy 1 x", "greedy 1 2 3", "greedy1", "greedy\t1", "greedy,1", "greedy\u00a01", "1 greedy", "greedy greedy 1",
		"gang", "gang ", "gang  ", " gang 1", "gang  1", "gang 1 ", "gang 1  ", "gang 1 1", "gang 1 4", "gang 1 x", "gang 1 2 3", "gang1", "gang\t1", "gang,1", "gang\u00a01", "1 gang", "gang gang 1",
		"step", "step ", "step  ", "step   ", "step 0", "step 0 ", "step  0", " step 0 0", "step  0 0", "step 0  0", "step 0 0 ", "step 0   0", "step 0 0  ", "step 0 0 0", "step 0 0 x", "step 0 0 0 0",
		"step0 0", "step0 0 0", "step 00", "step\t0 0", "step 0\t0", "step 0,0", "step 0\u00a00", "0 0 step", "0 step 0", "step step 0 0", "step 0 step 0",
		"weave", "weave1", "weave;1", " weave 1", "  weave 1", "weave\t1", "weave(1)", "weave,1", "weave\u00a01", "1 weave", "\tweave 1",
		"plan", "plan1", " plan 1", "  plan 1", "plan\t1", "plan,1", "plan\u00a01", "1 plan", " plan", "\tplan 1", "plan<", "plans 1", " plan ",
	} {
		refuse(t, line)
	}
}

// right lines of each kind, with all their words.
func right() []string {
	return []string{"weave 1", "plan 1", "show", "greedy 1", "gang 1", "step 0 0", "left"}
}

// TestLetters: another one, a capital one, one that is missing, one too many,
// or with its neighbour's place.
func TestLetters(t *testing.T) {
	for _, line := range right() {
		if strings.Contains(Run(line), "bad") {
			t.Fatalf("%q: got %q", line, Run(line))
		}
		word, _, _ := strings.Cut(line, " ")
		for i := range len(word) {
			ahead, letter, behind := line[:i], line[i:i+1], line[i+1:]
			for _, other := range []string{strings.ToUpper(letter), "", letter + letter, "x", "_", "\x00", "\xff", "é", " " + letter, string(letter[0] | 0x80)} {
				refuse(t, ahead+other+behind)
			}
			if i > 0 && line[i-1] != line[i] {
				refuse(t, line[:i-1]+letter+line[i-1:i]+behind)
			}
		}
		refuse(t, strings.ToUpper(word)+line[len(word):])
		refuse(t, "\ufeff"+line)
		refuse(t, line[:len(word)]+"\u200b"+line[len(word):])
	}
}

// TestText: it goes up to the end, so blanks in it are its own, and what is
// wrong with them is told by its chapter.
func TestText(t *testing.T) {
	for _, c := range []struct{ line, want string }{
		{"weave ", "ErrSyntax"}, {"weave  ", "ErrSyntax"}, {"weave  1", "ErrSyntax"}, {"weave 1 ", "ErrSyntax"}, {"weave 1 2", "ErrSyntax"},
		{"weave 1 ;2", "ErrSyntax"}, {"weave 1; 2", "ErrSyntax"}, {"weave 1;2", "3 3"}, {"weave weave 1", "ErrSyntax"}, {"weave \xff", "ErrSyntax"},
		{"plan ", "ok"}, {"plan  ", "ErrSyntax"}, {"plan  1", "ErrSyntax"}, {"plan 1 ", "ErrSyntax"}, {"plan 1 2", "ok"}, {"plan 1  2", "ErrSyntax"},
		{"plan 1 2<0 3<0,1", "ok"}, {"plan 1 2<0, 1", "ErrSyntax"}, {"plan 1 2 <0", "ErrSyntax"}, {"plan plan 1", "ErrSyntax"}, {"plan \xff", "ErrSyntax"},
	} {
		talk(t, c.line, c.want)
	}
	talk(t, "plan 1 2<0 3<0,1", "ok", "show", "1 2<0 3<0,1", "plan 1  2", "ErrSyntax", "show", "1 2<0 3<0,1", "plan ", "ok", "show", "")
}

// wrong numbers: none can be read.
func wrong() []string {
	l := []string{
		"", "00", "01", "000", "001", "0001", "0000", "00000", "00001", "010", "10000", "12345", "99999", "123456", "18446744073709551616", "18446744073709551617", "4294967296",
		"+0", "-0", "+1", "-1", "--1", "+", "-", "1-", "1+", "x", "1x", "x1", "0x", "0x1", "0b1", "0o1", "1_0", "_1", "1_", "1e1", "1e", "1.", "1.0", ".1", "0.", "1,", ",1", "1,1", "1;", "1<0",
		"a", "A", "/", ":", "1/", ":1", "\t1", "1\t", "1\r", "\x001", "1\x00", "(1)", "\"1\"", "one", "N",
		"٣", "１", "²", "¼", "1٣", "١", "é", "\xb1", "1\xb1", "\xb11", "\xff", "1\xff", "\x80", "\xc2\xa01",
	}
	for b := range 256 {
		if b != '\n' && (b < '0' || b > '9') {
			l = append(l, "1"+string([]byte{byte(b)})+"1", string([]byte{byte(b)}))
		}
	}
	return l
}

// TestNumbersThatCannotBeRead, in each place that there is for one.
func TestNumbersThatCannotBeRead(t *testing.T) {
	for _, n := range wrong() {
		for _, line := range []string{"greedy " + n, "gang " + n, "step " + n + " 0", "step 0 " + n, "step " + n + " " + n, "step " + n + " 9999", "step 9999 " + n} {
			refuse(t, line)
		}
	}
}

// TestNumbersOfEachLength: of one to four digits they are read, in each place.
func TestNumbersOfEachLength(t *testing.T) {
	for n := range 10_000 {
		text := strconv.Itoa(n)
		hands, gang, hand := "ErrRange", "ErrRange", "ErrRange"
		if n >= 1 && n <= mostHands {
			hands, gang = "0 0", "ok"
		}
		if n < mostHands {
			hand = "slept " + text + ";"
		}
		hold(t,
			"greedy "+text+"\nleft\ngang "+text+"\ngang 6\nstep "+text+" 0\nstep 5 "+text+"\nleft\n",
			hands+"\nErrState\n"+gang+"\nok\n"+hand+"\n"+slept(n != 5, 5)+"\n0\n",
		)
	}
	for _, text := range []string{"0", "1", "9", "10", "99", "100", "999", "1000", "1001", "9999"} {
		hold(t, "step "+text+" "+text, "ErrState\n")
	}
}

// slept: what is answered where a hand falls asleep, or sleeps.
func slept(falls bool, hand int) string {
	if falls {
		return "slept " + strconv.Itoa(hand) + ";"
	}
	return "-"
}

// TestBadAheadOfErrors: a line that cannot be read is bad, whatever else would
// be wrong with it.
func TestBadAheadOfErrors(t *testing.T) {
	talk(t,
		"step 9 x", "bad", "step x 9", "bad", "step 9", "bad", "step 9 0", "ErrState", "left 1", "bad", "left", "ErrState",
		"greedy 7 1", "bad", "greedy 7", "ErrRange", "gang 7 1", "bad", "gang 7", "ErrRange",
		"gang 1", "ok", "step 9 x", "bad", "step 9 0", "ErrRange", "step 10000 0", "bad", "step 1000 0", "ErrRange",
	)
}

// TestErrorsByName: what Run can be told, and what it cannot.
func TestErrorsByName(t *testing.T) {
	talk(t, "greedy 0", "ErrRange", "weave x", "ErrSyntax", "plan "+beside(31, " "), "ErrFull", "left", "ErrState", "plan 1 1<0,0", "ErrClash", "plan 1<0", "ErrCycle")
	for e, name := range map[api.Errno]string{
		api.ErrRange: "ErrRange", api.ErrSyntax: "ErrSyntax", api.ErrShape: "ErrShape", api.ErrFull: "ErrFull",
		api.ErrNone: "ErrNone", api.ErrState: "ErrState", api.ErrClash: "ErrClash", api.ErrCycle: "ErrCycle",
	} {
		asks := map[string]ask{
			"it":     withNumbers(0, func([]int) (string, error) { return "no answer", e }),
			"wraps":  withNumbers(1, func([]int) (string, error) { return "no answer", lineError{lineError{e}} }),
			"joined": withText(func(string) (string, error) { return "no answer", errors.Join(errors.New("what is wrong"), e) }),
		}
		for _, line := range []string{"it", "wraps 5", "joined with"} {
			if got := answer(asks, line); got != name {
				t.Errorf("%q: got %q, want %q", line, got, name)
			}
		}
		for _, line := range []string{"it 5", "wraps", "joined"} {
			if got := answer(asks, line); got != "bad" {
				t.Errorf("%q: got %q", line, got)
			}
		}
	}
}
