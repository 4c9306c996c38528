package plan

import (
	"reflect"
	"regexp"
	"strconv"
	"strings"
	"testing"

	"yardgang/api"
	"yardgang/plain"
)

// texts and their plans: Print and Parse go both ways.
var texts = []struct {
	text string
	p    api.Plan
}{
	{"", nil},
	{"1", api.Plan{task(1)}},
	{"20", api.Plan{task(20)}},
	{"1 2 3", api.Plan{task(1), task(2), task(3)}},
	{"1 2<0", api.Plan{task(1), task(2, 0)}},
	{"3<1,2 10 20<1", api.Plan{task(3, 1, 2), task(10), task(20, 1)}},
	{"1<3 2 3 4<1,2", api.Plan{task(1, 3), task(2), task(3), task(4, 1, 2)}},
	{strings.Repeat("1 ", 28) + "7 5<10,28", func() api.Plan {
		p := many(30)
		p[28] = task(7)
		p[29] = task(5, 10, 28)
		return p
	}()},
}

// equal plans: an empty list and nil are the same.
func equal(p, q api.Plan) bool {
	if len(p) != len(q) {
		return false
	}
	for i := range p {
		if p[i].Work != q[i].Work || !same(p[i].Needs, q[i].Needs) {
			return false
		}
	}
	return true
}

func TestPrint(t *testing.T) {
	for _, c := range texts {
		got, err := Print(c.p)
		if err != nil || got != c.text {
			t.Errorf("got %q %v, want %q", got, err, c.text)
		}
	}
	if got, err := Print(api.Plan{{Work: 1, Needs: []int{}}}); err != nil || got != "1" {
		t.Errorf("empty needs: got %q %v", got, err)
	}
}

func TestParse(t *testing.T) {
	for _, c := range texts {
		got, err := Parse(c.text)
		if err != nil || !equal(got, c.p) {
			t.Errorf("%q: got %v %v, want %v", c.text, got, err, c.p)
		}
	}
}

func TestParseWrong(t *testing.T) {
	most := strings.Repeat("1 ", api.MaxTasks-1) + "1"
	for _, c := range []struct {
		text string
		err  api.Errno
	}{
		{" ", api.ErrSyntax},
		{"  ", api.ErrSyntax},
		{"1 ", api.ErrSyntax},
		{" 1", api.ErrSyntax},
		{"1  2", api.ErrSyntax},
		{"1\t2", api.ErrSyntax},
		{"1\n", api.ErrSyntax},
		{"\n", api.ErrSyntax},
		{"\x00", api.ErrSyntax},
		{"1\x00", api.ErrSyntax},
		{"1\xff", api.ErrSyntax},
		{"\u0661", api.ErrSyntax},
		{"\uff11", api.ErrSyntax},
		{"+1", api.ErrSyntax},
		{"-1", api.ErrSyntax},
		{"1_0", api.ErrSyntax},
		{"0x1", api.ErrSyntax},
		{"a", api.ErrSyntax},
		{"1.0", api.ErrSyntax},

		{"00", api.ErrSyntax},
		{"01", api.ErrSyntax},
		{"1 1<00", api.ErrSyntax},
		{"1 1<01", api.ErrSyntax},
		{"0001", api.ErrSyntax},
		{"10000", api.ErrSyntax},
		{"00001", api.ErrSyntax},
		{"1 1<10000", api.ErrSyntax},
		{"99999999999999999999", api.ErrSyntax},

		{"<", api.ErrSyntax},
		{"<0", api.ErrSyntax},
		{"1<", api.ErrSyntax},
		{"1< 0", api.ErrSyntax},
		{"1 1 <0", api.ErrSyntax},
		{"1 1< 0", api.ErrSyntax},
		{"1 1<<0", api.ErrSyntax},
		{"1 1 1<0<1", api.ErrSyntax},
		{",", api.ErrSyntax},
		{"1,", api.ErrSyntax},
		{"1,1", api.ErrSyntax},
		{"1 1<,", api.ErrSyntax},
		{"1 1<0,", api.ErrSyntax},
		{"1 1<,0", api.ErrSyntax},
		{"1 1 1<0,,1", api.ErrSyntax},
		{"1 1 1<0, 1", api.ErrSyntax},
		{"1 1 1<0 ,1", api.ErrSyntax},
		{"1 1<-1", api.ErrSyntax},

		{"0", api.ErrRange},
		{"21", api.ErrRange},
		{"9999", api.ErrRange},
		{"1 1<2", api.ErrRange},
		{"1 1<9999", api.ErrRange},
		{"1 1<0,0", api.ErrClash},
		{"1 1 1<1,0", api.ErrClash},
		{"1<0", api.ErrCycle},
		{"1<1 1<0", api.ErrCycle},
		{most, api.OK},
		{most + " 1", api.ErrFull},
		{most + strings.Repeat(" 1", 1000), api.ErrFull},

		{"0 x", api.ErrSyntax},
		{"1<0 01", api.ErrSyntax},
		{"1<0,0 1<9 0 ", api.ErrSyntax},
		{most + " 1 1 x", api.ErrSyntax},
		{most + " 0", api.ErrFull},
		{"0 " + most, api.ErrFull},
		{"1<0 0", api.ErrRange},
		{"1<0,0 0", api.ErrClash},
		{"1<0,0,9 1", api.ErrRange},
	} {
		got, err := Parse(c.text)
		if plain.Told(err) != c.err || len(got) != 0 && err != nil {
			t.Errorf("%q: got %v %v, want %v", c.text, got, err, c.err)
		}
	}
}

// TestParseLong: texts far longer than a plan end, too.
func TestParseLong(t *testing.T) {
	const n = 1 << 20
	for _, c := range []struct {
		text string
		err  api.Errno
	}{
		{strings.Repeat("1", n), api.ErrSyntax},
		{strings.Repeat(" ", n), api.ErrSyntax},
		{strings.Repeat("<", n), api.ErrSyntax},
		{"1<" + strings.Repeat(",", n), api.ErrSyntax},
		{strings.Repeat("1 ", n) + "1", api.ErrFull},
		{strings.Repeat("1 ", n), api.ErrSyntax},
		{"1<0" + strings.Repeat(",0", n), api.ErrClash},
		{"1<0" + strings.Repeat(",0", n) + ",1", api.ErrRange},
	} {
		if got, err := Parse(c.text); len(got) != 0 || plain.Told(err) != c.err {
			t.Errorf("%.20q: got %v, want %v", c.text, err, c.err)
		}
	}
}

// number in a text, and the form of a plan's text with N for each.
var (
	number = regexp.MustCompile(`[0-9]+`)
	form   = regexp.MustCompile(`^(N(<N(,N)*)?( N(<N(,N)*)?)*)?$`)
)

// hasForm tells whether a text is one of a plan, right or wrong.
func hasForm(text string) bool {
	if strings.Contains(text, "N") {
		return false
	}
	fits := true
	shape := number.ReplaceAllStringFunc(text, func(s string) string {
		n, err := strconv.Atoi(s)
		fits = fits && err == nil && n < 10000 && strconv.Itoa(n) == s
		return "N"
	})
	return fits && form.MatchString(shape)
}

// apart takes a text of the right form apart.
func apart(text string) (p api.Plan) {
	if text == "" {
		return nil
	}
	for _, w := range strings.Split(text, " ") {
		l := number.FindAllString(w, -1)
		var t api.Task
		t.Work, _ = strconv.Atoi(l[0])
		for _, s := range l[1:] {
			n, _ := strconv.Atoi(s)
			t.Needs = append(t.Needs, n)
		}
		p = append(p, t)
	}
	return p
}

// TestAllShortTexts: each text of up to six bytes of a plan's letters.
func TestAllShortTexts(t *testing.T) {
	const letters = "012<, "
	layer := []string{""}
	for range 7 {
		var longer []string
		for _, text := range layer {
			checkText(t, text)
			for _, c := range letters {
				longer = append(longer, text+string(c))
			}
		}
		layer = longer
	}
}

func checkText(t *testing.T, text string) {
	p, err := Parse(text)
	if !hasForm(text) {
		if len(p) != 0 || err != api.ErrSyntax {
			t.Fatalf("%q: got %v %v, want ErrSyntax", text, p, err)
		}
		return
	}
	q := apart(text)
	if _, want := Check(q); want != nil {
		if len(p) != 0 || err != want {
			t.Fatalf("%q: got %v %v, want %v", text, p, err, want)
		}
		return
	}
	again, bad := Print(p)
	if err != nil || bad != nil || again != text || !equal(p, q) {
		t.Fatalf("%q: got %v %v, printed %q %v", text, p, err, again, bad)
	}
}

// TestParseGivesFreshMemory: no two lists of a plan share any.
func TestParseGivesFreshMemory(t *testing.T) {
	const text = "1 2 3<0,1 4<0,1,2 5<2"
	p, _ := Parse(text)
	for i := range p {
		q, err := Parse(text)
		if err != nil {
			t.Fatal(err)
		}
		spoil(q[i].Needs)
		for k := range q {
			if k != i && !reflect.DeepEqual(q[k], p[k]) {
				t.Errorf("task %d shares memory with task %d", k, i)
			}
		}
	}
	if again, err := Print(p); err != nil || again != text {
		t.Errorf("got %q %v", again, err)
	}
}
