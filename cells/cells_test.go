package cells

import (
	"errors"
	"slices"
	"strconv"
	"strings"
	"testing"

	"yardgang/api"
	"yardgang/plain"
	"yardgang/plan"
)

// most tasks of a plan, and the greatest value that may be.
const (
	mostTasks = 30
	greatest  = 1000000000
)

func TestNumbers(t *testing.T) {
	if api.MaxTasks != mostTasks || api.MaxValue != greatest {
		t.Fatal("a plan has 30 tasks at most, and a value is 1000000000 at most")
	}
	if whats := []int{api.Sum, api.Most, api.Product, api.Split, api.First}; !slices.Equal(whats, rising(1, 6)) {
		t.Fatal(whats)
	}
}

// rising numbers, from one on to below another.
func rising(from, to int) []int {
	var l []int
	for n := from; n < to; n++ {
		l = append(l, n)
	}
	return l
}

// value of a word: a number; M is the greatest that may be, m one less.
func value(t *testing.T, word string) int {
	t.Helper()
	switch digits, below := strings.CutPrefix(word, "-"); {
	case digits == "M" && below:
		return -greatest
	case digits == "M":
		return greatest
	case digits == "m" && below:
		return 1 - greatest
	case digits == "m":
		return greatest - 1
	}
	n, err := strconv.Atoi(word)
	if err != nil {
		t.Fatal(word, err)
	}
	return n
}

// row of cells of a text: values, and x for each fault, blanks between.
func row(t *testing.T, text string) []api.Cell {
	t.Helper()
	var l []api.Cell
	for _, w := range strings.Fields(text) {
		if w == "x" {
			l = append(l, api.Cell{Fault: true})
		} else {
			l = append(l, api.Cell{N: value(t, w)})
		}
	}
	return l
}

// ops of a text: of each its name and its number, blanks between.
func ops(t *testing.T, text string) []api.Op {
	t.Helper()
	var l []api.Op
	words := strings.Fields(text)
	for i := 0; i+1 < len(words); i += 2 {
		what := slices.Index([]string{"", "sum", "most", "product", "split", "first"}, words[i])
		if what < 1 {
			t.Fatal(text)
		}
		l = append(l, api.Op{What: what, N: value(t, words[i+1])})
	}
	return l
}

// read a plan that is right.
func read(t *testing.T, text string) api.Plan {
	t.Helper()
	p, err := plan.Parse(text)
	if err != nil {
		t.Fatal(text, err)
	}
	return p
}

// numbers of a text, blanks between.
func numbers(t *testing.T, text string) []int {
	t.Helper()
	var l []int
	for _, w := range strings.Fields(text) {
		l = append(l, value(t, w))
	}
	return l
}

// is tells whether an error is the wanted one: nil for OK, else an Errno, never OK.
func is(err error, want api.Errno) bool {
	var e api.Errno
	if err == nil || want == api.OK {
		return err == nil && want == api.OK
	}
	return errors.As(err, &e) && e == want && plain.Told(err) == want
}

// holdDo holds what an op comes to.
func holdDo(t *testing.T, o api.Op, in []api.Cell, want api.Cell) {
	t.Helper()
	if got, err := Do(o, in); got != want || err != nil {
		t.Errorf("Do %v of %v: got %v %v, want %v", o, in, got, err, want)
	}
}

// refuseDo holds that Do tells an error, and nothing else.
func refuseDo(t *testing.T, o api.Op, in []api.Cell, want api.Errno) {
	t.Helper()
	if got, err := Do(o, in); got != (api.Cell{}) || !is(err, want) {
		t.Errorf("Do %v of %v: got %v %v, want %v", o, in, got, err, want)
	}
}

// holdAll holds the cells of a plan.
func holdAll(t *testing.T, p api.Plan, l []api.Op, want []api.Cell) {
	t.Helper()
	if got, err := All(p, l); !slices.Equal(got, want) || err != nil {
		t.Errorf("%v: All of %v: got %v %v, want %v", p, l, got, err, want)
	}
}

// holdAlong holds the cells of a plan, along an order.
func holdAlong(t *testing.T, p api.Plan, l []api.Op, order []int, want []api.Cell) {
	t.Helper()
	if got, err := Along(p, l, order); !slices.Equal(got, want) || err != nil {
		t.Errorf("%v: Along %v of %v: got %v %v, want %v", p, order, l, got, err, want)
	}
}

// refuseAlong holds that Along tells an error, and nothing else.
func refuseAlong(t *testing.T, p api.Plan, l []api.Op, order []int, want api.Errno) {
	t.Helper()
	if got, err := Along(p, l, order); len(got) != 0 || !is(err, want) {
		t.Errorf("%v: Along %v of %v: got %v %v, want %v", p, order, l, got, err, want)
	}
}

// refuseBoth holds that All and Along tell an error, and nothing else.
func refuseBoth(t *testing.T, p api.Plan, l []api.Op, order []int, want api.Errno) {
	t.Helper()
	if got, err := All(p, l); len(got) != 0 || !is(err, want) {
		t.Errorf("%v: All of %v: got %v %v, want %v", p, l, got, err, want)
	}
	refuseAlong(t, p, l, order, want)
}

// doings: an op, cells, and what it comes to.
type doings []struct{ op, in, want string }

// hold them.
func (l doings) hold(t *testing.T) {
	t.Helper()
	for _, c := range l {
		holdDo(t, ops(t, c.op)[0], row(t, c.in), row(t, c.want)[0])
	}
}

func TestSum(t *testing.T) {
	doings{
		{"sum 0", "", "0"},
		{"sum 7", "", "7"},
		{"sum -7", "", "-7"},
		{"sum M", "", "M"},
		{"sum -M", "", "-M"},
		{"sum 0", "5", "5"},
		{"sum 3", "5", "8"},
		{"sum 3", "-5", "-2"},
		{"sum -3", "-5 -6", "-14"},
		{"sum 1", "2 3 4", "10"},
		{"sum 1", "0 0 0", "1"},
		{"sum 10", "-1 -2 -3 -4", "0"},
		{"sum 1", "m", "M"},
		{"sum 1", "M", "x"},
		{"sum 0", "m 1", "M"},
		{"sum 0", "M 1", "x"},
		{"sum -1", "-m", "-M"},
		{"sum -1", "-M", "x"},
		{"sum 0", "-m -1", "-M"},
		{"sum 0", "-M -1", "x"},
		{"sum M", "M", "x"},
		{"sum -M", "-M", "x"},
		{"sum M", "-M", "0"},
		{"sum -M", "M M", "M"},
		{"sum M", "-M -M", "-M"},
		{"sum M", "1 -1", "x"},
		{"sum M", "-1 1", "M"},
		{"sum -M", "-1 1", "x"},
		{"sum -M", "1 -1", "-M"},
		{"sum 0", "M 1 -M", "x"},
		{"sum 0", "M -M 1", "1"},
		{"sum 0", "1 M -M", "x"},
		{"sum 0", "-M M M -M -M", "-M"},
		{"sum 0", "x", "x"},
		{"sum 5", "x 1 2", "x"},
		{"sum 5", "1 x 2", "x"},
		{"sum 5", "1 2 x", "x"},
		{"sum 5", "x x x", "x"},
		{"sum M", "M x", "x"},
	}.hold(t)
}

func TestMost(t *testing.T) {
	doings{
		{"most 0", "", "0"},
		{"most -7", "", "-7"},
		{"most M", "", "M"},
		{"most -M", "", "-M"},
		{"most 3", "5", "5"},
		{"most 5", "3", "5"},
		{"most -3", "-5", "-3"},
		{"most -5", "-3", "-3"},
		{"most -5", "-9 -6 -7", "-5"},
		{"most -5", "-9 -4 -7", "-4"},
		{"most -5", "0", "0"},
		{"most 0", "-1 -2", "0"},
		{"most 2", "9 4 7", "9"},
		{"most 2", "4 9 7", "9"},
		{"most 2", "4 7 9", "9"},
		{"most 2", "2 2", "2"},
		{"most -M", "-M -M", "-M"},
		{"most -M", "-m", "-m"},
		{"most -M", "M -M", "M"},
		{"most m", "M", "M"},
		{"most M", "M M M", "M"},
		{"most 9", "x", "x"},
		{"most 9", "x 1 2", "x"},
		{"most 9", "1 x 2", "x"},
		{"most 9", "1 2 x", "x"},
		{"most -9", "x", "x"},
	}.hold(t)
}

func TestProduct(t *testing.T) {
	doings{
		{"product 0", "", "0"},
		{"product 7", "", "7"},
		{"product -7", "", "-7"},
		{"product M", "", "M"},
		{"product -M", "", "-M"},
		{"product 3", "5", "15"},
		{"product 3", "-5", "-15"},
		{"product -3", "-5", "15"},
		{"product -3", "-5 -2", "-30"},
		{"product 1", "2 3 4", "24"},
		{"product 0", "M M M", "0"},
		{"product 0", "-M -M -M", "0"},
		{"product 5", "0", "0"},
		{"product 5", "7 0 9", "0"},
		{"product 1", "M", "M"},
		{"product 1", "-M", "-M"},
		{"product -1", "M", "-M"},
		{"product -1", "-M", "M"},
		{"product M", "-1 -1 -1", "-M"},
		{"product 2", "500000000", "M"},
		{"product 2", "500000001", "x"},
		{"product 2", "-500000000", "-M"},
		{"product 2", "-500000001", "x"},
		{"product -2", "-500000001", "x"},
		{"product 10000", "100000", "M"},
		{"product 99999", "10000", "999990000"},
		{"product 31622", "31623", "999982506"},
		{"product 31623", "31623", "x"},
		{"product -31623", "31622", "-999982506"},
		{"product -31623", "31623", "x"},
		{"product M", "2 0", "x"},
		{"product M", "0 2", "0"},
		{"product 2", "M 0", "x"},
		{"product 1", "M M 0", "x"},
		{"product 1", "M -M 0", "x"},
		{"product 1", "0 M M", "0"},
		{"product 0", "x", "x"},
		{"product 0", "M x", "x"},
		{"product 5", "x 1 2", "x"},
		{"product 5", "1 x 2", "x"},
		{"product 5", "1 2 x", "x"},
		{"product 5", "0 x", "x"},
		{"product 5", "x 0", "x"},
	}.hold(t)
}

func TestSplit(t *testing.T) {
	doings{
		{"split 0", "", "x"},
		{"split 7", "", "x"},
		{"split -M", "", "x"},
		{"split 7", "0", "x"},
		{"split 0", "0", "x"},
		{"split 7", "3 -3", "x"},
		{"split 7", "3 -1 -2", "x"},
		{"split 7", "M -M", "x"},
		{"split 0", "5", "0"},
		{"split 0", "-5", "0"},
		{"split 12", "4", "3"},
		{"split 12", "1 3", "3"},
		{"split 12", "1 2 0 1", "3"},
		{"split 7", "2", "3"},
		{"split -7", "2", "-3"},
		{"split 7", "-2", "-3"},
		{"split -7", "-2", "3"},
		{"split 1", "2", "0"},
		{"split -1", "2", "0"},
		{"split 1", "-2", "0"},
		{"split -1", "-2", "0"},
		{"split 8", "3", "2"},
		{"split -8", "3", "-2"},
		{"split 8", "-3", "-2"},
		{"split -8", "-3", "2"},
		{"split 8", "-1 -2", "-2"},
		{"split M", "1", "M"},
		{"split M", "-1", "-M"},
		{"split -M", "1", "-M"},
		{"split -M", "-1", "M"},
		{"split M", "M", "1"},
		{"split m", "M", "0"},
		{"split -m", "M", "0"},
		{"split M", "m", "1"},
		{"split -M", "m", "-1"},
		{"split M", "m 1", "1"},
		{"split M", "M 1", "x"},
		{"split M", "-m -1", "-1"},
		{"split M", "-M -1", "x"},
		{"split M", "M M -M", "x"},
		{"split M", "M -M M", "1"},
		{"split 5", "M 1 -M", "x"},
		{"split 5", "M -M 1", "5"},
		{"split 5", "-M -1 M", "x"},
		{"split 5", "1 M -M", "x"},
		{"split 5", "-M M 1", "5"},
		{"split 0", "M M", "x"},
		{"split 5", "x", "x"},
		{"split 5", "x 1 2", "x"},
		{"split 5", "1 x 2", "x"},
		{"split 5", "1 2 x", "x"},
		{"split 0", "1 x", "x"},
	}.hold(t)
}

// TestSplitSumIsFromNoughtOn: that N and a cell together are beyond MaxValue,
// or 0, is nothing to Split.
func TestSplitSumIsFromNoughtOn(t *testing.T) {
	doings{
		{"split M", "M", "1"},
		{"split M", "2", "500000000"},
		{"split -M", "-2", "500000000"},
		{"split 5", "-5", "-1"},
		{"split -5", "2 3", "-1"},
	}.hold(t)
}

func TestFirst(t *testing.T) {
	doings{
		{"first 0", "", "0"},
		{"first 7", "", "7"},
		{"first -M", "", "-M"},
		{"first 7", "5", "5"},
		{"first 7", "-5", "-5"},
		{"first 7", "0", "0"},
		{"first 7", "0 5", "0"},
		{"first 7", "5 9 3", "5"},
		{"first 7", "M", "M"},
		{"first M", "M M", "M"},
		{"first M", "-M M", "-M"},
		{"first 7", "x", "7"},
		{"first 0", "x", "0"},
		{"first -7", "x x x", "-7"},
		{"first M", "x x", "M"},
		{"first 7", "x 5", "5"},
		{"first 7", "x 0", "0"},
		{"first 7", "x x x -5 9", "-5"},
		{"first 7", "x 5 x 9", "5"},
		{"first 7", "5 x", "5"},
		{"first 7", "0 x", "0"},
		{"first 7", "5 9 x", "5"},
		{"first 7", "x x 5", "5"},
	}.hold(t)
}

// TestAll: by number, what tasks come to; and along some orders the same.
func TestAll(t *testing.T) {
	for _, c := range []struct{ name, plan, ops, want, orders string }{
		{"no tasks", "", "", "", ""},
		{"one", "1", "sum 5", "5", "0"},
		{"one that is a fault", "1", "split 5", "x", "0"},
		{"beside each other", "1 1 1 1 1", "sum 1 most 2 product 3 split 4 first 5", "1 2 3 x 5", "0 1 2 3 4/4 3 2 1 0/2 0 4 1 3"},
		{"a chain", "1 1<0 1<1 1<2", "sum 2 product 3 sum 4 split 100", "2 6 10 10", "0 1 2 3"},
		{"a chain from its end on", "1<1 1<2 1<3 1", "split 100 sum 4 product 3 sum 2", "10 10 6 2", "3 2 1 0"},
		{"a chain hither and thither", "1<2 1<0 1", "sum 1 product 2 sum 5", "6 12 5", "2 0 1"},
		{"a diamond", "3 2<0 1<0 4<1,2", "sum 7 product 2 sum 1 sum 0", "7 14 8 22", "0 1 2 3/0 2 1 3"},
		{"a diamond, split by both", "3 2<0 1<0 4<1,2", "sum 7 product 2 sum 1 split 50", "7 14 8 2", "0 1 2 3/0 2 1 3"},
		{"the order of needs, not the one in which they come", "1<2 1 1 1<0,1", "sum 10 sum 20 sum 1 first 0", "11 20 1 11", "2 0 1 3/1 2 0 3/2 1 0 3"},
		{"beyond on the way, by the order of needs", "1 1 1 1<0,1,2", "sum M sum 1 sum -M sum 0", "M 1 -M x", "0 1 2 3/0 2 1 3/2 1 0 3"},
		{"within on the way, by the order of needs", "1 1 1 1<0,1,2", "sum M sum -M sum 1 sum 0", "M -M 1 1", "0 1 2 3/0 2 1 3/2 1 0 3"},
		{"product that grows, and then 0", "1 1 1<0,1", "sum M sum 0 product 2", "M 0 x", "0 1 2/1 0 2"},
		{"product of 0, and then great", "1 1 1<0,1", "sum 0 sum M product 2", "0 M 0", "0 1 2/1 0 2"},
		{"a fault goes on", "1 1<0 1<1 1<1 1<2,3", "split 5 sum 1 most 2 product 0 split 3", "x x x x x", "0 1 2 3 4/0 1 3 2 4"},
		{"a fault in between goes on", "1 1<0 1<1 1", "sum 0 split 7 sum 1 sum 2", "0 x x 2", "0 1 2 3/3 0 1 2"},
		{"a fault does not pass First", "1 1<0 1<1", "split 5 first 3 sum 1", "x 3 4", "0 1 2"},
		{"First passes it by", "1 1 1<0,1 1<2", "split 5 sum 8 first 3 product 2", "x 8 8 16", "0 1 2 3/1 0 2 3"},
		{"First passes it by, the last one", "1 1 1<0,1 1<2", "sum 8 split 5 first 3 product 2", "8 x 8 16", "0 1 2 3/1 0 2 3"},
		{"First of faults alone", "1 1 1<0,1", "split 5 split 6 first -3", "x x -3", "0 1 2/1 0 2"},
		{"a fault past First by another way", "1 1<0 1<0,1", "split 5 first 3 sum 1", "x 3 x", "0 1 2"},
		{"one for two", "1 1<0 1<0", "sum 6 split 13 most 9", "6 2 9", "0 1 2/0 2 1"},
		{"work is none of it", "20 1<0 20<1", "sum 1 sum 1 sum 1", "1 2 3", "0 1 2"},
	} {
		t.Run(c.name, func(t *testing.T) {
			p, l, want := read(t, c.plan), ops(t, c.ops), row(t, c.want)
			holdAll(t, p, l, want)
			for _, order := range strings.Split(c.orders, "/") {
				holdAlong(t, p, l, numbers(t, order), want)
			}
		})
	}
}

// TestAlongAhead: orders in which one stands ahead of one that it needs.
func TestAlongAhead(t *testing.T) {
	for _, c := range []struct{ plan, orders string }{
		{"1 1<0", "1 0"},
		{"1<1 1", "0 1"},
		{"1 1<0 1<1", "0 2 1/1 0 2/1 2 0/2 0 1/2 1 0"},
		{"1<2 1<0 1", "0 1 2/0 2 1/1 0 2/1 2 0/2 1 0"},
		{"1 1 1<0,1", "0 2 1/1 2 0/2 0 1/2 1 0"},
		{"1 1<0 1<0", "1 0 2/1 2 0/2 0 1/2 1 0"},
		{"3 2<0 1<0 4<1,2", "0 1 3 2/0 3 1 2/1 0 2 3/3 2 1 0/0 2 3 1/2 0 1 3"},
		{"1 1 1 1<0", "3 0 1 2/3 1 2 0/1 2 3 0"},
	} {
		p := read(t, c.plan)
		l := slices.Repeat(ops(t, "sum 1"), len(p))
		for _, order := range strings.Split(c.orders, "/") {
			refuseAlong(t, p, l, numbers(t, order), api.ErrState)
		}
	}
}
