package weave

import (
	"slices"

	"yardgang/api"
)

// part of a weave: what it measures, and the numbers of the tasks that come
// first and last in it, rising.
type part struct {
	work, span  int
	first, last []int
}

// reader of a text, and the tasks that were read so far. Where the form is
// wrong it panics with the error; read alone begins it, and catches that.
type reader struct {
	text  string
	at    int
	tasks api.Plan
}

// read a whole text, by its form alone: numbers above their bound are read,
// too, as a fault of the form further on is told ahead of them.
func read(text string) (p api.Plan, whole part, err error) {
	defer func() {
		switch wrong := recover().(type) {
		case nil:
		case api.Errno:
			p, whole, err = nil, part{}, wrong
		default:
			// No reader told this: to answer would hide that it is broken.
			panic(wrong)
		}
	}()
	r := reader{text: text}
	whole = r.weave()
	if r.at < len(text) {
		panic(api.ErrSyntax)
	}
	return r.tasks, whole, nil
}

// weave reads what stands beside each other: chains with | between.
func (r *reader) weave() part {
	whole := r.chain()
	for r.take('|') {
		next := r.chain()
		whole.work += next.work
		whole.span = max(whole.span, next.span)
		whole.first = append(whole.first, next.first...)
		whole.last = append(whole.last, next.last...)
	}
	return whole
}

// chain reads what stands one behind the other: links with ; between.
func (r *reader) chain() part {
	whole := r.link()
	for r.take(';') {
		next := r.link()
		for _, i := range next.first {
			// Each has a list of its own, as what comes out shares no memory.
			r.tasks[i].Needs = slices.Clone(whole.last)
		}
		whole.work += next.work
		whole.span += next.span
		whole.last = next.last
	}
	return whole
}

// link reads a number, or a weave with ( and ) about it.
func (r *reader) link() part {
	if !r.take('(') {
		return r.task()
	}
	inner := r.weave()
	if !r.take(')') {
		panic(api.ErrSyntax)
	}
	return inner
}

// task reads a number: one more task.
func (r *reader) task() part {
	work, i := r.number(), len(r.tasks)
	r.tasks = append(r.tasks, api.Task{Work: work})
	return part{work: work, span: work, first: []int{i}, last: []int{i}}
}

// number reads digits, the first of them no 0: a 0 ahead is needless, and 0
// itself is no number of a weave.
func (r *reader) number() int {
	from, n := r.at, 0
	for r.at < len(r.text) && isDigit(r.text[r.at]) {
		// What is above MaxWork stays so; more would overflow in a long number.
		n = min(10*n+int(r.text[r.at]-'0'), api.MaxWork+1)
		r.at++
	}
	if r.at == from || r.text[from] == '0' {
		panic(api.ErrSyntax)
	}
	return n
}

// take a sign, if it is the next one, and tell whether it was.
func (r *reader) take(sign byte) bool {
	if r.at == len(r.text) || r.text[r.at] != sign {
		return false
	}
	r.at++
	return true
}

func isDigit(b byte) bool { return b >= '0' && b <= '9' }
