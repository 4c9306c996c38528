// Package plan tells which task needs which.
package plan

import (
	"slices"

	"yardgang/api"
)

// Check tells which task is wrong, and how.
func Check(p api.Plan) (int, error) {
	if len(p) > api.MaxTasks {
		return 0, api.ErrFull
	}
	for i, t := range p {
		if err := checkTask(t, len(p)); err != nil {
			return i, err
		}
	}
	for i := range p {
		if inRing(p, i) {
			return i, api.ErrCycle
		}
	}
	return 0, nil
}

// checkTask tells what is wrong with a task by itself, in a plan of so many.
func checkTask(t api.Task, count int) error {
	if t.Work < 1 || t.Work > api.MaxWork {
		return api.ErrRange
	}
	if slices.ContainsFunc(t.Needs, func(n int) bool { return !isTask(n, count) }) {
		return api.ErrRange
	}
	if !rises(t.Needs) {
		return api.ErrClash
	}
	return nil
}

// isTask tells whether a number is that of a task, in a plan of so many.
func isTask(n, count int) bool { return n >= 0 && n < count }

// rises tells whether each number of a list is above the one ahead of it.
func rises(l []int) bool {
	for i := 1; i < len(l); i++ {
		if l[i] <= l[i-1] {
			return false
		}
	}
	return true
}

// inRing tells whether a task needs itself, at once or through others. A task
// that only needs one of a ring is in none: the way back to it is missing.
func inRing(p api.Plan, i int) bool {
	seen := make([]bool, len(p))
	open := []int{i}
	for len(open) > 0 {
		last := len(open) - 1
		needs := p[open[last]].Needs
		open = open[:last]
		for _, n := range needs {
			if !seen[n] {
				seen[n] = true
				open = append(open, n)
			}
		}
	}
	return seen[i]
}

// Order of tasks: each behind those that it needs.
func Order(p api.Plan) ([]int, error) {
	if _, err := Check(p); err != nil {
		return nil, err
	}
	placed := make([]bool, len(p))
	order := make([]int, 0, len(p))
	for i := next(p, placed); i >= 0; i = next(p, placed) {
		placed[i] = true
		order = append(order, i)
	}
	return order, nil
}

// next is the least task that is not placed while all that it needs are; -1, if none is.
func next(p api.Plan, placed []bool) int {
	missing := func(n int) bool { return !placed[n] }
	for i, t := range p {
		if !placed[i] && !slices.ContainsFunc(t.Needs, missing) {
			return i
		}
	}
	return -1
}

// After a task: those that need it themselves, rising.
func After(p api.Plan, i int) ([]int, error) {
	if _, err := Check(p); err != nil {
		return nil, err
	}
	if !isTask(i, len(p)) {
		return nil, api.ErrRange
	}
	var after []int
	for k, t := range p {
		if slices.Contains(t.Needs, i) {
			after = append(after, k)
		}
	}
	return after, nil
}
