package due

import (
	"cmp"
	"container/heap"
	"slices"
)

// task is what was put.
type task struct{ at, urgency, id, number int }

// tasks are what a heap has; which of them comes first, waiting and ready tell, each in its own way.
type tasks []task

// Len answers how many there are.
func (l tasks) Len() int { return len(l) }

// Swap lets two of them change places.
func (l tasks) Swap(i, j int) { l[i], l[j] = l[j], l[i] }

// Push is container/heap's: it puts a task behind the others.
func (l *tasks) Push(x any) { *l = append(*l, x.(task)) }

// Pop is container/heap's: it takes the last one away.
func (l *tasks) Pop() any {
	last := len(*l) - 1
	t := (*l)[last]
	*l = (*l)[:last]
	return t
}

// place answers where the task of a number stands, and -1, if there is none.
func (l tasks) place(number int) int {
	return slices.IndexFunc(l, func(t task) bool { return t.number == number })
}

// earliest answers the least tick of tasks that there are.
func (l tasks) earliest() int {
	at := l[0].at
	for _, t := range l[1:] {
		at = min(at, t.at)
	}
	return at
}

// waiting are the tasks that are not due yet: the earliest comes first.
type waiting struct{ tasks }

// Less tells whether a task is due ahead of another one.
func (w waiting) Less(i, j int) bool { return w.tasks[i].at < w.tasks[j].at }

// ready are the tasks that are due: the most urgent comes first.
type ready struct{ tasks }

// Less tells whether a task comes ahead of another one.
func (r ready) Less(i, j int) bool {
	a, b := r.tasks[i], r.tasks[j]
	return cmp.Or(cmp.Compare(b.urgency, a.urgency), cmp.Compare(a.at, b.at), cmp.Compare(a.number, b.number)) < 0
}

// first takes the first task out of a heap that has one.
func first(h heap.Interface) task { return heap.Pop(h).(task) }
