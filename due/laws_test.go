package due

import (
	"container/heap"
	"go/ast"
	"go/parser"
	"go/token"
	"path/filepath"
	"reflect"
	"slices"
	"strconv"
	"strings"
	"testing"
	"unsafe"

	"corncrib/api"
)

// Promises 14.1, 14.2: whatever is asked, a queue tells what the chapter's words make of it.
func TestAsByWords(t *testing.T) {
	m := newMaker(1)
	for i := range 300 {
		q, w := New(), &twin{}
		for range 300 {
			m.step(t, q, w, 4+i%11)
		}
		if t.Failed() {
			return
		}
	}
}

// Promises 14.1, 14.2: so does one of as many tasks as there may be.
func TestFullAsByWords(t *testing.T) {
	m := newMaker(2)
	q, w := New(), &twin{}
	full := 0
	for range 9000 {
		m.step(t, q, w, 14)
		if len(w.list) == topItems {
			full++
		}
		if t.Failed() {
			return
		}
	}
	if full < 500 {
		t.Error("full but", full, "times")
	}
}

// Promise 14.3: all that is put is taken, each once, by the time the tick has come to it, the most urgent one first.
func TestAllIsTaken(t *testing.T) {
	m := newMaker(3)
	for range 60 {
		type what struct{ at, urgency, number int }
		q := New()
		var all []what
		taken := map[int]bool{}
		for now := range 60 {
			goes(t, q, now)
			for range m.IntN(6) * m.IntN(2) {
				x := what{m.IntN(60), m.IntN(5), len(all) + 1}
				put(t, q, x.at, x.urgency, x.number, x.number) // its number is its id
				all = append(all, x)
			}
			most := m.IntN(8)
			if m.IntN(5) == 0 || now == 59 {
				most = len(all)
			}
			var last what
			for i := 0; i < most; i++ {
				id, ok := q.Take()
				if !ok {
					for _, x := range all {
						if x.at <= now && !taken[x.number] {
							t.Fatalf("at %d %d is due, and not taken", now, x.number)
						}
					}
					break
				}
				x := all[id-1]
				if taken[id] || x.at > now || i > 0 && x.urgency > last.urgency {
					t.Fatalf("at %d: %d, behind %d", now, x, last)
				}
				taken[id], last = true, x
			}
		}
		if len(taken) != len(all) {
			t.Fatalf("%d of %d taken", len(taken), len(all))
		}
		stands(t, q, 59, 0, 0)
	}
}

// heapsOf answers the heaps that a queue has.
func heapsOf(q *Queue) []heap.Interface {
	var l []heap.Interface
	v := reflect.ValueOf(q).Elem()
	for i := range v.NumField() {
		f := v.Field(i)
		at := reflect.NewAt(f.Type(), unsafe.Pointer(f.UnsafeAddr()))
		if h, ok := at.Interface().(heap.Interface); ok {
			l = append(l, h)
		}
	}
	return l
}

// heaped fails, unless the tasks that wait and those that are due are two heaps.
func heaped(t *testing.T, q *Queue, w *twin) {
	t.Helper()
	l := heapsOf(q)
	if len(l) != 2 {
		t.Fatal(len(l), "heaps")
	}
	for _, h := range l {
		for i := 1; i < h.Len(); i++ {
			if h.Less(i, (i-1)/2) {
				t.Fatalf("task %d is less than what stands above it", i)
			}
		}
	}
	due := 0
	for _, x := range w.list {
		if x.at <= w.now {
			due++
		}
	}
	waits := len(w.list) - due
	if a, b := l[0].Len(), l[1].Len(); (a != due || b != waits) && (a != waits || b != due) {
		t.Fatalf("heaps of %d and %d; %d are due, %d wait", a, b, due, waits)
	}
}

// The chapter's Ways: the tasks that wait, and those that are due, are heaps, whatever was asked.
func TestHeaps(t *testing.T) {
	m := newMaker(4)
	for i := range 40 {
		q, w := New(), &twin{}
		for range 400 {
			m.step(t, q, w, 8+i%6)
			heaped(t, q, w)
		}
	}
}

// takenOut counts the assertions of what comes out of a heap that a file has.
func takenOut(file *ast.File) int {
	n := 0
	ast.Inspect(file, func(node ast.Node) bool {
		x, ok := node.(*ast.TypeAssertExpr)
		if !ok {
			return true
		}
		if call, ok := x.X.(*ast.CallExpr); ok {
			if from, ok := call.Fun.(*ast.SelectorExpr); ok && from.Sel.Name == "Pop" {
				n++
			}
		}
		return true
	})
	return n
}

// The chapter's Ways: out of the heaps tasks come by an assertion.
func TestOutByAssertion(t *testing.T) {
	names, e := filepath.Glob("*.go")
	if e != nil {
		t.Fatal(e)
	}
	n := 0
	for _, name := range names {
		file, e := parser.ParseFile(token.NewFileSet(), name, nil, parser.SkipObjectResolution)
		if e != nil {
			t.Fatal(e)
		}
		if !strings.HasSuffix(name, "_test.go") {
			n += takenOut(file)
		}
	}
	if n == 0 {
		t.Error("no task comes out of a heap by an assertion")
	}
}

// P1: no call panics, whatever it is given.
func TestWildArguments(t *testing.T) {
	m := newMaker(5)
	wild := func() int { return wildNumbers[m.IntN(len(wildNumbers))] }
	for range 300 {
		q, w := New(), &twin{}
		for range 60 {
			at, urgency, id, number, to := wild(), wild(), wild(), wild(), wild()
			if m.IntN(5) > 0 {
				to = -1
			}
			n, e := q.Put(at, urgency, id)
			if want, x := w.put(at, urgency, id); n != want || e != x {
				t.Fatalf("Put(%d, %d, %d): %d, %d; not %d, %d", at, urgency, id, n, e, want, x)
			}
			is(t, "drop "+strconv.Itoa(number), q.Drop(number), w.drop(number))
			is(t, "go to "+strconv.Itoa(to), q.Go(to), w.goTo(to))
			w.alike(t, q)
		}
	}
}

// R5: a call that answers an error, or false, has changed nothing.
func TestRefusedChangesNothing(t *testing.T) {
	q := filled(t, topItems)
	goes(t, q, 3)
	var want []int
	for _, number := range []int{7, 21, 35} {
		want = append(want, number-1)
	}
	for range 2 {
		unput(t, q, -1, api.ErrRange)
		unput(t, q, topTick+1, api.ErrRange)
		unput(t, q, 3, api.ErrLong)
		undropped(t, q, -1, 0, topItems+1)
		stays(t, q, 2)
		stays(t, q, topTick+1)
		stands(t, q, 3, topItems, 0)
	}
	takes(t, q, want...)
	put(t, q, 3, 100, 77, topItems+1)
	takes(t, q, 77)
	empty := New()
	put(t, empty, 4, 1, 5, 1)
	for range 3 {
		none(t, empty)
	}
	stands(t, empty, 0, 1, 4)
	goes(t, empty, 4)
	takes(t, empty, 5)
}

// R7: the same calls tell the same; a queue tells the same, however often it is asked, and nothing of another one.
func TestSameCallSameAnswer(t *testing.T) {
	play := func(seed uint64) []int {
		m := newMaker(seed)
		q := New()
		var out []int
		for range 500 {
			n, e := q.Put(m.IntN(50), m.IntN(4), m.IntN(1000))
			id, ok := q.Take()
			at, there := q.Next()
			again, _ := q.Next()
			if at != again {
				t.Fatal(at, again)
			}
			out = append(out, n, int(e), id, at, q.Len(), int(q.Go(q.Now()+m.IntN(2))), q.Now(), int(q.Drop(m.IntN(n))))
			if ok {
				out = append(out, -1)
			}
			if there {
				out = append(out, -2)
			}
		}
		return out
	}
	for seed := range uint64(5) {
		if !slices.Equal(play(seed), play(seed)) {
			t.Error("not the same twice")
		}
	}
}
