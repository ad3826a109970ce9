package leases

import (
	"go/ast"
	"go/parser"
	"go/token"
	"path/filepath"
	"slices"
	"strings"
	"testing"

	"corncrib/api"
)

// Promises 17.1 to 17.3: whatever is asked, a table tells what the chapter's words make of it.
func TestAsByWords(t *testing.T) {
	m := newMaker(1)
	for range 300 {
		long := []int{0, 1, 3, 8, 30, topLong}[m.IntN(6)]
		x, w := table(t, long), newTwin(long)
		now := m.IntN(50)
		for range 120 {
			now += []int{0, 0, 1, 1, 2, 5}[m.IntN(6)]
			at := now
			if m.IntN(4) == 0 { // ticks may go back
				at = max(0, now-m.IntN(20))
			}
			m.step(t, x, w, at, m.IntN(60), m.IntN(w.given+3)-1, 8)
			w.alike(t, x, max(0, now+m.IntN(9)-4))
		}
	}
}

// Promises 17.1 to 17.3: so does one of as many leases as there may be.
func TestFullAsByWords(t *testing.T) {
	m := newMaker(2)
	x, w := table(t, 1000), newTwin(1000)
	full := 0
	for i := range 12000 {
		now := i/2 + m.IntN(3)
		m.step(t, x, w, now, m.IntN(topStamp), w.given-m.IntN(1200), 15)
		if len(w.all) == topItems {
			full++
		}
		if i%500 == 0 {
			w.alike(t, x, now)
		}
		if t.Failed() {
			return
		}
	}
	if full < 500 {
		t.Error("full but", full, "times")
	}
}

// P1: no call panics, whatever it is given, and each tells what the chapter's words make of it.
func TestWildArguments(t *testing.T) {
	m := newMaker(3)
	for range 300 {
		long := m.wild()
		x, e := New(long)
		if ok := long >= 0 && long <= topLong; ok != (e == api.OK) || ok != (x != nil) {
			t.Fatal(long, e)
		}
		if e != api.OK {
			continue
		}
		w := newTwin(long)
		for range 200 {
			m.step(t, x, w, m.wild(), m.wild(), m.wild(), 6)
			w.lowAlike(t, x, m.wild(), m.wild())
			w.alike(t, x, m.wild())
		}
	}
}

// Promise 17.4: as long as a lease is kept in time, it is not over, and Low is not above its stamp, whatever others do.
func TestKeptInTime(t *testing.T) {
	m := newMaker(4)
	for range 200 {
		long := 1 + m.IntN(9)
		x := table(t, long)
		now, others := m.IntN(30), []int{0}
		ts := m.IntN(100)
		mine, _ := x.Take(now, ts)
		kept := now
		for range 200 {
			now = min(now+m.IntN(4), kept+long) // never behind its end
			if now == kept+long || m.IntN(3) == 0 {
				keep(t, x, now, mine)
				kept = now
			}
			switch other := others[m.IntN(len(others))]; m.IntN(3) {
			case 0:
				n, _ := x.Take(now, m.IntN(200))
				others = append(others, n)
			case 1:
				x.Keep(now, other)
			default:
				x.End(other)
			}
			runs(t, x, now, mine, ts)
			last := m.IntN(200)
			if low, e := x.Low(now, last); low > min(ts, last) || e != api.OK {
				t.Fatalf("at %d: %d, %d; a lease of %d is kept", now, low, e, ts)
			}
		}
	}
}

// Promise 17.4: once all leases are over, or ended, Low is last, whether they were let go of or not.
func TestAllOver(t *testing.T) {
	m := newMaker(5)
	for range 300 {
		long := m.IntN(9)
		x := table(t, long)
		now, number := m.IntN(30), 0
		for range 1 + m.IntN(40) {
			number, _ = x.Take(now, m.IntN(100))
			x.Keep(now, m.IntN(number)+1)
			now += m.IntN(3)
		}
		over := now + long + 1
		ended := m.IntN(2) == 0
		for n := 1; n <= number; n++ {
			if ended { // those that were let go of are none
				x.End(n)
			}
		}
		if ended {
			has(t, x, 0)
			over = m.IntN(now + 1)
		}
		for _, at := range []int{over, over + 1, topTick} {
			for _, last := range []int{0, 50, 500, topStamp} {
				low(t, x, at, last, last)
			}
		}
	}
}

// Promise 17.4: so it is if some are ended, and the others are over.
func TestSomeEndedOthersOver(t *testing.T) {
	for ended := range 16 {
		x := filled(t, 5, 10, 10, 10, 10)
		for n := range 4 {
			if ended>>n&1 == 1 {
				end(t, x, n+1)
			}
		}
		want := 5000
		for n := range 4 {
			if ended>>n&1 == 0 {
				want = min(want, 1001+n)
			}
		}
		low(t, x, 15, 5000, want)
		low(t, x, 16, 5000, 5000)
	}
}

// R5: a call that answers an error has changed nothing that a later one could tell.
func TestRefusedChangesNothing(t *testing.T) {
	m := newMaker(6)
	for range 100 {
		long := m.IntN(8)
		x, plain := table(t, long), newTwin(long)
		for i := range 60 {
			now := i/2 + m.IntN(3)
			plainNumber := m.IntN(plain.given + 2)
			untaken(t, x, -1, 3, api.ErrRange)
			untaken(t, x, topTick, topStamp+1, api.ErrRange)
			refused(t, x, topTick+1, plainNumber, api.ErrRange)
			refused(t, x, now, plain.given+1, api.ErrNone)
			is(t, "end", x.End(plain.given+1), api.ErrNone)
			noLow(t, x, now, -1)
			for number := range plain.given + 1 {
				if _, e := plain.check(now+long+1, number); e != api.OK {
					refused(t, x, now+long+1, number, e)
				}
			}
			plain.alike(t, x, now)
			m.step(t, x, plain, now, m.IntN(40), plainNumber, 10)
		}
	}
}

// R7: the same calls tell the same; to ask changes nothing; tables know nothing of each other.
func TestTheSameTwice(t *testing.T) {
	play := func(seed uint64, ask bool) []int {
		m := newMaker(seed)
		x, other := table(t, 6), table(t, 6)
		var out []int
		for i := range 400 {
			n, e := x.Take(i/3, m.IntN(90))
			out = append(out, n, int(e), int(x.Keep(i/3, m.IntN(n+1))), int(x.End(m.IntN(n+1))))
			low, f := x.Low(i/3, 80)
			ts, g := x.Check(i/3, m.IntN(n+1))
			out = append(out, low, int(f), ts, int(g), x.Len())
			if ask {
				x.Len()
				x.Low(i, 7)
				x.Check(i, n)
				other.Take(i, 1)
				other.Keep(i, n)
				other.End(n - 2)
			}
		}
		return out
	}
	for seed := range uint64(6) {
		first := play(seed, false)
		if !slices.Equal(play(seed, false), first) || !slices.Equal(play(seed, true), first) {
			t.Error("not the same twice")
		}
	}
}

// literals answers the function literals of the package's files, but for its tests.
func literals(t *testing.T) []*ast.FuncLit {
	t.Helper()
	names, e := filepath.Glob("*.go")
	if e != nil {
		t.Fatal(e)
	}
	var l []*ast.FuncLit
	for _, name := range names {
		if strings.HasSuffix(name, "_test.go") {
			continue
		}
		file, e := parser.ParseFile(token.NewFileSet(), name, nil, 0)
		if e != nil {
			t.Fatal(e)
		}
		ast.Inspect(file, func(n ast.Node) bool {
			if x, ok := n.(*ast.FuncLit); ok {
				l = append(l, x)
			}
			return true
		})
	}
	return l
}

// comparesWithOutside tells whether a function literal holds something against a name that stands outside of it.
func comparesWithOutside(f *ast.FuncLit) bool {
	found := false
	outside := func(e ast.Expr) bool {
		x, ok := e.(*ast.Ident)
		return ok && x.Obj != nil && x.Obj.Kind == ast.Var && (x.Obj.Pos() < f.Pos() || x.Obj.Pos() > f.End())
	}
	ast.Inspect(f.Body, func(n ast.Node) bool {
		if x, ok := n.(*ast.BinaryExpr); ok && (x.Op == token.LSS || x.Op == token.GTR || x.Op == token.LEQ || x.Op == token.GEQ) {
			found = found || outside(x.X) || outside(x.Y)
		}
		return true
	})
	return found
}

// The chapter's Ways: what is over is told by a closure, which has the tick from outside.
func TestOverByClosure(t *testing.T) {
	if !slices.ContainsFunc(literals(t), comparesWithOutside) {
		t.Error("no closure tells what is over at a tick")
	}
	for _, x := range []struct {
		until, now int
		over       bool
	}{{15, 14, false}, {15, 15, false}, {15, 16, true}, {0, 0, false}, {0, 1, true}, {topTick + topLong, topTick, false}} {
		if over := overAt(x.now); over(lease{until: x.until}) != x.over {
			t.Error(x)
		}
	}
}
