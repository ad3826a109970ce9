package net

import (
	"go/ast"
	"go/parser"
	"go/token"
	"go/types"
	"path/filepath"
	"slices"
	"strings"
	"testing"
	"unsafe"

	"corncrib/api"
)

// Promises 15.1, 15.2: whatever is asked, a net tells what the chapter's words make of it.
func TestAsByWords(t *testing.T) {
	m := newMaker(1)
	for i := range 200 {
		room := 1 + m.IntN(12)
		n, w := newNet(t, room), &twin{room: room}
		for range 300 {
			m.step(t, n, w, 4+i%9)
		}
		if t.Failed() {
			return
		}
	}
}

// Promises 15.1, 15.2: so does one of the greatest room, which is full now and then.
func TestGreatAsByWords(t *testing.T) {
	m := newMaker(2)
	n, w := newNet(t, topRoom), &twin{room: topRoom}
	full := 0
	for range 12000 {
		m.step(t, n, w, 13)
		if len(w.way) == topRoom {
			full++
		}
		if t.Failed() {
			return
		}
	}
	if full < 500 {
		t.Error("full but", full, "times")
	}
}

// Promise 15.3: what is taken was sent, copied or injected, and each letter is taken or dropped once.
func TestEachOnce(t *testing.T) {
	m := newMaker(3)
	for range 100 {
		n := newNet(t, 1+m.IntN(40))
		came, went := map[int]int{}, map[int]int{}
		next := 1
		for range 400 {
			switch x := ask(m.IntN(3), next); m.IntN(6) {
			case 0, 1:
				if n.Send(x) == api.OK {
					came[next]++
				}
				next++
			case 2:
				if l, e := n.Inject(bytesOf(t, x)); e == api.OK {
					came[l.Txn]++
				}
				next++
			case 3:
				// The one that was copied is known, as it stands last then.
				if n.Copy(m.pick()) == api.OK {
					l, e := n.Take(-1)
					is(t, "take", e, api.OK)
					is(t, "send", n.Send(l), api.OK)
					came[l.Txn]++
				}
			case 4:
				if l, e := n.Take(m.pick()); e == api.OK {
					went[l.Txn]++
				}
			case 5:
				if l, e := n.Drop(m.pick()); e == api.OK {
					went[l.Txn]++
				}
			}
		}
		for n.Len() > 0 {
			l, _ := n.Take(m.pick())
			went[l.Txn]++
		}
		for txn := range next {
			if came[txn] != went[txn] {
				t.Errorf("%d came %d times, and went %d times", txn, came[txn], went[txn])
			}
		}
		hasNone(t, n)
	}
}

// Promise 15.3: those that stay keep their order, and what comes is behind them.
func TestOrderStays(t *testing.T) {
	m := newMaker(4)
	for range 60 {
		n := newNet(t, 30)
		next := 1
		for range 200 {
			for range m.IntN(4) {
				if n.Send(ask(1, next)) == api.OK {
					next++
				}
			}
			if m.IntN(2) == 0 {
				n.Take(m.pick())
			} else {
				n.Drop(m.pick())
			}
		}
		last := 0
		for n.Len() > 0 {
			l, _ := n.Take(0)
			if l.Txn <= last {
				t.Fatalf("%d behind %d", l.Txn, last)
			}
			last = l.Txn
		}
	}
}

// usesMethodValue tells whether a function uses a method as a value, without calling it there, in these files of the program.
func usesMethodValue(files []*ast.File, info *types.Info) bool {
	found := false
	for _, file := range files {
		called := map[ast.Expr]bool{}
		ast.Inspect(file, func(node ast.Node) bool {
			if call, ok := node.(*ast.CallExpr); ok {
				called[call.Fun] = true
			}
			x, ok := node.(*ast.SelectorExpr)
			if !ok || called[x] {
				return true
			}
			if s := info.Selections[x]; s != nil && s.Kind() == types.MethodVal {
				found = true
			}
			return true
		})
	}
	return found
}

// The chapter's Ways: places are found by a method's value.
func TestByMethodValue(t *testing.T) {
	names, e := filepath.Glob("*.go")
	if e != nil {
		t.Fatal(e)
	}
	set := token.NewFileSet()
	var files []*ast.File
	for _, name := range names {
		if strings.HasSuffix(name, "_test.go") {
			continue
		}
		file, e := parser.ParseFile(set, name, nil, 0)
		if e != nil {
			t.Fatal(e)
		}
		files = append(files, file)
	}
	info := &types.Info{Selections: map[*ast.SelectorExpr]*types.Selection{}}
	// What is imported is not looked up, and so is faulty; the package's own methods are known without it.
	of := types.Config{Error: func(error) {}}
	of.Check("corncrib/net", set, files, info)
	if !usesMethodValue(files, info) {
		t.Error("no place is found by a method's value")
	}
}

// P1: no call panics, whatever it is given.
func TestWildArguments(t *testing.T) {
	m := newMaker(5)
	for range 400 {
		n, _ := New(1 + m.IntN(6))
		for range 40 {
			l := m.letter()
			for _, field := range []*int{&l.Kind, &l.From, &l.To, &l.Txn, &l.Ts, &l.Code} {
				if m.IntN(8) == 0 {
					*field = wildNumbers[m.IntN(len(wildNumbers))]
				}
			}
			if m.IntN(8) == 0 {
				l.Keys, l.Writes = make([]string, m.IntN(40)), make([]api.Write, m.IntN(40))
			}
			n.Send(l)
			b := []byte(bytesOf(t, m.letter()))
			b[m.IntN(len(b))] = byte(m.Uint64())
			n.Inject(string(b))
			n.Copy(m.pick())
			n.For(m.pick())
			n.Take(m.pick())
			n.Drop(m.pick())
			New(m.pick())
		}
	}
	l := kinds()[2]
	l.Keys = make([]string, 1<<20)
	is(t, "send", newNet(t, 1).Send(l), api.ErrLetter)
	unjected(t, newNet(t, 1), strings.Repeat("\x01", 1<<22), api.ErrLetter)
}

// R3: letters with lists that are nil, and with ones that are empty, are the same.
func TestNilAndEmpty(t *testing.T) {
	empty := ask(3, 5)
	empty.Keys, empty.Writes = []string{}, make([]api.Write, 0, 4)
	n := newNet(t, 3, empty, ask(3, 5))
	holds(t, n, ask(3, 5), ask(3, 5))
	behind := ask(3, 6)
	behind.Keys, behind.Writes = []string{"b", "a"}[:0], []api.Write{{Key: "x"}}[:0]
	is(t, "send", n.Send(behind), api.OK)
	goes(t, n, 3, 0, 1, 2)
	goes(t, n, 4)
}

// R4: a letter that is sent stays as it is, spare room too, and what lies behind its lists' lengths is not sent.
func TestSentStays(t *testing.T) {
	keys := []string{"a", "b", "behind", "far behind"}
	writes := []api.Write{{Key: "b", Shard: "xyz"}, {Key: "c", Dead: true}, {Key: "behind", Shard: "it"}}
	l := api.Letter{Kind: 3, From: 115, To: 0, Txn: 6, Ts: 70, Keys: keys[:2], Writes: writes[:2]}
	n := newNet(t, 4)
	for range 2 {
		is(t, "send", n.Send(l), api.OK)
		is(t, "copy", n.Copy(0), api.OK)
	}
	is(t, "send to a full net", n.Send(l), api.ErrNet)
	for range 4 {
		x, _ := n.Take(0)
		if !same(x, kinds()[2]) {
			t.Error(told(x))
		}
		spoil(x)
	}
	if !slices.Equal(keys, []string{"a", "b", "behind", "far behind"}) || !same(l, kinds()[2]) || writes[2] != (api.Write{Key: "behind", Shard: "it"}) {
		t.Error("changed:", keys, writes)
	}
}

// R4, R7: a letter stays as it is on its way, whatever its sender does with its lists.
func TestSentIsNotKept(t *testing.T) {
	n := newNet(t, 30)
	var sent []api.Letter
	for _, l := range kinds() {
		is(t, "send", n.Send(l), api.OK)
		sent = append(sent, l)
	}
	for _, l := range sent {
		spoil(l)
	}
	holds(t, n, kinds()...)
	for i := range 8 {
		is(t, "copy", n.Copy(i), api.OK)
	}
	holds(t, n, append(kinds(), kinds()...)...)
}

// R4, R7: so it does, whatever is done with the lists of what was answered: of Inject, and of Take or Drop of a copy.
func TestAnsweredIsNotKept(t *testing.T) {
	n := newNet(t, 40)
	for _, l := range kinds() {
		x, e := n.Inject(bytesOf(t, l))
		is(t, "inject", e, api.OK)
		spoil(x)
	}
	holds(t, n, kinds()...)
	for i := range 16 {
		is(t, "copy", n.Copy(i%8), api.OK)
	}
	for range 8 {
		x, _ := n.Take(0) // what was copied
		spoil(x)
		y, _ := n.Drop(-1) // a copy of the same
		spoil(y)
	}
	holds(t, n, kinds()...)
}

// R4: places that are answered are new memory: whoever changes them changes nothing of the net, nor another answer.
func TestPlacesAreNew(t *testing.T) {
	n := newNet(t, 9, asks(5)...)
	first, second := n.For(2), n.For(2)
	for i := range first[:cap(first)] {
		first[:cap(first)][i] = 77
	}
	if !slices.Equal(second, []int{0, 1, 2, 3, 4}) {
		t.Error(second)
	}
	goes(t, n, 2, 0, 1, 2, 3, 4)
	holds(t, n, asks(5)...)
	goes(t, n, 2, 0, 1, 2, 3, 4)
}

// textsOf answers the texts of letters.
func textsOf(letters ...api.Letter) []string {
	var l []string
	for _, x := range letters {
		l = append(l, x.Text)
		l = append(l, x.Keys...)
		for _, w := range x.Writes {
			l = append(l, w.Key, w.Shard)
		}
	}
	return l
}

// shares tells whether two texts lie, in part, in the same memory.
func shares(a, b string) bool {
	x, y := uintptr(unsafe.Pointer(unsafe.StringData(a))), uintptr(unsafe.Pointer(unsafe.StringData(b)))
	return x < y+uintptr(len(b)) && y < x+uintptr(len(a))
}

// R4: no text of a letter that is answered shares its memory with one that was handed in, or with another answer.
func TestTextsAreNew(t *testing.T) {
	grown := func(s string) string { return strings.Repeat(s, 9) }
	sent := api.Letter{Kind: 3, From: 115, To: 0, Txn: 6, Keys: []string{grown("a"), grown("b")}, Writes: []api.Write{{Key: grown("c"), Shard: grown("shard")}}}
	shard := api.Letter{Kind: 2, From: 3, To: 100, Txn: 5, Code: 1, Text: grown("text"), Keys: []string{grown("key")}}
	s, r := bytesOf(t, sent), bytesOf(t, shard)
	n := newNet(t, 30, sent, shard)
	all := append(textsOf(sent, shard), s, r)
	for _, bytes := range []string{s, r} {
		l, _ := n.Inject(bytes)
		all = append(all, textsOf(l)...)
	}
	for i := range 4 {
		is(t, "copy", n.Copy(i), api.OK)
	}
	for i := range 8 {
		l, e := n.Take(0)
		if i%2 == 0 {
			is(t, "send", n.Send(l), api.OK)
			last, _ := n.Drop(-1)
			all = append(all, textsOf(last)...)
		}
		is(t, "take", e, api.OK)
		all = append(all, textsOf(l)...)
	}
	hasNone(t, n)
	for i, a := range all {
		for j, b := range all[:i] {
			if shares(a, b) {
				t.Errorf("text %d (%q) shares its memory with %d (%q)", i, a, j, b)
			}
		}
	}
}

// R5: what is refused changes nothing.
func TestRefusedChangesNothing(t *testing.T) {
	n := newNet(t, 8, kinds()...)
	for range 3 {
		for _, l := range noLetters() {
			is(t, "send", n.Send(l), api.ErrLetter)
		}
		for _, l := range kinds() {
			is(t, "send", n.Send(l), api.ErrNet)
			unjected(t, n, bytesOf(t, l), api.ErrNet)
			unjected(t, n, bytesOf(t, l)+"x", api.ErrLetter)
		}
		is(t, "copy", n.Copy(3), api.ErrNet)
		goes(t, n, 3, 0)
	}
	holds(t, n, kinds()...)
	for range 8 {
		n.Take(0)
	}
	hasNone(t, n)
	is(t, "send", n.Send(ask(1, 1)), api.OK)
	holds(t, n, ask(1, 1))
}

// R7: the same calls tell the same; a net tells the same, however often it is asked, and nothing of another one.
func TestSameCallSameAnswer(t *testing.T) {
	play := func(seed uint64) []int {
		m := newMaker(seed)
		n := newNet(t, 12)
		var out []int
		for range 500 {
			out = append(out, int(n.Send(m.letter())), int(n.Copy(m.pick())))
			l, e := n.Inject(bytesOf(t, m.letter()))
			x, f := n.Take(m.pick())
			out = append(out, l.Txn, int(e), x.Txn, int(f), n.Len())
			if m.IntN(2) == 0 {
				y, g := n.Drop(m.pick())
				out = append(out, y.Txn, int(g))
			}
			to := m.IntN(120)
			first, again := n.For(to), n.For(to)
			if !slices.Equal(first, again) {
				t.Fatal(first, again)
			}
			out = append(out, first...)
		}
		return out
	}
	for seed := range uint64(5) {
		if !slices.Equal(play(seed), play(seed)) {
			t.Error("not the same twice")
		}
	}
}
