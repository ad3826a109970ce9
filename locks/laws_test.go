package locks

import (
	"go/ast"
	"go/parser"
	"go/token"
	"math"
	"path/filepath"
	"slices"
	"strings"
	"testing"
	"unsafe"

	"corncrib/api"
	"corncrib/record"
)

// Promises 18.1 and 18.2: whatever is asked, the calls tell what the chapter's words make of it.
func TestAsByWords(t *testing.T) {
	m := newMaker(1)
	quiets, noisy, clashes := 0, 0, 0
	for range 3000 {
		few := 2 + m.IntN(40)
		l, r := m.list(m.IntN(12), 20, few), m.list(1, 20, few)[0]
		asByWords(t, l, r)
		for _, x := range l {
			clash(t, x, r, clashByWords(x, r))
			clashes += len(blockersByWords([]api.Record{x}, r))
		}
		if quietByWords(l) {
			quiets++
		} else {
			noisy++
		}
	}
	if quiets < 500 || noisy < 500 || clashes < 500 {
		t.Error(quiets, noisy, clashes)
	}
}

// Promises 18.1 and 18.2: so they do of lists of as many records as there may be.
func TestLongListsAsByWords(t *testing.T) {
	m := newMaker(2)
	for range 12 {
		few := 20 + m.IntN(400)
		asByWords(t, m.list(topList, 400, few), m.list(1, 400, few)[0])
	}
}

// Promise 18.3: who is first does not matter to whether two clash.
func TestWhoIsFirst(t *testing.T) {
	m := newMaker(3)
	for range 5000 {
		l := m.list(2, 8, 2+m.IntN(6))
		one, e := Clash(l[0], l[1])
		other, f := Clash(l[1], l[0])
		if one != other || e != api.OK || f != api.OK {
			t.Errorf("%s: %v, %d; %v, %d", toldAll(l), one, e, other, f)
		}
		slices.Reverse(l)
		quiet(t, l, !one)
	}
	for range 300 { // nor to whether a list is quiet, nor to its keys
		l := m.list(m.IntN(9), 30, 30)
		want, _ := Quiet(l)
		has, _ := Keys(l)
		m.Shuffle(len(l), func(i, j int) { l[i], l[j] = l[j], l[i] })
		quiet(t, l, want)
		keys(t, l, has...)
	}
}

// Promise 18.3: those that are admitted are quiet, and each other one clashes with one of them ahead.
func TestAdmittedAreQuiet(t *testing.T) {
	m := newMaker(4)
	admittedOnes, others := 0, 0
	for range 2000 {
		l := m.list(m.IntN(15), 20, 4+m.IntN(40))
		at, e := Admit(l)
		if e != api.OK || !slices.IsSorted(at) {
			t.Fatal(at, e)
		}
		var in []api.Record
		for i, r := range l {
			ahead, e := Blockers(in, r)
			if e != api.OK {
				t.Fatal(e)
			}
			if slices.Contains(at, i) != (len(ahead) == 0) {
				t.Errorf("%s: admits %v; %d clashes with %v of those ahead", toldAll(l), at, i, ahead)
			}
			if slices.Contains(at, i) {
				in = append(in, r)
			}
		}
		quiet(t, in, true)
		admits(t, in, places(len(in))...)
		quiet(t, l, len(in) == len(l))
		admittedOnes += len(in)
		others += len(l) - len(in)
	}
	if admittedOnes < 1000 || others < 1000 {
		t.Error(admittedOnes, others)
	}
}

// Promise 18.3: a record that is held against those ahead tells the same alone and among others.
func TestBlockersAreClashes(t *testing.T) {
	m := newMaker(5)
	for range 500 {
		l, r := m.list(10, 12, 6), m.list(1, 12, 6)[0]
		var want []int
		for i, x := range l {
			if yes, _ := Clash(x, r); yes {
				want = append(want, i)
			}
		}
		blockers(t, l, r, want...)
	}
}

// wild answers a record of which anything may be wrong.
func (m maker) wild() api.Record {
	numbers := []int{math.MinInt, -1, 0, 1, 2, 15, 16, topTxn, topStamp, topStamp + 1, math.MaxInt}
	number := func() int { return numbers[m.IntN(len(numbers))] }
	text := func() string { return strings.Repeat("k", []int{0, 1, 1, 2, 32, 33, 2052, 2053, 70000}[m.IntN(9)]) }
	r := m.list(1, 8, 2)[0]
	switch m.IntN(14) {
	case 0:
		r.Kind = number()
	case 1:
		r.Txn = number()
	case 2:
		r.Ts = number()
	case 3:
		r.Coord = number()
	case 4:
		r.Key = text()
	case 5:
		r.Text = text()
	case 6:
		r.Keys = append(r.Keys, text())
	case 7:
		r.Writes = append(r.Writes, api.Write{Key: text(), Shard: text(), Dead: m.IntN(2) == 0})
	case 8:
		return api.Record{Kind: number(), Txn: number(), Ts: number(), Coord: number(), Key: text(), Text: text(), Keys: []string{text(), text()}}
	case 9:
		return others()[m.IntN(len(others()))]
	}
	return r
}

// P1: no call panics, whatever it is given; what is wrong is refused, wherever it stands.
func TestWildArguments(t *testing.T) {
	m := newMaker(6)
	for range 3000 {
		var l []api.Record
		for range m.IntN(6) {
			l = append(l, m.wild())
		}
		r := m.wild()
		right := func(x api.Record) bool { return x.Kind == api.RPrep && record.Check(x) == api.OK }
		switch {
		case slices.ContainsFunc(l, func(x api.Record) bool { return !right(x) }):
			refused(t, l, api.ErrRecord)
			noBlockers(t, l, r, api.ErrRecord)
		case !right(r):
			noBlockers(t, l, r, api.ErrRecord)
			noClash(t, r, prep(1, "a", "b"), api.ErrRecord)
		default:
			asByWords(t, l, r)
		}
	}
	huge := api.Record{Kind: api.RPrep, Txn: 5, Keys: make([]string, 1<<13), Writes: make([]api.Write, 1<<13)}
	refused(t, []api.Record{huge}, api.ErrRecord)
	refused(t, make([]api.Record, 1<<14), api.ErrLong)
	noClash(t, huge, huge, api.ErrRecord)
}

// roomy answers a record with spare room behind its lists, in which something stands.
func roomy(r api.Record) api.Record {
	n, k := len(r.Keys), len(r.Writes)
	r.Keys = append(slices.Clone(r.Keys), "k", "spare")[:n]
	r.Writes = append(slices.Clone(r.Writes), api.Write{Key: "k"}, api.Write{Key: "spare"})[:k]
	return r
}

// R4: what is handed in stays as it was, spare room too, and what lies there is not read.
func TestHandedInStays(t *testing.T) {
	m := newMaker(7)
	for range 300 {
		full := m.list(8, 12, 6)
		for i := range full {
			full[i] = roomy(full[i])
		}
		l, r := full[:5], roomy(m.list(1, 12, 6)[0])
		whole := func() string {
			s := ""
			for _, x := range append(full[:8:8], r) {
				x.Keys, x.Writes = x.Keys[:len(x.Keys)+2], x.Writes[:len(x.Writes)+2]
				s += told(x)
			}
			return s
		}
		was := whole()
		asByWords(t, l, r)
		clash(t, l[0], r, clashByWords(l[0], r))
		if is := whole(); is != was {
			t.Errorf("%s; was %s", is, was)
		}
	}
	keys(t, []api.Record{roomy(prep(1, "a", "b"))}, "a", "b")
	clash(t, roomy(prep(1, "a", "b")), roomy(prep(2, "c", "d")), false)
	bad := append(apart(3), api.Record{})[:3] // behind the length stands a wrong one
	quiet(t, bad, true)
	long := apart(300)[:topList]
	admits(t, long, places(topList)...)
}

// shares tells whether two texts share memory.
func shares(a, b string) bool {
	x, y := uintptr(unsafe.Pointer(unsafe.StringData(a))), uintptr(unsafe.Pointer(unsafe.StringData(b)))
	return x < y+uintptr(len(b)) && y < x+uintptr(len(a))
}

// R4: keys that are answered share their memory with nothing that was handed in, and with no other answer.
func TestKeysAreNew(t *testing.T) {
	long := func(s string) string { return strings.Repeat(s, topKey) }
	l := []api.Record{
		{Kind: api.RPrep, Txn: 1, Keys: []string{long("a"), long("b")}, Writes: []api.Write{{Key: long("b"), Shard: "s"}, {Key: long("c")}}},
		{Kind: api.RPrep, Txn: 2, Keys: []string{long("a")}, Writes: []api.Write{{Key: long("d"), Dead: true}}},
	}
	var had []string
	for _, r := range l {
		had = append(had, r.Keys...)
		for _, w := range r.Writes {
			had = append(had, w.Key)
		}
	}
	for range 3 {
		got, e := Keys(l)
		if len(got) != 4 || e != api.OK {
			t.Fatal(got, e)
		}
		for _, key := range got {
			if slices.ContainsFunc(had, func(s string) bool { return shares(s, key) }) {
				t.Errorf("%q shares its memory", key)
			}
		}
		had = append(had, got...)
	}
}

// R4: lists that are answered are new, spare room too.
func TestListsAreNew(t *testing.T) {
	l := list("a/b", "c/d", "/a", "e/f", "/b", "g/h")
	r := prep(9, "b d f", "a c")
	for range 3 {
		blockers(t, l, r, 0, 1, 2, 3, 4)
		admits(t, l, 0, 1, 3, 5)
		keys(t, l, "a", "b", "c", "d", "e", "f", "g", "h")
		x, _ := Blockers(l, r)
		y, _ := Admit(l)
		z, _ := Keys(l)
		for _, some := range [][]int{x[:cap(x)], y[:cap(y)]} {
			for i := range some {
				some[i] = -7
			}
		}
		for i := range z[:cap(z)] {
			z[:cap(z)][i] = "other"
		}
	}
}

// R3: a list without an element may be nil or empty.
func TestNilAndEmpty(t *testing.T) {
	bare := api.Record{Kind: api.RPrep, Txn: 5}
	empty := api.Record{Kind: api.RPrep, Txn: 5, Keys: []string{}, Writes: []api.Write{}}
	for _, r := range []api.Record{bare, empty} {
		for _, l := range [][]api.Record{nil, {}, {bare}, {empty}, {bare, empty}} {
			blockers(t, l, r)
			quiet(t, l, true)
			admits(t, l, places(len(l))...)
			keys(t, l)
		}
		clash(t, r, bare, false)
		clash(t, r, empty, false)
		clash(t, r, prep(1, "a", "b"), false)
	}
}

// R7: the same call tells the same, whatever was asked between.
func TestSameCallSameAnswer(t *testing.T) {
	m := newMaker(8)
	l, r := m.list(60, 200, 25), m.list(1, 200, 8)[0]
	for range 40 {
		asByWords(t, l, r)
		refused(t, []api.Record{{}}, api.ErrRecord)
		noClash(t, r, api.Record{}, api.ErrRecord)
		asByWords(t, m.list(5, 9, 3), m.list(1, 9, 3)[0])
	}
}

// genericSet answers the name of a type of the package's files, but for its tests, that is a map whose keys are of a type that it is told; none, if there is no such.
func genericSet(t *testing.T) string {
	t.Helper()
	names, e := filepath.Glob("*.go")
	if e != nil {
		t.Fatal(e)
	}
	found := ""
	for _, name := range names {
		if strings.HasSuffix(name, "_test.go") {
			continue
		}
		file, e := parser.ParseFile(token.NewFileSet(), name, nil, 0)
		if e != nil {
			t.Fatal(e)
		}
		ast.Inspect(file, func(n ast.Node) bool {
			if x, ok := n.(*ast.TypeSpec); ok && isGenericSet(x) {
				found = x.Name.Name
			}
			return true
		})
	}
	return found
}

// isGenericSet tells whether a type has one parameter, and is a map whose keys are of it.
func isGenericSet(x *ast.TypeSpec) bool {
	m, ok := x.Type.(*ast.MapType)
	if !ok || x.TypeParams.NumFields() != 1 {
		return false
	}
	key, ok := m.Key.(*ast.Ident)
	return ok && key.Name == x.TypeParams.List[0].Names[0].Name
}

// The chapter's Ways: sets of keys are generic.
func TestSetsAreGeneric(t *testing.T) {
	if genericSet(t) == "" {
		t.Error("no generic set")
	}
	var reads set[string] = touched(prep(1, "a b", "c")).reads
	if !slices.Equal(reads.rising(), []string{"a", "b"}) {
		t.Error(reads.rising())
	}
	numbers := of(5, 3, 5, 1)
	if !slices.Equal(numbers.rising(), []int{1, 3, 5}) || !numbers.meets(of(9, 8, 7, 3)) || numbers.meets(of(2, 4)) || numbers.meets(of[int]()) {
		t.Error(numbers.rising())
	}
	numbers.join(of(2, 3))
	numbers.add(1)
	if !slices.Equal(numbers.rising(), []int{1, 2, 3, 5}) {
		t.Error(numbers.rising())
	}
}
