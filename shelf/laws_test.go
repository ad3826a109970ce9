package shelf

import (
	"math"
	"slices"
	"strings"
	"testing"
	"unsafe"

	"corncrib/api"
)

// wild answers a record of whatever numbers and texts, which is seldom one that may be.
func (m maker) wild() api.Record {
	numbers := []int{math.MinInt, -1 << 50, -1, 0, 1, 2, 3, 5, 7, 8, 15, 16, topTxn, topStamp, topStamp + 1, math.MaxInt}
	texts := []string{"", "a", "b", "k", "\xff\x00", strings.Repeat("k", 32), strings.Repeat("k", 33), full(topShard), full(topShard + 1)}
	n := func() int { return numbers[m.IntN(len(numbers))] }
	s := func() string { return texts[m.IntN(len(texts))] }
	r := api.Record{Kind: m.IntN(10) - 1, Txn: n(), Ts: n()}
	if m.IntN(3) == 0 {
		r.Coord, r.Dead = n(), true
	}
	if m.IntN(3) > 0 {
		r.Key, r.Text = s(), s()
	}
	for range m.IntN(3) * m.IntN(2) {
		r.Keys = append(r.Keys, s())
	}
	for range m.IntN(3) * m.IntN(2) {
		r.Writes = append(r.Writes, api.Write{Key: s(), Shard: s(), Dead: m.IntN(2) == 0})
	}
	return r
}

// P1: no call panics, whatever it is given; and what is told is what the words say.
func TestWildArguments(t *testing.T) {
	m := newMaker(5)
	s, w := New(), &twin{}
	for i := range 20000 {
		r := m.wild()
		if e, want := s.Apply(r), w.apply(r); e != want {
			t.Fatalf("%s: refused %d, not %d", told(r), e, want)
		}
		if i%500 == 0 {
			knows(t, s, w)
		}
	}
	great := make([]string, 1<<16)
	refuse(t, s, api.ErrRecord, api.Record{Kind: api.RPrep, Txn: 1, Keys: great}, api.Record{Kind: api.RPrep, Txn: 1, Writes: make([]api.Write, 1<<16)}, ver(full(1<<20), 1))
	isRead(t, s, full(1<<20), math.MaxInt, api.CNone, 0, "")
}

// R3: a list of no keys or writes is nil or empty, with the same to be told of it.
func TestEmptyLists(t *testing.T) {
	room := make([]string, 3, 5)
	for _, keys := range [][]string{nil, {}, room[:0]} {
		for _, writes := range [][]api.Write{nil, {}, make([]api.Write, 0, 5)} {
			s := of(t, api.Record{Kind: api.RPrep, Txn: 5, Ts: 3, Keys: keys, Writes: writes})
			if r, ok := s.Prep(5); !ok || !same(r, api.Record{Kind: api.RPrep, Txn: 5, Ts: 3}) {
				t.Error(ok, told(r))
			}
			let(t, s, api.Record{Kind: api.RDo, Txn: 5, Ts: 9, Keys: keys, Writes: writes})
			listed(t, s, do(5, 9))
		}
	}
}

// R4: a record that is handed in stays, and what lies behind its lists' lengths is neither read nor written.
func TestRecordStays(t *testing.T) {
	keys := []string{"a", "c", "b", "behind"}
	writes := []api.Write{{Key: "b", Shard: "x"}, {Key: "d", Dead: true}, {Key: "b"}, {Key: "behind"}}
	wasKeys, wasWrites := slices.Clone(keys), slices.Clone(writes)
	r := api.Record{Kind: api.RPrep, Txn: 5, Keys: keys[:2], Writes: writes[:2]}
	for range 2 {
		s := of(t, r, ver("b", 3))
		refuse(t, s, api.ErrThere, r)
		if s.Held("behind", true) {
			t.Error("what lies behind a list's length is held")
		}
		let(t, s, do(5, 9), ver("d", 12), upTo(20))
		s.Fork()
		if !slices.Equal(keys, wasKeys) || !slices.Equal(writes, wasWrites) || len(r.Keys) != 2 || len(r.Writes) != 2 {
			t.Fatal(keys, writes)
		}
	}
}

// bytesOf answers a text whose bytes may be changed behind.
func bytesOf(s string) (string, []byte) {
	b := []byte(s)
	return unsafe.String(&b[0], len(b)), b
}

// R4: lists and bytes that are changed behind the call are not the shelf's.
func TestRecordIsNotKept(t *testing.T) {
	var all [][]byte
	text := func(s string) string {
		s, b := bytesOf(s)
		all = append(all, b)
		return s
	}
	given := func() []api.Record {
		return []api.Record{
			{Kind: api.RPrep, Txn: 5, Keys: []string{text("a"), text("cc")}, Writes: []api.Write{{Key: text("b"), Shard: text("shard")}, {Key: text("d"), Dead: true}}},
			{Kind: api.RVer, Ts: 3, Key: text("key"), Text: text("another shard")},
			{Kind: api.RVer, Ts: 4, Key: text("key"), Text: text("one more")},
			{Kind: api.RPrep, Txn: 6, Keys: []string{text("e")}, Writes: []api.Write{{Key: text("f"), Shard: text("done")}}},
			{Kind: api.RDo, Txn: 6, Ts: 8},
		}
	}
	l := given()
	s := of(t, l...)
	want := toldAll(of(t, given()...).Records())
	for _, r := range l {
		for i := range r.Keys {
			r.Keys[i] = "changed"
		}
		for i := range r.Writes {
			r.Writes[i] = api.Write{Key: "changed"}
		}
	}
	for _, b := range all {
		copy(b, "XXXXXXXXXXXXXXXXXXX")
	}
	if got := toldAll(s.Records()); got != want {
		t.Errorf("%s; not %s", got, want)
	}
	isRead(t, s, "key", 3, api.CShard, 3, "another shard")
	isRead(t, s, "f", 8, api.CShard, 8, "done")
	if !s.Held("b", false) || !s.Held("cc", true) || s.Last("key") != 4 {
		t.Error("a key is not found any more")
	}
	let(t, s, do(5, 9))
	isRead(t, s, "b", 9, api.CShard, 9, "shard")
}

// pieces answers all texts of records that have bytes.
func pieces(l ...api.Record) []string {
	var out []string
	for _, r := range l {
		out = append(out, r.Key, r.Text)
		out = append(out, r.Keys...)
		for _, w := range r.Writes {
			out = append(out, w.Key, w.Shard)
		}
	}
	return slices.DeleteFunc(out, func(s string) bool { return s == "" })
}

// R4: no text that is answered shares its memory with what was handed in, or with another answer, of the shelf or of a fork.
func TestTextsAreNew(t *testing.T) {
	given := []api.Record{ver("key", 3), ver("key", 4), prep(5, "a cc", "b -d"), prep(6, "e", "f g"), do(6, 8), prep(7, "a", "h")}
	s := of(t, given...)
	f := s.Fork()
	all := pieces(given[:3]...)
	all = append(all, pieces(given[5])...)
	handed := len(all)
	for _, x := range []*Shelf{s, f, s, f, s.Fork(), of(t, s.Records()...)} {
		all = append(all, pieces(x.Records()...)...)
		for txn := range 9 {
			r, _ := x.Prep(txn)
			all = append(all, pieces(r)...)
		}
		for _, at := range []int{3, 4, 9} {
			_, v := x.Read("key", at)
			all = append(all, v.Shard)
		}
	}
	for i, a := range all {
		for j, b := range all[:i] {
			if i >= handed && unsafe.StringData(a) == unsafe.StringData(b) {
				t.Errorf("%q, answer %d shares its memory with %d", a, i, j)
			}
		}
	}
}

// R4: lists that are answered are new, spare room too: whoever changes one changes neither the shelf nor another answer.
func TestListsAreNew(t *testing.T) {
	s := of(t, ver("k", 3), prep(5, "a c", "b d"), prep(6, "a e", "f -g"), prep(9, "", ""), do(7, 8), do(8, 0), upTo(2))
	f := s.Fork()
	want, open := toldAll(s.Records()), slices.Clone(s.Open())
	spoil := func(r api.Record) {
		keys, writes := r.Keys[:cap(r.Keys)], r.Writes[:cap(r.Writes)]
		for i := range keys {
			keys[i] = "changed"
		}
		for i := range writes {
			writes[i] = api.Write{Key: "changed", Dead: true}
		}
	}
	for range 2 {
		for _, x := range []*Shelf{s, f} {
			first, second := x.Records(), x.Records()
			one, _ := x.Prep(5)
			two, _ := x.Prep(5)
			was := told(two)
			spoil(one)
			for i, r := range first {
				spoil(r)
				for _, other := range first[i+1:] { // no two lists of one answer share any
					if slices.Contains(other.Keys, "changed") {
						t.Error(told(other))
					}
				}
			}
			clear(first[:cap(first)])
			l := x.Open()
			l = l[:cap(l)]
			clear(l)
			if toldAll(second) != want || told(two) != was || !slices.Equal(x.Open(), open) {
				t.Error(toldAll(second), told(two), x.Open())
			}
		}
		listed(t, s, f.Records()...)
		if got := toldAll(s.Records()); got != want {
			t.Errorf("%s; not %s", got, want)
		}
	}
}

// R5: a record that is refused changes nothing, also not of what is asked of forks made ahead of it.
func TestRefusedChangesNothing(t *testing.T) {
	m := newMaker(6)
	refusals := 0
	for range 200 {
		s, w := New(), &twin{}
		for range 30 {
			r := m.record()
			f := s.Fork()
			if e := f.Apply(r); e != api.OK {
				refuse(t, s, e, r, r)
				knows(t, s, w)
				refusals++
				continue
			}
			let(t, s, r)
			w.apply(r)
		}
		if t.Failed() {
			return
		}
	}
	if refusals < 1000 {
		t.Error("refused but", refusals)
	}
}

// R7: the same records in the same order make shelves that tell the same, and to ask a shelf does not change it.
func TestSameCallSameAnswer(t *testing.T) {
	for range 5 {
		m, n := newMaker(7), newMaker(7)
		s, other, w := New(), New(), &twin{}
		for range 200 {
			r := m.record()
			if e, same := s.Apply(r), other.Apply(n.record()); e != same {
				t.Fatal(told(r), e, same)
			}
			w.apply(r)
			knows(t, s, w)
		}
		listed(t, other, s.Records()...)
	}
}

// R7: shelves of the same keys tell them in the same order, in whichever they came.
func TestOrderOfKeys(t *testing.T) {
	l := many(200, func(i int) api.Record { return ver(keyOf(i), i) })
	want := toldAll(l)
	m := newMaker(8)
	for range 20 {
		m.Shuffle(len(l), func(i, j int) { l[i], l[j] = l[j], l[i] })
		if got := toldAll(of(t, l...).Records()); got != want {
			t.Fatal(got)
		}
	}
}
