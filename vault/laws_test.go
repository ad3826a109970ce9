package vault

import (
	"math"
	"reflect"
	"slices"
	"strings"
	"testing"
	"unsafe"

	"corncrib/api"
	"corncrib/redo"
	"corncrib/sector"
	"corncrib/shelf"
)

// The chapter's Ways: a vault embeds its log, whose calls are its own, then.
func TestEmbedsItsLog(t *testing.T) {
	embedded := 0
	kind := reflect.TypeFor[Vault]()
	for i := range kind.NumField() {
		if f := kind.Field(i); f.Anonymous && (f.Type == reflect.TypeFor[*redo.Log]() || f.Type == reflect.TypeFor[redo.Log]()) {
			embedded++
		}
	}
	if embedded != 1 {
		t.Errorf("%d logs are embedded", embedded)
	}
	_, v := fresh(t, 40, some()...)
	if got := v.Texts(); !slices.Equal(got, texts(some()...)) || v.Synced() != len(got) {
		t.Errorf("%q, %d of them synced", got, v.Synced())
	}
}

// wild answers a record of whatever numbers and texts, which is seldom one that may be.
func (m maker) wild() api.Record {
	numbers := []int{math.MinInt, -1 << 50, -1, 0, 1, 2, 3, 5, 7, 8, 15, 16, topTxn, topStamp, topStamp + 1, math.MaxInt}
	words := []string{"", "a", "b", "k", "\xff\x00", strings.Repeat("k", 32), strings.Repeat("k", 33), full(topShard), full(topShard + 1)}
	n := func() int { return numbers[m.IntN(len(numbers))] }
	s := func() string { return words[m.IntN(len(words))] }
	r := api.Record{Kind: m.IntN(10) - 1, Txn: n(), Ts: n()}
	if m.IntN(3) == 0 {
		r.Coord, r.Dead = n(), true
	}
	if m.IntN(3) > 0 {
		r.Key, r.Text = s(), s()
	}
	for range m.IntN(3) * m.IntN(2) {
		r.Keys = append(r.Keys, s())
	}
	for range m.IntN(3) * m.IntN(2) {
		r.Writes = append(r.Writes, api.Write{Key: s(), Shard: s(), Dead: m.IntN(2) == 0})
	}
	return r
}

// P1: no call panics, whatever it is given, in whatever state, and of whatever device.
func TestWildArguments(t *testing.T) {
	Open(nil)
	Open(&sector.Device{})
	m := newMaker(3)
	great := make([]string, 1<<16)
	for range 40 {
		d := device(t, []int{1, 2, 3, 4, 5, 6, 50, 2048}[m.IntN(8)])
		var all []*Vault
		for range 40 {
			if v, e := Open(d); e == api.OK {
				all = append(all, v)
			} else if v != nil {
				t.Fatal("a vault beside an error", e)
			}
			for _, v := range all { // also two beside each other, and those whose device crashed: nothing is said of them, but that they end
				switch m.IntN(12) {
				case 0:
					v.Fill(m.records())
				case 1:
					v.Fill([]api.Record{m.wild(), m.wild()})
				case 2:
					v.Fill(make([]api.Record, m.IntN(3)*10000))
				case 3:
					d.Fuse(m.IntN(9))
				case 4:
					d.Crash(m.picks(9)...)
				case 5:
					v.Do(api.Record{Kind: api.RPrep, Txn: 1, Keys: great, Writes: make([]api.Write, 1<<12)})
				case 6, 7, 8:
					v.Do(m.record(m.IntN(99)))
				default:
					v.Do(m.wild())
				}
				v.Shelf()
			}
		}
	}
}

// P1: a log of any texts is opened, or refused.
func TestWildLogs(t *testing.T) {
	m := newMaker(4)
	good := 0
	for range 2000 {
		var l []string
		for range m.IntN(5) {
			b := []byte(bytesOf(m.record(m.IntN(30))))
			if m.IntN(3) == 0 {
				b[m.IntN(len(b))] ^= byte(1 << m.IntN(8))
			}
			if len(b) < 400 {
				l = append(l, string(b))
			}
		}
		v, e := Open(logged(t, 100, l...))
		if (v == nil) != (e == api.ErrRot) || (v != nil) != (e == api.OK) {
			t.Fatal(v != nil, e)
		}
		if e == api.OK && len(l) > 0 {
			good++
		}
	}
	if good < 100 {
		t.Error("opened but", good)
	}
}

// R1: what the shelf refuses is told ahead of what the log does, and that ahead of what the device does.
func TestOrderOfErrors(t *testing.T) {
	d, v := fresh(t, 4, prep(1, "", "k"), do(2, 9)) // 42 of 64 bytes
	down(t, d)
	bad := api.Record{Kind: api.RPrep, Txn: 1, Keys: []string{"b", "a"}}
	is(t, "no record", v.Do(bad), api.ErrRecord)
	locked := tooLong(3)
	locked.Keys = []string{"k"}
	is(t, "locked, and too long", v.Do(locked), api.ErrLocked)
	is(t, "too long, and no room", v.Do(tooLong(3)), api.ErrLong)
	is(t, "no room for it, but for a restart", v.Do(exact(t, "m", 9, 60)), api.ErrDown)
	is(t, "room", v.Do(do(3, 9)), api.ErrDown)
	is(t, "the shelf's first", v.Fill([]api.Record{do(1, 9), do(1, 8), bad, tooLong(3)}), api.ErrState)
	is(t, "the shelf's first", v.Fill([]api.Record{tooLong(3), exact(t, "m", 9, 65), bad, do(1, 9)}), api.ErrRecord)
	is(t, "too long, and no room", v.Fill([]api.Record{exact(t, "m", 9, 65), tooLong(3)}), api.ErrLong)
	is(t, "no room", v.Fill([]api.Record{exact(t, "m", 9, 65)}), api.ErrSpace)
	is(t, "room", v.Fill([]api.Record{exact(t, "m", 9, 64)}), api.ErrDown)
	is(t, "nothing", v.Fill(nil), api.ErrDown)
	d.Crash()
	_, v = fresh(t, 6, sixteen()...)
	is(t, "no room for a restart", v.Do(exact(t, "q", 9, 33)), api.ErrSpace)
	is(t, "too long, and no room for a restart", v.Do(tooLong(3)), api.ErrLong)
}

// R3: a list of no records, keys or writes is nil or empty, with the same to be told of it.
func TestEmptyLists(t *testing.T) {
	for _, l := range [][]api.Record{nil, {}, make([]api.Record, 0, 5)} {
		d, v := fresh(t, 20, some()...)
		is(t, "fill", v.Fill(l), api.OK)
		has(t, v)
		keeps(t, d)
	}
	for _, keys := range [][]string{nil, {}, make([]string, 3, 5)[:0]} {
		for _, writes := range [][]api.Write{nil, {}, make([]api.Write, 0, 5)} {
			r := api.Record{Kind: api.RPrep, Txn: 5, Keys: keys, Writes: writes}
			d, v := fresh(t, 20, r)
			has(t, v, api.Record{Kind: api.RPrep, Txn: 5})
			is(t, "fill", v.Fill([]api.Record{r}), api.OK)
			keeps(t, d, api.Record{Kind: api.RPrep, Txn: 5})
		}
	}
}

// R4: records and lists that are handed in stay, and what lies behind a list's length is neither read nor written.
func TestArgumentsAreLetBe(t *testing.T) {
	keys := []string{"a", "c", "b", "behind"}
	writes := []api.Write{{Key: "b", Shard: "x"}, {Key: "d", Dead: true}, {Key: "b"}, {Key: "behind"}}
	list := []api.Record{{Kind: api.RPrep, Txn: 5, Keys: keys[:2], Writes: writes[:2]}, do(6, 9), do(5, 8), {}, do(6, 8)}
	want := []string{told(list[0]), told(list[1]), told(list[2]), told(list[3]), told(list[4])}
	d, v := fresh(t, 40, list[0])
	is(t, "there", v.Do(list[0]), api.ErrThere)
	is(t, "fill", v.Fill(list[:3]), api.OK)
	is(t, "fill with a wrong one", v.Fill(list), api.ErrRecord)
	has(t, v, list[:3]...)
	v.Shelf()
	for range 20 {
		let(t, v, prep(7, "", "z"), do(7, 0))
		is(t, "fill", v.Fill(list[:3]), api.OK)
	}
	keeps(t, d, list[:3]...)
	for i, r := range list {
		if told(r) != want[i] {
			t.Error(told(r))
		}
	}
	if !slices.Equal(keys, []string{"a", "c", "b", "behind"}) || !slices.Equal(writes, []api.Write{{Key: "b", Shard: "x"}, {Key: "d", Dead: true}, {Key: "b"}, {Key: "behind"}}) {
		t.Error(keys, writes)
	}
}

// given answers records whose texts lie in bytes that may be changed.
func given() (l []api.Record, spoil func()) {
	var all [][]byte
	text := func(s string) string {
		b := []byte(s)
		all = append(all, b)
		return unsafe.String(&b[0], len(b))
	}
	l = []api.Record{
		{Kind: api.RPrep, Txn: 5, Keys: []string{text("a"), text("cc")}, Writes: []api.Write{{Key: text("b"), Shard: text("shard")}, {Key: text("d"), Dead: true}}},
		{Kind: api.RVer, Ts: 3, Key: text("key"), Text: text("another shard")},
		{Kind: api.RVer, Ts: 4, Key: text("key"), Text: text("one more")},
		{Kind: api.RPrep, Txn: 6, Keys: []string{text("e")}, Writes: []api.Write{{Key: text("f"), Shard: text("done")}}},
		{Kind: api.RDo, Txn: 6, Ts: 8},
	}
	return l, func() {
		for i := range l {
			for j := range l[i].Keys {
				l[i].Keys[j] = "changed"
			}
			for j := range l[i].Writes {
				l[i].Writes[j] = api.Write{Key: "changed"}
			}
			l[i] = api.Record{}
		}
		for _, b := range all {
			copy(b, "XXXXXXXXXXXXXXXXXXX")
		}
	}
}

// R4: lists and bytes that are changed behind the call are not the vault's: neither what it answers, nor what it writes later.
func TestArgumentsAreNotKept(t *testing.T) {
	for _, fill := range []bool{false, true} {
		l, spoil := given()
		same, _ := given()
		d, v := fresh(t, 8) // the records are most of 192 bytes
		if fill {
			is(t, "fill", v.Fill(l), api.OK)
		} else {
			let(t, v, l...)
		}
		spoil()
		has(t, v, same...)
		keeps(t, d, same...)
		more, was := []api.Record{prep(9, "", "q"), do(9, 0), do(5, 9)}, inUse(t, d)
		let(t, v, more...)
		if inUse(t, d) == was {
			t.Error("the log was not restarted")
		}
		has(t, v, append(same, more...)...)
		keeps(t, d, append(same, more...)...)
	}
}

// pieces answers all texts of a shelf that have bytes.
func pieces(s *shelf.Shelf) []string {
	var out []string
	for _, r := range s.Records() {
		out = append(out, r.Key, r.Text)
		out = append(out, r.Keys...)
		for _, w := range r.Writes {
			out = append(out, w.Key, w.Shard)
		}
	}
	return slices.DeleteFunc(out, func(s string) bool { return s == "" })
}

// R4: no text that an answered shelf tells shares its memory with what was handed in, or with what another one tells.
func TestAnswersAreNew(t *testing.T) {
	l, _ := given()
	d, v := fresh(t, 40, l...)
	seen := map[*byte]bool{}
	for _, r := range l {
		for _, s := range slices.Concat([]string{r.Key, r.Text}, r.Keys) {
			seen[unsafe.StringData(s)] = s != ""
		}
		for _, w := range r.Writes {
			seen[unsafe.StringData(w.Key)], seen[unsafe.StringData(w.Shard)] = true, w.Shard != ""
		}
	}
	for range 2 {
		for _, s := range []*shelf.Shelf{v.Shelf(), v.Shelf(), opened(t, d).Shelf()} {
			for _, text := range pieces(s) {
				if p := unsafe.StringData(text); seen[p] {
					t.Errorf("%q shares its memory", text)
				} else {
					seen[p] = true
				}
			}
		}
		is(t, "fill", v.Fill(l), api.OK)
	}
}

// R5: a call that is refused has changed nothing that a later one could tell, but that the log is restarted for want of room.
func TestRefusedChangesNothing(t *testing.T) {
	m := newMaker(6)
	refusals := 0
	for range 60 {
		d, v := fresh(t, 60)
		other, w := fresh(t, 60)
		for i := range 40 {
			r := m.record(i)
			s := v.Shelf()
			if s.Apply(r) != api.OK || len(bytesOf(r)) > 4096 {
				refusals++
				if e := v.Do(r); e == api.OK || e == api.ErrSpace || v.Do(r) != e {
					t.Fatal(told(r), e)
				}
				is(t, "fill", v.Fill([]api.Record{do(1, 0), do(0, 0)}), api.ErrRecord)
				is(t, "fill", v.Fill(many(300, func(i int) api.Record { return do(i, 0) })), api.ErrSpace)
			} else {
				is(t, told(r), v.Do(r), w.Do(r))
			}
			if knows(v.Shelf()) != knows(w.Shelf()) || !slices.Equal(image(t, d), image(t, other)) {
				t.Fatal("a refusal is to be seen")
			}
		}
	}
	if refusals < 500 {
		t.Error("refused but", refusals)
	}
}

// R7: the same calls tell the same, and make the same bytes; to ask a vault does not change it.
func TestTheSameTwice(t *testing.T) {
	run := func(ask bool) (string, []string) {
		m := newMaker(7)
		d, v := fresh(t, 60)
		told := ""
		for i := range 300 {
			told += string(rune('0' + v.Do(m.record(i))))
			if ask {
				v.Shelf()
				v.Shelf().Apply(do(1000+i, 9))
			}
		}
		return told + knows(v.Shelf()), image(t, d)
	}
	first, sectors := run(false)
	for i := range 4 {
		again, same := run(i%2 == 0)
		if again != first || !slices.Equal(same, sectors) {
			t.Errorf("%.300s; not %.300s", again, first)
		}
	}
}

// Vaults of unlike devices know nothing of each other.
func TestVaultsApart(t *testing.T) {
	a, one := fresh(t, 8, do(1, 9))
	b, two := fresh(t, 8)
	let(t, two, do(1, 8), prep(2, "", "k"))
	is(t, "fill", one.Fill([]api.Record{do(3, 9)}), api.OK)
	let(t, one, prep(2, "k", ""))
	has(t, one, do(3, 9), prep(2, "k", ""))
	has(t, two, do(1, 8), prep(2, "", "k"))
	keeps(t, a, do(3, 9), prep(2, "k", ""))
	keeps(t, b, do(1, 8), prep(2, "", "k"))
}
