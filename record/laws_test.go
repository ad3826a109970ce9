package record

import (
	"math"
	"slices"
	"strings"
	"testing"
	"unsafe"

	"corncrib/api"
)

// Promise 8.2: what is encoded is decoded.
func TestEncodedIsDecoded(t *testing.T) {
	for _, r := range newMaker(2).records(4000) {
		s, e := Encode(r)
		if e != api.OK {
			t.Fatal(told(r), e)
		}
		if back, e := Decode(s); !same(back, r) || e != api.OK {
			t.Errorf("%s: %d, %s", told(r), e, told(back))
		}
	}
}

// changed answers bytes of which some are turned, put in, or left out.
func (m maker) changed(s string) string {
	b := []byte(s)
	for range 1 + m.IntN(3) {
		i := m.IntN(len(b))
		switch m.IntN(4) {
		case 0:
			b[i] ^= 1 << m.IntN(8)
		case 1:
			b[i] = byte(m.IntN(8))
		case 2:
			b = slices.Insert(b, i, byte(m.IntN(5)))
		default:
			if len(b) > 1 {
				b = slices.Delete(b, i, i+1)
			}
		}
	}
	return string(b)
}

// Promise 8.2: bytes are one record or none: what is decoded may be, and has just these bytes.
func TestDecodedIsEncoded(t *testing.T) {
	m := newMaker(3)
	records := kinds()
	right, wrong := 0, 0
	for range 200000 {
		s := m.changed(hand(records[m.IntN(len(records))]))
		r, e := Decode(s)
		if e != api.OK {
			wrong++
			continue
		}
		right++
		if !byWords(r) || hand(r) != s {
			t.Errorf("%x: %s", s, told(r))
		}
		if back, e := Encode(r); back != s || e != api.OK {
			t.Errorf("%x: %s, which is %d, %x", s, told(r), e, back)
		}
	}
	if right < 5000 || wrong < 5000 {
		t.Errorf("only %d were records, %d none", right, wrong)
	}
}

// Promise 8.2: unlike records have unlike bytes.
func TestUnlikeRecords(t *testing.T) {
	m := newMaker(4)
	had := map[string]api.Record{}
	for _, r := range append(kinds(), m.records(3000)...) {
		s, _ := Encode(r)
		if other, ok := had[s]; ok && !same(r, other) {
			t.Errorf("%s and %s: %s", told(r), told(other), start(s))
		}
		had[s] = r
	}
	if len(had) < 2500 {
		t.Error(len(had))
	}
}

// Promise 8.1: records with a thing or two that look like chance: they may be just as the words say.
func TestAsByWords(t *testing.T) {
	m := newMaker(5)
	near := []int{-1, 0, 0, 0, 1, 2, 3, 14, 15, 16, topTxn, topTxn + 1, topStamp + 1}
	lists := [][]string{nil, {"a"}, {""}, {"a", "b"}, {"b", "a"}, {"a", "a"}, keysUpTo(16), keysUpTo(17), {strings.Repeat("x", 33)}}
	count := [2]int{}
	for range 60000 {
		r := m.record()
		for range m.IntN(3) {
			switch m.IntN(10) {
			case 0:
				r.Kind = m.IntN(9)
			case 1:
				r.Txn = near[m.IntN(len(near))]
			case 2:
				r.Ts = near[m.IntN(len(near))]
			case 3:
				r.Coord = near[m.IntN(len(near))]
			case 4:
				r.Key = strings.Repeat("k", m.IntN(2)*(1+m.IntN(2)*(31+m.IntN(2))))
			case 5:
				r.Text = strings.Repeat("x", m.IntN(2)*(1+m.IntN(2)*(2051+m.IntN(2))))
			case 6:
				r.Dead = !r.Dead
			case 7:
				r.Keys = lists[m.IntN(len(lists))]
			case 8:
				r.Writes = writesOf(lists[m.IntN(len(lists))]...)
			default:
				if len(r.Writes) > 0 {
					r.Writes[m.IntN(len(r.Writes))].Dead = true
				}
			}
		}
		should := byWords(r)
		judged(t, r, should)
		if should {
			count[1]++
		} else {
			count[0]++
		}
	}
	if count[0] < 10000 || count[1] < 10000 {
		t.Error(count)
	}
}

// Promise 8.1: of every kind each choice of what may be given and what not: it may be just as the words say.
func TestEachChoice(t *testing.T) {
	for kind := -1; kind < 10; kind++ {
		for choice := range 1 << 8 {
			r := api.Record{Kind: kind}
			for i, give := range []func(){
				func() { r.Txn = 5 }, func() { r.Ts = 9 }, func() { r.Coord = 1 }, func() { r.Key = "k" },
				func() { r.Text = "x" }, func() { r.Dead = true }, func() { r.Keys = keysUpTo(1) }, func() { r.Writes = writesOf("w") },
			} {
				if choice>>i&1 == 1 {
					give()
				}
			}
			judged(t, r, byWords(r))
		}
	}
}

// P1: no call panics, whatever it is given.
func TestWildArguments(t *testing.T) {
	m := newMaker(6)
	for _, n := range []int{math.MinInt, math.MinInt + 1, -1, 0, 1, math.MaxInt - 1, math.MaxInt} {
		r := api.Record{Kind: n, Txn: n, Ts: n, Coord: n, Key: m.text(9000), Text: m.text(9000), Dead: n > 0, Keys: make([]string, 3000), Writes: make([]api.Write, 3000)}
		for kind := range 10 {
			Check(r)
			Encode(r)
			r.Kind = kind
		}
	}
	for range 20000 {
		Decode(m.text(m.IntN(60)))
		Decode("\x06" + m.text(m.IntN(60)))
		nums := []int{m.IntN(10), m.IntN(9), m.IntN(9), m.IntN(17), m.IntN(3), int(m.Uint64()>>m.IntN(64))/4 - m.IntN(5)}
		Decode(packed(append(nums, make([]int, m.IntN(4))...), make([]string, m.IntN(9))...))
	}
	Decode(strings.Repeat("\xff", 1<<20))
}

// R3: a list that is nil and one that is empty are the same.
func TestNilAndEmpty(t *testing.T) {
	for _, r := range kinds() {
		for _, keys := range [][]string{nil, {}, make([]string, 0, 5)} {
			for _, writes := range [][]api.Write{nil, {}, make([]api.Write, 0, 5)} {
				r.Keys, r.Writes = keys, writes
				may(t, r)
			}
		}
	}
}

// R4: what is handed in stays, and what lies behind its lists is neither read nor written.
func TestRecordStays(t *testing.T) {
	keys := []string{"a", "b", "", "a", strings.Repeat("x", 40)}
	writes := []api.Write{{Key: "c", Shard: "s"}, {Key: "d", Dead: true}, {Key: "b", Shard: "wrong", Dead: true}, {}}
	keptKeys, keptWrites := slices.Clone(keys), slices.Clone(writes)
	r := api.Record{Kind: 1, Txn: 5, Keys: keys[:2], Writes: writes[:2]}
	written(t, r, "\x08\x02\x0a\x00\x00\x00\x04\x00\x02"+"\x08\x00\x00\x01a\x01b\x01c\x01s\x01d\x00")
	r.Keys = keys[:3]
	mayNot(t, r)
	r.Keys, r.Writes = keys[:2], writes[:3]
	mayNot(t, r)
	r = api.Record{Kind: 2, Txn: 5, Keys: keys[:0], Writes: writes[:0]}
	may(t, r)
	if !slices.Equal(keys, keptKeys) || !slices.Equal(writes, keptWrites) {
		t.Error("changed")
	}
}

// shares tells whether two texts lie, in part, in the same memory.
func shares(a, b string) bool {
	x, y := uintptr(unsafe.Pointer(unsafe.StringData(a))), uintptr(unsafe.Pointer(unsafe.StringData(b)))
	return x < y+uintptr(len(b)) && y < x+uintptr(len(a))
}

// R4: no text that is answered shares its memory with what was handed in, with another answer, or within one.
func TestAnswersAreNew(t *testing.T) {
	m := newMaker(7)
	prep := api.Record{Kind: 1, Txn: 5, Keys: []string{"aa" + m.text(30), "ab" + m.text(9)}, Writes: []api.Write{{Key: "ac" + m.text(30), Shard: m.text(2000)}}}
	version := api.Record{Kind: 3, Ts: 5, Key: "ad" + m.text(9), Text: m.text(2052)}
	var given, l []string
	for _, x := range []api.Record{prep, version} {
		given = append(given, textsOf(x)...)
		for range 2 {
			s, _ := Encode(x)
			given = append(given, s)
			back, _ := Decode(s)
			l = append(l, textsOf(back)...)
		}
	}
	l = slices.DeleteFunc(l, func(s string) bool { return s == "" })
	if len(l) != 2*4+2*2 {
		t.Fatal(len(l))
	}
	for i, a := range l {
		for j, b := range append(l[:i:i], given...) {
			if b != "" && shares(a, b) {
				t.Errorf("answer %d shares its memory with %d", i, j)
			}
		}
	}
	for i, a := range given {
		for j, b := range given[:i] {
			if a != "" && b != "" && shares(a, b) {
				t.Errorf("%d shares its memory with %d", i, j)
			}
		}
	}
}

// R4: lists that are answered are new, spare room too.
func TestListsAreNew(t *testing.T) {
	want := ofKind(api.RPrep)
	s := hand(want)
	for range 3 {
		r, _ := Decode(s)
		if !same(r, want) {
			t.Fatal(told(r))
		}
		keys := r.Keys[:cap(r.Keys)]
		for i := range keys {
			keys[i] = "other"
		}
		if !slices.Equal(r.Writes, want.Writes) {
			t.Error("keys and writes share")
		}
		writes := r.Writes[:cap(r.Writes)]
		for i := range writes {
			writes[i] = api.Write{Key: "other"}
		}
	}
}

// R7: the same call tells the same, whatever was asked between.
func TestSameCallSameAnswer(t *testing.T) {
	for range 3 {
		for _, r := range kinds() {
			may(t, r)
			noRecord(t, hand(r)+"x")
			r.Coord = 16
			mayNot(t, r)
		}
	}
}
