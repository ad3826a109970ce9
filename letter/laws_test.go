package letter

import (
	"math"
	"slices"
	"strings"
	"testing"
	"unsafe"

	"corncrib/api"
)

// Promise 7.2: what is encoded is decoded.
func TestEncodedIsDecoded(t *testing.T) {
	for _, l := range newMaker(2).letters(4000) {
		s, e := Encode(l)
		if e != api.OK {
			t.Fatal(told(l), e)
		}
		if back, e := Decode(s); !same(back, l) || e != api.OK {
			t.Errorf("%s: %d, %s", told(l), e, told(back))
		}
	}
}

// changed answers bytes of which some are turned, put in, or left out.
func (m maker) changed(s string) string {
	b := []byte(s)
	for range 1 + m.IntN(3) {
		i := m.IntN(len(b))
		switch m.IntN(4) {
		case 0:
			b[i] ^= 1 << m.IntN(8)
		case 1:
			b[i] = byte(m.IntN(8))
		case 2:
			b = slices.Insert(b, i, byte(m.IntN(5)))
		default:
			if len(b) > 1 {
				b = slices.Delete(b, i, i+1)
			}
		}
	}
	return string(b)
}

// Promise 7.2: bytes are one letter or none: what is decoded may be, and has just these bytes.
func TestDecodedIsEncoded(t *testing.T) {
	m := newMaker(3)
	letters := kinds()
	right, wrong := 0, 0
	for range 200000 {
		s := m.changed(hand(letters[m.IntN(len(letters))]))
		l, e := Decode(s)
		if e != api.OK {
			wrong++
			continue
		}
		right++
		if !byWords(l) || hand(l) != s {
			t.Errorf("%x: %s", s, told(l))
		}
		if back, e := Encode(l); back != s || e != api.OK {
			t.Errorf("%x: %s, which is %d, %x", s, told(l), e, back)
		}
	}
	if right < 5000 || wrong < 5000 {
		t.Errorf("only %d were letters, %d none", right, wrong)
	}
}

// Promise 7.2: unlike letters have unlike bytes.
func TestUnlikeLetters(t *testing.T) {
	m := newMaker(4)
	had := map[string]api.Letter{}
	for _, l := range append(kinds(), m.letters(3000)...) {
		s, _ := Encode(l)
		if other, ok := had[s]; ok && !same(l, other) {
			t.Errorf("%s and %s: %s", told(l), told(other), start(s))
		}
		had[s] = l
	}
	if len(had) < 2900 {
		t.Error(len(had))
	}
}

// Promise 7.1: letters with a thing or two that look like chance: they may be just as the words say.
func TestAsByWords(t *testing.T) {
	m := newMaker(5)
	near := []int{-1, 0, 1, 2, 3, 4, 5, 9, 11, 12, 99, 100, 115, 116, topTxn, topTxn + 1, topStamp + 1}
	lists := [][]string{nil, {"a"}, {""}, {"a", "b"}, {"b", "a"}, {"a", "a"}, keysUpTo(16), keysUpTo(17), {strings.Repeat("x", 33)}}
	count := [2]int{}
	for range 60000 {
		l := m.letter()
		for range m.IntN(3) {
			switch m.IntN(10) {
			case 0:
				l.Kind = m.IntN(10)
			case 1:
				l.From = near[m.IntN(len(near))]
			case 2:
				l.To = near[m.IntN(len(near))]
			case 3:
				l.Txn = near[m.IntN(len(near))]
			case 4:
				l.Ts = near[m.IntN(len(near))]
			case 5:
				l.Code = m.IntN(7) - 1
			case 6:
				l.Text = strings.Repeat("x", m.IntN(2)*(1+m.IntN(2)*(2051+m.IntN(2))))
			case 7:
				l.Keys = lists[m.IntN(len(lists))]
			case 8:
				l.Writes = writesOf(lists[m.IntN(len(lists))]...)
			default:
				if len(l.Writes) > 0 {
					l.Writes[m.IntN(len(l.Writes))].Dead = true
				}
			}
		}
		should := byWords(l)
		judged(t, l, should)
		if should {
			count[1]++
		} else {
			count[0]++
		}
	}
	if count[0] < 10000 || count[1] < 10000 {
		t.Error(count)
	}
}

// P1: no call panics, whatever it is given.
func TestWildArguments(t *testing.T) {
	m := newMaker(6)
	for _, n := range []int{math.MinInt, math.MinInt + 1, -1, 0, 1, math.MaxInt - 1, math.MaxInt} {
		l := api.Letter{Kind: n, From: n, To: n, Txn: n, Ts: n, Code: n, Text: m.text(9000), Keys: make([]string, 3000), Writes: make([]api.Write, 3000)}
		for kind := range 10 {
			Check(l)
			Encode(l)
			l.Kind = kind
		}
	}
	for range 20000 {
		Decode(m.text(m.IntN(60)))
		Decode("\x07" + m.text(m.IntN(60)))
		nums := []int{m.IntN(10), m.IntN(13), m.IntN(13), m.IntN(9), m.IntN(9), m.IntN(5), int(m.Uint64()>>m.IntN(64))/4 - m.IntN(5)}
		Decode(packed(append(nums, make([]int, m.IntN(4))...), make([]string, m.IntN(9))...))
	}
	Decode(strings.Repeat("\xff", 1<<20))
	Rising(make([]string, 1<<16)...)
	Key(strings.Repeat("x", 1<<20))
}

// R3: a list that is nil and one that is empty are the same.
func TestNilAndEmpty(t *testing.T) {
	for _, l := range kinds() {
		for _, keys := range [][]string{nil, {}, make([]string, 0, 5)} {
			for _, writes := range [][]api.Write{nil, {}, make([]api.Write, 0, 5)} {
				if l.Kind > api.LShard {
					l.Keys = keys
				}
				l.Writes = writes
				may(t, l)
			}
		}
	}
}

// R4: what is handed in stays, and what lies behind its lists is neither read nor written.
func TestLetterStays(t *testing.T) {
	keys := []string{"a", "b", "", "a", strings.Repeat("x", 40)}
	writes := []api.Write{{Key: "c", Shard: "s"}, {Key: "d", Dead: true}, {Key: "b", Shard: "wrong", Dead: true}, {}}
	keptKeys, keptWrites := slices.Clone(keys), slices.Clone(writes)
	l := api.Letter{Kind: 3, From: 1, To: 2, Txn: 5, Keys: keys[:2], Writes: writes[:2]}
	written(t, l, "\x09\x06\x02\x04\x0a\x00\x00\x04\x00\x02"+"\x07\x00\x01a\x01b\x01c\x01s\x01d\x00")
	l.Keys = keys[:3]
	mayNot(t, l)
	l.Keys, l.Writes = keys[:2], writes[:3]
	mayNot(t, l)
	if !Rising(keys[:2]...) || Rising(keys[:3]...) {
		t.Error("not rising")
	}
	if !slices.Equal(keys, keptKeys) || !slices.Equal(writes, keptWrites) {
		t.Error("changed")
	}
}

// shares tells whether two texts lie, in part, in the same memory.
func shares(a, b string) bool {
	x, y := uintptr(unsafe.Pointer(unsafe.StringData(a))), uintptr(unsafe.Pointer(unsafe.StringData(b)))
	return x < y+uintptr(len(b)) && y < x+uintptr(len(a))
}

// R4: no text that is answered shares its memory with what was handed in, with another answer, or within one.
func TestAnswersAreNew(t *testing.T) {
	m := newMaker(7)
	prep := api.Letter{Kind: 3, From: 1, To: 2, Txn: 5, Keys: []string{"aa" + m.text(30), "ab" + m.text(9)}, Writes: []api.Write{{Key: "ac" + m.text(30), Shard: m.text(2000)}}}
	shard := api.Letter{Kind: 2, From: 1, To: 2, Txn: 5, Code: 1, Text: m.text(2052), Keys: []string{"ad" + m.text(9)}}
	var given, l []string
	for _, x := range []api.Letter{prep, shard} {
		given = append(given, textsOf(x)...)
		for range 2 {
			s, _ := Encode(x)
			back, _ := Decode(s)
			l = append(append(l, s), textsOf(back)...)
		}
	}
	l = slices.DeleteFunc(l, func(s string) bool { return s == "" })
	if len(l) != 2*(1+4)+2*(1+2) {
		t.Fatal(len(l))
	}
	for i, a := range l {
		for j, b := range append(l[:i:i], given...) {
			if b != "" && shares(a, b) {
				t.Errorf("answer %d shares its memory with %d", i, j)
			}
		}
	}
}

// R4: lists that are answered are new, spare room too.
func TestListsAreNew(t *testing.T) {
	want := ofKind(api.LPrep)
	s := hand(want)
	for range 3 {
		l, _ := Decode(s)
		if !same(l, want) {
			t.Fatal(told(l))
		}
		keys := l.Keys[:cap(l.Keys)]
		for i := range keys {
			keys[i] = "other"
		}
		if !slices.Equal(l.Writes, want.Writes) {
			t.Error("keys and writes share")
		}
		writes := l.Writes[:cap(l.Writes)]
		for i := range writes {
			writes[i] = api.Write{Key: "other"}
		}
	}
}

// R7: the same call tells the same, whatever was asked between.
func TestSameCallSameAnswer(t *testing.T) {
	for range 3 {
		for _, l := range kinds() {
			may(t, l)
			noLetter(t, hand(l)+"x")
			l.Txn = 0
			mayNot(t, l)
		}
		if !Rising("a", "b") || Rising("b", "a") || !Key("a") || Key("") {
			t.Error("other than ahead")
		}
	}
}
