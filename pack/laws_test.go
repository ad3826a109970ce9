package pack

import (
	"math"
	"slices"
	"strings"
	"testing"
	"unsafe"

	"corncrib/api"
)

// Promise 6.3: what is encoded is decoded.
func TestEncodedIsDecoded(t *testing.T) {
	m := newMaker(6)
	for n := range 1500 {
		p := m.pack(m.IntN(1+n%40), m.IntN(1+n%15))
		s, e := Encode(p)
		if e != api.OK {
			t.Fatal(told(p), e)
		}
		if q, at, e := Decode(s); !same(p, q) || at != 0 || e != api.OK {
			t.Errorf("%s: %d at %d, %s", told(p), e, at, told(q))
		}
	}
}

// Promise 6.3: bytes are one pack or none: what is decoded has just these bytes.
func TestDecodedIsEncoded(t *testing.T) {
	m := newMaker(7)
	right := 0
	for range 200000 {
		b := []byte(m.text(2 + m.IntN(9)))
		b[0] %= 4
		for i := 1; i < len(b); i++ {
			if m.IntN(3) > 0 {
				b[i] %= 4
			}
		}
		s := string(b)
		p, _, e := Decode(s)
		if e != api.OK {
			continue
		}
		right++
		if back, e := Encode(p); back != s || e != api.OK {
			t.Errorf("%x: %s, which is %d, %x", s, told(p), e, back)
		}
	}
	if right < 1000 {
		t.Errorf("only %d were packs", right)
	}
}

// Promise 6.3: unlike packs have unlike bytes, none of which begins with the other's.
func TestUnlikePacks(t *testing.T) {
	var l []string
	for _, p := range some() {
		s, _ := Encode(p)
		l = append(l, s)
	}
	slices.Sort(l)
	l = slices.Compact(l)
	if len(l) < 25 {
		t.Fatalf("only %d packs", len(l))
	}
	for i, a := range l {
		for j, b := range l {
			if i != j && strings.HasPrefix(a, b) {
				t.Errorf("%s begins with %s", start(a), start(b))
			}
		}
	}
}

// P1: no call panics, whatever it is given.
func TestWildArguments(t *testing.T) {
	m := newMaker(8)
	for _, n := range []int{math.MinInt, math.MinInt + 1, math.MaxInt - 1, math.MaxInt, 0} {
		Number(n)
		Check(api.Pack{Nums: []int{n}, Texts: []string{m.text(5000)}})
		Encode(api.Pack{Nums: []int{n, n}})
	}
	for range 3000 {
		s := m.text(m.IntN(200))
		asByWords(t, s)
		asByWords(t, "\x02"+s)
		asByWords(t, "\x00\x03"+s)
		asByWords(t, bare(m.Uint64()>>m.IntN(64))+s)
	}
	asByWords(t, strings.Repeat("\xff", 1<<20))
	asByWords(t, "\x80\x08"+strings.Repeat("\x02", 1<<20))
	asByWords(t, "\x00\x80\x08"+strings.Repeat("\x01", 1<<20))
}

// R3: a list that is nil and one that is empty are the same.
func TestNilAndEmpty(t *testing.T) {
	for _, nums := range [][]int{nil, {}, make([]int, 0, 5)} {
		for _, texts := range [][]string{nil, {}, make([]string, 0, 5)} {
			written(t, api.Pack{Nums: nums, Texts: texts}, "\x00\x00")
			written(t, api.Pack{Nums: []int{1}, Texts: texts}, "\x01\x02\x00")
			written(t, api.Pack{Nums: nums, Texts: []string{"a"}}, "\x00\x01\x01a")
		}
	}
}

// R4: a pack that is handed in stays, and what lies behind its lists is neither read nor written.
func TestPackStays(t *testing.T) {
	nums, texts := []int{1, -1, math.MaxInt, 7}, []string{"ab", strings.Repeat("x", 5000), "c"}
	keptNums, keptTexts := slices.Clone(nums), slices.Clone(texts)
	p := api.Pack{Nums: nums[:2], Texts: texts[:1]}
	written(t, p, "\x02\x02\x01\x01\x02ab")
	unwritten(t, api.Pack{Nums: nums[:3], Texts: texts[:1]}, api.ErrRange)
	unwritten(t, api.Pack{Nums: nums[:2], Texts: texts[:2]}, api.ErrLong)
	if !slices.Equal(nums, keptNums) || !slices.Equal(texts, keptTexts) || len(p.Nums) != 2 || len(p.Texts) != 1 {
		t.Error("changed")
	}
}

// shares tells whether two texts lie, in part, in the same memory.
func shares(a, b string) bool {
	x, y := uintptr(unsafe.Pointer(unsafe.StringData(a))), uintptr(unsafe.Pointer(unsafe.StringData(b)))
	return x < y+uintptr(len(b)) && y < x+uintptr(len(a))
}

// R4: no text that is answered shares its memory with what was handed in, with another answer, or within one.
func TestAnswersAreNew(t *testing.T) {
	m := newMaker(9)
	given := []string{m.text(1), m.text(64), m.text(4096)}
	p := api.Pack{Nums: []int{lowest, 0, highest}, Texts: given}
	var l []string
	for range 2 {
		s, _ := Encode(p)
		q, _, _ := Decode(s)
		n, _ := Number(highest)
		l = append(append(l, s, n), q.Texts...)
	}
	if len(l) != 10 {
		t.Fatal(len(l))
	}
	for i, a := range l {
		if a == "" {
			t.Errorf("answer %d has nothing", i)
		}
		for j, b := range append(l[:i:i], given...) {
			if shares(a, b) {
				t.Errorf("answer %d shares its memory with %d", i, j)
			}
		}
	}
}

// R4: lists that are answered are new, spare room too.
func TestListsAreNew(t *testing.T) {
	want := api.Pack{Nums: []int{1, -2, 3}, Texts: []string{"a", "bc", ""}}
	s := hand(want)
	for range 3 {
		p, _, _ := Decode(s)
		if !same(p, want) {
			t.Fatal(told(p))
		}
		nums, texts := p.Nums[:cap(p.Nums)], p.Texts[:cap(p.Texts)]
		for i := range nums {
			nums[i] = 99
		}
		for i := range texts {
			texts[i] = "other"
		}
	}
}

// R7: the same call tells the same, whatever was asked between.
func TestSameCallSameAnswer(t *testing.T) {
	p := some()[1]
	for range 3 {
		written(t, p, hand(p))
		refused(t, hand(p)+"x", len(hand(p)), api.ErrForm)
		refused(t, hand(p)[:5], 5, api.ErrEnd)
		unwritten(t, api.Pack{Nums: []int{math.MinInt}}, api.ErrRange)
	}
}
