package pack

import (
	"math/rand/v2"
	"slices"
	"strconv"
	"strings"
	"testing"

	"corncrib/api"
)

// The edges of a pack's numbers.
const (
	lowest  = -4611686018427387904
	highest = 4611686018427387903
)

// bare writes a number above nothing as chapter 6's words say it, by its binary digits; it shares nothing with the program.
func bare(n uint64) string {
	digits := strconv.FormatUint(n, 2)
	out := ""
	for len(digits) > 7 {
		x, _ := strconv.ParseUint("1"+digits[len(digits)-7:], 2, 8)
		out += string([]byte{byte(x)})
		digits = digits[:len(digits)-7]
	}
	x, _ := strconv.ParseUint(digits, 2, 8)
	return out + string([]byte{byte(x)})
}

// signed writes a signed number.
func signed(n int) string {
	if n < 0 {
		return bare(2*uint64(-n) - 1)
	}
	return bare(2 * uint64(n))
}

// hand writes a pack.
func hand(p api.Pack) string {
	var b strings.Builder
	b.WriteString(bare(uint64(len(p.Nums))))
	for _, n := range p.Nums {
		b.WriteString(signed(n))
	}
	b.WriteString(bare(uint64(len(p.Texts))))
	for _, text := range p.Texts {
		b.WriteString(bare(uint64(len(text))) + text)
	}
	return b.String()
}

// byWords reads bytes as the words of promise 6.2 say it; it shares nothing with the program.
func byWords(s string) (p api.Pack, at int, e api.Errno) {
	number := func(most uint64) uint64 {
		start, n := at, uint64(0)
		if e != api.OK {
			return 0
		}
		for at < len(s) && s[at] >= 128 {
			at++
		}
		switch {
		case at-start >= 9:
			at, e = start, api.ErrForm
		case at == len(s):
			e = api.ErrEnd
		case at > start && s[at] == 0:
			at, e = start, api.ErrForm
		default:
			for i := at; i >= start; i-- {
				n = n*128 + uint64(s[i]%128)
			}
			at++
			if n > most {
				at, e, n = start, api.ErrLong, 0
			}
		}
		return n
	}
	for n := number(1024); n > 0 && e == api.OK; n-- {
		x := number(1<<63 - 1)
		if x%2 == 0 {
			p.Nums = append(p.Nums, int(x/2))
		} else {
			p.Nums = append(p.Nums, -int((x+1)/2))
		}
	}
	for n := number(1024); n > 0 && e == api.OK; n-- {
		long := int(number(4096))
		if e == api.OK && len(s)-at < long {
			at, e = len(s), api.ErrEnd
		}
		if e == api.OK {
			p.Texts = append(p.Texts, s[at:at+long])
			at += long
		}
	}
	if e == api.OK && at < len(s) {
		e = api.ErrForm
	}
	if e != api.OK {
		return api.Pack{}, at, e
	}
	return p, 0, api.OK
}

// same tells whether two packs have the same numbers and texts.
func same(p, q api.Pack) bool {
	return slices.Equal(p.Nums, q.Nums) && slices.Equal(p.Texts, q.Texts)
}

// told writes a pack so that a fault can be read.
func told(p api.Pack) string {
	s := strconv.Itoa(len(p.Nums)) + " numbers"
	for _, n := range p.Nums[:min(len(p.Nums), 12)] {
		s += " " + strconv.Itoa(n)
	}
	s += ", " + strconv.Itoa(len(p.Texts)) + " texts"
	for _, text := range p.Texts[:min(len(p.Texts), 6)] {
		s += " " + strconv.Quote(text[:min(len(text), 20)])
	}
	return s
}

// start is a piece of bytes so short that it can be read.
func start(s string) string { return strconv.Quote(s[:min(len(s), 40)]) }

// written fails, unless the pack may be, its bytes are these, and the bytes are that pack's.
func written(t *testing.T, p api.Pack, want string) {
	t.Helper()
	if e := Check(p); e != api.OK {
		t.Errorf("%s: refused %d", told(p), e)
	}
	if s, e := Encode(p); s != want || e != api.OK {
		t.Errorf("%s: %d, %s; not %s", told(p), e, start(s), start(want))
	}
	if q, at, e := Decode(want); !same(q, p) || at != 0 || e != api.OK {
		t.Errorf("%s: %d at %d, %s; not %s", start(want), e, at, told(q), told(p))
	}
}

// unwritten fails, unless Check and Encode refuse the pack by this error.
func unwritten(t *testing.T, p api.Pack, want api.Errno) {
	t.Helper()
	if e := Check(p); e != want {
		t.Errorf("%s: Check tells %d, not %d", told(p), e, want)
	}
	if s, e := Encode(p); s != "" || e != want {
		t.Errorf("%s: Encode tells %d, %s; not %d", told(p), e, start(s), want)
	}
}

// refused fails, unless Decode answers this place and this error, and nothing beside them.
func refused(t *testing.T, s string, place int, want api.Errno) {
	t.Helper()
	if p, at, e := Decode(s); len(p.Nums) != 0 || len(p.Texts) != 0 || at != place || e != want {
		t.Errorf("%d bytes %s: %d at %d, %s; not %d at %d", len(s), start(s), e, at, told(p), want, place)
	}
}

// asByWords fails, unless Decode answers what the words say.
func asByWords(t *testing.T, s string) {
	t.Helper()
	p, at, e := Decode(s)
	if q, place, want := byWords(s); !same(p, q) || at != place || e != want {
		t.Errorf("%d bytes %s: %d at %d, %s; not %d at %d, %s", len(s), start(s), e, at, told(p), want, place, told(q))
	}
}

// maker makes packs that look like chance, and are the same each time.
type maker struct{ *rand.Rand }

func newMaker(seed uint64) maker { return maker{rand.New(rand.NewPCG(seed, 6))} }

// number answers one of a pack's numbers, as often a short as a long one.
func (m maker) number() int {
	return m.IntN(2)*lowest + int(m.Uint64()>>(2+m.IntN(62)))
}

// text answers so many bytes.
func (m maker) text(n int) string {
	b := make([]byte, n)
	for i := range b {
		b[i] = byte(m.IntN(256))
	}
	return string(b)
}

// pack answers a pack of so many numbers and texts.
func (m maker) pack(nums, texts int) api.Pack {
	var p api.Pack
	for range nums {
		p.Nums = append(p.Nums, m.number())
	}
	for range texts {
		p.Texts = append(p.Texts, m.text(m.IntN(1+m.IntN(300))))
	}
	return p
}

// some answers packs of all kinds.
func some() []api.Pack {
	m := newMaker(1)
	l := []api.Pack{
		{},
		{Nums: []int{1, -1, 300}, Texts: []string{"ab"}},
		{Nums: []int{0}},
		{Nums: []int{lowest, highest, 0, lowest, highest}},
		{Texts: []string{""}},
		{Texts: []string{"", "", "\x00", "\xff\xff", strings.Repeat("a", 127), strings.Repeat("b", 128)}},
		{Nums: make([]int, 200), Texts: make([]string, 200)},
	}
	for n := range 30 {
		l = append(l, m.pack(m.IntN(n+1), m.IntN(n/3+1)))
	}
	return l
}
