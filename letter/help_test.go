package letter

import (
	"math/rand/v2"
	"slices"
	"strconv"
	"strings"
	"testing"

	"corncrib/api"
)

// The ends of what letters may have, as chapter 7 and the limits tell them.
const (
	topTxn   = 1125899906842623
	topStamp = 1125899906842624
	topShard = 2052
)

// bare writes a number above nothing as chapter 6's words say it, by its binary digits; it shares nothing with the program.
func bare(n uint64) string {
	digits := strconv.FormatUint(n, 2)
	out := ""
	for len(digits) > 7 {
		x, _ := strconv.ParseUint("1"+digits[len(digits)-7:], 2, 8)
		out += string([]byte{byte(x)})
		digits = digits[:len(digits)-7]
	}
	x, _ := strconv.ParseUint(digits, 2, 8)
	return out + string([]byte{byte(x)})
}

// signed writes a signed number.
func signed(n int) string {
	if n < 0 {
		return bare(2*uint64(-n) - 1)
	}
	return bare(2 * uint64(n))
}

// packed writes numbers and texts as a pack's bytes.
func packed(nums []int, texts ...string) string {
	var b strings.Builder
	b.WriteString(bare(uint64(len(nums))))
	for _, n := range nums {
		b.WriteString(signed(n))
	}
	b.WriteString(bare(uint64(len(texts))))
	for _, text := range texts {
		b.WriteString(bare(uint64(len(text))) + text)
	}
	return b.String()
}

// numsOf and textsOf answer the numbers and texts of a letter, whether or not it may be.
func numsOf(l api.Letter) []int {
	nums := []int{l.Kind, l.From, l.To, l.Txn, l.Ts, l.Code, len(l.Keys)}
	for _, w := range l.Writes {
		if w.Dead {
			nums = append(nums, 1)
		} else {
			nums = append(nums, 0)
		}
	}
	return nums
}

func textsOf(l api.Letter) []string {
	texts := []string{l.Text}
	texts = append(texts, l.Keys...)
	for _, w := range l.Writes {
		texts = append(texts, w.Key, w.Shard)
	}
	return texts
}

// hand writes a letter, whether or not it may be.
func hand(l api.Letter) string { return packed(numsOf(l), textsOf(l)...) }

// same tells whether two letters are the same; lists without an element are.
func same(a, b api.Letter) bool {
	return slices.Equal([]int{a.Kind, a.From, a.To, a.Txn, a.Ts, a.Code}, []int{b.Kind, b.From, b.To, b.Txn, b.Ts, b.Code}) &&
		a.Text == b.Text && slices.Equal(a.Keys, b.Keys) && slices.Equal(a.Writes, b.Writes)
}

// start is a piece of a text so short that it can be read.
func start(s string) string { return strconv.Quote(s[:min(len(s), 40)]) }

// told writes a letter so that a fault can be read.
func told(l api.Letter) string {
	s := ""
	for _, n := range numsOf(l) {
		s += strconv.Itoa(n) + " "
	}
	for _, text := range textsOf(l) {
		s += " " + start(text) + ":" + strconv.Itoa(len(text))
	}
	return s
}

// written fails, unless the letter may be, its bytes are these, and the bytes are that letter's.
func written(t *testing.T, l api.Letter, want string) {
	t.Helper()
	if e := Check(l); e != api.OK {
		t.Errorf("%s: refused %d", told(l), e)
	}
	if s, e := Encode(l); s != want || e != api.OK {
		t.Errorf("%s: %d, %s; not %s", told(l), e, start(s), start(want))
	}
	if back, e := Decode(want); !same(back, l) || e != api.OK {
		t.Errorf("%s: %d, %s; not %s", start(want), e, told(back), told(l))
	}
}

// may fails, unless the letter may be, and is written and read as the words say.
func may(t *testing.T, l api.Letter) {
	t.Helper()
	written(t, l, hand(l))
}

// mayNot fails, unless the letter is refused by ErrLetter, and so are its bytes.
func mayNot(t *testing.T, l api.Letter) {
	t.Helper()
	if e := Check(l); e != api.ErrLetter {
		t.Errorf("%s: Check tells %d", told(l), e)
	}
	if s, e := Encode(l); s != "" || e != api.ErrLetter {
		t.Errorf("%s: Encode tells %d, %s", told(l), e, start(s))
	}
	noLetter(t, hand(l))
}

// noLetter fails, unless the bytes are refused by ErrLetter, and nothing is told beside it.
func noLetter(t *testing.T, s string) {
	t.Helper()
	if l, e := Decode(s); e != api.ErrLetter || !same(l, api.Letter{}) {
		t.Errorf("%d bytes %s: %d, %s", len(s), start(s), e, told(l))
	}
}

// judged fails, unless the letter may be just if it should.
func judged(t *testing.T, l api.Letter, should bool) {
	t.Helper()
	if should {
		may(t, l)
	} else {
		mayNot(t, l)
	}
}

// kinds answers a letter of each of the eight kinds, which has what its kind names.
func kinds() []api.Letter {
	return []api.Letter{
		{Kind: 1, From: 100, To: 3, Txn: 5, Ts: 9, Keys: []string{"k"}},
		{Kind: 2, From: 3, To: 100, Txn: 5, Ts: 9, Code: 1, Text: "shard", Keys: []string{"k"}},
		{Kind: 3, From: 115, To: 0, Txn: 6, Ts: 70, Keys: []string{"a", "b"}, Writes: []api.Write{{Key: "b", Shard: "xyz"}, {Key: "c", Dead: true}}},
		{Kind: 4, From: 0, To: 115, Txn: 6, Code: 1},
		{Kind: 5, From: 101, To: 11, Txn: 7, Ts: 300},
		{Kind: 6, From: 11, To: 101, Txn: 7},
		{Kind: 7, From: 1, To: 2, Txn: 5},
		{Kind: 8, From: 2, To: 1, Txn: 5, Ts: 64, Code: 2},
	}
}

// ofKind answers the letter of that kind, of those that kinds answers.
func ofKind(kind int) api.Letter { return kinds()[kind-1] }

// keysUpTo answers so many keys, rising.
func keysUpTo(n int) []string {
	var l []string
	for i := range n {
		l = append(l, string([]byte{'a' + byte(i/5), 'a' + byte(i%5)}))
	}
	return l
}

// writesOf answers a write of each key.
func writesOf(keys ...string) []api.Write {
	var l []api.Write
	for _, key := range keys {
		l = append(l, api.Write{Key: key, Shard: "s" + key})
	}
	return l
}

// byWords tells of a letter as the chapter's words say it, whether it may be; it shares nothing with the program.
func byWords(l api.Letter) bool {
	key := func(s string) bool { return s != "" && len(s) < 33 }
	address := func(n int) bool { return n >= 0 && n < 12 || n >= 100 && n < 116 }
	if !address(l.From) || !address(l.To) || l.Txn < 1 || l.Txn > topTxn || l.Ts < 0 || l.Ts > topStamp || l.Code < 0 || l.Code > 4 {
		return false
	}
	writes := []string{}
	for _, w := range l.Writes {
		if len(w.Shard) > topShard || w.Dead && len(w.Shard) > 0 {
			return false
		}
		writes = append(writes, w.Key)
	}
	for _, keys := range [][]string{l.Keys, writes} {
		for i, s := range keys {
			if !key(s) || i > 0 && strings.Compare(keys[i-1], s) >= 0 {
				return false
			}
		}
	}
	noText, noKeys, noWrites := len(l.Text) == 0, len(l.Keys) == 0, len(l.Writes) == 0
	switch l.Kind {
	case 1:
		return l.Code == 0 && noText && len(l.Keys) == 1 && noWrites
	case 2:
		return (noText || l.Code == 1 && len(l.Text) <= topShard) && len(l.Keys) == 1 && noWrites
	case 3:
		return l.Code == 0 && noText && len(l.Keys) <= 16 && len(l.Writes) <= 16
	case 4:
		return l.Code <= 1 && noText && noKeys && noWrites
	case 5, 6, 7:
		return l.Code == 0 && noText && noKeys && noWrites
	case 8:
		return l.Code <= 2 && noText && noKeys && noWrites
	}
	return false
}

// maker makes letters that look like chance, and are the same each time.
type maker struct{ *rand.Rand }

func newMaker(seed uint64) maker { return maker{rand.New(rand.NewPCG(seed, 7))} }

// text answers so many bytes.
func (m maker) text(n int) string {
	b := make([]byte, n)
	for i := range b {
		b[i] = byte(m.IntN(256))
	}
	return string(b)
}

// address answers one.
func (m maker) address() int {
	if m.IntN(2) == 0 {
		return m.IntN(12)
	}
	return 100 + m.IntN(16)
}

// keys answers up to most keys, rising.
func (m maker) keys(most int) []string {
	var l []string
	for range m.IntN(most + 1) {
		l = append(l, m.text(1+m.IntN(32)))
	}
	slices.Sort(l)
	return slices.Compact(l)
}

// letter answers one that may be.
func (m maker) letter() api.Letter {
	l := api.Letter{Kind: 1 + m.IntN(8), From: m.address(), To: m.address(), Txn: 1 + int(m.Uint64()>>(14+m.IntN(50)))%topTxn, Ts: int(m.Uint64() >> (14 + m.IntN(50)))}
	switch l.Kind {
	case 1:
		l.Keys = []string{m.text(1 + m.IntN(32))}
	case 2:
		l.Keys, l.Code = []string{m.text(1 + m.IntN(32))}, m.IntN(5)
		if l.Code == 1 {
			l.Text = m.text(m.IntN(1 + m.IntN(2053)))
		}
	case 3:
		l.Keys = m.keys(16)
		for _, key := range m.keys(16) {
			w := api.Write{Key: key, Dead: m.IntN(3) == 0}
			if !w.Dead {
				w.Shard = m.text(m.IntN(1 + m.IntN(300)))
			}
			l.Writes = append(l.Writes, w)
		}
	case 4:
		l.Code = m.IntN(2)
	case 8:
		l.Code = m.IntN(3)
	}
	return l
}

// letters answers so many of them.
func (m maker) letters(n int) []api.Letter {
	var l []api.Letter
	for range n {
		l = append(l, m.letter())
	}
	return l
}
