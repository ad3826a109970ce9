package record

import (
	"math/rand/v2"
	"slices"
	"strconv"
	"strings"
	"testing"

	"corncrib/api"
)

// The ends of what records may have, as chapters 7 and 8 and the limits tell them.
const (
	topTxn   = 1125899906842623
	topStamp = 1125899906842624
	topShard = 2052
)

// bare writes a number above nothing as chapter 6's words say it, by its binary digits; it shares nothing with the program.
func bare(n uint64) string {
	digits := strconv.FormatUint(n, 2)
	out := ""
	for len(digits) > 7 {
		x, _ := strconv.ParseUint("1"+digits[len(digits)-7:], 2, 8)
		out += string([]byte{byte(x)})
		digits = digits[:len(digits)-7]
	}
	x, _ := strconv.ParseUint(digits, 2, 8)
	return out + string([]byte{byte(x)})
}

// signed writes a signed number.
func signed(n int) string {
	if n < 0 {
		return bare(2*uint64(-n) - 1)
	}
	return bare(2 * uint64(n))
}

// packed writes numbers and texts as a pack's bytes.
func packed(nums []int, texts ...string) string {
	var b strings.Builder
	b.WriteString(bare(uint64(len(nums))))
	for _, n := range nums {
		b.WriteString(signed(n))
	}
	b.WriteString(bare(uint64(len(texts))))
	for _, text := range texts {
		b.WriteString(bare(uint64(len(text))) + text)
	}
	return b.String()
}

// one answers 1 for what is dead.
func one(dead bool) int {
	if dead {
		return 1
	}
	return 0
}

// numsOf and textsOf answer the numbers and texts of a record, whether or not it may be.
func numsOf(r api.Record) []int {
	nums := []int{r.Kind, r.Txn, r.Ts, r.Coord, one(r.Dead), len(r.Keys)}
	for _, w := range r.Writes {
		nums = append(nums, one(w.Dead))
	}
	return nums
}

func textsOf(r api.Record) []string {
	texts := []string{r.Key, r.Text}
	texts = append(texts, r.Keys...)
	for _, w := range r.Writes {
		texts = append(texts, w.Key, w.Shard)
	}
	return texts
}

// hand writes a record, whether or not it may be.
func hand(r api.Record) string { return packed(numsOf(r), textsOf(r)...) }

// same tells whether two records are the same; lists without an element are.
func same(a, b api.Record) bool {
	return slices.Equal([]int{a.Kind, a.Txn, a.Ts, a.Coord}, []int{b.Kind, b.Txn, b.Ts, b.Coord}) && a.Key == b.Key &&
		a.Text == b.Text && a.Dead == b.Dead && slices.Equal(a.Keys, b.Keys) && slices.Equal(a.Writes, b.Writes)
}

// start is a piece of a text so short that it can be read.
func start(s string) string { return strconv.Quote(s[:min(len(s), 40)]) }

// told writes a record so that a fault can be read.
func told(r api.Record) string {
	s := ""
	for _, n := range numsOf(r) {
		s += strconv.Itoa(n) + " "
	}
	for _, text := range textsOf(r) {
		s += " " + start(text) + ":" + strconv.Itoa(len(text))
	}
	return s
}

// written fails, unless the record may be, its bytes are these, and the bytes are that record's.
func written(t *testing.T, r api.Record, want string) {
	t.Helper()
	if e := Check(r); e != api.OK {
		t.Errorf("%s: refused %d", told(r), e)
	}
	if s, e := Encode(r); s != want || e != api.OK {
		t.Errorf("%s: %d, %s; not %s", told(r), e, start(s), start(want))
	}
	if back, e := Decode(want); !same(back, r) || e != api.OK {
		t.Errorf("%s: %d, %s; not %s", start(want), e, told(back), told(r))
	}
}

// may fails, unless the record may be, and is written and read as the words say.
func may(t *testing.T, r api.Record) {
	t.Helper()
	written(t, r, hand(r))
}

// unwritten fails, unless the record is refused by ErrRecord, and nothing is told beside it.
func unwritten(t *testing.T, r api.Record) {
	t.Helper()
	if e := Check(r); e != api.ErrRecord {
		t.Errorf("%s: Check tells %d", told(r), e)
	}
	if s, e := Encode(r); s != "" || e != api.ErrRecord {
		t.Errorf("%s: Encode tells %d, %s", told(r), e, start(s))
	}
}

// mayNot fails, unless the record is refused by ErrRecord, and so are its bytes.
func mayNot(t *testing.T, r api.Record) {
	t.Helper()
	unwritten(t, r)
	noRecord(t, hand(r))
}

// noRecord fails, unless the bytes are refused by ErrRecord, and nothing is told beside it.
func noRecord(t *testing.T, s string) {
	t.Helper()
	if r, e := Decode(s); e != api.ErrRecord || !same(r, api.Record{}) {
		t.Errorf("%d bytes %s: %d, %s", len(s), start(s), e, told(r))
	}
}

// judged fails, unless the record may be just if it should.
func judged(t *testing.T, r api.Record, should bool) {
	t.Helper()
	if should {
		may(t, r)
	} else {
		mayNot(t, r)
	}
}

// kinds answers a record of each of the seven kinds, which has what its kind names.
func kinds() []api.Record {
	return []api.Record{
		{Kind: 1, Txn: 6, Ts: 70, Coord: 3, Keys: []string{"a", "b"}, Writes: []api.Write{{Key: "b", Shard: "xyz"}, {Key: "c", Dead: true}}},
		{Kind: 2, Txn: 5, Ts: 9},
		{Kind: 3, Ts: 9, Key: "k", Text: "shard"},
		{Kind: 4, Ts: 64},
		{Kind: 5, Txn: 7, Ts: 300},
		{Kind: 6, Txn: 7},
		{Kind: 7, Ts: 1000},
	}
}

// ofKind answers the record of that kind, of those that kinds answers.
func ofKind(kind int) api.Record { return kinds()[kind-1] }

// keysUpTo answers so many keys, rising.
func keysUpTo(n int) []string {
	var l []string
	for i := range n {
		l = append(l, string([]byte{'a' + byte(i/5), 'a' + byte(i%5)}))
	}
	return l
}

// writesOf answers a write of each key.
func writesOf(keys ...string) []api.Write {
	var l []api.Write
	for _, key := range keys {
		l = append(l, api.Write{Key: key, Shard: "s" + key})
	}
	return l
}

// byWords tells of a record as the chapter's words say it, whether it may be; it shares nothing with the program.
func byWords(r api.Record) bool {
	key := func(s string) bool { return s != "" && len(s) < 33 }
	if r.Txn < 0 || r.Txn > topTxn || r.Ts < 0 || r.Ts > topStamp || r.Coord < 0 || r.Coord > 15 {
		return false
	}
	writes := []string{}
	for _, w := range r.Writes {
		if len(w.Shard) > topShard || w.Dead && len(w.Shard) > 0 {
			return false
		}
		writes = append(writes, w.Key)
	}
	for _, keys := range [][]string{r.Keys, writes} {
		for i, s := range keys {
			if !key(s) || i > 0 && strings.Compare(keys[i-1], s) >= 0 {
				return false
			}
		}
	}
	noVersion := r.Key == "" && r.Text == "" && !r.Dead
	noPrepared := r.Coord == 0 && len(r.Keys) == 0 && len(r.Writes) == 0
	switch r.Kind {
	case 1:
		return r.Txn > 0 && noVersion && len(r.Keys) <= 16 && len(r.Writes) <= 16
	case 2:
		return r.Txn > 0 && noVersion && noPrepared
	case 3:
		return r.Txn == 0 && r.Ts > 0 && noPrepared && key(r.Key) && len(r.Text) <= topShard && (r.Text == "" || !r.Dead)
	case 4:
		return r.Txn == 0 && noVersion && noPrepared
	case 5:
		return r.Txn > 0 && r.Ts > 0 && noVersion && noPrepared
	case 6:
		return r.Txn > 0 && r.Ts == 0 && noVersion && noPrepared
	case 7:
		return r.Txn == 0 && r.Ts > 0 && noVersion && noPrepared
	}
	return false
}

// maker makes records that look like chance, and are the same each time.
type maker struct{ *rand.Rand }

func newMaker(seed uint64) maker { return maker{rand.New(rand.NewPCG(seed, 8))} }

// text answers so many bytes.
func (m maker) text(n int) string {
	b := make([]byte, n)
	for i := range b {
		b[i] = byte(m.IntN(256))
	}
	return string(b)
}

// keys answers up to most keys, rising.
func (m maker) keys(most int) []string {
	var l []string
	for range m.IntN(most + 1) {
		l = append(l, m.text(1+m.IntN(32)))
	}
	slices.Sort(l)
	return slices.Compact(l)
}

// writes answers up to 16 of them, by keys rising.
func (m maker) writes() []api.Write {
	var l []api.Write
	for _, key := range m.keys(16) {
		w := api.Write{Key: key, Dead: m.IntN(3) == 0}
		if !w.Dead {
			w.Shard = m.text(m.IntN(1 + m.IntN(300)))
		}
		l = append(l, w)
	}
	return l
}

// record answers one that may be.
func (m maker) record() api.Record {
	txn := 1 + int(m.Uint64()>>(14+m.IntN(50)))%topTxn
	ts := 1 + int(m.Uint64()>>(14+m.IntN(50)))
	switch 1 + m.IntN(7) {
	case 1:
		return api.Record{Kind: 1, Txn: txn, Ts: ts * m.IntN(2), Coord: m.IntN(16), Keys: m.keys(16), Writes: m.writes()}
	case 2:
		return api.Record{Kind: 2, Txn: txn, Ts: ts * m.IntN(2)}
	case 3:
		if m.IntN(3) == 0 {
			return api.Record{Kind: 3, Ts: ts, Key: m.text(1 + m.IntN(32)), Dead: true}
		}
		return api.Record{Kind: 3, Ts: ts, Key: m.text(1 + m.IntN(32)), Text: m.text(m.IntN(1 + m.IntN(2053)))}
	case 4:
		return api.Record{Kind: 4, Ts: ts * m.IntN(2)}
	case 5:
		return api.Record{Kind: 5, Txn: txn, Ts: ts}
	case 6:
		return api.Record{Kind: 6, Txn: txn}
	}
	return api.Record{Kind: 7, Ts: ts}
}

// records answers so many of them.
func (m maker) records(n int) []api.Record {
	var l []api.Record
	for range n {
		l = append(l, m.record())
	}
	return l
}
