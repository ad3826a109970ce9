package locks

import (
	"math"
	"math/rand/v2"
	"slices"
	"strconv"
	"strings"
	"testing"

	"corncrib/api"
)

// The ends of what lists and records may have, as the chapters and the limits tell them.
const (
	topList  = 256
	topStamp = 1125899906842624
	topTxn   = 1125899906842623
	topShard = 2052
	topKey   = 32
	topWrite = 16
)

// prep answers a record RPrep of what a transaction reads and writes, each a list of words; of those with a - ahead there is none any more.
func prep(txn int, reads, writes string) api.Record {
	r := api.Record{Kind: api.RPrep, Txn: txn, Ts: txn % 7, Coord: txn % 16, Keys: strings.Fields(reads)}
	for _, word := range strings.Fields(writes) {
		key, dead := strings.CutPrefix(word, "-")
		w := api.Write{Key: key, Dead: dead}
		if !dead {
			w.Shard = key + " of " + strconv.Itoa(txn)
		}
		r.Writes = append(r.Writes, w)
	}
	return r
}

// list answers records of the transactions from 1 on, one a text: what it reads, a slash, and what it writes.
func list(texts ...string) []api.Record {
	var l []api.Record
	for i, text := range texts {
		reads, writes, _ := strings.Cut(text, "/")
		l = append(l, prep(i+1, reads, writes))
	}
	return l
}

// keyOf answers a key for each number from 0 to 89999, rising as they do; words answers so many of them, from a number on.
func keyOf(i int) string { return "key" + strconv.Itoa(10000+i) }

func words(from, n int) string {
	var l []string
	for i := range n {
		l = append(l, keyOf(from+i))
	}
	return strings.Join(l, " ")
}

// apart answers so many records that read and write keys of their own.
func apart(n int) []api.Record {
	var l []api.Record
	for i := range n {
		l = append(l, prep(i+1, keyOf(2*i), keyOf(2*i+1)))
	}
	return l
}

// with answers the list with another record in a place.
func with(l []api.Record, at int, r api.Record) []api.Record {
	out := slices.Clone(l)
	out[at] = r
	return out
}

// may answers records RPrep at the edges of what they may have.
func may() []api.Record {
	key := strings.Repeat("k", topKey)
	shard := strings.Repeat("s", topShard)
	return []api.Record{
		{Kind: api.RPrep, Txn: 1},
		{Kind: api.RPrep, Txn: topTxn, Ts: topStamp, Coord: 15},
		{Kind: api.RPrep, Txn: 5, Keys: []string{}, Writes: []api.Write{}},
		{Kind: api.RPrep, Txn: 5, Keys: []string{key}, Writes: []api.Write{{Key: key, Shard: shard}}},
		{Kind: api.RPrep, Txn: 5, Keys: []string{"\x00", "\xff"}, Writes: []api.Write{{Key: "\x00", Dead: true}, {Key: "\xff"}}},
		prep(6, words(0, topWrite), words(8, topWrite)),
	}
}

// mayNot answers records RPrep that may not be.
func mayNot() []api.Record {
	of := func(change func(r *api.Record)) api.Record {
		r := prep(5, "a c", "b -d")
		change(&r)
		return r
	}
	return []api.Record{
		of(func(r *api.Record) { r.Txn = 0 }),
		of(func(r *api.Record) { r.Txn = -1 }),
		of(func(r *api.Record) { r.Txn = topTxn + 1 }),
		of(func(r *api.Record) { r.Ts = -1 }),
		of(func(r *api.Record) { r.Ts = topStamp + 1 }),
		of(func(r *api.Record) { r.Coord = -1 }),
		of(func(r *api.Record) { r.Coord = 16 }),
		of(func(r *api.Record) { r.Key = "a" }),
		of(func(r *api.Record) { r.Text = "a" }),
		of(func(r *api.Record) { r.Dead = true }),
		of(func(r *api.Record) { r.Keys[0] = "" }),
		of(func(r *api.Record) { r.Keys[1] = "a" }),
		of(func(r *api.Record) { r.Keys[0] = "e" }),
		of(func(r *api.Record) { r.Keys[1] = strings.Repeat("k", topKey+1) }),
		of(func(r *api.Record) { r.Writes[0].Key = "" }),
		of(func(r *api.Record) { r.Writes[1].Key = "b" }),
		of(func(r *api.Record) { r.Writes[0].Key = "e" }),
		of(func(r *api.Record) { r.Writes[1].Key = strings.Repeat("k", topKey+1) }),
		of(func(r *api.Record) { r.Writes[1].Shard = "s" }),
		of(func(r *api.Record) { r.Writes[0].Shard = strings.Repeat("s", topShard+1) }),
		prep(5, words(0, topWrite+1), ""),
		prep(5, "", words(0, topWrite+1)),
	}
}

// others answers records that may be and are no RPrep, and some of no kind.
func others() []api.Record {
	l := []api.Record{
		{Kind: api.RDo, Txn: 5, Ts: 9}, {Kind: api.RDo, Txn: 5},
		{Kind: api.RVer, Ts: 9, Key: "k", Text: "s"}, {Kind: api.RVer, Ts: 9, Key: "k", Dead: true},
		{Kind: api.RSweep, Ts: 9}, {Kind: api.RSweep},
		{Kind: api.RGo, Txn: 5, Ts: 9}, {Kind: api.REnd, Txn: 5}, {Kind: api.RUpto, Ts: 9}, {},
	}
	for _, kind := range []int{math.MinInt, -1, 0, 2, 3, 4, 5, 6, 7, 8, math.MaxInt} {
		r := prep(5, "a", "b")
		r.Kind = kind
		l = append(l, r)
	}
	return l
}

// wrong answers all records that are refused.
func wrong() []api.Record { return append(mayNot(), others()...) }

// clash fails, unless two records clash, or not, whichever is first.
func clash(t *testing.T, a, b api.Record, want bool) {
	t.Helper()
	for range 2 {
		if got, e := Clash(a, b); got != want || e != api.OK {
			t.Errorf("%s and %s clash: %v, %d; not %v", told(a), told(b), got, e, want)
		}
		a, b = b, a
	}
}

// blockers, quiet, admits and keys fail, unless a call answers that.
func blockers(t *testing.T, l []api.Record, r api.Record, want ...int) {
	t.Helper()
	if got, e := Blockers(l, r); !slices.Equal(got, want) || e != api.OK {
		t.Errorf("%s: blockers of %s: %v, %d; not %v", toldAll(l), told(r), got, e, want)
	}
}

func quiet(t *testing.T, l []api.Record, want bool) {
	t.Helper()
	if got, e := Quiet(l); got != want || e != api.OK {
		t.Errorf("%s: quiet: %v, %d; not %v", toldAll(l), got, e, want)
	}
}

func admits(t *testing.T, l []api.Record, want ...int) {
	t.Helper()
	if got, e := Admit(l); !slices.Equal(got, want) || e != api.OK {
		t.Errorf("%s: admits %v, %d; not %v", toldAll(l), got, e, want)
	}
}

func keys(t *testing.T, l []api.Record, want ...string) {
	t.Helper()
	if got, e := Keys(l); !slices.Equal(got, want) || e != api.OK {
		t.Errorf("%s: keys %q, %d; not %q", toldAll(l), got, e, want)
	}
}

// noClash and noBlockers fail, unless the call is refused by that error, and nothing is told beside it.
func noClash(t *testing.T, a, b api.Record, want api.Errno) {
	t.Helper()
	if got, e := Clash(a, b); got || e != want {
		t.Errorf("%s and %s clash: %v, %d; not %d", told(a), told(b), got, e, want)
	}
}

func noBlockers(t *testing.T, l []api.Record, r api.Record, want api.Errno) {
	t.Helper()
	if got, e := Blockers(l, r); len(got) != 0 || e != want {
		t.Errorf("%d records: blockers of %s: %v, %d; not %d", len(l), told(r), got, e, want)
	}
}

// refused fails, unless all calls of a list are refused by that error, and nothing is told beside it.
func refused(t *testing.T, l []api.Record, want api.Errno) {
	t.Helper()
	noBlockers(t, l, prep(5, "a", "b"), want)
	if got, e := Quiet(l); got || e != want {
		t.Errorf("%d records: quiet: %v, %d; not %d", len(l), got, e, want)
	}
	if got, e := Admit(l); len(got) != 0 || e != want {
		t.Errorf("%d records: admits %v, %d; not %d", len(l), got, e, want)
	}
	if got, e := Keys(l); len(got) != 0 || e != want {
		t.Errorf("%d records: keys %q, %d; not %d", len(l), got, e, want)
	}
}

// told writes a record so that a fault can be read, and so that only the same one is written so.
func told(r api.Record) string {
	s := ""
	for _, n := range []int{r.Kind, r.Txn, r.Ts, r.Coord} {
		s += strconv.Itoa(n) + " "
	}
	s += strconv.Quote(r.Key) + " " + strconv.Quote(r.Text) + " " + strconv.FormatBool(r.Dead)
	for _, key := range r.Keys {
		s += " " + strconv.Quote(key)
	}
	for _, w := range r.Writes {
		s += " / " + strconv.Quote(w.Key) + " " + strconv.Quote(w.Shard) + " " + strconv.FormatBool(w.Dead)
	}
	return s
}

// toldAll writes records.
func toldAll(l []api.Record) string {
	var b strings.Builder
	for _, r := range l {
		b.WriteString("[" + told(r) + "] ")
	}
	return b.String()
}

// The chapter's words, word by word; they share nothing with the program.

// hits tells whether the first one writes a key that the other one reads or writes.
func hits(a, b api.Record) bool {
	for _, w := range a.Writes {
		if slices.Contains(b.Keys, w.Key) || slices.ContainsFunc(b.Writes, func(x api.Write) bool { return x.Key == w.Key }) {
			return true
		}
	}
	return false
}

func clashByWords(a, b api.Record) bool { return hits(a, b) || hits(b, a) }

func blockersByWords(l []api.Record, r api.Record) []int {
	var out []int
	for i, x := range l {
		if clashByWords(r, x) {
			out = append(out, i)
		}
	}
	return out
}

func quietByWords(l []api.Record) bool {
	for i, a := range l {
		for j, b := range l {
			if i != j && clashByWords(a, b) {
				return false
			}
		}
	}
	return true
}

func admitByWords(l []api.Record) []int {
	var out []int
	for i, r := range l {
		if !slices.ContainsFunc(out, func(j int) bool { return clashByWords(l[j], r) }) {
			out = append(out, i)
		}
	}
	return out
}

func keysByWords(l []api.Record) []string {
	var out []string
	for _, r := range l {
		out = append(out, r.Keys...)
		for _, w := range r.Writes {
			out = append(out, w.Key)
		}
	}
	slices.Sort(out)
	return slices.Compact(out)
}

// asByWords fails, unless all calls tell of a list and of one more what the words do.
func asByWords(t *testing.T, l []api.Record, r api.Record) {
	t.Helper()
	blockers(t, l, r, blockersByWords(l, r)...)
	quiet(t, l, quietByWords(l))
	admits(t, l, admitByWords(l)...)
	keys(t, l, keysByWords(l)...)
}

// maker makes records that look like chance, and are the same each time.
type maker struct{ *rand.Rand }

func newMaker(seed uint64) maker { return maker{rand.New(rand.NewPCG(seed, 18))} }

// some answers some of the keys of so many, rising, each by the chance of one in a few; where some may be dead, each third or so is.
func (m maker) some(keys, few int, dead bool) string {
	var l []string
	for i := range keys {
		if len(l) == topWrite || m.IntN(few) != 0 {
			continue
		}
		key := keyOf(i)
		if dead && m.IntN(3) == 0 {
			key = "-" + key
		}
		l = append(l, key)
	}
	return strings.Join(l, " ")
}

// list answers so many records of keys of so many.
func (m maker) list(n, keys, few int) []api.Record {
	var l []api.Record
	for range n {
		l = append(l, prep(1+m.IntN(9), m.some(keys, few, false), m.some(keys, few, true)))
	}
	return l
}
