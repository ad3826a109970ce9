package shelf

import (
	"maps"
	"math"
	"math/rand/v2"
	"slices"
	"strconv"
	"strings"
	"testing"

	"corncrib/api"
	"corncrib/record"
)

// The ends of what shelves and records may have, as the chapters and the limits tell them.
const (
	topItems = 1024
	topStamp = 1125899906842624
	topTxn   = 1125899906842623
	topShard = 2052
	topWrite = 16
)

// What State tells.
const (
	isUnknown  = 0
	isPrepared = 1
	isDone     = 2
	isRefused  = 3
)

// full answers a shard of so many bytes.
func full(n int) string { return strings.Repeat("s", n) }

// prep answers a record RPrep of what a transaction reads and writes, each a list of words; of those with a - ahead there is none any more.
func prep(txn int, reads, writes string) api.Record {
	r := api.Record{Kind: api.RPrep, Txn: txn, Ts: txn % 7, Coord: txn % 16, Keys: strings.Fields(reads)}
	for _, word := range strings.Fields(writes) {
		key, dead := strings.CutPrefix(word, "-")
		w := api.Write{Key: key, Dead: dead}
		if !dead {
			w.Shard = key + " of " + strconv.Itoa(txn)
		}
		r.Writes = append(r.Writes, w)
	}
	return r
}

// do, ver, gone and upTo answer records RDo, RVer (of a shard, and of none any more) and RSweep.
func do(txn, ts int) api.Record { return api.Record{Kind: api.RDo, Txn: txn, Ts: ts} }

func ver(key string, ts int) api.Record {
	return api.Record{Kind: api.RVer, Ts: ts, Key: key, Text: key + " at " + strconv.Itoa(ts)}
}

func gone(key string, ts int) api.Record {
	return api.Record{Kind: api.RVer, Ts: ts, Key: key, Dead: true}
}

func upTo(ts int) api.Record { return api.Record{Kind: api.RSweep, Ts: ts} }

// many answers so many records, made by a number from 1 on.
func many(n int, one func(i int) api.Record) []api.Record {
	var l []api.Record
	for i := range n {
		l = append(l, one(i+1))
	}
	return l
}

// keyOf answers a key for each number up to 9999, rising as they do.
func keyOf(i int) string { return "key" + strconv.Itoa(10000+i) }

// words answers so many keys, rising, as one text.
func words(n int) string {
	var l []string
	for i := range n {
		l = append(l, keyOf(i+1))
	}
	return strings.Join(l, " ")
}

// of answers a shelf to which these records are applied.
func of(t *testing.T, l ...api.Record) *Shelf {
	t.Helper()
	s := New()
	let(t, s, l...)
	return s
}

// let applies records, and fails, if one is refused.
func let(t *testing.T, s *Shelf, l ...api.Record) {
	t.Helper()
	for _, r := range l {
		if e := s.Apply(r); e != api.OK {
			t.Fatalf("%s: refused %d", told(r), e)
		}
	}
}

// refuse fails, unless each record is refused by that error, and the shelf knows what it knew.
func refuse(t *testing.T, s *Shelf, want api.Errno, l ...api.Record) {
	t.Helper()
	was, f := toldAll(s.Records()), s.Fork()
	for _, r := range l {
		if e := s.Apply(r); e != want {
			t.Errorf("%s: refused %d, not %d", told(r), e, want)
		}
	}
	if is := toldAll(s.Records()); is != was {
		t.Errorf("%s; not %s", is, was)
	}
	if is := toldAll(f.Records()); is != was {
		t.Errorf("%s; not %s", is, was)
	}
}

// isRead fails, unless this is read of a key at a time: a code, and the time and shard of a version.
func isRead(t *testing.T, s *Shelf, key string, at, code, ts int, shard string) {
	t.Helper()
	want := api.Version{Ts: ts, Shard: shard, Dead: code == api.CDead}
	if got, v := s.Read(key, at); got != code || v != want {
		t.Errorf("%q at %d: %d, %v; not %d, %v", key, at, got, v, code, want)
	}
}

// stands fails, unless a transaction is in that state, with that time.
func stands(t *testing.T, s *Shelf, txn, state, ts int) {
	t.Helper()
	if got, at := s.State(txn); got != state || at != ts {
		t.Errorf("%d: %d, %d; not %d, %d", txn, got, at, state, ts)
	}
	r, ok := s.Prep(txn)
	if ok != (state == isPrepared) || ok && (r.Kind != api.RPrep || r.Txn != txn) || !ok && !same(r, api.Record{}) {
		t.Errorf("%d: %v, %s", txn, ok, told(r))
	}
}

// same tells whether two records are the same; lists without an element are.
func same(a, b api.Record) bool {
	return slices.Equal([]int{a.Kind, a.Txn, a.Ts, a.Coord}, []int{b.Kind, b.Txn, b.Ts, b.Coord}) && a.Key == b.Key &&
		a.Text == b.Text && a.Dead == b.Dead && slices.Equal(a.Keys, b.Keys) && slices.Equal(a.Writes, b.Writes)
}

// told writes a record so that a fault can be read, and so that only the same one is written so.
func told(r api.Record) string {
	s := ""
	for _, n := range []int{r.Kind, r.Txn, r.Ts, r.Coord} {
		s += strconv.Itoa(n) + " "
	}
	s += strconv.Quote(r.Key) + " " + strconv.Quote(r.Text) + " " + strconv.FormatBool(r.Dead)
	for _, key := range r.Keys {
		s += " " + strconv.Quote(key)
	}
	for _, w := range r.Writes {
		s += " / " + strconv.Quote(w.Key) + " " + strconv.Quote(w.Shard) + " " + strconv.FormatBool(w.Dead)
	}
	return s
}

// toldAll writes records.
func toldAll(l []api.Record) string {
	var b strings.Builder
	for _, r := range l {
		b.WriteString("[" + told(r) + "] ")
	}
	return b.String()
}

// twin knows what a shelf knows, as the chapter's words say it; it shares nothing with the program.
type twin struct {
	versions []row
	open     []api.Record
	ended    []outcome
	swept    int
}

// row is a version of a key; outcome is how a transaction ended.
type row struct {
	key string
	v   api.Version
}

type outcome struct{ txn, ts int }

func (w *twin) fork() *twin {
	return &twin{slices.Clone(w.versions), slices.Clone(w.open), slices.Clone(w.ended), w.swept}
}

// of answers a key's versions.
func (w *twin) of(key string) []api.Version {
	var l []api.Version
	for _, x := range w.versions {
		if x.key == key {
			l = append(l, x.v)
		}
	}
	return l
}

// keys answers those that have a version, rising.
func (w *twin) keys() []string {
	set := map[string]bool{}
	for _, x := range w.versions {
		set[x.key] = true
	}
	return slices.Sorted(maps.Keys(set))
}

func (w *twin) last(key string) int {
	ts := 0
	for _, v := range w.of(key) {
		ts = max(ts, v.Ts)
	}
	return ts
}

// held tells whether a key is held, or watched, if that is asked.
func (w *twin) held(key string, watched bool) bool {
	for _, r := range w.open {
		for _, x := range r.Writes {
			if x.Key == key {
				return true
			}
		}
		if watched && slices.Contains(r.Keys, key) {
			return true
		}
	}
	return false
}

// prepared and outcome answer the place of a transaction among the prepared, and among the ended ones; -1, if it is not there.
func (w *twin) prepared(txn int) int {
	return slices.IndexFunc(w.open, func(r api.Record) bool { return r.Txn == txn })
}

func (w *twin) outcome(txn int) int {
	return slices.IndexFunc(w.ended, func(x outcome) bool { return x.txn == txn })
}

// apply is the chapter's Apply.
func (w *twin) apply(r api.Record) api.Errno {
	if record.Check(r) != api.OK {
		return api.ErrRecord
	}
	switch r.Kind {
	case api.RPrep:
		return w.prep(r)
	case api.RDo:
		return w.do(r.Txn, r.Ts)
	case api.RVer:
		return w.write(r.Ts, []api.Write{{Key: r.Key, Shard: r.Text, Dead: r.Dead}})
	case api.RSweep:
		return w.sweep(r.Ts)
	}
	return api.ErrRecord
}

func (w *twin) prep(r api.Record) api.Errno {
	if w.prepared(r.Txn) >= 0 || w.outcome(r.Txn) >= 0 {
		return api.ErrThere
	}
	for _, key := range r.Keys {
		if w.held(key, false) {
			return api.ErrLocked
		}
	}
	for _, x := range r.Writes {
		if w.held(x.Key, true) {
			return api.ErrLocked
		}
	}
	if len(w.open) >= topItems {
		return api.ErrLong
	}
	w.open = append(w.open, r)
	return api.OK
}

func (w *twin) do(txn, ts int) api.Errno {
	if at := w.outcome(txn); at >= 0 {
		if w.ended[at].ts == ts {
			return api.ErrThere
		}
		return api.ErrState
	}
	if at := w.prepared(txn); at >= 0 {
		if ts != 0 {
			if e := w.write(ts, w.open[at].Writes); e != api.OK {
				return e
			}
		}
		w.open = slices.Concat(w.open[:at], w.open[at+1:])
	}
	w.ended = append(w.ended, outcome{txn, ts})
	w.ended = w.ended[max(0, len(w.ended)-topItems):]
	return api.OK
}

func (w *twin) write(ts int, l []api.Write) api.Errno {
	for _, x := range l {
		if ts <= w.last(x.Key) {
			return api.ErrOld
		}
	}
	keys := w.keys()
	for _, x := range l {
		if len(w.of(x.Key)) >= topItems {
			return api.ErrLong
		}
		if !slices.Contains(keys, x.Key) {
			keys = append(keys, x.Key)
		}
	}
	if len(keys) > topItems {
		return api.ErrLong
	}
	for _, x := range l {
		w.versions = append(w.versions, row{x.Key, api.Version{Ts: ts, Shard: x.Shard, Dead: x.Dead}})
	}
	return api.OK
}

// sweep lets of each key go what is not above the time, but for the last one of these, if that is not dead.
func (w *twin) sweep(ts int) api.Errno {
	if ts < w.swept {
		return api.ErrOld
	}
	w.swept = ts
	var left []row
	for _, x := range w.versions {
		later := func(y row) bool { return y.key == x.key && y.v.Ts > x.v.Ts && y.v.Ts <= ts }
		if x.v.Ts > ts || !x.v.Dead && !slices.ContainsFunc(w.versions, later) {
			left = append(left, x)
		}
	}
	w.versions = left
	return api.OK
}

// read is the chapter's Read.
func (w *twin) read(key string, at int) (int, api.Version) {
	if at < w.swept {
		return api.COver, api.Version{}
	}
	if w.held(key, false) {
		return api.CLocked, api.Version{}
	}
	code, counts := api.CNone, api.Version{}
	for _, v := range w.of(key) {
		if v.Ts <= at && v.Ts > counts.Ts {
			code, counts = api.CShard, v
			if v.Dead {
				code = api.CDead
			}
		}
	}
	return code, counts
}

// state is the chapter's State.
func (w *twin) state(txn int) (int, int) {
	if w.prepared(txn) >= 0 {
		return isPrepared, 0
	}
	at := w.outcome(txn)
	switch {
	case at < 0:
		return isUnknown, 0
	case w.ended[at].ts == 0:
		return isRefused, 0
	}
	return isDone, w.ended[at].ts
}

// opened answers those that are prepared, rising.
func (w *twin) opened() []int {
	var l []int
	for _, r := range w.open {
		l = append(l, r.Txn)
	}
	slices.Sort(l)
	return l
}

// records is the chapter's Records.
func (w *twin) records() []api.Record {
	var l []api.Record
	if w.swept != 0 {
		l = append(l, api.Record{Kind: api.RSweep, Ts: w.swept})
	}
	for _, key := range w.keys() {
		for _, v := range w.of(key) {
			l = append(l, api.Record{Kind: api.RVer, Ts: v.Ts, Key: key, Text: v.Shard, Dead: v.Dead})
		}
	}
	for _, x := range w.ended {
		l = append(l, api.Record{Kind: api.RDo, Txn: x.txn, Ts: x.ts})
	}
	for _, txn := range w.opened() {
		l = append(l, w.open[w.prepared(txn)])
	}
	return l
}

// asKeys, asTimes and asTxns are what shelves are asked of, besides what they know.
var (
	asKeys  = []string{"", "a", "b", "k", "kk", "k\x00", "\xff", "none", strings.Repeat("k", 32), strings.Repeat("k", 33)}
	asTimes = []int{math.MinInt, -1 << 50, -1, 0, 1, 2, 3, 4, 5, 6, 7, 8, 9, 10, 11, 12, 15, 20, topStamp - 1, topStamp, topStamp + 1, math.MaxInt}
	asTxns  = []int{math.MinInt, -5, -1, 0, 1, 2, 3, 4, 5, 6, 7, 8, 9, 10, 100, topTxn, topTxn + 1, math.MaxInt}
)

// knows fails, unless all calls tell of a shelf what the words do.
func knows(t *testing.T, s *Shelf, w *twin) {
	t.Helper()
	if got, want := toldAll(s.Records()), toldAll(w.records()); got != want {
		t.Errorf("records %s; not %s", got, want)
	}
	if s.Swept() != w.swept || !slices.Equal(s.Open(), w.opened()) {
		t.Errorf("swept %d, open %v; not %d, %v", s.Swept(), s.Open(), w.swept, w.opened())
	}
	for _, txn := range asTxns {
		state, ts := w.state(txn)
		stands(t, s, txn, state, ts)
	}
	for _, r := range w.open {
		if got, ok := s.Prep(r.Txn); !ok || !same(got, r) {
			t.Errorf("%v, %s; not %s", ok, told(got), told(r))
		}
	}
	for _, key := range asKeys {
		if s.Last(key) != w.last(key) || s.Held(key, false) != w.held(key, false) || s.Held(key, true) != w.held(key, true) {
			t.Errorf("%q: last %d, held %v, %v", key, s.Last(key), s.Held(key, false), s.Held(key, true))
		}
		for _, at := range asTimes {
			code, v := s.Read(key, at)
			if want, x := w.read(key, at); code != want || v != x {
				t.Errorf("%q at %d: %d, %v; not %d, %v", key, at, code, v, want, x)
			}
		}
	}
}

// maker makes what looks like chance, and is the same each time.
type maker struct{ *rand.Rand }

func newMaker(seed uint64) maker { return maker{rand.New(rand.NewPCG(seed, 12))} }

// words answers some of a few keys, rising; where some may be dead, each third or so is.
func (m maker) words(dead bool) string {
	var l []string
	for _, key := range []string{"a", "b", "k", "kk", "z"} {
		if m.IntN(3) == 0 {
			if dead && m.IntN(3) == 0 {
				key = "-" + key
			}
			l = append(l, key)
		}
	}
	return strings.Join(l, " ")
}

// record answers one of few transactions, keys and times, so that many clash; now and then one that is refused by any shelf.
func (m maker) record() api.Record {
	txn, ts, key := 1+m.IntN(9), 1+m.IntN(14), []string{"a", "b", "k", "kk"}[m.IntN(4)]
	switch m.IntN(16) {
	case 0:
		return []api.Record{{}, {Kind: api.RGo, Txn: txn, Ts: ts}, {Kind: api.REnd, Txn: txn}, {Kind: api.RUpto, Ts: ts}, do(0, ts), do(txn, -1), ver("", ts), ver(key, 0)}[m.IntN(8)]
	case 1:
		return upTo(m.IntN(8))
	case 2, 3:
		return ver(key, ts)
	case 4:
		return gone(key, ts)
	case 5, 6:
		return do(txn, 0)
	case 7, 8, 9, 10:
		return do(txn, ts)
	}
	return prep(txn, m.words(false), m.words(true))
}
