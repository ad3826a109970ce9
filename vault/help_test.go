package vault

import (
	"encoding/binary"
	"hash/crc32"
	"math/rand/v2"
	"slices"
	"strconv"
	"strings"
	"testing"

	"corncrib/api"
	"corncrib/redo"
	"corncrib/sector"
	"corncrib/shelf"
)

// The ends of what records may have, as the chapters and the limits tell them.
const (
	topItems = 1024
	topStamp = 1125899906842624
	topTxn   = 1125899906842623
	topShard = 2052
	topWrite = 16
)

// What a shelf's State tells.
const (
	isUnknown  = 0
	isPrepared = 1
	isDone     = 2
	isRefused  = 3
)

// full answers a shard of so many bytes.
func full(n int) string { return strings.Repeat("s", n) }

// zeros answers so many bytes 0.
func zeros(n int) string { return strings.Repeat("\x00", n) }

// prep answers a record RPrep of what a transaction reads and writes, each a list of words; of those with a - ahead there is none any more.
func prep(txn int, reads, writes string) api.Record {
	r := api.Record{Kind: api.RPrep, Txn: txn, Ts: txn % 7, Coord: txn % 16, Keys: strings.Fields(reads)}
	for _, word := range strings.Fields(writes) {
		key, dead := strings.CutPrefix(word, "-")
		w := api.Write{Key: key, Dead: dead}
		if !dead {
			w.Shard = key + " of " + strconv.Itoa(txn)
		}
		r.Writes = append(r.Writes, w)
	}
	return r
}

// do, ver, gone and upTo answer records RDo, RVer (of a shard, and of none any more) and RSweep; sized one RVer of a shard of so many bytes.
func do(txn, ts int) api.Record { return api.Record{Kind: api.RDo, Txn: txn, Ts: ts} }

func ver(key string, ts int) api.Record { return sized(key, ts, len(key+" at "+strconv.Itoa(ts))) }

func sized(key string, ts, n int) api.Record {
	text := (key + " at " + strconv.Itoa(ts) + full(topShard))[:n]
	return api.Record{Kind: api.RVer, Ts: ts, Key: key, Text: text}
}

func gone(key string, ts int) api.Record {
	return api.Record{Kind: api.RVer, Ts: ts, Key: key, Dead: true}
}

func upTo(ts int) api.Record { return api.Record{Kind: api.RSweep, Ts: ts} }

// tooLong answers a record that may be, and is too long for a log.
func tooLong(txn int) api.Record {
	return api.Record{Kind: api.RPrep, Txn: txn, Writes: []api.Write{{Key: "long", Shard: full(topShard)}, {Key: "long, too", Shard: full(topShard)}}}
}

// many answers so many records, made by a number from 1 on.
func many(n int, one func(i int) api.Record) []api.Record {
	var l []api.Record
	for i := range n {
		l = append(l, one(i+1))
	}
	return l
}

// keyOf answers a key for each number up to 9999, rising as they do.
func keyOf(i int) string { return "key" + strconv.Itoa(10000+i) }

// some answers records of all kinds that a shelf is told.
func some() []api.Record {
	return []api.Record{upTo(2), ver("k", 3), prep(5, "a c", "b -d"), prep(6, "a", "e"), do(5, 9), ver("k", 4), gone("k", 8), do(6, 0), do(7, 12), prep(8, "b", "k"), do(9, 0), prep(10, "", ""), ver("z", 1), upTo(4)}
}

// bytesOf writes a record by chapters 6 and 8; it shares nothing with the program.
func bytesOf(r api.Record) string {
	flag := func(b bool) int64 {
		if b {
			return 1
		}
		return 0
	}
	nums := []int64{int64(r.Kind), int64(r.Txn), int64(r.Ts), int64(r.Coord), flag(r.Dead), int64(len(r.Keys))}
	texts := append([]string{r.Key, r.Text}, r.Keys...)
	for _, w := range r.Writes {
		nums = append(nums, flag(w.Dead))
		texts = append(texts, w.Key, w.Shard)
	}
	b := binary.AppendUvarint(nil, uint64(len(nums)))
	for _, n := range nums {
		b = binary.AppendVarint(b, n)
	}
	b = binary.AppendUvarint(b, uint64(len(texts)))
	for _, s := range texts {
		b = append(binary.AppendUvarint(b, uint64(len(s))), s...)
	}
	return string(b)
}

// frames writes the frames of texts by chapter 5, one behind the other; it shares nothing with the program.
func frames(l ...string) string {
	all := ""
	for _, text := range l {
		b := append(binary.LittleEndian.AppendUint16(nil, uint16(len(text))), text...)
		all += string(binary.LittleEndian.AppendUint32(b, crc32.ChecksumIEEE(b)))
	}
	return all
}

// texts answers the bytes of each record.
func texts(l ...api.Record) []string {
	var out []string
	for _, r := range l {
		out = append(out, bytesOf(r))
	}
	return out
}

// room answers how many bytes these records need in a log.
func room(l ...api.Record) int { return len(frames(texts(l...)...)) }

// headOf writes a head's sector by chapter 10.
func headOf(count uint64, area byte, length int) string {
	b := binary.BigEndian.AppendUint64([]byte("REDO"), count)
	b = binary.BigEndian.AppendUint64(append(b, area), uint64(length))
	return strings.Repeat(string(b), 3) + "\x00"
}

// device answers a new one.
func device(t *testing.T, sectors int) *sector.Device {
	t.Helper()
	d, e := sector.New(sectors)
	if e != api.OK {
		t.Fatalf("%d sectors: %d", sectors, e)
	}
	return d
}

// logged answers a new device with a log of these texts.
func logged(t *testing.T, sectors int, l ...string) *sector.Device {
	t.Helper()
	d := device(t, sectors)
	log, e := redo.Open(d)
	if e == api.OK {
		e = log.Restart(l...)
	}
	is(t, "a log", e, api.OK)
	return d
}

// image answers what is read of all sectors.
func image(t *testing.T, d *sector.Device) []string {
	t.Helper()
	var l []string
	for at := range d.Size() {
		s, e := d.Read(at)
		is(t, "image", e, api.OK)
		l = append(l, s)
	}
	return l
}

// area answers the bytes of a log's area that are in use, of a device from which nothing waits for a flush.
func area(t *testing.T, d *sector.Device, which, length int) string {
	t.Helper()
	if d.Dirty() != 0 {
		t.Errorf("%d sectors in the cache", d.Dirty())
	}
	n := (d.Size() - 2) / 2
	return strings.Join(image(t, d)[2+which*n:][:n], "")[:length]
}

// inUse answers the area of the head that counts, of which both sectors of heads were written.
func inUse(t *testing.T, d *sector.Device) byte {
	t.Helper()
	return max(image(t, d)[0][:13], image(t, d)[1][:13])[12]
}

// down lets a device be down.
func down(t *testing.T, d *sector.Device) {
	t.Helper()
	is(t, "fuse", d.Fuse(1), api.OK)
	is(t, "flush", d.Flush(), api.ErrDown)
}

// is fails, unless a call's error is this one.
func is(t *testing.T, what string, e, want api.Errno) {
	t.Helper()
	if e != want {
		t.Errorf("%s: %d; not %d", what, e, want)
	}
}

// opened answers the vault of a device.
func opened(t *testing.T, d *sector.Device) *Vault {
	t.Helper()
	v, e := Open(d)
	if v == nil || e != api.OK {
		t.Fatalf("open: %d", e)
	}
	return v
}

// fresh answers a new device, and its vault, that was told to do these records.
func fresh(t *testing.T, sectors int, l ...api.Record) (*sector.Device, *Vault) {
	t.Helper()
	d := device(t, sectors)
	v := opened(t, d)
	let(t, v, l...)
	return d, v
}

// let does records, each of which is to be done.
func let(t *testing.T, v *Vault, l ...api.Record) {
	t.Helper()
	for _, r := range l {
		if e := v.Do(r); e != api.OK {
			t.Fatalf("%s: %d", told(r), e)
		}
	}
}

// refused fails, unless the device's vault is not opened, with that error, and nothing beside it.
func refused(t *testing.T, what string, d *sector.Device, want api.Errno) {
	t.Helper()
	if v, e := Open(d); v != nil || e != want {
		t.Errorf("%s: %v, %d; not %d", what, v != nil, e, want)
	}
}

// of answers the shelf that records make.
func of(t *testing.T, l ...api.Record) *shelf.Shelf {
	t.Helper()
	s := shelf.New()
	for _, r := range l {
		if e := s.Apply(r); e != api.OK {
			t.Fatalf("%s: refused %d", told(r), e)
		}
	}
	return s
}

// has fails, unless a vault has the shelf that these records make.
func has(t *testing.T, v *Vault, l ...api.Record) {
	t.Helper()
	if got, want := knows(v.Shelf()), knows(of(t, l...)); got != want {
		t.Errorf("has %.600s; not %.600s", got, want)
	}
}

// keeps fails, unless a vault that is opened on a device has the shelf that these records make.
func keeps(t *testing.T, d *sector.Device, l ...api.Record) {
	t.Helper()
	has(t, opened(t, d), l...)
}

// stands fails, unless a vault's shelf tells of a transaction that state and time.
func stands(t *testing.T, v *Vault, txn, state, ts int) {
	t.Helper()
	if got, at := v.Shelf().State(txn); got != state || at != ts {
		t.Errorf("%d: %d, %d; not %d, %d", txn, got, at, state, ts)
	}
}

// told writes a record so that a fault can be read, and so that only the same one is written so.
func told(r api.Record) string {
	s := ""
	for _, n := range []int{r.Kind, r.Txn, r.Ts, r.Coord} {
		s += strconv.Itoa(n) + " "
	}
	s += strconv.Quote(r.Key) + " " + strconv.Quote(r.Text) + " " + strconv.FormatBool(r.Dead)
	for _, key := range r.Keys {
		s += " " + strconv.Quote(key)
	}
	for _, w := range r.Writes {
		s += " / " + strconv.Quote(w.Key) + " " + strconv.Quote(w.Shard) + " " + strconv.FormatBool(w.Dead)
	}
	return s
}

// knows writes all that a shelf knows.
func knows(s *shelf.Shelf) string {
	var b strings.Builder
	for _, r := range s.Records() {
		b.WriteString("[" + told(r) + "] ")
	}
	return b.String()
}

// twin is a vault by chapter 13's words: it reckons itself which of its log's calls is due, and lets a log on a device of its own do it.
type twin struct {
	d    *sector.Device
	log  *redo.Log
	s    *shelf.Shelf
	used int // bytes of the log's area
	// restarts is how often it had to make room, spaces how often there was none then.
	restarts, spaces int
}

func newTwin(t *testing.T, sectors int) *twin {
	t.Helper()
	w := &twin{d: device(t, sectors), s: shelf.New()}
	w.open(t)
	return w
}

// open opens the log anew, and reads nothing of it but how long it is.
func (w *twin) open(t *testing.T) {
	t.Helper()
	log, e := redo.Open(w.d)
	is(t, "twin", e, api.OK)
	w.log, w.used = log, len(frames(log.Texts()...))
}

// most answers how many bytes an area has.
func (w *twin) most() int { return (w.d.Size() - 2) / 2 * 64 }

func (w *twin) do(r api.Record) api.Errno {
	if e := w.s.Fork().Apply(r); e != api.OK {
		return e
	}
	if len(bytesOf(r)) > 4096 {
		return api.ErrLong
	}
	if w.used+room(r) > w.most() {
		if e := w.restart(w.s.Records()); e != api.OK {
			w.spaces++
			return e
		}
		w.restarts++
		if w.used+room(r) > w.most() {
			w.spaces++
			return api.ErrSpace
		}
	}
	if w.log.Append(bytesOf(r)) != api.OK {
		panic("the twin's log has other room than it reckons")
	}
	if e := w.log.Sync(); e != api.OK {
		return e
	}
	w.used += room(r)
	return w.s.Apply(r)
}

// restart restarts the log with records that find room.
func (w *twin) restart(l []api.Record) api.Errno {
	n := room(l...)
	if n > w.most() {
		return api.ErrSpace
	}
	e := w.log.Restart(texts(l...)...)
	if e == api.OK {
		w.used = n
	}
	return e
}

func (w *twin) fill(l []api.Record) api.Errno {
	s := shelf.New()
	for _, r := range l {
		if e := s.Apply(r); e != api.OK {
			return e
		}
	}
	for _, r := range l {
		if len(bytesOf(r)) > 4096 {
			return api.ErrLong
		}
	}
	e := w.restart(l)
	if e == api.OK {
		w.s = s
	}
	return e
}

// alike fails, unless a vault knows what its twin does, and their devices have the same.
func (w *twin) alike(t *testing.T, d *sector.Device, v *Vault) {
	t.Helper()
	if got, want := knows(v.Shelf()), knows(w.s); got != want {
		t.Errorf("has %.600s; not %.600s", got, want)
	}
	w.alikeDevices(t, d)
}

// alikeDevices fails, unless a device has what the twin's has, in its sectors and in its cache.
func (w *twin) alikeDevices(t *testing.T, d *sector.Device) {
	t.Helper()
	if got, want := image(t, d), image(t, w.d); !slices.Equal(got, want) {
		t.Errorf("sectors %.600q; not %.600q", got, want)
	}
	if got, want := d.Dirty(), w.d.Dirty(); got != want {
		t.Errorf("%d sectors in the cache; not %d", got, want)
	}
}

// maker makes what looks like chance, and is the same each time.
type maker struct{ *rand.Rand }

func newMaker(seed uint64) maker { return maker{rand.New(rand.NewPCG(seed, 13))} }

// words answers some of a few keys, rising; where some may be dead, each third or so is.
func (m maker) words(dead bool) string {
	var l []string
	for _, key := range []string{"a", "b", "k", "kk", "z"} {
		if m.IntN(3) == 0 {
			if dead && m.IntN(3) == 0 {
				key = "-" + key
			}
			l = append(l, key)
		}
	}
	return strings.Join(l, " ")
}

// record answers one of few transactions, keys and times, so that some clash; the times are later with each step. Now and then it is one that is refused by any shelf.
func (m maker) record(step int) api.Record {
	txn, ts, key := 1+step/5+m.IntN(9), 1+step+m.IntN(9), []string{"a", "b", "k", "kk"}[m.IntN(4)]
	switch m.IntN(20) {
	case 0:
		return []api.Record{{}, {Kind: api.RGo, Txn: txn, Ts: ts}, {Kind: api.REnd, Txn: txn}, {Kind: api.RUpto, Ts: ts}, do(0, ts), do(txn, -1), ver("", ts), ver(key, 0)}[m.IntN(8)]
	case 1, 2:
		return upTo(max(0, ts-m.IntN(9)))
	case 3, 4:
		return sized(key, ts, m.IntN(99))
	case 5:
		return gone(key, ts)
	case 6:
		return do(txn, 0)
	case 7:
		return tooLong(txn + 1000)
	case 8, 9, 10, 11, 12:
		return do(txn, ts)
	}
	return prep(txn, m.words(false), m.words(true))
}

// records answers some that a new shelf mostly applies.
func (m maker) records() []api.Record {
	var l []api.Record
	for range m.IntN(9) {
		r := m.record(3 * len(l))
		if s := shelf.New(); m.IntN(9) == 0 || all(s, l) && s.Apply(r) == api.OK {
			l = append(l, r)
		}
	}
	return l
}

// all tells whether a shelf applies all of these records.
func all(s *shelf.Shelf, l []api.Record) bool {
	return !slices.ContainsFunc(l, func(r api.Record) bool { return s.Apply(r) != api.OK })
}

// picks answers so many picks, of all sorts.
func (m maker) picks(n int) []int {
	var l []int
	for range n {
		near := []int{0, 1, 0, 1, 2, 20, 21, 22, 42, 43, 63, 64, 65, -1, m.IntN(64)}
		l = append(l, near[m.IntN(len(near))])
	}
	return l
}

// sizedBy answers a record RVer with a shard of so many bytes, be that too many.
func sizedBy(n int) api.Record { return api.Record{Kind: api.RVer, Ts: 3, Key: "k", Text: full(n)} }
