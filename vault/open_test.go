package vault

import (
	"slices"
	"strings"
	"testing"

	"corncrib/api"
	"corncrib/redo"
)

// Promise 13.1: a vault on a new device has nothing, whatever its size; its log's first head is on it.
func TestOpenNew(t *testing.T) {
	for _, sectors := range []int{4, 5, 6, 13, 200, 2047, 2048} {
		d := device(t, sectors)
		has(t, opened(t, d))
		want := slices.Repeat([]string{zeros(64)}, sectors)
		want[1] = headOf(1, 0, 0)
		if got := image(t, d); !slices.Equal(got, want) || d.Dirty() != 0 {
			t.Errorf("%d sectors: %.300q", sectors, got)
		}
		d.Crash(0, 0, 0)
		keeps(t, d)
	}
}

// Promise 13.1: what the log refuses: no device, and one of too few sectors.
func TestOpenNoLog(t *testing.T) {
	refused(t, "no device", nil, api.ErrNone)
	for sectors := 1; sectors < 4; sectors++ {
		d := device(t, sectors)
		refused(t, "few sectors", d, api.ErrShape)
		down(t, d)
		refused(t, "few sectors, and down", d, api.ErrShape)
	}
}

// Promise 13.1: what the device refuses: one that is down, and one that goes down as the log's first head is written.
func TestOpenDown(t *testing.T) {
	d, _ := fresh(t, 12, some()...)
	down(t, d)
	refused(t, "down", d, api.ErrDown)
	d.Crash()
	keeps(t, d, some()...)
	for n := 1; n <= 2; n++ {
		d := device(t, 12)
		is(t, "fuse", d.Fuse(n), api.OK)
		refused(t, "fuse", d, api.ErrDown)
		d.Crash(30)
		keeps(t, d)
	}
	d = device(t, 12)
	is(t, "fuse", d.Fuse(3), api.OK)
	has(t, opened(t, d))
	is(t, "the third", d.Flush(), api.ErrDown)
}

// Promise 13.1: sectors that are rotten: a log whose bytes are no frames is none; what lies behind them is no matter.
func TestOpenRotten(t *testing.T) {
	l := some()[:8]
	for at := range 5 * 64 {
		d := logged(t, 12, texts(l...)...) // in the area 1
		s, _ := d.Read(7 + at/64)
		b := []byte(s)
		b[at%64] ^= 4
		is(t, "write", d.Write(7+at/64, string(b)), api.OK)
		if at >= room(l...) {
			keeps(t, d, l...)
			continue
		}
		had := image(t, d)
		refused(t, "rotten", d, api.ErrRot)
		if !slices.Equal(image(t, d), had) {
			t.Error("a vault that was not opened has written")
		}
	}
}

// Promise 13.1: a device neither of whose heads is one has a new log.
func TestOpenHeadsRotten(t *testing.T) {
	d, _ := fresh(t, 40, some()...)
	for at := range 2 {
		is(t, "write", d.Write(at, strings.Repeat("x", 64)), api.OK)
	}
	keeps(t, d)
}

// Promise 13.1: texts that are no records, at the first, in the middle and at the last.
func TestOpenNoRecords(t *testing.T) {
	good := texts(some()...)
	for _, bad := range []string{"", "x", "\x00", "\x00\x00", good[0] + "x", "x" + good[0], good[2][:len(good[2])-1], good[1] + good[2], strings.Repeat("x", 4096),
		bytesOf(do(0, 9)), bytesOf(do(5, -1)), bytesOf(do(topTxn+1, 9)), bytesOf(ver("", 3)), bytesOf(ver("k", 0)), bytesOf(prep(5, "b a", "")), bytesOf(prep(5, "", "b b")), bytesOf(api.Record{}), bytesOf(api.Record{Kind: 8, Txn: 5}),
		bytesOf(api.Record{Kind: api.RDo, Txn: 5, Ts: 9, Key: "k"}), bytesOf(sizedBy(topShard + 1)), "\x07\x04\x0a\x12\x00\x00\x00\x00\x02\x00\x00"} {
		for _, at := range []int{0, 7, len(good)} {
			d := logged(t, 200, slices.Insert(slices.Clone(good), at, bad)...)
			had := image(t, d)
			refused(t, "no record", d, api.ErrRot)
			if !slices.Equal(image(t, d), had) || d.Dirty() != 0 {
				t.Error("a vault that was not opened has written")
			}
		}
		refused(t, "no record alone", logged(t, 200, bad), api.ErrRot)
	}
}

// Promise 13.1: records of logs that are none of a shelf's.
func TestOpenRecordsOfOthers(t *testing.T) {
	for _, bad := range []api.Record{{Kind: api.RGo, Txn: 5, Ts: 9}, {Kind: api.RGo, Txn: 77, Ts: 1}, {Kind: api.REnd, Txn: 5}, {Kind: api.RUpto, Ts: 9}, {Kind: api.RUpto, Ts: topStamp}} {
		refused(t, told(bad), logged(t, 40, bytesOf(bad)), api.ErrRot)
		for at := range len(some()) + 1 {
			refused(t, told(bad), logged(t, 40, texts(slices.Insert(some(), at, bad)...)...), api.ErrRot)
		}
	}
}

// Promise 13.1: records that the shelf refuses as things are, by whichever error.
func TestOpenRefusedByShelf(t *testing.T) {
	for _, x := range [][]api.Record{
		{prep(5, "", ""), prep(5, "", "")},
		{do(5, 0), prep(5, "", "")},
		{do(5, 9), do(5, 9)},
		{do(5, 9), do(5, 8)},
		{do(5, 0), do(5, 8)},
		{prep(5, "", "k"), prep(6, "k", "")},
		{prep(5, "k", ""), prep(6, "", "k")},
		{ver("k", 9), prep(5, "", "k"), do(5, 9)},
		{ver("k", 9), ver("k", 9)},
		{ver("k", 9), gone("k", 8)},
		{upTo(9), upTo(8)},
	} {
		refused(t, told(x[len(x)-1]), logged(t, 40, texts(x...)...), api.ErrRot)
		refused(t, told(x[len(x)-1]), logged(t, 40, texts(append(x, do(99, 1))...)...), api.ErrRot)
		keeps(t, logged(t, 40, texts(x[:len(x)-1]...)...), x[:len(x)-1]...)
	}
	chain := many(topItems+1, func(i int) api.Record { return gone("k", i) })
	refused(t, "a full chain", logged(t, 2048, texts(chain...)...), api.ErrRot)
	keeps(t, logged(t, 2048, texts(chain[:topItems]...)...), chain[:topItems]...)
}

// Promise 13.1: a vault has the shelf of its log: no record, one, several, of all kinds, applied one after the other.
func TestOpenLog(t *testing.T) {
	for n := range len(some()) + 1 {
		l := some()[:n]
		d := logged(t, 40, texts(l...)...)
		had := image(t, d)
		v := opened(t, d)
		has(t, v, l...)
		if !slices.Equal(image(t, d), had) {
			t.Error("to open a log has changed it")
		}
	}
	v := opened(t, logged(t, 40, texts(some()...)...))
	stands(t, v, 5, isDone, 9)
	stands(t, v, 6, isRefused, 0)
	stands(t, v, 7, isDone, 12)
	stands(t, v, 8, isPrepared, 0)
	stands(t, v, 10, isPrepared, 0)
	stands(t, v, 11, isUnknown, 0)
	s := v.Shelf()
	for _, x := range []struct {
		key      string
		at, code int
		ts       int
	}{{"k", 3, api.COver, 0}, {"k", 9, api.CLocked, 0}, {"b", 9, api.CShard, 9}, {"b", 8, api.CNone, 0}, {"d", 9, api.CDead, 9}, {"z", 4, api.CShard, 1}, {"e", 20, api.CNone, 0}} {
		if code, ver := s.Read(x.key, x.at); code != x.code || ver.Ts != x.ts {
			t.Errorf("%q at %d: %d, %v; not %d", x.key, x.at, code, ver, x.code)
		}
	}
}

// Promise 13.1: a log that is longer than its shelf's records, as it was swept, and one that is not synced to its end.
func TestOpenWhatIsSynced(t *testing.T) {
	l := slices.Concat(many(20, func(i int) api.Record { return ver("k", i) }), []api.Record{upTo(20)})
	d := logged(t, 40, texts(l...)...)
	keeps(t, d, upTo(20), ver("k", 20))
	log, _ := redo.Open(d)
	is(t, "append", log.Append("no record, and not synced"), api.OK)
	d.Crash(1, 1, 1)
	keeps(t, d, upTo(20), ver("k", 20))
}

// Promise 13.1: as many records as a great device has room for.
func TestOpenGreat(t *testing.T) {
	l := many(2700, func(i int) api.Record {
		if i%3 == 0 {
			return do(i, i)
		}
		return gone(keyOf(i%700), i)
	})
	d := logged(t, 2048, texts(l...)...)
	v := opened(t, d)
	has(t, v, l...)
	stands(t, v, 2700, isDone, 2700)
}
