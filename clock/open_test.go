package clock

import (
	"math"
	"slices"
	"strings"
	"testing"

	"corncrib/api"
)

// some answers times that rise, with the first one and some that are far.
func some() []int { return []int{1, 2, 5, 64, 5000, 1 << 30, topStamp - 1} }

// Promise 16.1: a clock on a new device is at 0, whatever its size; its log's first head is on it.
func TestOpenNew(t *testing.T) {
	for _, sectors := range []int{4, 5, 6, 13, 200, 2047, 2048} {
		d := device(t, sectors)
		tells(t, opened(t, d, 10), 0, 0)
		want := slices.Repeat([]string{padded("")}, sectors)
		want[1] = headOf(1, 0, 0)
		if got := image(t, d); !slices.Equal(got, want) || d.Dirty() != 0 {
			t.Errorf("%d sectors: %.300q", sectors, got)
		}
		d.Crash(0, 0, 0)
		tells(t, opened(t, d, 10), 0, 0)
		keeps(t, d)
	}
}

// Promise 16.1: a log with records: the last one's time is the bound, and the last stamp.
func TestOpenRecords(t *testing.T) {
	for n := range len(some()) + 1 {
		l := some()[:n]
		d := logged(t, 20, uptos(l...)...)
		had := image(t, d)
		last := 0
		if n > 0 {
			last = l[n-1]
		}
		c := opened(t, d, 10)
		tells(t, c, last, last)
		if !slices.Equal(image(t, d), had) || d.Dirty() != 0 {
			t.Error("to open a log that there is has written")
		}
		keeps(t, d, l...)
	}
	for _, ts := range []int{1, 2, 9, topBlock, topBlock + 1, topStamp - 1, topStamp} {
		tells(t, opened(t, logged(t, 4, upto(ts)), 1), ts, ts)
	}
}

// Promise 16.1: many records, rising by one, and by much.
func TestOpenManyRecords(t *testing.T) {
	for _, step := range []int{1, 2, 1 << 38} {
		var l []int
		for i := range 2000 {
			l = append(l, (i+1)*step)
		}
		d := logged(t, 2048, uptos(l...)...)
		tells(t, opened(t, d, 10), 2000*step, 2000*step)
	}
}

// Promise 16.1: a block is from 1 to 4096.
func TestOpenBlocks(t *testing.T) {
	for _, block := range []int{math.MinInt, -4096, -1, 0, 4097, 4098, topStamp, math.MaxInt} {
		d := device(t, 8)
		refused(t, "a block that is none", d, block, api.ErrRange)
		if got := image(t, d); !slices.Equal(got, slices.Repeat([]string{padded("")}, 8)) || d.Dirty() != 0 {
			t.Errorf("%.300q", got)
		}
		refused(t, "a block that is none", logged(t, 8, upto(5)), block, api.ErrRange)
	}
	for _, block := range []int{1, 2, 10, 4095, 4096} {
		d, c := fresh(t, 8, block)
		next(t, c, 1)
		tells(t, c, 1, block)
		keeps(t, d, block)
	}
}

// Promise 16.1: what the log refuses: no device, and one of too few sectors.
func TestOpenNoLog(t *testing.T) {
	refused(t, "no device", nil, 10, api.ErrNone)
	for sectors := 1; sectors < 4; sectors++ {
		d := device(t, sectors)
		refused(t, "few sectors", d, 10, api.ErrShape)
		down(t, d)
		refused(t, "few sectors, and down", d, 10, api.ErrShape)
	}
}

// Promise 16.1: what the device refuses: one that is down, and one that goes down as the log's first head is written.
func TestOpenDown(t *testing.T) {
	d := logged(t, 12, uptos(some()...)...)
	down(t, d)
	refused(t, "down", d, 10, api.ErrDown)
	d.Crash()
	keeps(t, d, some()...)
	for n := 1; n <= 2; n++ {
		d := device(t, 12)
		fuse(t, d, n)
		refused(t, "fuse", d, 10, api.ErrDown)
		d.Crash(30)
		tells(t, opened(t, d, 10), 0, 0)
	}
	d = device(t, 12)
	fuse(t, d, 3)
	tells(t, opened(t, d, 10), 0, 0)
	is(t, "the third", d.Flush(), api.ErrDown)
}

// Promise 16.1: a log whose bytes are no frames is none; what lies behind them is no matter.
func TestOpenRotten(t *testing.T) {
	texts := uptos(some()...)
	for at := range 3 * 64 {
		d := logged(t, 12, texts...) // in the area 1
		s, _ := d.Read(7 + at/64)
		b := []byte(s)
		b[at%64] ^= 4
		is(t, "write", d.Write(7+at/64, string(b)), api.OK)
		if at >= len(frames(texts...)) {
			tells(t, opened(t, d, 10), topStamp-1, topStamp-1)
			continue
		}
		had := image(t, d)
		refused(t, "rotten", d, 10, api.ErrRot)
		if !slices.Equal(image(t, d), had) {
			t.Error("a clock that was not opened has written")
		}
	}
}

// Promise 16.1: a device neither of whose heads is one has a new log, and so a clock at 0.
func TestOpenHeadsRotten(t *testing.T) {
	d := logged(t, 40, uptos(some()...)...)
	for at := range 2 {
		is(t, "write", d.Write(at, strings.Repeat("x", 64)), api.OK)
	}
	tells(t, opened(t, d, 10), 0, 0)
	keeps(t, d)
}

// rotten fails, unless a log of these texts is no clock's, and is left as it is.
func rotten(t *testing.T, what string, l ...string) {
	t.Helper()
	d := logged(t, 200, l...)
	had := image(t, d)
	refused(t, what, d, 10, api.ErrRot)
	if !slices.Equal(image(t, d), had) || d.Dirty() != 0 {
		t.Error("a clock that was not opened has written")
	}
}

// everywhere fails, unless a text spoils a log, wherever it stands.
func everywhere(t *testing.T, what, bad string) {
	t.Helper()
	good := uptos(some()...)
	rotten(t, what, bad)
	for at := range len(good) + 1 {
		rotten(t, what, slices.Insert(slices.Clone(good), at, bad)...)
	}
}

// Promise 16.1: texts that are no records, at the first, in the middle and at the last.
func TestOpenNoRecords(t *testing.T) {
	r := func(ts int) api.Record { return api.Record{Kind: api.RUpto, Ts: ts} }
	dead, by, named, longer, reading, writing, of := r(9), r(9), r(9), r(9), r(9), r(9), r(9)
	dead.Dead, by.Coord, named.Key, longer.Text, of.Txn = true, 1, "k", "x", 5
	reading.Keys, writing.Writes = []string{"k"}, []api.Write{{Key: "k"}}
	for _, bad := range []string{"", "x", "\x00", "\x00\x00", upto(3) + "x", "x" + upto(3), upto(3)[:9], upto(3) + upto(4), strings.Repeat("x", 4096),
		bytesOf(api.Record{}), upto(0), upto(-1), upto(topStamp + 1), bytesOf(api.Record{Kind: 8, Ts: 3}),
		bytesOf(dead), bytesOf(by), bytesOf(named), bytesOf(longer), bytesOf(reading), bytesOf(writing), bytesOf(of)} {
		everywhere(t, "no record", bad)
	}
}

// Promise 16.1: records of another kind, such as may be.
func TestOpenRecordsOfOthers(t *testing.T) {
	for ts := range 4 {
		for _, bad := range []api.Record{
			{Kind: api.RPrep, Txn: 5, Ts: ts}, {Kind: api.RPrep, Txn: 5, Ts: ts, Keys: []string{"a"}, Writes: []api.Write{{Key: "b", Shard: "x"}}},
			{Kind: api.RDo, Txn: 5, Ts: ts}, {Kind: api.RVer, Ts: 1 + ts, Key: "k", Text: "x"}, {Kind: api.RVer, Ts: 1 + ts, Key: "k", Dead: true},
			{Kind: api.RSweep, Ts: ts}, {Kind: api.RGo, Txn: 5, Ts: 1 + ts}, {Kind: api.REnd, Txn: 5},
		} {
			everywhere(t, "another kind", bytesOf(bad))
		}
	}
}

// Promise 16.1: times that do not rise: alike, or falling, wherever that is.
func TestOpenNotRising(t *testing.T) {
	for _, l := range [][]int{{1, 1}, {2, 1}, {9, 9}, {9, 8}, {1, 2, 2}, {1, 3, 2}, {5, 5, 6}, {5, 4, 6}, {1, 2, 3, 3, 4}, {1, 2, 3, 1, 4}, {5, 6, 1}, {topStamp, topStamp}, {topStamp, topStamp - 1}, {topStamp, 1}, {100, 101, 50, 102}} {
		rotten(t, "not rising", uptos(l...)...)
	}
	for i := range len(some()) {
		l := some()
		l = slices.Insert(l, i, l[i])
		rotten(t, "alike", uptos(l...)...)
	}
	for i := range len(some()) - 1 {
		l := some()
		l[i], l[i+1] = l[i+1], l[i]
		rotten(t, "falling", uptos(l...)...)
	}
}

// Promise 16.1, R1: what is told ahead of what: the block, the log, what the log has.
func TestOpenOrder(t *testing.T) {
	refused(t, "no block, no device", nil, 0, api.ErrRange)
	refused(t, "no block, few sectors", device(t, 3), 4097, api.ErrRange)
	bad := logged(t, 12, upto(9), upto(9))
	refused(t, "no block, not rising", bad, -1, api.ErrRange)
	refused(t, "not rising", bad, 1, api.ErrRot)
	down(t, bad)
	refused(t, "no block, down", bad, 0, api.ErrRange)
	refused(t, "down, not rising", bad, 1, api.ErrDown)
	few := device(t, 3)
	down(t, few)
	refused(t, "few sectors, down", few, 1, api.ErrShape)
}
