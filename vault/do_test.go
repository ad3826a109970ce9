package vault

import (
	"slices"
	"strings"
	"testing"

	"corncrib/api"
)

// The chapter's example.
func TestExample(t *testing.T) {
	d := device(t, 8)
	v := opened(t, d)
	is(t, "prep", v.Do(api.Record{Kind: api.RPrep, Txn: 5}), api.OK)
	d.Crash()
	v = opened(t, d)
	stands(t, v, 5, isPrepared, 0)
	if l := v.Shelf().Open(); !slices.Equal(l, []int{5}) {
		t.Error(l)
	}
}

// Promise 13.2: records of all kinds that a shelf is told, one after the other, on devices of several sizes; each is on the device once it is done.
func TestDo(t *testing.T) {
	for _, sectors := range []int{14, 16, 17, 40, 400, 2048} {
		for _, crash := range []bool{false, true} {
			d, v := fresh(t, sectors)
			for i, r := range some() {
				let(t, v, r)
				if d.Dirty() != 0 {
					t.Errorf("%d sectors in the cache", d.Dirty())
				}
				has(t, v, some()[:i+1]...)
				keeps(t, d, some()[:i+1]...)
				if crash {
					d.Crash(0, 0, 0)
					v = opened(t, d)
				}
			}
		}
	}
}

// Promise 13.2: what is done is a record's bytes, in a frame, behind those ahead of it.
func TestDoWrites(t *testing.T) {
	d, v := fresh(t, 8)
	let(t, v, do(5, 9))
	one := frames("\x06\x04\x0a\x12\x00\x00\x00\x02\x00\x00")
	if got := area(t, d, 0, 16); got != one {
		t.Errorf("%q; not %q", got, one)
	}
	let(t, v, api.Record{Kind: api.RSweep, Ts: 3}, api.Record{Kind: api.RVer, Ts: 4, Key: "k", Text: "ab"})
	all := one + frames("\x06\x08\x00\x06\x00\x00\x00\x02\x00\x00", "\x06\x06\x00\x08\x00\x00\x00\x02\x01k\x02ab")
	if got := area(t, d, 0, 192); got != all+zeros(192-len(all)) {
		t.Errorf("%q; not %q", got, all)
	}
	if got := image(t, d)[:2]; !slices.Equal(got, []string{headOf(4, 0, len(all)), headOf(3, 0, 32)}) {
		t.Errorf("%q", got)
	}
}

// Promise 13.2: what the shelf refuses of a record, as it stands or of any, is told, and nothing is written.
func TestDoRefusedByShelf(t *testing.T) {
	d, v := fresh(t, 40, prep(1, "r", "w"), prep(2, "", "k"), do(3, 7), do(4, 0), ver("k", 6), ver("m", 5), upTo(3))
	had := image(t, d)
	is(t, "fuse", d.Fuse(1), api.OK)
	for _, x := range []struct {
		want api.Errno
		l    []api.Record
	}{
		{api.ErrRecord, []api.Record{{}, {Kind: 8}, do(0, 9), do(topTxn+1, 9), do(9, -1), prep(9, "b a", ""), prep(9, "", "b b"), ver("", 9), ver("n", 0), ver(strings.Repeat("k", 33), 9), sizedBy(topShard + 1), upTo(-1), upTo(topStamp + 1)}},
		{api.ErrRecord, []api.Record{{Kind: api.RGo, Txn: 9, Ts: 9}, {Kind: api.REnd, Txn: 9}, {Kind: api.RUpto, Ts: 9}}},
		{api.ErrThere, []api.Record{prep(1, "", ""), prep(3, "", ""), prep(4, "", ""), do(3, 7), do(4, 0)}},
		{api.ErrState, []api.Record{do(3, 0), do(3, 8), do(4, 7)}},
		{api.ErrLocked, []api.Record{prep(9, "w", ""), prep(9, "", "r"), prep(9, "", "k"), prep(9, "k", "")}},
		{api.ErrOld, []api.Record{do(2, 6), do(2, 1), ver("m", 5), gone("m", 4), upTo(2), upTo(0)}},
	} {
		for _, r := range x.l {
			is(t, told(r), v.Do(r), x.want)
		}
	}
	has(t, v, prep(1, "r", "w"), prep(2, "", "k"), do(3, 7), do(4, 0), ver("k", 6), ver("m", 5), upTo(3))
	if !slices.Equal(image(t, d), had) || d.Dirty() != 0 {
		t.Error("what was refused was written")
	}
	is(t, "the fuse's first", d.Flush(), api.ErrDown)
}

// Promise 13.2: what a shelf refuses, as it is full.
func TestDoFullShelf(t *testing.T) {
	l := many(topItems, func(i int) api.Record { return gone("k", i) })
	d, v := fresh(t, 2048)
	is(t, "fill", v.Fill(l), api.OK)
	is(t, "a full chain", v.Do(ver("k", topItems+1)), api.ErrLong)
	let(t, v, prep(1, "", "k"))
	is(t, "a full chain", v.Do(do(1, topItems+1)), api.ErrLong)
	keeps(t, d, append(l, prep(1, "", "k"))...)
}

// Promise 13.2: a record that is too long for the log is refused, whether there is room or not; nothing is written.
func TestDoTooLong(t *testing.T) {
	for _, sectors := range []int{4, 40, 400} {
		d, v := fresh(t, sectors, prep(1, "", "k"))
		had := image(t, d)
		is(t, "fuse", d.Fuse(1), api.OK)
		is(t, "too long", v.Do(tooLong(2)), api.ErrLong)
		has(t, v, prep(1, "", "k"))
		stands(t, v, 2, isUnknown, 0)
		if !slices.Equal(image(t, d), had) || d.Dirty() != 0 {
			t.Error("what is too long was written")
		}
		is(t, "the fuse's first", d.Flush(), api.ErrDown)
	}
}

// Promise 13.2: the longest record that a log takes, and one that has a byte more.
func TestDoJustNotTooLong(t *testing.T) {
	long := func(n int) api.Record {
		r := tooLong(2)
		r.Writes[1].Shard = full(n)
		return r
	}
	most := topShard - (len(bytesOf(long(topShard))) - 4096)
	d, v := fresh(t, 400)
	is(t, "a byte more", v.Do(long(most+1)), api.ErrLong)
	let(t, v, long(most))
	keeps(t, d, long(most))
}

// exact answers a version of a key whose frame has just so many bytes.
func exact(t *testing.T, key string, ts, n int) api.Record {
	t.Helper()
	for size := range topShard {
		if r := sized(key, ts, size); room(r) == n {
			return r
		}
	}
	t.Fatalf("no record of %d bytes", n)
	return api.Record{}
}

// Promise 13.2: a record that just finds room is written behind the others; of one that has a byte more the log is restarted.
func TestDoJustRoom(t *testing.T) {
	for _, sectors := range []int{6, 7, 10, 60} {
		most := (sectors - 2) / 2 * 64
		ahead := []api.Record{prep(1, "", "k"), do(1, 0)}
		d, v := fresh(t, sectors, ahead...)
		let(t, v, exact(t, "k", 9, most-room(ahead...)))
		if got := image(t, d)[:2]; !slices.Equal(got, []string{headOf(4, 0, most), headOf(3, 0, room(ahead...))}) {
			t.Errorf("%q", got)
		}
		d, v = fresh(t, sectors, ahead...)
		more := exact(t, "k", 9, most-room(ahead...)+1)
		let(t, v, more)
		if got := image(t, d)[:2]; !slices.Equal(got, []string{headOf(4, 1, room(do(1, 0))), headOf(5, 1, room(do(1, 0), more))}) {
			t.Errorf("%q", got)
		}
		keeps(t, d, append(ahead, more)...)
	}
}

// refusedOnes answers how many transactions there are that were prepared and refused: the shelf needs but their ends.
func refusedOnes(n int) []api.Record {
	var l []api.Record
	for i := range n {
		l = append(l, prep(i+1, "", "k"), do(i+1, 0))
	}
	return l
}

// Promise 13.2: without room the log is restarted with the shelf's records, as the shelf is, and the record is written behind them.
func TestDoRestarts(t *testing.T) {
	d, v := fresh(t, 6, refusedOnes(3)...)
	had := image(t, d)
	if n := room(refusedOnes(3)...); n != 126 {
		t.Fatal(n)
	}
	let(t, v, do(8, 9))
	all := frames(texts(do(1, 0), do(2, 0), do(3, 0), do(8, 9))...)
	if got := area(t, d, 1, 128); len(all) != 64 || got != all+zeros(64) {
		t.Errorf("%q; not %q", got, all)
	}
	if got := image(t, d); !slices.Equal(got[:2], []string{headOf(8, 1, 48), headOf(9, 1, 64)}) || !slices.Equal(got[2:4], had[2:4]) {
		t.Errorf("%q", got)
	}
	has(t, v, append(refusedOnes(3), do(8, 9))...)
	keeps(t, d, append(refusedOnes(3), do(8, 9))...)
	let(t, v, prep(9, "", "k"), do(9, 0), prep(10, "", "k")) // the last one in the first area again
	all = frames(texts(do(1, 0), do(2, 0), do(3, 0), do(8, 9), do(9, 0), prep(10, "", "k"))...)
	if got := area(t, d, 0, 128); len(all) != 107 || got != all+zeros(21) {
		t.Errorf("%q; not %q", got, all)
	}
	keeps(t, d, append(refusedOnes(3), do(8, 9), prep(9, "", "k"), do(9, 0), prep(10, "", "k"))...)
}

// Promise 13.2: a log is restarted with what stands in it, too, that is needed: it has no room then either.
func TestDoNoRoomBehindRestart(t *testing.T) {
	l := many(8, func(i int) api.Record { return do(i, 9) }) // 16 bytes each
	d, v := fresh(t, 6, l...)
	for n := range 3 {
		is(t, "no room", v.Do(do(9, 9)), api.ErrSpace)
		has(t, v, l...)
		stands(t, v, 9, isUnknown, 0)
		if got := area(t, d, 1-n%2, 128); got != frames(texts(l...)...) {
			t.Errorf("%q", got)
		}
		if got := image(t, d)[(10+n)%2]; got != headOf(uint64(10+n), byte(1-n%2), 128) {
			t.Errorf("%q", got)
		}
		keeps(t, d, l...)
	}
	d.Crash(1, 1, 1)
	keeps(t, d, l...)
}

// sixteen answers a transaction that writes as many keys as it may, and is done: as versions they need more bytes than it did.
func sixteen() []api.Record {
	return []api.Record{prep(1, "", "-a -b -c -d -e -f -g -h -i -j -k -l -m -n -o -p"), do(1, 9)}
}

// Promise 13.2: the shelf's records may find no room themselves: nothing is written then, and what finds room as the log stands is done.
func TestDoNoRestart(t *testing.T) {
	d, v := fresh(t, 6, sixteen()...)
	if a, b := room(sixteen()...), room(v.Shelf().Records()...); a != 96 || b != 288 {
		t.Fatal(a, b)
	}
	had := image(t, d)
	is(t, "fuse", d.Fuse(1), api.OK)
	is(t, "no room", v.Do(exact(t, "q", 9, 33)), api.ErrSpace)
	is(t, "no room", v.Do(exact(t, "q", 9, 200)), api.ErrSpace)
	if !slices.Equal(image(t, d), had) || d.Dirty() != 0 {
		t.Error("what finds no room was written")
	}
	has(t, v, sixteen()...)
	is(t, "no fuse", d.Fuse(0), api.OK)
	last := exact(t, "q", 9, 32)
	let(t, v, last)
	has(t, v, append(sixteen(), last)...)
	keeps(t, d, append(sixteen(), last)...)
	is(t, "no room", v.Do(do(2, 9)), api.ErrSpace)
	keeps(t, d, append(sixteen(), last)...)
}

// Promise 13.2: a restart may make the log longer; there is room for what finds it behind that, and the vault has what it had.
func TestDoRestartMakesLonger(t *testing.T) {
	d, v := fresh(t, 12, sixteen()...)
	is(t, "no room", v.Do(exact(t, "q", 9, 225)), api.ErrSpace)
	has(t, v, sixteen()...)
	if got := area(t, d, 1, 288); got != frames(texts(of(t, sixteen()...).Records()...)...) {
		t.Errorf("%q", got)
	}
	keeps(t, d, sixteen()...)
	is(t, "no room", v.Do(exact(t, "q", 9, 33)), api.ErrSpace)
	let(t, v, exact(t, "q", 9, 32))
	keeps(t, d, append(sixteen(), exact(t, "q", 9, 32))...)
}

// Promise 13.2: a device that is down lets nothing be done.
func TestDoDown(t *testing.T) {
	for _, l := range [][]api.Record{nil, some(), refusedOnes(7)} {
		d, v := fresh(t, 14, l...)
		down(t, d)
		is(t, "down", v.Do(do(99, 9)), api.ErrDown)
		is(t, "down", v.Do(exact(t, "q", 99, 350)), api.ErrDown)
		d.Crash(1, 1)
		keeps(t, d, l...)
	}
}

// Promise 13.2: each write and each flush of a record is done in its order; what is refused is told.
func TestDoRefusedByDevice(t *testing.T) {
	for _, x := range []struct {
		l     []api.Record
		r     api.Record
		want  api.Errno
		deeds int // how many writes and flushes there are
	}{
		{nil, do(8, 9), api.OK, 4},
		{nil, exact(t, "k", 9, 64), api.OK, 4},
		{nil, exact(t, "k", 9, 65), api.OK, 5},
		{[]api.Record{do(1, 9)}, exact(t, "k", 9, 64), api.OK, 5},
		{[]api.Record{exact(t, "k", 9, 64)}, do(8, 9), api.OK, 4},
		{refusedOnes(3), do(8, 9), api.OK, 4 + 4}, // the restart, and what is behind it
		{refusedOnes(3), exact(t, "l", 9, 70), api.OK, 4 + 5},
		{refusedOnes(3), exact(t, "l", 9, 81), api.ErrSpace, 4}, // the restart alone
		{[]api.Record{prep(1, "", ""), do(1, 9), upTo(3)}, exact(t, "k", 9, 100), api.ErrSpace, 4},
		{sixteen(), exact(t, "q", 9, 33), api.ErrSpace, 0},
		{nil, exact(t, "q", 9, 129), api.ErrSpace, 2}, // a restart with nothing
		{nil, tooLong(1), api.ErrLong, 0},
		{nil, do(0, 9), api.ErrRecord, 0},
	} {
		for n := 1; n <= x.deeds+1; n++ {
			d, v := fresh(t, 6, x.l...)
			w := newTwin(t, 6)
			for _, r := range x.l {
				is(t, "twin", w.do(r), api.OK)
			}
			is(t, "fuse", d.Fuse(n), api.OK)
			is(t, "fuse", w.d.Fuse(n), api.OK)
			want := x.want
			if n <= x.deeds {
				want = api.ErrDown
			}
			is(t, told(x.r), v.Do(x.r), want)
			is(t, "twin", w.do(x.r), want)
			if n > x.deeds {
				is(t, "the fuse", d.Flush(), api.ErrDown)
				is(t, "the twin's", w.d.Flush(), api.ErrDown)
			}
			ones := []int{1, 1, 1, 1, 1, 1}
			d.Crash(ones...)
			w.d.Crash(ones...)
			w.alikeDevices(t, d)
		}
	}
}

// Promise 13.2: a shelf that is answered goes its own way: what is applied to it changes nothing of the vault's, nor of another one.
func TestShelfIsAFork(t *testing.T) {
	d, v := fresh(t, 40, some()...)
	first, second := v.Shelf(), v.Shelf()
	for _, r := range []api.Record{do(8, 50), do(10, 0), ver("new", 9), upTo(60), prep(11, "a", "z")} {
		is(t, told(r), first.Apply(r), api.OK)
	}
	has(t, v, some()...)
	if got := knows(second); got != knows(of(t, some()...)) {
		t.Error(got)
	}
	let(t, v, do(8, 30), prep(12, "", "a z"))
	has(t, v, append(some(), do(8, 30), prep(12, "", "a z"))...)
	if got := knows(second); got != knows(of(t, some()...)) {
		t.Error(got)
	}
	if state, ts := first.State(8); state != isDone || ts != 50 {
		t.Error(state, ts)
	}
	keeps(t, d, append(some(), do(8, 30), prep(12, "", "a z"))...)
}

// Promises 13.1, 13.2, 13.3: whatever is done, a vault tells what the chapter's words make of it, and its device is as they say.
func TestAsByWords(t *testing.T) {
	m := newMaker(1)
	seen := map[api.Errno]int{}
	restarts, spaces := 0, 0
	for range 150 {
		sectors := []int{4, 6, 8, 12, 13, 20, 30, 60, 200}[m.IntN(9)]
		d, w := device(t, sectors), newTwin(t, sectors)
		v := opened(t, d)
		for i := range 80 {
			r := m.record(i)
			want := w.do(r)
			if e := v.Do(r); e != want {
				t.Fatalf("%s: %d; not %d", told(r), e, want)
			}
			seen[want]++
			if m.IntN(30) == 0 {
				l := m.records()
				is(t, "fill", v.Fill(l), w.fill(l))
			}
			if m.IntN(10) == 0 {
				v = opened(t, d)
				w.open(t)
			}
			w.alike(t, d, v)
		}
		restarts += w.restarts
		spaces += w.spaces
		if t.Failed() {
			return
		}
	}
	for _, e := range []api.Errno{api.OK, api.ErrRecord, api.ErrThere, api.ErrLocked, api.ErrState, api.ErrOld, api.ErrLong, api.ErrSpace} {
		if seen[e] < 50 {
			t.Error(e, "was told but", seen[e], "times")
		}
	}
	if restarts < 100 || spaces < 100 {
		t.Error(restarts, "restarts,", spaces, "times no room")
	}
}
