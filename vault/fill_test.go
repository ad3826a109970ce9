package vault

import (
	"slices"
	"testing"

	"corncrib/api"
	"corncrib/sector"
)

// Promise 13.3: a vault that is filled has the shelf of the records, and a log of just their bytes, in the other area; what it had is gone.
func TestFill(t *testing.T) {
	for _, was := range [][]api.Record{nil, {do(77, 1)}, {prep(5, "", "x"), prep(70, "k", "y"), ver("old", 3)}, refusedOnes(5), some()} {
		for n := range len(some()) + 1 {
			l := some()[:n]
			d, v := fresh(t, 20, was...)
			is(t, "fill", v.Fill(l), api.OK)
			has(t, v, l...)
			all := frames(texts(l...)...)
			if got := area(t, d, 1, len(all)); got != all {
				t.Errorf("%q; not %q", got, all)
			}
			count := len(was) + 2
			if got := image(t, d)[count%2]; got != headOf(uint64(count), 1, len(all)) {
				t.Errorf("%q", got)
			}
			d.Crash(0, 0, 0)
			keeps(t, d, l...)
		}
	}
}

// Promise 13.3: the log has the records as they were handed in, also those that the shelf does not need any more.
func TestFillAsHandedIn(t *testing.T) {
	l := append(refusedOnes(4), ver("k", 1), ver("k", 2), upTo(2))
	d, v := fresh(t, 20)
	is(t, "fill", v.Fill(l), api.OK)
	all := frames(texts(l...)...)
	if got := area(t, d, 1, len(all)); got != all {
		t.Errorf("%q; not %q", got, all)
	}
	has(t, v, do(1, 0), do(2, 0), do(3, 0), do(4, 0), upTo(2), ver("k", 2))
	keeps(t, d, l...)
}

// Promise 13.3: a vault that is filled goes on as any other one, also as there is no room any more, and is filled again.
func TestFillAndDo(t *testing.T) {
	d, v := fresh(t, 8, some()[:4]...)
	is(t, "fill", v.Fill(refusedOnes(4)), api.OK) // 168 of 192 bytes
	let(t, v, do(20, 9), do(21, 9))
	keeps(t, d, append(refusedOnes(4), do(20, 9), do(21, 9))...)
	is(t, "ended", v.Do(do(1, 0)), api.ErrThere)
	is(t, "fill", v.Fill([]api.Record{do(1, 3)}), api.OK)
	is(t, "ended", v.Do(do(1, 0)), api.ErrState)
	let(t, v, do(20, 0))
	keeps(t, d, do(1, 3), do(20, 0))
	is(t, "fill", v.Fill(nil), api.OK)
	has(t, v)
	keeps(t, d)
	let(t, v, do(1, 0))
	keeps(t, d, do(1, 0))
}

// Promise 13.3: records that a new shelf refuses, at the first, in the middle and at the last, are told by the first of them; the vault has what it had, and nothing is written.
func TestFillRefusedByShelf(t *testing.T) {
	was := []api.Record{prep(5, "", "x"), ver("k", 100), do(7, 1), upTo(50)}
	for _, x := range []struct {
		want api.Errno
		bad  api.Record
	}{
		{api.ErrRecord, api.Record{}}, {api.ErrRecord, do(0, 9)}, {api.ErrRecord, prep(50, "b a", "")}, {api.ErrRecord, ver("", 9)}, {api.ErrRecord, sizedBy(topShard + 1)},
		{api.ErrRecord, api.Record{Kind: api.RGo, Txn: 5, Ts: 9}}, {api.ErrRecord, api.Record{Kind: api.REnd, Txn: 5}}, {api.ErrRecord, api.Record{Kind: api.RUpto, Ts: 9}},
	} {
		for at := range len(some()) + 1 {
			d, v := fresh(t, 40, was...)
			unfilled(t, d, v, slices.Insert(some(), at, x.bad), x.want, was...)
			worse := slices.Insert(slices.Insert(some(), at, do(5, 8), do(5, 8)), at, x.bad) // others behind it
			unfilled(t, d, v, worse, x.want, was...)
		}
	}
	for _, x := range []struct {
		want api.Errno
		l    []api.Record
	}{
		{api.ErrThere, []api.Record{prep(1, "", ""), prep(1, "", "")}},
		{api.ErrThere, []api.Record{do(1, 9), do(1, 9), do(1, 8)}},
		{api.ErrState, []api.Record{do(1, 9), do(1, 8), do(1, 9)}},
		{api.ErrLocked, []api.Record{prep(1, "", "k"), ver("a", 1), prep(2, "k", ""), prep(1, "", "")}},
		{api.ErrOld, []api.Record{ver("k", 2), ver("k", 2), do(1, 1), do(1, 1)}},
		{api.ErrOld, []api.Record{upTo(2), upTo(1)}},
		{api.ErrLong, append(many(topItems+1, func(i int) api.Record { return gone("k", i) }), do(0, 0))},
		{api.ErrLong, many(topItems+1, func(i int) api.Record { return gone(keyOf(i), 1) })},
		{api.ErrLong, many(topItems+1, func(i int) api.Record { return prep(i, "", "") })},
	} {
		d, v := fresh(t, 40, was...)
		unfilled(t, d, v, x.l, x.want, was...)
	}
}

// Promise 13.3: what the vault has does not matter to what a new shelf refuses, or does not.
func TestFillIsOfANewShelf(t *testing.T) {
	was := []api.Record{prep(5, "r", "w"), do(6, 9), ver("k", 9), upTo(9)}
	l := []api.Record{prep(6, "w", "r"), prep(5, "", "k"), ver("m", 1), upTo(3), do(6, 4)}
	d, v := fresh(t, 40, was...)
	is(t, "fill", v.Fill(l), api.OK)
	has(t, v, l...)
	keeps(t, d, l...)
	d, v = fresh(t, 40, do(6, 9))
	is(t, "fill with what it has", v.Fill([]api.Record{do(6, 9)}), api.OK)
	keeps(t, d, do(6, 9))
}

// Promise 13.3: one that is too long for the log, at any place, ahead of there being no room.
func TestFillTooLong(t *testing.T) {
	was := []api.Record{prep(5, "", "x"), ver("k", 100)}
	for _, sectors := range []int{6, 40, 400} {
		for _, at := range []int{0, 3, len(some())} {
			d, v := fresh(t, sectors, was...)
			unfilled(t, d, v, slices.Insert(some(), at, tooLong(50)), api.ErrLong, was...)
			unfilled(t, d, v, append(slices.Insert(some(), at, tooLong(50)), do(0, 0)), api.ErrRecord, was...)
		}
	}
}

// Promise 13.3: records that just fill an area, and a byte more.
func TestFillJustRoom(t *testing.T) {
	was := []api.Record{do(5, 9), ver("a", 1)}
	for _, sectors := range []int{6, 7, 10, 66} {
		most := (sectors - 2) / 2 * 64
		d, v := fresh(t, sectors, was...)
		ahead := refusedOnes(2)
		unfilled(t, d, v, append(ahead, exact(t, "k", 9, most-room(ahead...)+1)), api.ErrSpace, was...)
		unfilled(t, d, v, many(20+most, func(i int) api.Record { return do(i, 9) }), api.ErrSpace, was...)
		l := append(ahead, exact(t, "k", 9, most-room(ahead...)))
		is(t, "just room", v.Fill(l), api.OK)
		keeps(t, d, l...)
		let(t, v, do(70, 9)) // by a restart
		keeps(t, d, append(l, do(70, 9))...)
	}
}

// unfilled fails, unless a vault is not filled, with that error, and has what it had, on a device that has what it had, too.
func unfilled(t *testing.T, d *sector.Device, v *Vault, l []api.Record, want api.Errno, was ...api.Record) {
	t.Helper()
	had := image(t, d)
	is(t, "fuse", d.Fuse(1), api.OK)
	is(t, "fill", v.Fill(l), want)
	is(t, "no fuse", d.Fuse(0), api.OK)
	has(t, v, was...)
	if !slices.Equal(image(t, d), had) || d.Dirty() != 0 {
		t.Error("what was refused was written")
	}
	keeps(t, d, was...)
}

// Promise 13.3: each write and each flush is done in its order; what is refused is told.
func TestFillRefusedByDevice(t *testing.T) {
	for _, was := range [][]api.Record{nil, some()} {
		for _, x := range []struct {
			l     []api.Record
			deeds int // how many writes and flushes there are
		}{{nil, 2}, {[]api.Record{do(1, 9)}, 4}, {[]api.Record{exact(t, "k", 9, 64)}, 4}, {[]api.Record{exact(t, "k", 9, 65)}, 5}, {[]api.Record{exact(t, "k", 9, 64*9)}, 12}} {
			for n := 1; n <= x.deeds+1; n++ {
				d, v := fresh(t, 20, was...)
				is(t, "fuse", d.Fuse(n), api.OK)
				want := api.ErrDown
				if n > x.deeds {
					want = api.OK
				}
				is(t, "fill", v.Fill(x.l), want)
				is(t, "the fuse", d.Flush(), api.ErrDown)
				d.Crash() // what waits for a flush is lost
				if want == api.OK {
					keeps(t, d, x.l...)
				} else {
					keeps(t, d, was...)
				}
			}
		}
	}
}

// Promise 13.3: as many records as a great device has room for.
func TestFillGreat(t *testing.T) {
	l := many(2500, func(i int) api.Record { return gone(keyOf(i%900), i) })
	d, v := fresh(t, 2048, some()...)
	is(t, "fill", v.Fill(l), api.OK)
	has(t, v, l...)
	keeps(t, d, l...)
	let(t, v, do(1, 5), prep(2, "", keyOf(3)))
	keeps(t, d, append(l, do(1, 5), prep(2, "", keyOf(3)))...)
}
