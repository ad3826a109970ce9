package clock

import (
	"slices"
	"testing"

	"corncrib/api"
)

// The chapter's example: of a block of 10: 1, 2, a crash, 11.
func TestExample(t *testing.T) {
	d, c := fresh(t, 8, 10)
	next(t, c, 1, 2)
	d.Crash()
	next(t, opened(t, d, 10), 11)
}

// Promise 16.2: a clock on a new device: stamps from 1 on; a record at each block's end, and nothing else, is written.
func TestNext(t *testing.T) {
	for _, block := range []int{1, 2, 3, 10, 100, 4095, 4096} {
		d, c := fresh(t, 2048, block)
		var bounds []int
		for i := range 3*block + 1 {
			if i%block == 0 {
				bounds = append(bounds, i+block)
			} else {
				fuse(t, d, 1) // nothing is to be written
			}
			next(t, c, i+1)
			tells(t, c, i+1, bounds[len(bounds)-1])
			fuse(t, d, 0)
		}
		keeps(t, d, bounds...)
	}
}

// Promise 16.2: what a clock writes: one record more, that is synced: its sector, a flush, the head, a flush.
func TestNextWrites(t *testing.T) {
	d, c := fresh(t, 8, 10)
	want := slices.Repeat([]string{padded("")}, 8)
	want[1] = headOf(1, 0, 0)
	used := ""
	for i, bound := range []int{10, 20, 30} {
		used += frames(upto(bound))
		want[2], want[i%2] = padded(used), headOf(uint64(2+i), 0, len(used))
		for range 10 {
			next(t, c, c.Last()+1)
			if got := image(t, d); !slices.Equal(got, want) || d.Dirty() != 0 {
				t.Errorf("at %d: %q", c.Last(), got)
			}
		}
	}
}

// Promise 16.2: a clock that was just opened takes a block ahead of its first stamp.
func TestNextOpened(t *testing.T) {
	for _, last := range []int{1, 5, 4095, 4096, 4097, 1 << 40} {
		for _, block := range []int{1, 2, 4096} {
			d := logged(t, 8, upto(last))
			c := opened(t, d, block)
			tells(t, c, last, last)
			keeps(t, d, last)
			next(t, c, last+1)
			tells(t, c, last+1, last+block)
			keeps(t, d, last, last+block)
		}
	}
}

// Promise 16.2: a clock that is opened anew passes over what was left of the block, be it another block then.
func TestNextBehindCrash(t *testing.T) {
	for used := range 11 {
		for _, block := range []int{1, 3, 10, 11, 4096} {
			d, c := fresh(t, 8, 10)
			for i := range used {
				next(t, c, i+1)
			}
			d.Crash(0, 0)
			c = opened(t, d, block)
			if used == 0 {
				tells(t, c, 0, 0)
				next(t, c, 1)
				tells(t, c, 1, block)
				continue
			}
			tells(t, c, 10, 10)
			next(t, c, 11)
			tells(t, c, 11, 10+block)
			keeps(t, d, 10, 10+block)
		}
	}
}

// Promise 16.2: the last stamps: a bound is at most api.MaxStamp, and behind it there is none.
func TestNextLast(t *testing.T) {
	for _, block := range []int{1, 2, 3, 10, 4096} {
		for left := range 5 {
			d := logged(t, 8, upto(topStamp-left))
			c := opened(t, d, block)
			tells(t, c, topStamp-left, topStamp-left)
			bound := topStamp - left
			for i := range left {
				if bound == topStamp-left+i {
					bound = min(bound+block, topStamp)
				}
				next(t, c, topStamp-left+i+1)
				tells(t, c, topStamp-left+i+1, bound)
			}
			had := image(t, d)
			none(t, c, api.ErrSpent)
			none(t, c, api.ErrSpent)
			tells(t, c, topStamp, topStamp)
			if !slices.Equal(image(t, d), had) {
				t.Error("a spent clock has written")
			}
			d.Crash()
			c = opened(t, d, block)
			tells(t, c, topStamp, topStamp)
			none(t, c, api.ErrSpent)
		}
	}
}

// Promise 16.2: a bound within a block of api.MaxStamp: of the last block as many stamps as there are; no more is written behind it.
func TestNextLastBlock(t *testing.T) {
	for _, left := range []int{1, 9, 10, 11, 19, 20, 21} {
		d, c := at(t, 8, 10, topStamp-left)
		had, want := topStamp-left, []int{topStamp - left}
		for had < topStamp {
			had = min(had+10, topStamp)
			want = append(want, had)
		}
		for i := range left {
			next(t, c, topStamp-left+i+1)
			tells(t, c, topStamp-left+i+1, want[1+i/10])
		}
		none(t, c, api.ErrSpent)
		keeps(t, d, want...)
	}
}

// Promise 16.2: a spent clock is told of ahead of the device.
func TestNextSpentAndDown(t *testing.T) {
	d := logged(t, 8, upto(topStamp))
	c := opened(t, d, 10)
	down(t, d)
	none(t, c, api.ErrSpent)
}

// Promise 16.2: where the log has no room left, it is restarted with the new record alone.
func TestNextNoRoom(t *testing.T) {
	d, c := fresh(t, 4, 1) // an area of 64 bytes: four records of 16 bytes
	want := slices.Repeat([]string{padded("")}, 4)
	used, area, head := "", 0, 1
	want[1] = headOf(1, 0, 0)
	for i := 1; i <= 60; i++ {
		if len(used) == 64 {
			used, area = "", 1-area
		}
		used += frames(upto(i))
		head++
		want[2+area], want[head%2] = padded(used), headOf(uint64(head), byte(area), len(used))
		next(t, c, i)
		tells(t, c, i, i)
		if got := image(t, d); !slices.Equal(got, want) || d.Dirty() != 0 {
			t.Fatalf("at %d: %q; not %q", i, got, want)
		}
	}
}

// Promise 16.2: a log that has just the room for a record, one that has a byte too few, and one that is full.
func TestNextJustRoom(t *testing.T) {
	d := logged(t, 4, uptos(100, 101, 102)...) // of 17 bytes each: 13 are left
	next(t, opened(t, d, 1), 103)
	keeps(t, d, 103)
	d = logged(t, 4, uptos(1, 100, 101)...) // 14 bytes are left
	next(t, opened(t, d, 1), 102)
	keeps(t, d, 102)
	d = logged(t, 4, uptos(1, 2, 3)...) // 16 bytes are left
	c := opened(t, d, 1)
	next(t, c, 4)
	keeps(t, d, 1, 2, 3, 4)
	next(t, c, 5)
	keeps(t, d, 5)
	d = logged(t, 4, uptos(1, 2, 3)...) // of 17 bytes there is one too few
	next(t, opened(t, d, 99), 4)
	keeps(t, d, 102)
}

// Promise 16.2: where the device goes down ahead of, in and behind what is written: nothing is handed out, till all of it is on the device.
func TestNextDown(t *testing.T) {
	for n := 1; n <= 5; n++ {
		d, c := at(t, 8, 10, 7)
		fuse(t, d, n)
		if n == 5 {
			next(t, c, 8)
			tells(t, c, 8, 17)
			is(t, "the fifth", d.Flush(), api.ErrDown)
			next(t, c, 9) // of the block that is taken already
			tells(t, c, 9, 17)
			continue
		}
		none(t, c, api.ErrDown)
		tells(t, c, 7, 7)
		d.Crash()
		tells(t, opened(t, d, 10), 7, 7)
	}
	d, c := at(t, 8, 10, 7)
	down(t, d)
	none(t, c, api.ErrDown)
}

// Promise 16.2: where the device goes down as the log is restarted.
func TestNextDownInRestart(t *testing.T) {
	for n := 1; n <= 5; n++ {
		d := logged(t, 4, uptos(1, 2, 3, 4)...)
		c := opened(t, d, 10)
		fuse(t, d, n)
		if n == 5 {
			next(t, c, 5)
			tells(t, c, 5, 14)
			is(t, "the fifth", d.Flush(), api.ErrDown)
			d.Crash()
			keeps(t, d, 14)
			continue
		}
		none(t, c, api.ErrDown)
		tells(t, c, 4, 4)
		d.Crash()
		keeps(t, d, 1, 2, 3, 4)
		tells(t, opened(t, d, 10), 4, 4)
	}
}
