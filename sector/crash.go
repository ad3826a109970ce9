package sector

import (
	"maps"
	"slices"

	"corncrib/api"
)

// longestFuse is the greatest number of a fuse.
const longestFuse = 1 << 20

// The picks that take a sector whole; any other one tears it.
const (
	lost    = 0
	written = 1
)

// Fuse lets the n-th write or flush from now on fail, and the device be down with it; 0 takes the fuse out.
func (d *Device) Fuse(n int) api.Errno {
	if d.down {
		return api.ErrDown
	}
	if n < 0 || n > longestFuse {
		return api.ErrRange
	}
	d.fuse = n
	return api.OK
}

// burn counts a write or a flush, and tells whether the fuse is through by it.
func (d *Device) burn() bool {
	if d.fuse == 0 {
		return false
	}
	d.fuse--
	d.down = d.fuse == 0
	return d.down
}

// Crash loses, keeps or tears what is in the cache, as picked for each sector of it, by their numbers rising; the device is up then.
func (d *Device) Crash(picks ...int) {
	for i, at := range slices.Sorted(maps.Keys(d.cache)) {
		pick := lost
		if i < len(picks) {
			pick = picks[i]
		}
		s := d.cache[at]
		copy(d.sectors[at][:], s[:reached(pick)])
	}
	d.restart()
}

// reached answers how many bytes of what was written are on the device behind a crash.
func reached(pick int) int {
	if pick == lost {
		return 0
	}
	if pick == written {
		return api.Sector
	}
	// Go's rest of a number below 0 is below 0, too.
	return (pick%api.Sector + api.Sector) % api.Sector
}

// restart lets the device be up, with an empty cache and without a fuse.
func (d *Device) restart() {
	clear(d.cache)
	d.fuse, d.down = 0, false
}
