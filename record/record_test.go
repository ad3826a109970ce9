package record

import (
	"math"
	"strings"
	"testing"

	"corncrib/api"
)

// Promise 8.1: the chapter's example.
func TestExample(t *testing.T) {
	written(t, api.Record{Kind: api.RDo, Txn: 5, Ts: 9}, string([]byte{6, 4, 10, 18, 0, 0, 0, 2, 0, 0}))
}

// Promise 8.1: a record of each kind, its bytes worked out.
func TestKnownRecords(t *testing.T) {
	for i, want := range []string{
		"\x08\x02\x0c\x8c\x01\x06\x00\x04\x00\x02" + "\x08\x00\x00\x01a\x01b\x01b\x03xyz\x01c\x00",
		"\x06\x04\x0a\x12\x00\x00\x00" + "\x02\x00\x00",
		"\x06\x06\x00\x12\x00\x00\x00" + "\x02\x01k\x05shard",
		"\x06\x08\x00\x80\x01\x00\x00\x00" + "\x02\x00\x00",
		"\x06\x0a\x0e\xd8\x04\x00\x00\x00" + "\x02\x00\x00",
		"\x06\x0c\x0e\x00\x00\x00\x00" + "\x02\x00\x00",
		"\x06\x0e\x00\xd0\x0f\x00\x00\x00" + "\x02\x00\x00",
	} {
		written(t, ofKind(i+1), want)
	}
	written(t, api.Record{Kind: api.RVer, Ts: 9, Key: "k", Dead: true}, "\x06\x06\x00\x12\x00\x02\x00"+"\x02\x01k\x00")
	if l := kinds(); l[0].Kind != api.RPrep || l[1].Kind != api.RDo || l[2].Kind != api.RVer || l[3].Kind != api.RSweep || l[4].Kind != api.RGo || l[5].Kind != api.REnd || l[6].Kind != api.RUpto {
		t.Error("not the seven kinds")
	}
}

// Promise 8.1: a kind of 0, of one above the last, and others that are none.
func TestKinds(t *testing.T) {
	for _, r := range append(kinds(), api.Record{}, api.Record{Txn: 5}, api.Record{Ts: 5}) {
		for _, kind := range []int{0, 8, 9, -1, -2, 100, 256 + 2, 1 << 32, 1<<32 + 2, 1<<62 - 1, -1 << 62} {
			r.Kind = kind
			mayNot(t, r)
		}
	}
}

// Promise 8.1: transactions 0, 1, the greatest, and one further: with the kinds that ask for one, and with those that do not name it.
func TestTransactions(t *testing.T) {
	for _, r := range kinds() {
		asks := r.Kind == api.RPrep || r.Kind == api.RDo || r.Kind == api.RGo || r.Kind == api.REnd
		r.Txn = 0
		judged(t, r, !asks)
		for _, n := range []int{1, 2, 1 << 32, 1<<50 - 2, 1<<50 - 1} {
			r.Txn = n
			judged(t, r, asks)
		}
		for _, n := range []int{-1, 1 << 50, 1<<50 + 1, 1<<62 - 1, -1 << 62} {
			r.Txn = n
			mayNot(t, r)
		}
	}
}

// Promise 8.1: time stamps 0, 1, api.MaxStamp, and one further: with the kinds whose stamp is not 0, whose may be 0, and whose is.
func TestStamps(t *testing.T) {
	for _, r := range kinds() {
		r.Ts = 0
		judged(t, r, r.Kind != api.RVer && r.Kind != api.RGo && r.Kind != api.RUpto)
		for _, n := range []int{1, 2, 1 << 32, api.MaxStamp - 1, api.MaxStamp} {
			r.Ts = n
			judged(t, r, r.Kind != api.REnd)
		}
		for _, n := range []int{-1, api.MaxStamp + 1, 1<<62 - 1, -1 << 62} {
			r.Ts = n
			mayNot(t, r)
		}
	}
}

// Promise 8.1: coordinators 0 and 15, and one further on each side; what is prepared alone has one.
func TestCoordinators(t *testing.T) {
	for _, r := range kinds() {
		for n := -4; n < 130; n++ {
			r.Coord = n
			judged(t, r, n == 0 || r.Kind == api.RPrep && n > 0 && n <= 15)
		}
		for _, n := range []int{256, 1 << 32, 1<<32 + 1, 1<<62 - 1, -1 << 62} {
			r.Coord = n
			mayNot(t, r)
		}
	}
}

// Promise 8.1: what a kind does not name, given all the same, alone and with all the rest of it.
func TestNotNamed(t *testing.T) {
	for _, r := range kinds() {
		if r.Kind != api.RVer {
			keyed, texty, dead := r, r, r
			keyed.Key, texty.Text, dead.Dead = "k", "x", true
			for _, wrong := range []api.Record{keyed, texty, dead} {
				mayNot(t, wrong)
			}
			keyed.Text = "x"
			mayNot(t, keyed)
			keyed.Text, keyed.Dead = "", true
			mayNot(t, keyed)
			texty.Text = "\x00"
			mayNot(t, texty)
		}
		if r.Kind != api.RPrep {
			for _, keys := range [][]string{{"k"}, {""}, {"a", "b"}, keysUpTo(16), keysUpTo(17)} {
				wrong := r
				wrong.Keys = keys
				mayNot(t, wrong)
				wrong.Keys, wrong.Writes = nil, writesOf(keys...)
				mayNot(t, wrong)
			}
			wrong := r
			wrong.Writes = []api.Write{{Key: "a", Dead: true}}
			mayNot(t, wrong)
			wrong.Writes = make([]api.Write, 1)
			mayNot(t, wrong)
		}
	}
}

// Promise 8.1: the key of a version.
func TestVersionKeys(t *testing.T) {
	r := ofKind(api.RVer)
	for n := range 80 {
		for _, b := range []string{"\x00", "k", "\xff"} {
			r.Key = strings.Repeat(b, n)
			judged(t, r, n >= 1 && n <= api.MaxKey)
		}
	}
	r.Key = strings.Repeat("é", 17)
	mayNot(t, r)
	r.Key = "é \n\xc3"
	may(t, r)
}

// Promise 8.1: the shard of a version, and of one that is dead.
func TestVersionTexts(t *testing.T) {
	r := ofKind(api.RVer)
	for _, r.Dead = range []bool{false, true} {
		for _, n := range []int{0, 1, 2, 127, 128, 2048, 2051, 2052, 2053, 2054, 4096} {
			r.Text = strings.Repeat("x", n)
			judged(t, r, n == 0 || !r.Dead && n <= topShard)
		}
		r.Text = strings.Repeat("x", 4097) // is none of a pack's
		unwritten(t, r)
	}
}

// Promise 8.1: the keys of what is prepared: how many, how long, rising.
func TestPrepKeys(t *testing.T) {
	long := strings.Repeat("k", api.MaxKey)
	r := ofKind(api.RPrep)
	for n := range 20 {
		for _, writes := range [][]api.Write{nil, r.Writes, writesOf(keysUpTo(16)...)} {
			r.Keys, r.Writes = keysUpTo(n), writes
			judged(t, r, n <= api.MaxWrites)
		}
	}
	for _, keys := range [][]string{nil, {}, {"a"}, {long}, {"\x00", "\x00\x00", "a", "aa", "ab", "b", "\xff", "\xff\xff"}, {"Z", "a"}, {"\x7f", "\x80"}} {
		r.Keys = keys
		may(t, r)
	}
	for _, keys := range [][]string{{""}, {"", "a"}, {"a", ""}, {long + "k"}, {"a", long + "k"}, {"a", "a"}, {"b", "a"}, {"a", "b", "b"}, {"a", "c", "b"}, {"b", "c", "a"}, {"aa", "a"}, {"a", "B"}, {"\x80", "\x7f"}} {
		r.Keys = keys
		mayNot(t, r)
	}
}

// Promise 8.1: the writes of what is prepared: how many, how long their keys, rising; they hang on no other key.
func TestPrepWrites(t *testing.T) {
	long := strings.Repeat("k", api.MaxKey)
	r := ofKind(api.RPrep)
	for n := range 20 {
		for _, keys := range [][]string{nil, r.Keys, keysUpTo(16)} {
			r.Keys, r.Writes = keys, writesOf(keysUpTo(n)...)
			judged(t, r, n <= api.MaxWrites)
		}
	}
	for _, keys := range [][]string{nil, {"a"}, {long}, {"\x00", "\x00\x00", "a", "aa", "ab", "b", "\xff", "\xff\xff"}} {
		r.Writes = writesOf(keys...)
		may(t, r)
	}
	for _, keys := range [][]string{{""}, {"", "a"}, {"a", ""}, {long + "k"}, {"a", long + "k"}, {"a", "a"}, {"b", "a"}, {"a", "b", "b"}, {"a", "c", "b"}, {"b", "c", "a"}, {"aa", "a"}} {
		r.Writes = writesOf(keys...)
		mayNot(t, r)
	}
}

// Promise 8.1: a write's shard of up to 2052 bytes, empty if it is dead, wherever it stands.
func TestShards(t *testing.T) {
	r := ofKind(api.RPrep)
	for i := range 3 {
		for _, dead := range []bool{false, true} {
			for _, n := range []int{0, 1, 2, 2051, 2052, 2053, 4096} {
				r.Writes = writesOf("a", "b", "c")
				r.Writes[i].Shard, r.Writes[i].Dead = strings.Repeat("x", n), dead
				judged(t, r, n == 0 || !dead && n <= topShard)
			}
		}
	}
}

// Promise 8.1: the greatest record of each sort of room.
func TestGreatest(t *testing.T) {
	r := api.Record{Kind: api.RPrep, Txn: topTxn, Ts: topStamp, Coord: 15}
	for i := range byte(api.MaxWrites) {
		key := strings.Repeat(string([]byte{'a' + i}), api.MaxKey)
		r.Keys = append(r.Keys, key)
		r.Writes = append(r.Writes, api.Write{Key: key, Shard: strings.Repeat("\xff", topShard)})
	}
	may(t, r)
	may(t, api.Record{Kind: api.RVer, Ts: topStamp, Key: r.Keys[15], Text: strings.Repeat("\x00", topShard)})
	may(t, api.Record{Kind: api.RPrep, Txn: 1}) // and the least one that is prepared
}

// Promise 8.1: where several things are wrong, and numbers that are none of a pack's, it is ErrRecord still.
func TestAllWrong(t *testing.T) {
	for _, r := range []api.Record{{}, {Kind: math.MaxInt}, {Kind: 1, Txn: math.MinInt, Ts: math.MaxInt, Coord: math.MinInt}, {Kind: 3, Key: strings.Repeat("k", 5000), Text: strings.Repeat("x", 5000), Dead: true}} {
		unwritten(t, r)
	}
	for _, r := range kinds() {
		for _, bad := range []int{math.MinInt, math.MaxInt, 1 << 62, -1<<62 - 1} {
			for i := range 4 {
				wrong := r
				*[]*int{&wrong.Kind, &wrong.Txn, &wrong.Ts, &wrong.Coord}[i] = bad
				unwritten(t, wrong)
			}
		}
	}
	r := ofKind(api.RPrep)
	r.Keys, r.Writes = make([]string, 2000), make([]api.Write, 2000)
	mayNot(t, r)
	r.Keys, r.Writes = keysUpTo(2000), nil
	mayNot(t, r)
}
