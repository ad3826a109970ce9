package gf

import (
	"math"
	"slices"
	"strings"
	"testing"

	"corncrib/api"
)

// product multiplies as the chapter's words say it: whole polynomials first, the remainder behind. It shares nothing with the tables.
func product(a, b byte) byte {
	p := 0
	for i := range 8 {
		if b>>i&1 == 1 {
			p ^= int(a) << i
		}
	}
	for i := 14; i >= 8; i-- {
		if p>>i&1 == 1 {
			p ^= 285 << (i - 8)
		}
	}
	return byte(p)
}

// every answers all 256 elements, in order.
func every() []byte {
	l := make([]byte, 256)
	for i := range l {
		l[i] = byte(i)
	}
	return l
}

// Promise 1.1: sums are xors.
func TestAdd(t *testing.T) {
	for _, a := range every() {
		for _, b := range every() {
			if s := Add(a, b); s != a^b {
				t.Fatalf("%d + %d: %d", a, b, s)
			}
		}
	}
}

// Promise 1.1: products are those of polynomials, for each pair.
func TestMul(t *testing.T) {
	f := New()
	for _, a := range every() {
		for _, b := range every() {
			if p := f.Mul(a, b); p != product(a, b) {
				t.Fatalf("%d * %d: %d, not %d", a, b, p, product(a, b))
			}
		}
	}
}

// Promise 1.1: products, sums and inverses that were worked out by hand.
func TestWorkedOut(t *testing.T) {
	f := New()
	for _, x := range [][3]byte{{2, 128, 29}, {3, 7, 9}, {255, 255, 226}, {0, 5, 0}, {5, 0, 0}, {0, 0, 0}, {1, 200, 200}, {142, 2, 1}} {
		if p := f.Mul(x[0], x[1]); p != x[2] {
			t.Errorf("%d * %d: %d, not %d", x[0], x[1], p, x[2])
		}
	}
	for _, x := range [][2]byte{{1, 1}, {2, 142}, {3, 244}, {142, 2}} {
		if i, e := f.Inv(x[0]); i != x[1] || e != api.OK {
			t.Errorf("inverse of %d: %d, %d, not %d", x[0], i, e, x[1])
		}
	}
}

// Promise 1.1: the product of an element and its inverse is 1; 0 has none.
func TestInv(t *testing.T) {
	f := New()
	for _, a := range every()[1:] {
		i, e := f.Inv(a)
		if e != api.OK || product(a, i) != 1 {
			t.Errorf("inverse of %d: %d, %d", a, i, e)
		}
	}
	if i, e := f.Inv(0); i != 0 || e != api.ErrRange {
		t.Errorf("inverse of 0: %d, %d", i, e)
	}
}

// Promise 1.1: a quotient, times what divided it, is what was divided; 0 divides nothing, 0 itself neither.
func TestDiv(t *testing.T) {
	f := New()
	for _, a := range every() {
		for _, b := range every()[1:] {
			q, e := f.Div(a, b)
			if e != api.OK || product(q, b) != a {
				t.Fatalf("%d / %d: %d, %d", a, b, q, e)
			}
		}
		if q, e := f.Div(a, 0); q != 0 || e != api.ErrRange {
			t.Errorf("%d / 0: %d, %d", a, q, e)
		}
	}
}

// Promise 1.2: the powers from 0 to 254 come by doubling, and are unlike.
func TestExpDoubles(t *testing.T) {
	f := New()
	seen := map[byte]bool{}
	want := byte(1)
	for n := range 255 {
		p := f.Exp(n)
		if p != want {
			t.Errorf("power %d: %d, not %d", n, p, want)
		}
		seen[p] = true
		want = product(want, 2)
	}
	if len(seen) != 255 || seen[0] {
		t.Errorf("%d unlike powers", len(seen))
	}
}

// Promise 1.2: powers below 0 and above 254 are taken modulo 255.
func TestExpWrapsRound(t *testing.T) {
	f := New()
	for n := -600; n <= 600; n++ {
		if p, want := f.Exp(n), f.Exp(((n%255)+255)%255); p != want {
			t.Errorf("power %d: %d, not %d", n, p, want)
		}
	}
	for _, x := range []struct {
		n    int
		want byte
	}{{-1, 142}, {-254, 2}, {-255, 1}, {-256, 142}, {254, 142}, {255, 1}, {256, 2}, {8, 29}, {25, 3}, {255*1000 + 25, 3}, {-255*1000 + 25, 3}} {
		if p := f.Exp(x.n); p != x.want {
			t.Errorf("power %d: %d, not %d", x.n, p, x.want)
		}
	}
}

// Promise 1.2: so are the least and the greatest numbers there are. (2^63 modulo 255 is 2^7 = 128.)
func TestExpAtTheEnds(t *testing.T) {
	f := New()
	if p := f.Exp(math.MaxInt64); p != f.Exp(127) {
		t.Errorf("greatest: %d, not %d", p, f.Exp(127))
	}
	if p := f.Exp(math.MinInt64); p != f.Exp(127) { // -128 and 255
		t.Errorf("least: %d, not %d", p, f.Exp(127))
	}
}

// Promise 1.2: a log is the number of the element's power, from 0 to 254; 0 has none.
func TestLog(t *testing.T) {
	f := New()
	power := byte(1)
	for n := range 255 {
		if l, e := f.Log(power); l != n || e != api.OK {
			t.Errorf("log of %d: %d, %d, not %d", power, l, e, n)
		}
		power = product(power, 2)
	}
	for _, x := range []struct {
		a    byte
		want int
	}{{1, 0}, {2, 1}, {3, 25}, {29, 8}, {142, 254}} {
		if l, e := f.Log(x.a); l != x.want || e != api.OK {
			t.Errorf("log of %d: %d, %d, not %d", x.a, l, e, x.want)
		}
	}
	if l, e := f.Log(0); l != 0 || e != api.ErrRange {
		t.Errorf("log of 0: %d, %d", l, e)
	}
}

// Promise 1.3: the sum of the products, place by place.
func TestDot(t *testing.T) {
	f := New()
	for _, x := range []struct {
		a, b string
		want byte
	}{
		{"", "", 0},
		{"\x02", "\x80", 29},
		{"\x02\x01", "\x80\x05", 29 ^ 5},
		{"\x02\x02", "\x80\x80", 0},
		{"\x00\x03\xff", "\xff\x07\xff", 9 ^ 226},
		{"\x00\x00", "\xc3\xa9", 0},
		{"\x01\x01", "\xc3\xa9", 0xc3 ^ 0xa9}, // bytes that are one rune of UTF-8
		{"\xc3\xa9", "\x01\x01", 0xc3 ^ 0xa9},
	} {
		if d, e := f.Dot(x.a, x.b); d != x.want || e != api.OK {
			t.Errorf("%x . %x: %d, %d, not %d", x.a, x.b, d, e, x.want)
		}
	}
	up := string(every())
	back := every()
	slices.Reverse(back)
	var want byte
	for i := range up {
		want ^= product(up[i], back[i])
	}
	if d, e := f.Dot(up, string(back)); d != want || e != api.OK {
		t.Errorf("all: %d, %d, not %d", d, e, want)
	}
}

// Promise 1.3: texts that have not as many bytes, the one or the other shorter, also with nothing but 0 in what is more.
func TestDotShape(t *testing.T) {
	f := New()
	for _, x := range [][2]string{{"a", ""}, {"", "a"}, {"ab", "a"}, {"a", "ab"}, {"a", "a\x00"}, {"a\x00", "a"}, {"\xc3\xa9", "a"}} {
		if d, e := f.Dot(x[0], x[1]); d != 0 || e != api.ErrShape {
			t.Errorf("%x . %x: %d, %d", x[0], x[1], d, e)
		}
	}
}

// Promise 1.3: each byte, whatever it is, times the element.
func TestScale(t *testing.T) {
	f := New()
	text := string(every()) + "\xc3\xa9 and \xff\xfe"
	for _, a := range every() {
		want := make([]byte, 0, len(text))
		for _, b := range []byte(text) {
			want = append(want, product(a, b))
		}
		if s := f.Scale(a, text); s != string(want) {
			t.Fatalf("%d: %x, not %x", a, s, want)
		}
		if s := f.Scale(a, ""); s != "" {
			t.Fatalf("%d, of none: %x", a, s)
		}
	}
	if s := f.Scale(2, "\x80\x01\x00"); s != "\x1d\x02\x00" {
		t.Errorf("%x", s)
	}
	if s := f.Scale(0, "abc"); s != "\x00\x00\x00" {
		t.Errorf("%x", s)
	}
}

// Promise 1.3: long texts are no others.
func TestLongTexts(t *testing.T) {
	f := New()
	long := strings.Repeat("\x80", 1<<20)
	if s := f.Scale(2, long); s != strings.Repeat("\x1d", 1<<20) {
		t.Error("scaled otherwise")
	}
	if d, e := f.Dot(long, long); d != 0 || e != api.OK {
		t.Errorf("as many equal products: %d, %d", d, e)
	}
	if d, e := f.Dot(long+"\x02", long+"\x80"); d != 29 || e != api.OK {
		t.Errorf("and one more: %d, %d", d, e)
	}
}

// Promise 1.4: neither sums nor products hang on an order, and products go over sums.
func TestFieldLaws(t *testing.T) {
	f := New()
	for _, a := range every() {
		if Add(a, 0) != a || Add(a, a) != 0 || f.Mul(a, 1) != a || f.Mul(a, 0) != 0 {
			t.Fatalf("0 and 1 with %d", a)
		}
		for _, b := range every() {
			if Add(a, b) != Add(b, a) || f.Mul(a, b) != f.Mul(b, a) {
				t.Fatalf("%d, %d: another order", a, b)
			}
			ab := f.Mul(a, b)
			for _, c := range every() {
				if f.Mul(ab, c) != f.Mul(a, f.Mul(b, c)) || Add(Add(a, b), c) != Add(a, Add(b, c)) {
					t.Fatalf("%d, %d, %d: others taken first", a, b, c)
				}
				if f.Mul(a, Add(b, c)) != Add(ab, f.Mul(a, c)) {
					t.Fatalf("%d, %d, %d: over a sum", a, b, c)
				}
			}
		}
	}
}

// Promise 1.4: each element that is not 0 has one inverse, and is the inverse of that.
func TestInversesPairUp(t *testing.T) {
	f := New()
	seen := map[byte]bool{}
	for _, a := range every()[1:] {
		i, _ := f.Inv(a)
		if back, e := f.Inv(i); back != a || e != api.OK {
			t.Errorf("%d: %d, and back %d, %d", a, i, back, e)
		}
		seen[i] = true
	}
	if len(seen) != 255 || seen[0] {
		t.Errorf("%d unlike inverses", len(seen))
	}
}

// Promise 1.4: logs of a product add up, modulo 255, and a power's log is its number.
func TestLogsAddUp(t *testing.T) {
	f := New()
	for _, a := range every()[1:] {
		la, _ := f.Log(a)
		if f.Exp(la) != a {
			t.Fatalf("power %d: %d, not %d", la, f.Exp(la), a)
		}
		for _, b := range every()[1:] {
			lb, _ := f.Log(b)
			if l, e := f.Log(f.Mul(a, b)); l != (la+lb)%255 || e != api.OK {
				t.Fatalf("log of %d * %d: %d, %d", a, b, l, e)
			}
		}
	}
}

// R4, R7: each field is one of its own, and what was asked ahead changes nothing.
func TestFieldsStandAlone(t *testing.T) {
	f, g := New(), New()
	if f == g || f == nil {
		t.Fatal("one field twice, or none")
	}
	f.Inv(0)
	f.Dot("a", "")
	f.Scale(0, "abc")
	f.Exp(-1)
	if *f != *g || *f != *New() {
		t.Error("a call changed the field")
	}
}
