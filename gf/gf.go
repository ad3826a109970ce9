// Package gf reckons in the field of 256 elements: layer 1, see shared/doc/01-gf.md.
package gf

import "corncrib/api"

const (
	// modulus is x^8 + x^4 + x^3 + x^2 + 1, of which 2 is a generator.
	modulus = 285
	// order is how many elements are not 0, and so how many unlike powers of 2 there are.
	order = 255
)

// Field has the tables of the field.
type Field struct {
	// The powers stand twice, one round behind the other, so that a sum of two logs finds its power without a division.
	powers [2 * order]byte
	logs   [order + 1]byte
}

// New answers the field.
func New() *Field {
	f := &Field{}
	x := 1
	for n := range order {
		f.powers[n] = byte(x)
		f.powers[n+order] = byte(x)
		f.logs[x] = byte(n)
		x = double(x)
	}
	return f
}

// double answers 2 times x, less the modulus where that is no byte.
func double(x int) int {
	x *= 2
	if x > 255 {
		x ^= modulus
	}
	return x
}

// log answers the log of an element that is not 0.
func (f *Field) log(a byte) int { return int(f.logs[a]) }

// Mul answers the product of a and b.
func (f *Field) Mul(a, b byte) byte {
	if a == 0 || b == 0 {
		return 0
	}
	return f.powers[f.log(a)+f.log(b)]
}

// Inv answers the element whose product with a is 1; ErrRange, if a is 0.
func (f *Field) Inv(a byte) (byte, api.Errno) {
	return f.Div(1, a)
}

// Div answers a times the inverse of b; ErrRange, if b is 0.
func (f *Field) Div(a, b byte) (byte, api.Errno) {
	if b == 0 {
		return 0, api.ErrRange
	}
	if a == 0 {
		return 0, api.OK
	}
	return f.powers[f.log(a)+order-f.log(b)], api.OK
}

// Exp answers 2 to the power n, modulo 255.
func (f *Field) Exp(n int) byte {
	n %= order
	if n < 0 { // Go's remainder has the sign of n
		n += order
	}
	return f.powers[n]
}

// Log answers of which power a is, from 0 to 254; ErrRange, if a is 0.
func (f *Field) Log(a byte) (int, api.Errno) {
	if a == 0 {
		return 0, api.ErrRange
	}
	return f.log(a), api.OK
}

// Dot answers the sum of the products of a and b, place by place; ErrShape, if they have not as many bytes.
func (f *Field) Dot(a, b string) (byte, api.Errno) {
	if len(a) != len(b) {
		return 0, api.ErrShape
	}
	var sum byte
	for i := range len(a) {
		sum = Add(sum, f.Mul(a[i], b[i]))
	}
	return sum, api.OK
}

// Scale answers each byte of s times a.
func (f *Field) Scale(a byte, s string) string {
	out := make([]byte, len(s))
	for i := range out {
		out[i] = f.Mul(a, s[i])
	}
	return string(out)
}

// Add answers the sum of a and b.
func Add(a, b byte) byte { return a ^ b }
