// Package gf is layer 1, bytes as numbers of a field: see shared/doc/01-gf.md.
package gf

import (
	"lightship/api"
)

const (
	// cycle is how many bytes but 0 there are: 2 has them all as its powers, and then begins again.
	cycle = 255
	// carry is what x^8 amounts to in lower powers: x^4, x^3, x^2 and 1.
	carry = 0x1d
)

// Add is the sum: bits do not carry, so it is the difference, too.
func Add(a, b byte) byte { return a ^ b }

// Mul is the product. It looks nothing up: a loop of eight steps costs less than a table made anew by each call.
func Mul(a, b byte) byte {
	var product byte
	for range 8 {
		product ^= a * (b & 1)
		a = double(a)
		b >>= 1
	}
	return product
}

// Inv is the byte that makes 1 with a; ErrArg of 0.
func Inv(a byte) (byte, api.Errno) {
	n, err := Log(a)
	if err != api.OK {
		return 0, err
	}
	return Exp(-n), api.OK
}

// Div is a by b; ErrArg, if b is 0.
func Div(a, b byte) (byte, api.Errno) {
	inverse, err := Inv(b)
	if err != api.OK {
		return 0, err
	}
	return Mul(a, inverse), api.OK
}

// Exp is 2 to the power of n, which may be any number.
func Exp(n int) byte {
	n %= cycle
	if n < 0 {
		n += cycle
	}
	power := byte(1)
	for range n {
		power = double(power)
	}
	return power
}

// Log is the n from 0 to 254 whose Exp is a; ErrArg of 0.
func Log(a byte) (int, api.Errno) {
	if a == 0 {
		return 0, api.ErrArg
	}
	return int(logs()[a]), api.OK
}

// logs has at each byte but 0 its log.
func logs() [cycle + 1]byte {
	var table [cycle + 1]byte
	power := byte(1)
	for n := range cycle {
		table[power] = byte(n)
		power = double(power)
	}
	return table
}

// double is a times 2: what leaves at the top comes back below as carry.
func double(a byte) byte { return a<<1 ^ (a>>7)*carry }
