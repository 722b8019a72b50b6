// Package sum: sums of texts that tell bits that were turned.
package sum

import "sluiceway/api"

// maxBehind is the most bytes that Join takes behind a text.
const maxBehind = 1 << 40

// leaves is what four bits make of a register as they leave it at its low end. A byte's least bit
// comes first, so the polynomial's bits stand in the other order, and leaves[8] is the polynomial
// itself without its x^32. A table of whole bytes would be too long to be written out.
var leaves = [16]uint32{
	0x00000000, 0x1db71064, 0x3b6e20c8, 0x26d930ac,
	0x76dc4190, 0x6b6b51f4, 0x4db26158, 0x5005713c,
	0xedb88320, 0xf00f9344, 0xd6d6a3e8, 0xcb61b38c,
	0x9b64c2b0, 0x86d3d2d4, 0xa00ae278, 0xbdbdf21c,
}

// effect is what bytes 0 make of each bit of a register. That is all there is to tell of them:
// what a register becomes is what each of its bits becomes, together bit by bit.
type effect [32]uint32

// Sum is a text's sum.
func Sum(s string) uint32 {
	return More(0, s)
}

// More is the sum of a text whose sum is c, and s behind it.
func More(c uint32, s string) uint32 {
	register := ^c
	for i := range len(s) {
		register = pushZero(register ^ uint32(s[i]))
	}
	return ^register
}

// Join is the sum of two texts, one behind the other, whose sums are a and b, the second one having n bytes. ErrRange: n is not from 0 to 2^40.
func Join(a, b uint32, n int) (uint32, error) {
	if n < 0 || n > maxBehind {
		return 0, api.ErrRange
	}
	return pushZeros(a, n) ^ b, nil
}

// pushZero is the register with one byte 0 behind it.
func pushZero(register uint32) uint32 {
	register = leaves[register&15] ^ register>>4
	return leaves[register&15] ^ register>>4
}

// pushZeros is the register with n bytes 0 behind it. There may be too many of them to go through
// them one by one, so n is taken bit by bit.
func pushZeros(register uint32, n int) uint32 {
	zeros := oneZero()
	for n > 0 {
		if n&1 == 1 {
			register = zeros.on(register)
		}
		zeros = zeros.twice()
		n >>= 1
	}
	return register
}

// oneZero is the effect of one byte 0.
func oneZero() effect {
	var e effect
	for bit := range len(e) {
		e[bit] = pushZero(1 << bit)
	}
	return e
}

// on is what the effect makes of a register.
func (e effect) on(register uint32) uint32 {
	made := uint32(0)
	for bit := range len(e) {
		if register>>bit&1 == 1 {
			made ^= e[bit]
		}
	}
	return made
}

// twice is the effect of twice as many bytes 0.
func (e effect) twice() effect {
	var double effect
	for bit := range len(e) {
		double[bit] = e.on(e[bit])
	}
	return double
}
