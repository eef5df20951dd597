// Package shift is layer 1: see shared/doc/01-shift.md.
package shift

const (
	wordBits  = 64
	countBits = 48
	devBits   = wordBits - countBits
	byteBits  = 8
	wordBytes = wordBits / byteBits
)

// Pack puts two parts together.
func Pack(dev uint16, n uint64) uint64 {
	return uint64(dev)<<countBits | lowCount(n)
}

// Split takes them apart.
func Split(v uint64) (uint16, uint64) {
	return uint16(v >> countBits), lowCount(v)
}

// lowCount pushes the device's bits out at the high end, so that only the count is left.
func lowCount(v uint64) uint64 {
	return v << devBits >> devBits
}

// Byte is the byte at a place.
func Byte(v uint64, i int) byte {
	if !isPlace(i) {
		return 0
	}
	return byte(v >> bitsBelow(i))
}

// With is a number with another byte at a place.
func With(v uint64, i int, b byte) uint64 {
	if !isPlace(i) {
		return v
	}
	at := bitsBelow(i)
	return v&^(uint64(0xff)<<at) | uint64(b)<<at
}

func isPlace(i int) bool {
	return i >= 0 && i < wordBytes
}

// bitsBelow is asked of places alone: a shift by a number below 0 would panic.
func bitsBelow(i int) uint {
	return uint(i) * byteBits
}

// Len is how many bytes a number needs.
func Len(v uint64) int {
	n := 0
	for v != 0 {
		v >>= byteBits
		n++
	}
	return n
}

// Turn turns a number round.
func Turn(v uint64, n int) uint64 {
	// Six bits tell a whole turn, and those of a number below 0 tell the left turn that is the same as its right one.
	left := uint(n) & (wordBits - 1)
	return v<<left | v>>(wordBits-left)
}

// Fold is a number below 0 or not as one that is not.
func Fold(n int64) uint64 {
	// The sign, spread over all bits, turns twice n round into what lies below 0, less one, with no branch to go wrong at the least number.
	return uint64(n)<<1 ^ uint64(n>>(wordBits-1))
}

// Unfold is the number that was folded.
func Unfold(v uint64) int64 {
	return int64(v>>1) ^ -int64(v&1)
}

// Narrow is a number in 16 bits.
func Narrow(n int) (uint16, bool) {
	// The shift keeps the sign: numbers below 0 leave -1 or less here.
	if n>>devBits != 0 {
		return 0, false
	}
	return uint16(n), true
}
