package shift

import (
	"math"
	"math/big"
	"math/bits"
	"testing"
)

const maxWord = math.MaxUint64

// words are numbers whose parts lie at the edges of bytes, of 16, 48 and 64 bits, and some in between.
func words() []uint64 {
	list := []uint64{0, maxWord, 0x0123456789abcdef, 0xfedcba9876543210, 0x8000000000000001, 0x00ff00ff00ff00ff}
	for i := range 64 {
		list = append(list, 1<<i, 1<<i-1, 1<<i+1, ^(uint64(1) << i))
	}
	v := uint64(0x9e3779b97f4a7c15)
	for range 200 {
		v ^= v << 13
		v ^= v >> 7
		v ^= v << 17
		list = append(list, v)
	}
	return list
}

// P1.1: Pack of ordinary parts, of the greatest, and of numbers beyond 48 bits.
func TestPack(t *testing.T) {
	for _, c := range []struct {
		dev     uint16
		n, want uint64
	}{
		{0, 0, 0},
		{3, 17, 3*(1<<48) + 17},
		{1, 0, 1 << 48},
		{0, 1<<48 - 1, 1<<48 - 1},
		{0, 1 << 48, 0},
		{1, 1 << 48, 1 << 48},
		{2, 1<<63 + 1<<48 + 5, 2<<48 + 5},
		{0, maxWord, 1<<48 - 1},
		{65535, 0, 0xffff000000000000},
		{65535, maxWord, maxWord},
		{0x1234, 0xffff56789abcdef0, 0x123456789abcdef0},
	} {
		if got := Pack(c.dev, c.n); got != c.want {
			t.Errorf("Pack(%d, %#x) = %#x, want %#x", c.dev, c.n, got, c.want)
		}
	}
}

// P1.1: Split of ordinary numbers and of the least and the greatest.
func TestSplit(t *testing.T) {
	for _, c := range []struct {
		v   uint64
		dev uint16
		n   uint64
	}{
		{0, 0, 0},
		{3*(1<<48) + 17, 3, 17},
		{1 << 48, 1, 0},
		{1<<48 - 1, 0, 1<<48 - 1},
		{1 << 63, 0x8000, 0},
		{maxWord, 65535, 1<<48 - 1},
		{0x123456789abcdef0, 0x1234, 0x56789abcdef0},
	} {
		if dev, n := Split(c.v); dev != c.dev || n != c.n {
			t.Errorf("Split(%#x) = %d, %#x, want %d, %#x", c.v, dev, n, c.dev, c.n)
		}
	}
}

// P1.1: Pack and Split undo each other.
func TestPackSplit(t *testing.T) {
	for _, v := range words() {
		dev, n := Split(v)
		if uint64(dev) != v/(1<<48) || n != v%(1<<48) {
			t.Errorf("Split(%#x) = %d, %#x", v, dev, n)
		}
		if got := Pack(dev, n); got != v {
			t.Errorf("Pack(Split(%#x)) = %#x", v, got)
		}
	}
}

// wrongPlaces are below 0 or above 7; some of them would be places, if their low bits alone counted.
func wrongPlaces() []int {
	return []int{-1, -2, -7, -8, -64, -256, 8, 9, 15, 16, 63, 64, 255, 256, 1 << 16, 1 << 32, 1 << 61, math.MaxInt, math.MinInt, math.MinInt + 1}
}

// P1.1: Byte at each place, from the lowest one on.
func TestByte(t *testing.T) {
	for i := range 8 {
		if got := Byte(0x0807060504030201, i); got != byte(i+1) {
			t.Errorf("place %d: %d", i, got)
		}
		if got := Byte(maxWord, i); got != 255 {
			t.Errorf("place %d of the greatest: %d", i, got)
		}
		if got := Byte(0, i); got != 0 {
			t.Errorf("place %d of 0: %d", i, got)
		}
	}
}

// P1.1: Byte at a place that is none is 0.
func TestByteWrongPlace(t *testing.T) {
	for _, i := range wrongPlaces() {
		for _, v := range []uint64{5, 0x0807060504030201, maxWord} {
			if got := Byte(v, i); got != 0 {
				t.Errorf("Byte(%#x, %d) = %d", v, i, got)
			}
		}
	}
}

// P1.1: With puts a byte at its place and leaves all others.
func TestWith(t *testing.T) {
	if got := With(0x0102, 0, 9); got != 0x0109 {
		t.Errorf("%#x", got)
	}
	if got := With(0, 7, 0x80); got != 1<<63 {
		t.Errorf("%#x", got)
	}
	if got := With(maxWord, 7, 0); got != 1<<56-1 {
		t.Errorf("%#x", got)
	}
	for _, v := range words() {
		for place := range 8 {
			for _, b := range []byte{0, 1, 0x5a, 0x80, 255} {
				got := With(v, place, b)
				for i := range 8 {
					want := Byte(v, i)
					if i == place {
						want = b
					}
					if Byte(got, i) != want {
						t.Fatalf("With(%#x, %d, %d) = %#x: place %d", v, place, b, got, i)
					}
				}
			}
		}
	}
}

// P1.1: With at a place that is none is the number itself.
func TestWithWrongPlace(t *testing.T) {
	for _, i := range wrongPlaces() {
		for _, v := range []uint64{0, 7, 0x0807060504030201, maxWord} {
			for _, b := range []byte{0, 9, 255} {
				if got := With(v, i, b); got != v {
					t.Errorf("With(%#x, %d, %d) = %#x", v, i, b, got)
				}
			}
		}
	}
}

// P1.1: Len at both sides of each byte's edge, and of 0.
func TestLen(t *testing.T) {
	if got := Len(0); got != 0 {
		t.Errorf("Len(0) = %d", got)
	}
	for n := 1; n <= 8; n++ {
		least := uint64(1) << (8 * (n - 1))
		greatest := uint64(maxWord) >> (64 - 8*n)
		for _, v := range []uint64{least, least + 1, greatest - 1, greatest} {
			if got := Len(v); got != n {
				t.Errorf("Len(%#x) = %d, want %d", v, got, n)
			}
		}
	}
	for _, v := range []uint64{0x0100000000, 0xff00, 0x8000000000000000} {
		if got, want := Len(v), (bits.Len64(v)+7)/8; got != want {
			t.Errorf("Len(%#x) = %d, want %d", v, got, want)
		}
	}
}

// turnSlowly takes one bit out at one end and in at the other one, as often as it is said.
func turnSlowly(v uint64, n int) uint64 {
	for range n % 64 {
		v = v*2 + v/(1<<63)
	}
	for range -(n % 64) {
		v = v/2 + v%2*(1<<63)
	}
	return v
}

// P1.2: Turn of ordinary numbers.
func TestTurn(t *testing.T) {
	for _, c := range []struct {
		v    uint64
		n    int
		want uint64
	}{
		{1, -1, 1 << 63},
		{1 << 63, 1, 1},
		{1, 1, 2},
		{2, -1, 1},
		{5, 0, 5},
		{5, 64, 5},
		{5, -64, 5},
		{5, 65, 10},
		{5, -65, 1<<63 + 2},
		{0x0123456789abcdef, 8, 0x23456789abcdef01},
		{0x0123456789abcdef, -8, 0xef0123456789abcd},
		{0x0123456789abcdef, math.MaxInt, 0x8091a2b3c4d5e6f7},
		{0x0123456789abcdef, math.MinInt, 0x0123456789abcdef},
		{0x0123456789abcdef, math.MinInt + 1, 0x02468acf13579bde},
		{0, 13, 0},
		{maxWord, -13, maxWord},
	} {
		if got := Turn(c.v, c.n); got != c.want {
			t.Errorf("Turn(%#x, %d) = %#x, want %#x", c.v, c.n, got, c.want)
		}
	}
}

// P1.2: Turn by all places of three turns to each side, and by the ends of int.
func TestTurnAll(t *testing.T) {
	places := []int{math.MaxInt, math.MaxInt - 1, math.MinInt, math.MinInt + 1, 1 << 32, -1 << 32, 1<<40 + 3, -1<<40 - 3}
	for n := -192; n <= 192; n++ {
		places = append(places, n)
	}
	for _, v := range words() {
		for _, n := range places {
			if got, want := Turn(v, n), turnSlowly(v, n); got != want {
				t.Fatalf("Turn(%#x, %d) = %#x, want %#x", v, n, got, want)
			}
		}
	}
}

// foldSlowly reckons without an end to its numbers.
func foldSlowly(n int64) uint64 {
	twice := new(big.Int).Lsh(new(big.Int).Abs(big.NewInt(n)), 1)
	if n < 0 {
		twice.Sub(twice, big.NewInt(1))
	}
	return twice.Uint64()
}

// P1.2: Fold and Unfold of ordinary numbers and of the least and the greatest.
func TestFold(t *testing.T) {
	for _, c := range []struct {
		n int64
		v uint64
	}{
		{0, 0},
		{-1, 1},
		{1, 2},
		{-2, 3},
		{2, 4},
		{-1000, 1999},
		{1000, 2000},
		{1 << 62, 1 << 63},
		{-1 << 62, 1<<63 - 1},
		{math.MaxInt64 - 1, maxWord - 3},
		{math.MinInt64 + 1, maxWord - 2},
		{math.MaxInt64, maxWord - 1},
		{math.MinInt64, maxWord},
	} {
		if got := Fold(c.n); got != c.v {
			t.Errorf("Fold(%d) = %d, want %d", c.n, got, c.v)
		}
		if got := Unfold(c.v); got != c.n {
			t.Errorf("Unfold(%d) = %d, want %d", c.v, got, c.n)
		}
	}
}

// P1.2: Unfold undoes Fold, and Fold undoes Unfold.
func TestFoldUnfold(t *testing.T) {
	for _, v := range words() {
		n := int64(v)
		if got, want := Fold(n), foldSlowly(n); got != want {
			t.Errorf("Fold(%d) = %d, want %d", n, got, want)
		}
		if got := Unfold(Fold(n)); got != n {
			t.Errorf("Unfold(Fold(%d)) = %d", n, got)
		}
		if got := Fold(Unfold(v)); got != v {
			t.Errorf("Fold(Unfold(%d)) = %d", v, got)
		}
	}
}

// P1.2: Narrow of every number of 16 bits.
func TestNarrow(t *testing.T) {
	for n := range 1 << 16 {
		if got, ok := Narrow(n); !ok || int(got) != n {
			t.Fatalf("Narrow(%d) = %d, %v", n, got, ok)
		}
	}
}

// P1.2: Narrow of a number that is none of 16 bits is 0 and false.
func TestNarrowWrong(t *testing.T) {
	for _, n := range []int{-1, -2, -65535, -65536, -65537, -1 << 32, 65536, 65537, 65536 + 17, 1<<17 - 1, 1 << 32, 1<<32 + 5, 1 << 48, 1<<62 + 1, math.MaxInt, math.MinInt, math.MinInt + 1} {
		if got, ok := Narrow(n); ok || got != 0 {
			t.Errorf("Narrow(%d) = %d, %v", n, got, ok)
		}
	}
}
