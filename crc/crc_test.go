package crc

import (
	"bytes"
	"hash/crc32"
	"math"
	"testing"
)

// sumSlowly goes bit by bit, as the document tells it, from a number that is not yet turned.
func sumSlowly(v uint32, b []byte) uint32 {
	for _, c := range b {
		v ^= uint32(c)
		for range 8 {
			odd := v%2 == 1
			v /= 2
			if odd {
				v ^= 0xedb88320
			}
		}
	}
	return v
}

// wanted is the sum of bytes as the document tells it.
func wanted(b []byte) uint32 {
	return math.MaxUint32 - sumSlowly(math.MaxUint32, b)
}

// mixed are n bytes without a plain pattern, others for each seed.
func mixed(n int, seed uint64) []byte {
	b := make([]byte, n)
	v := seed*0x9e3779b97f4a7c15 + 0x2545f4914f6cdd1d
	for i := range b {
		v ^= v << 13
		v ^= v >> 7
		v ^= v << 17
		b[i] = byte(v >> 32)
	}
	return b
}

// texts are bytes of all lengths up to 70 and some beyond, of noughts, of ones and mixed.
func texts() [][]byte {
	list := [][]byte{[]byte("a"), []byte("123456789"), []byte("The quick brown fox jumps over the lazy dog")}
	for n := range 71 {
		list = append(list, make([]byte, n), bytes.Repeat([]byte{0xff}, n), mixed(n, uint64(n)))
	}
	return append(list, mixed(255, 1), mixed(256, 2), mixed(257, 3), mixed(4099, 4))
}

// sums are numbers of 32 bits at the edges, each with one bit, and some in between.
func sums() []uint32 {
	list := []uint32{0, 1, 2, math.MaxUint32, math.MaxUint32 - 1, 0xedb88320, 0xcbf43926, 0x0000ffff, 0xffff0000, 0x0f0f0f0f}
	for i := range 32 {
		list = append(list, 1<<i, ^(uint32(1) << i))
	}
	v := uint32(0x9e3779b9)
	for range 50 {
		v ^= v << 13
		v ^= v >> 17
		v ^= v << 5
		list = append(list, v)
	}
	return list
}

// P2.1: the chapter's example, and sums that are known from elsewhere.
func TestOfKnown(t *testing.T) {
	for _, c := range []struct {
		text string
		want uint32
	}{
		{"123456789", 0xcbf43926},
		{"", 0},
		{"\x00", 0xd202ef8d},
		{"\xff", 0xff000000},
		{"a", 0xe8b7be43},
		{"\x00\x00\x00\x00", 0x2144df1c},
		{"\xff\xff\xff\xff", 0xffffffff},
		{"The quick brown fox jumps over the lazy dog", 0x414fa339},
	} {
		if got := Of([]byte(c.text)); got != c.want {
			t.Errorf("Of(%q) = %08x, want %08x", c.text, got, c.want)
		}
	}
}

// P2.1: of no parts, and of parts without a byte, the sum is 0.
func TestOfNothing(t *testing.T) {
	if got := Of(); got != 0 {
		t.Errorf("Of() = %08x", got)
	}
	none := []byte{}
	for _, parts := range [][][]byte{nil, {}, {nil}, {none}, {nil, none}, {none, nil, none}} {
		if got := Of(parts...); got != 0 {
			t.Errorf("of %d parts without a byte: %08x", len(parts), got)
		}
	}
}

// P2.1: Of one part is the sum as the document tells it, bit by bit, and as the library has it.
func TestOf(t *testing.T) {
	for _, b := range texts() {
		got := Of(b)
		if want := wanted(b); got != want {
			t.Errorf("Of(%x) = %08x, want %08x", b, got, want)
		}
		if want := crc32.ChecksumIEEE(b); got != want {
			t.Errorf("Of(%x) = %08x, the library says %08x", b, got, want)
		}
	}
}

// P2.1: Of each single byte, so that each row of the table is met in both halves.
func TestOfEachByte(t *testing.T) {
	for c := range 256 {
		b := []byte{byte(c)}
		if got, want := Of(b), wanted(b); got != want {
			t.Errorf("Of(%x) = %08x, want %08x", b, got, want)
		}
	}
}

// P2.1: bytes that are cut at any two places have the sum of the whole, with parts without a byte anywhere between.
func TestOfCut(t *testing.T) {
	b := mixed(40, 7)
	want := wanted(b)
	for i := 0; i <= len(b); i++ {
		if got := Of(b[:i], b[i:]); got != want {
			t.Errorf("cut at %d: %08x, want %08x", i, got, want)
		}
		if got := Of(nil, b[:i], []byte{}, nil, b[i:], nil); got != want {
			t.Errorf("cut at %d, with empty parts: %08x, want %08x", i, got, want)
		}
		for j := i; j <= len(b); j++ {
			if got := Of(b[:i], b[i:j], b[j:]); got != want {
				t.Errorf("cut at %d and %d: %08x, want %08x", i, j, got, want)
			}
		}
	}
}

// P2.1: each byte a part of its own.
func TestOfManyParts(t *testing.T) {
	b := mixed(300, 8)
	parts := make([][]byte, len(b))
	for i := range b {
		parts[i] = b[i : i+1]
	}
	if got, want := Of(parts...), wanted(b); got != want {
		t.Errorf("%08x, want %08x", got, want)
	}
}

// P2.1: the order of the parts counts.
func TestOfOrder(t *testing.T) {
	if Of([]byte("ab"), []byte("c")) == Of([]byte("c"), []byte("ab")) {
		t.Error("the same sum in both orders")
	}
}

// P2.1: More goes on from the sum of what stands ahead, cut at each place.
func TestMore(t *testing.T) {
	for _, b := range texts() {
		want := wanted(b)
		for i := range min(len(b), 70) + 1 {
			if got := More(wanted(b[:i]), b[i:]); got != want {
				t.Fatalf("More behind %d of %x: %08x, want %08x", i, b, got, want)
			}
		}
	}
}

// P2.1: More from the sum of no bytes is the sum of the bytes.
func TestMoreFromNothing(t *testing.T) {
	for _, b := range texts() {
		if got, want := More(0, b), wanted(b); got != want {
			t.Errorf("More(0, %x) = %08x, want %08x", b, got, want)
		}
	}
}

// P2.1: no byte more leaves any sum as it is.
func TestMoreOfNothing(t *testing.T) {
	for _, sum := range sums() {
		if got := More(sum, nil); got != sum {
			t.Errorf("More(%08x, nil) = %08x", sum, got)
		}
		if got := More(sum, []byte{}); got != sum {
			t.Errorf("More(%08x, no bytes) = %08x", sum, got)
		}
	}
}

// before4 are the four bytes whose sum is the number, found by going the halvings backwards: each number of 32 bits is the sum of some bytes.
func before4(sum uint32) []byte {
	v := ^sum
	for range 32 {
		// What was xored in has the highest bit, and halving leaves it 0.
		odd := v >> 31
		if odd == 1 {
			v ^= 0xedb88320
		}
		v = v<<1 | odd
	}
	v = ^v
	return []byte{byte(v), byte(v >> 8), byte(v >> 16), byte(v >> 24)}
}

// P2.1: More from any number of 32 bits is the sum of bytes that have it, and of the others behind them.
func TestMoreFromAny(t *testing.T) {
	for _, sum := range sums() {
		ahead := before4(sum)
		if got := Of(ahead); got != sum {
			t.Fatalf("Of(%x) = %08x, want %08x", ahead, got, sum)
		}
		for n := range 20 {
			b := mixed(n, uint64(sum))
			got := More(sum, b)
			if want := wanted(append(bytes.Clone(ahead), b...)); got != want {
				t.Errorf("More(%08x, %x) = %08x, want %08x", sum, b, got, want)
			}
			if want := crc32.Update(sum, crc32.IEEETable, b); got != want {
				t.Errorf("More(%08x, %x) = %08x, the library says %08x", sum, b, got, want)
			}
		}
	}
}

// P2.1: what is handed in is not changed, and the same is answered again.
func TestHandedInStays(t *testing.T) {
	b, kept := mixed(50, 9), mixed(50, 9)
	first, more := Of(b[:20], b[20:]), More(77, b)
	if !bytes.Equal(b, kept) {
		t.Error("the bytes were changed")
	}
	if Of(b[:20], b[20:]) != first || More(77, b) != more {
		t.Error("another answer for the same bytes")
	}
}

// turn turns the bits of a pattern, its lowest one at the place that is said, each byte's lowest bit first.
func turn(b []byte, at int, pattern uint32) {
	for i := range 32 {
		if pattern>>i&1 == 1 {
			b[(at+i)/8] ^= 1 << ((at + i) % 8)
		}
	}
}

// inners are patterns of the bits between the ends of a burst of a length: none, all, each one, every second one, and mixed ones.
func inners(length int) []uint32 {
	if length <= 2 {
		return []uint32{0}
	}
	list := []uint32{0, math.MaxUint32, 0x55555555, 0xaaaaaaaa, 0xedb88320, 0xdb710641}
	for i := range length - 2 {
		list = append(list, 1<<(i+1))
	}
	return append(list, sums()...)
}

// burst is a pattern of a length, whose first and last bits are turned.
func burst(length int, inner uint32) uint32 {
	ends := uint32(1) | 1<<(length-1)
	return inner&(1<<(length-1)-1) | ends
}

// P2.2: bursts of every length from 1 to 32 bits, at every place of short texts.
func TestBurst(t *testing.T) {
	for _, b := range [][]byte{{0}, []byte("a"), []byte("xyz"), mixed(4, 1), make([]byte, 5), mixed(9, 2), bytes.Repeat([]byte{0xff}, 12)} {
		sum := Of(b)
		for length := 1; length <= min(32, 8*len(b)); length++ {
			for at := 0; at+length <= 8*len(b); at++ {
				for _, inner := range inners(length) {
					spoilt := bytes.Clone(b)
					turn(spoilt, at, burst(length, inner))
					if Of(spoilt) == sum {
						t.Fatalf("%x and %x, %d bits from %d: both %08x", b, spoilt, length, at, sum)
					}
				}
			}
		}
	}
}

// P2.2: every burst of up to 12 bits, at every place of a text.
func TestBurstEach(t *testing.T) {
	b := mixed(6, 3)
	sum := Of(b)
	for pattern := uint32(1); pattern < 1<<12; pattern++ {
		for at := range 8*len(b) - 11 {
			spoilt := bytes.Clone(b)
			turn(spoilt, at, pattern)
			if Of(spoilt) == sum {
				t.Fatalf("%x and %x: both %08x", b, spoilt, sum)
			}
		}
	}
}

// P2.2: a burst is told in any part, and through More from any number.
func TestBurstInParts(t *testing.T) {
	b := mixed(8, 4)
	for at := range 33 {
		for _, pattern := range sums() {
			if pattern == 0 {
				continue
			}
			spoilt := bytes.Clone(b)
			turn(spoilt, at, pattern)
			if Of(spoilt[:3], spoilt[3:]) == Of(b[:3], b[3:]) {
				t.Fatalf("parts of %x and %x: the same sum", b, spoilt)
			}
			for _, sum := range []uint32{0, 1, 0xcbf43926, math.MaxUint32} {
				if More(sum, spoilt) == More(sum, b) {
					t.Fatalf("More(%08x) of %x and %x: the same sum", sum, b, spoilt)
				}
			}
		}
	}
}

// P2.2: bursts at the ends of a long text.
func TestBurstLong(t *testing.T) {
	b := mixed(5000, 5)
	sum := Of(b)
	for _, at := range []int{0, 1, 7, 8, 31, 20000, 8*len(b) - 33, 8*len(b) - 32} {
		for _, pattern := range sums() {
			if pattern == 0 {
				continue
			}
			turn(b, at, pattern)
			if Of(b) == sum {
				t.Fatalf("bits %08x turned at %d: the same sum", pattern, at)
			}
			turn(b, at, pattern)
		}
	}
}
