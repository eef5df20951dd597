package seal

import (
	"bytes"
	"hash/crc32"
	"math"
	"math/big"
	"math/bits"
	"math/rand"
	"testing"

	"epitaph/api"
)

const allBits = math.MaxUint32

// mixed are n bytes without a plain pattern, others for each seed.
func mixed(n int, seed int64) []byte {
	b := make([]byte, n)
	rand.New(rand.NewSource(seed)).Read(b)
	return b
}

// bodies have all lengths up to 40 and some beyond, of noughts, of ones and mixed.
func bodies() [][]byte {
	list := [][]byte{nil, {}, []byte("23456789"), []byte("Grüße, Zoë")}
	for n := range 41 {
		list = append(list, make([]byte, n), bytes.Repeat([]byte{0xff}, n), mixed(n, int64(n)))
	}
	return append(list, mixed(255, 1), mixed(256, 2), mixed(257, 3), mixed(4099, 4), mixed(70001, 5))
}

func kinds() []byte {
	return []byte{0, 1, 2, 7, 9, 127, 128, 254, 255}
}

// sumOnce is the sum as the library has it, in four bytes by dividing, the lowest one first.
func sumOnce(b []byte) []byte {
	sum := crc32.ChecksumIEEE(b)
	return []byte{byte(sum % 256), byte(sum / 256 % 256), byte(sum / 65536 % 256), byte(sum / 16777216)}
}

// sealedSlowly are sealed bytes, one behind another as the chapter tells them.
func sealedSlowly(kind byte, body []byte) []byte {
	var list []byte
	list = append(list, kind)
	list = append(list, body...)
	return append(list, sumOnce(list)...)
}

func wantOpen(t *testing.T, b []byte, kind byte, body []byte) {
	t.Helper()
	if k, got, e := Open(b); e != api.OK || k != kind || !bytes.Equal(got, body) {
		t.Errorf("Open(%.40x) = %d, %.40x, %d, want %d, %.40x", b, k, got, e, kind, body)
	}
}

// wantShut holds that bytes aren't opened, and that nothing else is told beside the error.
func wantShut(t *testing.T, b []byte, want api.Errno) {
	t.Helper()
	if kind, body, e := Open(b); e != want || kind != 0 || len(body) != 0 {
		t.Errorf("Open(%.40x) = %d, %.40x, %d, want error %d", b, kind, body, e, want)
	}
}

// P5.1, P5.2: the chapter's example.
func TestExample(t *testing.T) {
	b := Seal(7, nil)
	if len(b) != 5 || b[0] != 7 {
		t.Fatalf("Seal(7, nil) = %x", b)
	}
	spoilt := Spoil(b, 0, 1)
	if want := append([]byte{6}, b[1:]...); !bytes.Equal(spoilt, want) {
		t.Errorf("Spoil(%x, 0, 1) = %x, want %x", b, spoilt, want)
	}
	wantOpen(t, b, 7, nil)
	wantShut(t, spoilt, api.ErrSum)
}

// P5.1: Seal of bytes whose sums are known from elsewhere.
func TestSealKnown(t *testing.T) {
	for _, c := range []struct {
		kind byte
		body string
		want string
	}{
		{'1', "23456789", "123456789\x26\x39\xf4\xcb"},
		{0, "", "\x00\x8d\xef\x02\xd2"},
		{255, "", "\xff\x00\x00\x00\xff"},
		{'a', "", "a\x43\xbe\xb7\xe8"},
		{0, "\x00\x00\x00", "\x00\x00\x00\x00\x1c\xdf\x44\x21"},
		{255, "\xff\xff\xff", "\xff\xff\xff\xff\xff\xff\xff\xff"},
		{'T', "he quick brown fox jumps over the lazy dog", "The quick brown fox jumps over the lazy dog\x39\xa3\x4f\x41"},
	} {
		if got := Seal(c.kind, []byte(c.body)); string(got) != c.want {
			t.Errorf("Seal(%d, %q) = %q, want %q", c.kind, c.body, got, c.want)
		}
		wantOpen(t, []byte(c.want), c.kind, []byte(c.body))
	}
}

// P5.1: Seal of nil and of an empty body is the same, whatever the kind.
func TestSealNoBody(t *testing.T) {
	for kind := range 256 {
		k := byte(kind)
		want := sealedSlowly(k, nil)
		for _, body := range [][]byte{nil, {}, make([]byte, 0, 9)} {
			if got := Seal(k, body); len(got) != 5 || !bytes.Equal(got, want) {
				t.Errorf("Seal(%d, none) = %x, want %x", k, got, want)
			}
		}
		wantOpen(t, want, k, nil)
	}
}

// P5.1: Seal is the kind, the body and their sum, and Open tells the kind and the body of it.
func TestSealOpen(t *testing.T) {
	for _, body := range bodies() {
		for _, kind := range kinds() {
			got := Seal(kind, body)
			if want := sealedSlowly(kind, body); !bytes.Equal(got, want) {
				t.Errorf("Seal(%d, %.40x) = %.40x, want %.40x", kind, body, got, want)
			}
			wantOpen(t, got, kind, body)
		}
	}
}

// P5.1: fewer than five bytes are short, also where their own sum would fit, or where the room behind them would do.
func TestOpenShort(t *testing.T) {
	for _, b := range [][]byte{nil, {}, {0}, {0, 0}, {7, 7, 7}, {255, 255, 255, 255}} {
		wantShut(t, b, api.ErrShort)
	}
	// The sum of no bytes is 0: only the kind is missing here.
	wantShut(t, sumOnce(nil), api.ErrShort)
	for _, kind := range kinds() {
		whole := sealedSlowly(kind, nil)
		for n := range 5 {
			wantShut(t, whole[:n], api.ErrShort)
			wantShut(t, whole[5-n:], api.ErrShort)
		}
	}
}

// P5.1: of five bytes only those are opened of which the last four are the sum of the first one.
func TestOpenFive(t *testing.T) {
	wantShut(t, make([]byte, 5), api.ErrSum)
	wantShut(t, bytes.Repeat([]byte{255}, 5), api.ErrSum)
	for _, kind := range kinds() {
		whole := sealedSlowly(kind, nil)
		wantOpen(t, whole, kind, nil)
		for other := range 256 {
			if byte(other) != kind {
				wantShut(t, append([]byte{byte(other)}, whole[1:]...), api.ErrSum)
			}
		}
	}
}

// orders are all orders of the places 0 to 3 but the plain one.
func orders() [][4]int {
	var list [][4]int
	for i := range 256 {
		p := [4]int{i % 4, i / 4 % 4, i / 16 % 4, i / 64}
		seen := [4]bool{}
		for _, at := range p {
			seen[at] = true
		}
		if seen == [4]bool{true, true, true, true} && p != [4]int{0, 1, 2, 3} {
			list = append(list, p)
		}
	}
	return list
}

// P5.1: a sum that is right in another order of its bytes does not fit.
func TestOpenOtherOrder(t *testing.T) {
	if n := len(orders()); n != 23 {
		t.Fatalf("%d orders", n)
	}
	for _, body := range [][]byte{nil, []byte("23456789"), mixed(33, 6)} {
		for _, kind := range kinds() {
			whole := sealedSlowly(kind, body)
			cut := len(whole) - 4
			for _, p := range orders() {
				b := bytes.Clone(whole)
				for i, at := range p {
					b[cut+i] = whole[cut+at]
				}
				if !bytes.Equal(b, whole) {
					wantShut(t, b, api.ErrSum)
				}
			}
		}
	}
}

// P5.1: a sum of other parts, at another place, or with its bits turned does not fit.
func TestOpenOtherSum(t *testing.T) {
	for _, body := range [][]byte{[]byte("23456789"), mixed(3, 7), mixed(33, 8)} {
		kind := byte('1')
		head := append([]byte{kind}, body...)
		turned := sumOnce(head)
		for i := range turned {
			turned[i] ^= 0xff
		}
		for _, sum := range [][]byte{sumOnce(body), sumOnce([]byte{kind}), sumOnce(nil), turned, sumOnce(append(bytes.Clone(body), kind))} {
			wantShut(t, append(bytes.Clone(head), sum...), api.ErrSum)
		}
		wantShut(t, append(sumOnce(head), head...), api.ErrSum)
		wantShut(t, append(append([]byte{kind}, sumOnce(head)...), body...), api.ErrSum)
	}
}

// wantAsSealed holds that bytes are opened just where they are sealed bytes of their own.
func wantAsSealed(t *testing.T, b []byte) {
	t.Helper()
	if len(b) < 5 {
		wantShut(t, b, api.ErrShort)
		return
	}
	kind, body := b[0], b[1:len(b)-4]
	if bytes.Equal(b, sealedSlowly(kind, body)) {
		wantOpen(t, b, kind, body)
	} else {
		wantShut(t, b, api.ErrSum)
	}
}

// P5.1: sealed bytes but for one byte less, or one more, at each place within.
func TestOpenOneOff(t *testing.T) {
	for _, body := range [][]byte{nil, {0}, []byte("23456789"), make([]byte, 12), bytes.Repeat([]byte{255}, 12), mixed(20, 9)} {
		for _, kind := range []byte{0, 7, 255} {
			whole := sealedSlowly(kind, body)
			for i := range whole {
				wantAsSealed(t, append(bytes.Clone(whole[:i]), whole[i+1:]...))
			}
			for i := 0; i <= len(whole); i++ {
				for c := range 256 {
					wantAsSealed(t, append(append(bytes.Clone(whole[:i]), byte(c)), whole[i:]...))
				}
			}
		}
	}
}

// P5.1: with one byte less or more at either end, or with many less, nothing of these is opened.
func TestOpenEnds(t *testing.T) {
	for n := range 40 {
		whole := sealedSlowly(3, mixed(n, int64(n)))
		for i := range whole {
			want := api.ErrSum
			if i < 5 {
				want = api.ErrShort
			}
			wantShut(t, whole[:i], want)
			wantShut(t, whole[len(whole)-i:], want)
		}
		for c := range 256 {
			wantShut(t, append(bytes.Clone(whole), byte(c)), api.ErrSum)
			wantShut(t, append([]byte{byte(c)}, whole...), api.ErrSum)
		}
	}
}

// P5.1: Open goes by the length of what it is given, not by the room behind.
func TestOpenRoom(t *testing.T) {
	whole := sealedSlowly(9, []byte("abc"))
	room := append(bytes.Clone(whole), 1, 2, 3, 4, 5, 6)
	wantOpen(t, room[:len(whole)], 9, []byte("abc"))
	wantShut(t, room[:len(whole)-1], api.ErrSum)
	wantShut(t, room, api.ErrSum)
}

func fill(b []byte, c byte) {
	b = b[:cap(b)]
	for i := range b {
		b[i] = c
	}
}

// P5.1, rule 4: Seal shares nothing with the body, changes nothing of it, and writes not into the room behind it.
func TestSealShares(t *testing.T) {
	for n := range 20 {
		room := mixed(n+30, 11)
		kept := bytes.Clone(room)
		body := room[:n]
		want := sealedSlowly(5, body)
		first, second := Seal(5, body), Seal(5, body)
		if !bytes.Equal(room, kept) {
			t.Fatalf("Seal changed %x into %x", kept, room)
		}
		fill(room, 0xaa)
		if !bytes.Equal(first, want) {
			t.Errorf("what is written into the body turned %x into %x", want, first)
		}
		fill(first, 0xbb)
		if !bytes.Equal(second, want) || !bytes.Equal(room, bytes.Repeat([]byte{0xaa}, len(room))) {
			t.Errorf("what is written into sealed bytes turned others: %x, %x", second, room)
		}
	}
}

// P5.1, rule 4: Open shares nothing with the sealed bytes, nor with what it told before.
func TestOpenShares(t *testing.T) {
	for n := range 20 {
		body := mixed(n, 12)
		whole := append(make([]byte, 0, n+30), sealedSlowly(6, body)...)
		kept := bytes.Clone(whole)
		_, first, _ := Open(whole)
		_, second, _ := Open(whole)
		if !bytes.Equal(whole, kept) {
			t.Fatalf("Open changed %x into %x", kept, whole)
		}
		fill(first, 0xbb)
		if !bytes.Equal(whole, kept) || !bytes.Equal(second, body) {
			t.Errorf("what is written into a body turned others: %x, %x", whole, second)
		}
		fill(whole, 0xaa)
		if !bytes.Equal(second, body) {
			t.Errorf("what is written into sealed bytes turned %x into %x", body, second)
		}
	}
}

// placeSlowly is a place among so many bits, reckoned without an end to the numbers.
func placeSlowly(at, bits int) int {
	place := new(big.Int).Mod(big.NewInt(int64(at)), big.NewInt(int64(bits)))
	return int(place.Int64())
}

// spoiltSlowly turns bit by bit, as the chapter tells it.
func spoiltSlowly(b []byte, at int, mask uint32) []byte {
	var row []bool
	for _, c := range b {
		for range 8 {
			row = append(row, c%2 == 1)
			c /= 2
		}
	}
	if len(row) > 0 {
		for place := placeSlowly(at, len(row)); place < len(row) && mask > 0; place++ {
			row[place] = row[place] != (mask%2 == 1)
			mask /= 2
		}
	}
	list := make([]byte, len(b))
	for i := range row {
		if row[i] {
			list[i/8] += 1 << (i % 8)
		}
	}
	return list
}

func wantSpoilt(t *testing.T, b []byte, at int, mask uint32, want []byte) {
	t.Helper()
	kept := bytes.Clone(b)
	if got := Spoil(b, at, mask); !bytes.Equal(got, want) {
		t.Errorf("Spoil(%.40x, %d, %#x) = %.40x, want %.40x", b, at, mask, got, want)
	}
	if !bytes.Equal(b, kept) {
		t.Fatalf("Spoil changed %.40x into %.40x", kept, b)
	}
}

// masks have no bit, one, many and all, at either end.
func masks() []uint32 {
	list := []uint32{0, 1, 2, 3, 0x80000000, 0x80000001, 0xc0000000, allBits, allBits - 1, allBits / 2, 0x0000ffff, 0xffff0000, 0x0ff0, 0x55555555, 0xaaaaaaaa, 0x12345678}
	for i := range 32 {
		list = append(list, 1<<i, ^(uint32(1) << i))
	}
	return list
}

// places are within so many bits, and beyond both ends, up to the ends of int.
func places(bits int) []int {
	list := []int{math.MaxInt, math.MaxInt - 1, math.MaxInt - 7, math.MinInt, math.MinInt + 1, math.MinInt + 7, 1 << 31, 1<<31 + 5, -1 << 31, -1<<31 - 5, 1 << 40, -1 << 40, 1<<61 + 3, -1<<61 - 3, 1<<60 - 1}
	for at := -2*bits - 3; at <= 2*bits+3; at++ {
		list = append(list, at)
	}
	return list
}

// P5.2: of no bytes none, whatever at and the mask are.
func TestSpoilNone(t *testing.T) {
	for _, b := range [][]byte{nil, {}, make([]byte, 0, 8)} {
		for _, at := range places(0) {
			for _, mask := range masks() {
				if got := Spoil(b, at, mask); len(got) != 0 {
					t.Errorf("Spoil(none, %d, %#x) = %x", at, mask, got)
				}
			}
		}
	}
}

// P5.2: chosen places and masks, written out.
func TestSpoilKnown(t *testing.T) {
	six := []byte{0, 0, 0, 0, 0, 0}
	for _, c := range []struct {
		b    []byte
		at   int
		mask uint32
		want []byte
	}{
		{six, 0, 0, six},
		{six, 0, 1, []byte{1, 0, 0, 0, 0, 0}},
		{six, 7, 1, []byte{0x80, 0, 0, 0, 0, 0}},
		{six, 8, 1, []byte{0, 1, 0, 0, 0, 0}},
		{six, 7, 3, []byte{0x80, 1, 0, 0, 0, 0}},
		{six, 0, allBits, []byte{255, 255, 255, 255, 0, 0}},
		{six, 1, allBits, []byte{0xfe, 255, 255, 255, 1, 0}},
		{six, 7, allBits, []byte{0x80, 255, 255, 255, 0x7f, 0}},
		{six, 16, allBits, []byte{0, 0, 255, 255, 255, 255}},
		{six, 17, allBits, []byte{0, 0, 0xfe, 255, 255, 255}},
		{six, 0, 0x80000000, []byte{0, 0, 0, 0x80, 0, 0}},
		{six, 9, 0x80000000, []byte{0, 0, 0, 0, 0, 1}},
		{six, 16, 0x80000000, []byte{0, 0, 0, 0, 0, 0x80}},
		{six, 17, 0x80000000, six},
		{six, 47, 1, []byte{0, 0, 0, 0, 0, 0x80}},
		{six, 47, allBits, []byte{0, 0, 0, 0, 0, 0x80}},
		{six, 47, allBits - 1, six},
		{six, 48, 1, []byte{1, 0, 0, 0, 0, 0}},
		{six, 49, 1, []byte{2, 0, 0, 0, 0, 0}},
		{six, 96, 5, []byte{5, 0, 0, 0, 0, 0}},
		{six, -1, allBits, []byte{0, 0, 0, 0, 0, 0x80}},
		{six, -8, allBits, []byte{0, 0, 0, 0, 0, 255}},
		{six, -47, 1, []byte{2, 0, 0, 0, 0, 0}},
		{six, -48, 1, []byte{1, 0, 0, 0, 0, 0}},
		{six, -49, 1, []byte{0, 0, 0, 0, 0, 0x80}},
		{six, math.MaxInt, 1, []byte{0, 0, 0, 0x80, 0, 0}},
		{six, math.MinInt, 1, []byte{0, 0, 1, 0, 0, 0}},
		{[]byte{0xff}, 0, 0x0f, []byte{0xf0}},
		{[]byte{0xff}, 4, allBits, []byte{0x0f}},
		{[]byte{0xa5}, 0, allBits, []byte{0x5a}},
		{[]byte{7}, 8, 1, []byte{6}},
		{[]byte{7}, -8, 1, []byte{6}},
		{[]byte("ab"), 3, 0x0201, []byte("ir")},
	} {
		wantSpoilt(t, c.b, c.at, c.mask, c.want)
	}
}

// P5.2: all places round the bytes and at the ends of int, with all masks, against the slow way.
func TestSpoil(t *testing.T) {
	for n := range 13 {
		for _, b := range [][]byte{make([]byte, n), mixed(n, int64(n)+20)} {
			for _, at := range places(8 * n) {
				for _, mask := range masks() {
					wantSpoilt(t, b, at, mask, spoiltSlowly(b, at, mask))
				}
			}
		}
	}
}

// P5.2: each bit by itself, of long bytes, too.
func TestSpoilOneBit(t *testing.T) {
	for _, n := range []int{1, 5, 37, 300} {
		b := mixed(n, 30)
		for at := range 8 * n {
			want := bytes.Clone(b)
			want[at/8] ^= 1 << (at % 8)
			for _, place := range []int{at, at + 8*n, at - 8*n, at + 800*n, at - 800*n} {
				wantSpoilt(t, b, place, 1, want)
			}
			wantSpoilt(t, b, at, 0, b)
		}
	}
}

// P5.2: bytes that are spoilt twice by the same are what they were.
func TestSpoilTwice(t *testing.T) {
	for _, b := range bodies()[:60] {
		for _, at := range []int{0, 3, 31, 100, -5, math.MinInt, math.MaxInt} {
			for _, mask := range masks() {
				wantSpoilt(t, Spoil(b, at, mask), at, mask, b)
			}
		}
	}
}

// P5.2, rule 4: Spoil answers another list, also where it turns nothing, and leaves the room behind what came in.
func TestSpoilShares(t *testing.T) {
	for _, mask := range []uint32{0, 1, allBits} {
		for _, at := range []int{0, 39, 40, -1} {
			room := mixed(30, 31)
			kept := bytes.Clone(room)
			b := room[:5]
			want := spoiltSlowly(b, at, mask)
			first, second := Spoil(b, at, mask), Spoil(b, at, mask)
			fill(first, 0xbb)
			if !bytes.Equal(room, kept) || !bytes.Equal(second, want) {
				t.Errorf("what is written into spoilt bytes turned others: %x, %x", room, second)
			}
			fill(room, 0xaa)
			if !bytes.Equal(second, want) {
				t.Errorf("what is written into the bytes turned %x into %x", want, second)
			}
		}
	}
}

// bursts are masks that begin with a turned bit: all of up to 9 bits, and some of all lengths up to 32.
func bursts(g *rand.Rand) []uint32 {
	var list []uint32
	for mask := uint32(1); mask < 1<<9; mask += 2 {
		list = append(list, mask)
	}
	for n := 9; n < 32; n++ {
		end := uint32(1)<<n | 1
		list = append(list, end, end|(1<<n-1))
		for range 12 {
			list = append(list, end|g.Uint32()&(1<<n-1))
		}
	}
	return list
}

// P5.3: what was sealed and spoilt once, one bit at least, isn't opened, wherever the damage is.
func TestSpoiltIsShut(t *testing.T) {
	g := rand.New(rand.NewSource(40))
	for _, body := range [][]byte{nil, {0}, {255}, []byte("23456789"), make([]byte, 9), mixed(13, 41), mixed(24, 42)} {
		for _, kind := range []byte{0, 7, 255} {
			whole := Seal(kind, body)
			for at := range 8 * len(whole) {
				for _, mask := range bursts(g) {
					wantShut(t, Spoil(whole, at, mask), api.ErrSum)
				}
			}
		}
	}
}

// turnedBits counts the bits that are unlike.
func turnedBits(a, b []byte) int {
	n := 0
	for i := range a {
		n += bits.OnesCount8(a[i] ^ b[i])
	}
	return n
}

// P5.3: with any at and any mask, those too that turn no bit: then, and only then, what was sealed is opened as it was.
func TestSpoiltAnyhow(t *testing.T) {
	none := 0
	for n := range 5 {
		body := mixed(n, int64(n)+50)
		whole := Seal(8, body)
		for _, at := range places(8 * len(whole)) {
			for _, mask := range masks() {
				b := Spoil(whole, at, mask)
				if turnedBits(whole, b) == 0 {
					none++
					wantOpen(t, b, 8, body)
					continue
				}
				wantShut(t, b, api.ErrSum)
			}
		}
	}
	if none == 0 {
		t.Error("no mask turned nothing")
	}
}

// P5.3: one bit, 32 bits and some between, at every place of longer bytes.
func TestSpoiltLong(t *testing.T) {
	g := rand.New(rand.NewSource(60))
	for _, n := range []int{60, 255, 1000} {
		whole := Seal(4, mixed(n, int64(n)))
		for at := range 8 * len(whole) {
			for _, mask := range []uint32{1, allBits, 0x80000001, g.Uint32() | 1} {
				wantShut(t, Spoil(whole, at, mask), api.ErrSum)
			}
		}
	}
}
