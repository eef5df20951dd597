package num

import (
	"bytes"
	"math"
	"testing"

	"epitaph/api"
)

const maxWord = math.MaxUint64

// least is the least number of n bytes behind the first one, greatest the greatest one.
func least(n int) uint64 {
	if n == 0 {
		return 0
	}
	return 1 << (8 * (n - 1))
}

func greatest(n int) uint64 {
	if n == 0 {
		return 0
	}
	return maxWord >> (64 - 8*n)
}

// numbers are those at both sides of each border between counts of bytes, those round each bit, and some in between.
func numbers() []uint64 {
	list := []uint64{0, 1, 258, maxWord, maxWord - 1, 0x0123456789abcdef, 0xff00ff00ff00ff00}
	for n := 1; n <= 8; n++ {
		list = append(list, least(n), least(n)+1, greatest(n)-1, greatest(n))
	}
	for i := range 64 {
		list = append(list, 1<<i, 1<<i-1, 1<<i+1, ^(uint64(1) << i))
	}
	v := uint64(0x9e3779b97f4a7c15)
	for i := range 200 {
		v ^= v << 13
		v ^= v >> 7
		v ^= v << 17
		list = append(list, v>>(i%64))
	}
	return list
}

// bytesSlowly are a number's bytes as the document tells them, by dividing.
func bytesSlowly(v uint64) []byte {
	var others []byte
	for ; v > 0; v /= 256 {
		others = append([]byte{byte(v % 256)}, others...)
	}
	return append([]byte{byte(len(others))}, others...)
}

func join2(a, b []byte) []byte {
	return append(bytes.Clone(a), b...)
}

// heads are bytes that may stand ahead of a number's: none, those of other numbers, and those that are no number's.
func heads() [][]byte {
	return [][]byte{nil, {}, {0}, {1, 7}, {2, 1, 2}, {9, 0, 255}, {8, 1, 2, 3, 4, 5, 6, 7, 8}, bytes.Repeat([]byte{0xa5}, 100)}
}

// P3.1: the chapter's example, and the least and the greatest of each count of bytes.
func TestAppendKnown(t *testing.T) {
	for _, c := range []struct {
		v    uint64
		want []byte
	}{
		{0, []byte{0}},
		{258, []byte{2, 1, 2}},
		{1, []byte{1, 1}},
		{255, []byte{1, 255}},
		{256, []byte{2, 1, 0}},
		{65535, []byte{2, 255, 255}},
		{65536, []byte{3, 1, 0, 0}},
		{1<<24 - 1, []byte{3, 255, 255, 255}},
		{1 << 24, []byte{4, 1, 0, 0, 0}},
		{1<<32 - 1, []byte{4, 255, 255, 255, 255}},
		{1 << 32, []byte{5, 1, 0, 0, 0, 0}},
		{1<<40 - 1, []byte{5, 255, 255, 255, 255, 255}},
		{1 << 40, []byte{6, 1, 0, 0, 0, 0, 0}},
		{api.MaxCount, []byte{6, 255, 255, 255, 255, 255, 255}},
		{1 << 48, []byte{7, 1, 0, 0, 0, 0, 0, 0}},
		{1<<56 - 1, []byte{7, 255, 255, 255, 255, 255, 255, 255}},
		{1 << 56, []byte{8, 1, 0, 0, 0, 0, 0, 0, 0}},
		{0x0123456789abcdef, []byte{8, 0x01, 0x23, 0x45, 0x67, 0x89, 0xab, 0xcd, 0xef}},
		{maxWord, []byte{8, 255, 255, 255, 255, 255, 255, 255, 255}},
	} {
		if got := Append(nil, c.v); !bytes.Equal(got, c.want) {
			t.Errorf("Append(nil, %d) = %v, want %v", c.v, got, c.want)
		}
		if got := Size(c.v); got != len(c.want) {
			t.Errorf("Size(%d) = %d, want %d", c.v, got, len(c.want))
		}
		if v, at, errno := Read(c.want, 0); v != c.v || at != len(c.want) || errno != api.OK {
			t.Errorf("Read(%v, 0) = %d, %d, %d, want %d", c.want, v, at, errno, c.v)
		}
	}
}

// P3.1: the number's bytes stand behind whatever stood ahead, and Size is how many they are.
func TestAppend(t *testing.T) {
	for _, v := range numbers() {
		want := bytesSlowly(v)
		if got := Size(v); got != len(want) {
			t.Errorf("Size(%#x) = %d, want %d", v, got, len(want))
		}
		for _, head := range heads() {
			if got := Append(head, v); !bytes.Equal(got, join2(head, want)) {
				t.Errorf("Append(%v, %#x) = %v, want %v behind them", head, v, got, want)
			}
		}
	}
}

// P3.1: Size of both sides of each border, from 1 byte to 9.
func TestSize(t *testing.T) {
	for n := range 9 {
		if got := Size(least(n)); got != n+1 {
			t.Errorf("Size(%#x) = %d, want %d", least(n), got, n+1)
		}
		if got := Size(greatest(n)); got != n+1 {
			t.Errorf("Size(%#x) = %d, want %d", greatest(n), got, n+1)
		}
	}
}

// P3.1, rule 4: the room behind the bytes that come in is not written, and the answer shares nothing with them.
func TestAppendSpareRoom(t *testing.T) {
	for _, v := range numbers() {
		for n := range 5 {
			room := bytes.Repeat([]byte{0x77}, 40)
			kept := bytes.Clone(room)
			got := Append(room[:n], v)
			if !bytes.Equal(room, kept) {
				t.Fatalf("Append of %d bytes and %#x wrote into the room behind them: %v", n, v, room)
			}
			if want := join2(kept[:n], bytesSlowly(v)); !bytes.Equal(got, want) {
				t.Fatalf("Append of %d bytes with room and %#x = %v, want %v", n, v, got, want)
			}
			whole := got[:cap(got)]
			for i := range whole {
				whole[i] = 0x11
			}
			if !bytes.Equal(room, kept) {
				t.Fatalf("the answer of %d bytes and %#x shares memory with what came in", n, v)
			}
		}
	}
}

// P3.1, rule 4: an answer is not changed by a later one behind the same bytes, nor by one behind itself.
func TestAppendTwice(t *testing.T) {
	room := make([]byte, 3, 64)
	first := Append(room, 258)
	second := Append(room, maxWord)
	third := Append(first, 7)
	fourth := Append(first, 9)
	for _, c := range []struct{ got, want []byte }{
		{first, []byte{0, 0, 0, 2, 1, 2}},
		{second, []byte{0, 0, 0, 8, 255, 255, 255, 255, 255, 255, 255, 255}},
		{third, []byte{0, 0, 0, 2, 1, 2, 1, 7}},
		{fourth, []byte{0, 0, 0, 2, 1, 2, 1, 9}},
	} {
		if !bytes.Equal(c.got, c.want) {
			t.Errorf("%v, want %v", c.got, c.want)
		}
	}
}

// P3.2: a number is read at its place, whatever stands ahead and behind.
func TestRead(t *testing.T) {
	tails := [][]byte{nil, {0}, {0, 0, 0}, {255, 255}, {2, 1, 2}, {9}, bytes.Repeat([]byte{0x5a}, 20)}
	for _, v := range numbers() {
		for _, head := range heads() {
			for _, tail := range tails {
				b := join2(join2(head, bytesSlowly(v)), tail)
				kept := bytes.Clone(b)
				got, at, errno := Read(b, len(head))
				if got != v || at != len(b)-len(tail) || errno != api.OK {
					t.Fatalf("Read(%v, %d) = %#x, %d, %d, want %#x, %d", b, len(head), got, at, errno, v, len(b)-len(tail))
				}
				if !bytes.Equal(b, kept) {
					t.Fatalf("Read changed %v into %v", kept, b)
				}
			}
		}
	}
}

// P3.2: many numbers, one behind another, are read from place to place up to the end.
func TestReadOneBehindAnother(t *testing.T) {
	var b []byte
	for _, v := range numbers() {
		b = Append(b, v)
	}
	at := 0
	for i, v := range numbers() {
		got, next, errno := Read(b, at)
		if got != v || next != at+Size(v) || errno != api.OK {
			t.Fatalf("number %d at %d: %#x, %d, %d, want %#x", i, at, got, next, errno, v)
		}
		at = next
	}
	refused(t, b, at, api.ErrShort)
}

// refused asks for an error with nothing beside it.
func refused(t *testing.T, b []byte, at int, want api.Errno) {
	t.Helper()
	v, next, errno := Read(b, at)
	if v != 0 || next != 0 || errno != want {
		t.Errorf("Read(%v, %d) = %d, %d, %d, want 0, 0, %d", b, at, v, next, errno, want)
	}
}

// P3.2: a place that is below 0 or above the length.
func TestReadWrongPlace(t *testing.T) {
	wrong := []int{-1, -2, -9, -1 << 32, math.MinInt, math.MinInt + 1, math.MaxInt, math.MaxInt - 1, 1 << 32}
	for _, b := range [][]byte{nil, {}, {0}, {9}, {1, 0}, {2, 1}, {2, 1, 2}, {8, 255, 255, 255, 255, 255, 255, 255, 255}} {
		for _, at := range wrong {
			refused(t, b, at, api.ErrArg)
		}
		for more := 1; more < 12; more++ {
			refused(t, b, len(b)+more, api.ErrArg)
		}
	}
	// Room behind the length is no place.
	refused(t, make([]byte, 2, 10), 3, api.ErrArg)
}

// P3.2: nothing stands at the length.
func TestReadNothing(t *testing.T) {
	for _, b := range [][]byte{nil, {}, {0}, {9}, {1, 0}, {2, 1}, {2, 1, 2}, {8, 255, 255, 255, 255, 255, 255, 255, 255}, make([]byte, 2, 10)} {
		refused(t, b, len(b), api.ErrShort)
	}
}

// P3.2: a first byte above 8, with any count of bytes behind it, fitting or missing, 0 or not.
func TestReadFirstTooGreat(t *testing.T) {
	for first := 9; first < 256; first++ {
		for behind := range 20 {
			for _, fill := range []byte{0, 1, 255} {
				b := append([]byte{byte(first)}, bytes.Repeat([]byte{fill}, behind)...)
				refused(t, b, 0, api.ErrForm)
				refused(t, join2([]byte{2, 1, 2}, b), 3, api.ErrForm)
			}
		}
		refused(t, append([]byte{byte(first)}, bytes.Repeat([]byte{1}, 300)...), 0, api.ErrForm)
	}
}

// P3.2: the highest byte is 0: a wrong form, whether others behind it are there or missing.
func TestReadHighestIsNought(t *testing.T) {
	for first := 1; first <= 8; first++ {
		for behind := 1; behind <= 12; behind++ {
			for _, fill := range []byte{0, 1, 255} {
				b := append([]byte{byte(first), 0}, bytes.Repeat([]byte{fill}, behind-1)...)
				refused(t, b, 0, api.ErrForm)
				refused(t, join2([]byte{0, 9}, b), 2, api.ErrForm)
			}
		}
	}
}

// P3.2: a first byte that is not 0 with none behind it lacks bytes, and room behind the length counts for nothing.
func TestReadNextIsMissing(t *testing.T) {
	for first := 1; first <= 8; first++ {
		refused(t, []byte{byte(first)}, 0, api.ErrShort)
		refused(t, []byte{5, 5, byte(first)}, 2, api.ErrShort)
		noughts := []byte{byte(first), 0, 0, 0, 0, 0, 0, 0, 0}
		refused(t, noughts[:1], 0, api.ErrShort)
		ones := bytes.Repeat([]byte{byte(first)}, 9)
		refused(t, ones[:first], 0, api.ErrShort)
	}
}

// P3.2: a number that is cut at any place is short.
func TestReadCut(t *testing.T) {
	for _, v := range numbers() {
		whole := bytesSlowly(v)
		for n := range whole {
			refused(t, whole[:n], 0, api.ErrShort)
			refused(t, append([]byte{1, 0, 9}, whole[:n]...), 3, api.ErrShort)
		}
	}
}

// P3.2: noughts behind the highest byte are no fault.
func TestReadNoughtsWithin(t *testing.T) {
	for n := 1; n <= 8; n++ {
		b := append([]byte{byte(n), 1}, make([]byte, 12)...)
		if v, at, errno := Read(b, 0); v != least(n) || at != n+1 || errno != api.OK {
			t.Errorf("Read(%v, 0) = %#x, %d, %d, want %#x, %d", b, v, at, errno, least(n), n+1)
		}
	}
}

// P3.3: whatever Read takes is just what Append tells: of all first bytes, with all next ones, of all lengths.
func TestOneForm(t *testing.T) {
	for first := range 256 {
		for next := range 256 {
			for _, fill := range []byte{0, 1, 0x80, 255} {
				b := append([]byte{byte(first), byte(next)}, bytes.Repeat([]byte{fill}, 9)...)
				for n := range len(b) + 1 {
					oneForm(t, b[:n])
				}
			}
		}
	}
}

func oneForm(t *testing.T, b []byte) {
	t.Helper()
	v, at, errno := Read(b, 0)
	if errno != api.OK {
		return
	}
	if got := Append(nil, v); !bytes.Equal(got, b[:at]) {
		t.Fatalf("%v and %v are both the number %#x", b[:at], got, v)
	}
}

// P3.3: bytes of up to two, all of them, tell 0 once and each number up to 255 once, and nothing else.
func TestOneFormOfEach(t *testing.T) {
	found := map[uint64]int{}
	for first := range 256 {
		if v, at, errno := Read([]byte{byte(first)}, 0); errno == api.OK && at == 1 {
			found[v]++
		}
		for next := range 256 {
			if v, at, errno := Read([]byte{byte(first), byte(next)}, 0); errno == api.OK && at == 2 {
				found[v]++
			}
		}
	}
	for v := range uint64(256) {
		if found[v] != 1 {
			t.Errorf("%d has %d forms", v, found[v])
		}
	}
	if len(found) != 256 {
		t.Errorf("%d numbers of up to two bytes", len(found))
	}
}

func order(a, b uint64) int {
	switch {
	case a < b:
		return -1
	case a > b:
		return 1
	}
	return 0
}

// P3.3: at each border between two counts of bytes the lesser number's bytes stand ahead.
func TestOrderAtBorders(t *testing.T) {
	for n := range 8 {
		low, high := Append(nil, greatest(n)), Append(nil, least(n+1))
		if bytes.Compare(low, high) != -1 {
			t.Errorf("%v is not ahead of %v", low, high)
		}
	}
}

// P3.3: of any two numbers the bytes stand as the numbers do, and stay so with other bytes behind them.
func TestOrder(t *testing.T) {
	list := numbers()
	for _, a := range list {
		for _, b := range list {
			if a == b {
				continue
			}
			if got := bytes.Compare(Append(nil, a), Append(nil, b)); got != order(a, b) {
				t.Fatalf("the bytes of %#x and %#x: %d, the numbers %d", a, b, got, order(a, b))
			}
			if got := bytes.Compare(Append(Append(nil, a), maxWord), Append(Append(nil, b), 0)); got != order(a, b) {
				t.Fatalf("the bytes of %#x and %#x, with others behind: %d", a, b, got)
			}
		}
	}
}

// P3.3: the bytes of all numbers up to beyond 65536, round each border, and up to the greatest, go up one by one.
func TestOrderOfNeighbours(t *testing.T) {
	ascending(t, 0, 70000)
	for n := 3; n <= 8; n++ {
		ascending(t, least(n)-500, 1000)
	}
	ascending(t, maxWord-1000, 1000)
}

func ascending(t *testing.T, v, steps uint64) {
	t.Helper()
	ahead := Append(nil, v)
	for i := range steps {
		next := Append(nil, v+i+1)
		if bytes.Compare(ahead, next) != -1 {
			t.Fatalf("the bytes of %#x, %v, are not ahead of %v", v+i, ahead, next)
		}
		ahead = next
	}
}
