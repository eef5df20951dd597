package vec

import (
	"math/big"
	"math/rand"
	"slices"
	"testing"

	"epitaph/aid"
	"epitaph/api"
)

const (
	most  = aid.Most
	above = aid.Above
	huge  = aid.Huge
	last  = aid.Last
)

// What stands in the tests in short.
var of, mayBe, never = aid.Dot, aid.MayBe, aid.Never

// row is a vector, of each dot the device and the number one behind another.
func row(parts ...uint64) api.Vec {
	v := api.Vec{}
	for i := 0; i+1 < len(parts); i += 2 {
		v = append(v, of(uint16(parts[i]), parts[i+1]))
	}
	return v
}

// devs are all devices that the tests speak of, rising.
func devs() []uint16 {
	return []uint16{0, 1, 2, 3, 4, 5, 7, 9, 255, 256, 32767, 32768, 65534, 65535}
}

// slow is what a vector tells of a device, gone through for that one alone.
func slow(v api.Vec, dev uint16) uint64 {
	greatest := uint64(0)
	for _, d := range v {
		if mayBe(d) && d.Dev == dev && d.N > greatest {
			greatest = d.N
		}
	}
	return greatest
}

// each makes a vector in order, device by device.
func each(tell func(dev uint16) uint64) api.Vec {
	var v api.Vec
	for _, dev := range devs() {
		if n := tell(dev); n > 0 {
			v = append(v, of(dev, n))
		}
	}
	return v
}

func wantVec(t *testing.T, what string, got, want api.Vec, in ...any) {
	t.Helper()
	if !slices.Equal(got, want) {
		t.Errorf("%s of %v = %v, want %v", what, in, got, want)
	}
	if !Good(got) {
		t.Errorf("%s of %v = %v: not in order", what, in, got)
	}
}

func wantIs[T comparable](t *testing.T, what string, got, want T, in ...any) {
	t.Helper()
	if got != want {
		t.Errorf("%s of %v = %v, want %v", what, in, got, want)
	}
}

// wantKept holds that a vector that went in is as it was.
func wantKept(t *testing.T, v, kept api.Vec) {
	t.Helper()
	if !slices.Equal(v, kept) {
		t.Fatalf("%v was changed into %v", kept, v)
	}
}

// wantOne holds the calls of one vector against what it tells, in order.
func wantOne(t *testing.T, v, want api.Vec) {
	t.Helper()
	kept := slices.Clone(v)
	wantVec(t, "Norm", Norm(v), want, v)
	wantVec(t, "Norm of Norm", Norm(Norm(v)), want, v)
	wantIs(t, "Good", Good(v), slices.Equal(v, want), v)
	wantIs(t, "Order with what is in order", Order(v, want), 0, v)
	wantIs(t, "Order behind what is in order", Order(want, v), 0, v)
	wantIs(t, "Lack of itself", Lack(v, v), 0, v)
	for _, other := range []api.Vec{nil, {}, v, want, never()} {
		wantVec(t, "Join", Join(v, other), want, v, other)
		wantVec(t, "Join", Join(other, v), want, other, v)
	}
	for _, dev := range devs() {
		n := slow(want, dev)
		wantIs(t, "Of", Of(v, dev), n, v, dev)
		wantHas(t, v, dev, n)
		wantPut(t, v, dev, n)
	}
	wantKept(t, v, kept)
}

// wantHas holds which dots of a device a vector has that tells a number of it.
func wantHas(t *testing.T, v api.Vec, dev uint16, n uint64) {
	t.Helper()
	for _, k := range []uint64{0, 1, 2, n / 2, n - 1, n, n + 1, most - 1, most, above, above + 1, huge - 1, huge} {
		want := dev != 0 && k >= 1 && k <= n
		wantIs(t, "Has", Has(v, of(dev, k)), want, v, dev, k)
	}
}

// wantPut holds what comes of one dot more of a device of which a vector tells a number.
func wantPut(t *testing.T, v api.Vec, dev uint16, n uint64) {
	t.Helper()
	for _, k := range []uint64{0, 1, n / 2, n - 1, n, n + 1, most - 1, most, above, above + 1, huge - 1, huge} {
		want := each(func(other uint16) uint64 {
			if other == dev && mayBe(of(dev, k)) && k > n {
				return k
			}
			return slow(v, other)
		})
		wantVec(t, "Put", Put(v, of(dev, k)), want, v, dev, k)
	}
}

// ranks tells, device by device, whether each vector tells more of any than the other one.
func ranks(a, b api.Vec) (aMore, bMore bool) {
	for _, dev := range devs() {
		aMore = aMore || slow(a, dev) > slow(b, dev)
		bMore = bMore || slow(b, dev) > slow(a, dev)
	}
	return aMore, bMore
}

// slowOrder tells how two stand to each other, as the chapter's words go.
func slowOrder(a, b api.Vec) int {
	aMore, bMore := ranks(a, b)
	switch {
	case !aMore && !bMore:
		return 0
	case !aMore:
		return -1
	case !bMore:
		return 1
	}
	return 2
}

// slowLack is told by numbers without an end, of which 64 bits are kept at last.
func slowLack(a, b api.Vec) uint64 {
	sum := new(big.Int)
	for _, dev := range devs() {
		if x, y := slow(a, dev), slow(b, dev); y > x {
			sum.Add(sum, new(big.Int).SetUint64(y))
			sum.Sub(sum, new(big.Int).SetUint64(x))
		}
	}
	return sum.Mod(sum, new(big.Int).Lsh(big.NewInt(1), 64)).Uint64()
}

// wantTwo holds the calls of two vectors against what is told device by device.
func wantTwo(t *testing.T, a, b api.Vec) {
	t.Helper()
	keptA, keptB := slices.Clone(a), slices.Clone(b)
	join := each(func(dev uint16) uint64 { return max(slow(a, dev), slow(b, dev)) })
	meet := each(func(dev uint16) uint64 { return min(slow(a, dev), slow(b, dev)) })
	wantVec(t, "Join", Join(a, b), join, a, b)
	wantVec(t, "Meet", Meet(a, b), meet, a, b)
	wantIs(t, "Order", Order(a, b), slowOrder(a, b), a, b)
	wantIs(t, "Lack", Lack(a, b), slowLack(a, b), a, b)
	wantKept(t, a, keptA)
	wantKept(t, b, keptB)
}

// P8.1, P8.2: the chapter's example.
func TestExample(t *testing.T) {
	a, b := row(1, 3, 2, 1), row(2, 4)
	wantVec(t, "Join", Join(a, b), row(1, 3, 2, 4), a, b)
	wantVec(t, "Meet", Meet(a, b), row(2, 1), a, b)
	wantIs(t, "Order", Order(a, b), 2, a, b)
	wantIs(t, "Lack", Lack(a, b), 3, a, b)
	wantIs(t, "Order", Order(b, a), 2, b, a)
	wantIs(t, "Lack", Lack(b, a), 3, b, a)
}

// known are vectors, and what they tell, in order.
func known() [][2]api.Vec {
	return [][2]api.Vec{
		{nil, nil},
		{{}, nil},
		{make(api.Vec, 0, 5), nil},
		{row(1, 1), row(1, 1)},
		{row(1, most), row(1, most)},
		{row(last, 1), row(last, 1)},
		{row(last, most), row(last, most)},
		{row(3, 17), row(3, 17)},
		{row(0, 1), nil},
		{row(1, 0), nil},
		{row(1, above), nil},
		{row(1, huge), nil},
		{row(last, 0), nil},
		{row(last, above), nil},
		{row(last, huge), nil},
		{row(0, 0, 0, 0), nil},
		{row(1, 1, 1, 2, 1, 3, 1, 4), row(1, 4)},
		{row(2, most, 2, 1, 2, most-1), row(2, most)},
		{row(2, most, 2, above, 2, huge), row(2, most)},
		{row(2, 3, 2, 0, 2, above), row(2, 3)},
		{row(5, 9, 5, 9, 5, 9, 5, 9), row(5, 9)},
		{row(5, 9, 2, 1, 5, 9, 2, 1), row(2, 1, 5, 9)},
		{row(1, 1, 2, 2, 3, 3), row(1, 1, 2, 2, 3, 3)},
		{row(1, 9, 2, 5, 3, 1), row(1, 9, 2, 5, 3, 1)},
		{row(1, 1, 255, 2, 256, 3, last, 4), row(1, 1, 255, 2, 256, 3, last, 4)},
		{row(32767, most, 32768, 1, 65534, 7), row(32767, most, 32768, 1, 65534, 7)},
		{row(1, most, 2, most, last, most), row(1, most, 2, most, last, most)},
		{row(1, 2, 2, 2, 1, 3, 2, 1), row(1, 3, 2, 2)},
		{row(0, 5, 1, 2, last, 3), row(1, 2, last, 3)},
		{row(1, 2, 0, 5, last, 3), row(1, 2, last, 3)},
		{row(1, 2, 2, above, last, 3), row(1, 2, last, 3)},
		{row(1, 2, 1, above, 2, 0, last, huge), row(1, 2)},
		{row(0, huge, 1, above, 2, 0), nil},
	}
}

// P8.1, P8.2: vectors written out, in each order of their dots.
func TestKnown(t *testing.T) {
	for _, c := range known() {
		wantOne(t, c[0], c[1])
		for _, v := range aid.Orders(c[0]) {
			wantOne(t, v, c[1])
		}
	}
}

// P8.1: dots that may not be, alone, many times, and all together.
func TestNeverAlone(t *testing.T) {
	wantOne(t, never(), nil)
	for _, d := range never() {
		wantOne(t, api.Vec{d}, nil)
		wantOne(t, api.Vec{d, d, d}, nil)
	}
}

// P8.1: dots that may not be, ahead of, within and behind each vector written out.
func TestNeverAmong(t *testing.T) {
	for _, c := range known() {
		for _, d := range never() {
			for at := 0; at <= len(c[0]); at++ {
				wantOne(t, slices.Insert(slices.Clone(c[0]), at, d), c[1])
			}
		}
		wantOne(t, slices.Concat(never(), c[0], never()), c[1])
	}
}

// P8.1: vectors that are in order, and those that are not by one thing alone.
func TestGood(t *testing.T) {
	for _, v := range []api.Vec{
		nil, {}, row(1, 1), row(1, most), row(last, 1), row(last, most), row(1, 1, 2, 1), row(1, 2, 2, 1), row(1, 1, 2, 2),
		row(1, most, 2, 1), row(1, 1, last, most), row(255, 1, 256, 1), row(32767, 1, 32768, 1), row(1, 5, 3, 4, 9, 3, 20, 2, last, 1),
	} {
		wantIs(t, "Good", Good(v), true, v)
	}
	for _, v := range []api.Vec{
		row(0, 0), row(0, 1), row(0, most), row(1, 0), row(1, above), row(1, huge), row(last, 0), row(last, above),
		row(1, 1, 1, 1), row(1, 1, 1, 2), row(1, 2, 1, 1), row(2, 1, 1, 1), row(2, 1, 1, 2), row(2, 2, 1, 1),
		row(0, 1, 1, 1), row(1, 1, 2, 0), row(1, 0, 2, 1), row(1, 1, 2, above), row(1, above, 2, 1), row(1, 1, last, huge),
		row(256, 1, 255, 1), row(32768, 1, 32767, 1), row(last, 1, 1, 1), row(last, 1, last, 1), row(last, 1, last, 2),
		row(1, 1, 2, 1, 2, 2, 3, 1), row(1, 1, 3, 1, 2, 1, 4, 1), row(1, 1, 2, 0, 3, 1), row(1, 1, 2, 1, 3, 1, 3, 1), row(1, 1, 1, 1, 2, 1),
	} {
		wantIs(t, "Good", Good(v), false, v)
	}
}

// P8.1: a vector in order, turned round, with each two of its dots in each other's places, and with one dot twice.
func TestOutOfOrder(t *testing.T) {
	v := row(1, 9, 2, 8, 3, 7, 9, 6, 256, 5, last, 4)
	wantOne(t, v, v)
	round := slices.Clone(v)
	slices.Reverse(round)
	wantOne(t, round, v)
	for i := range v {
		for j := range i {
			other := slices.Clone(v)
			other[i], other[j] = other[j], other[i]
			wantOne(t, other, v)
		}
		for at := range len(v) + 1 {
			wantOne(t, slices.Insert(slices.Clone(v), at, v[i]), v)
			wantOne(t, slices.Insert(slices.Clone(v), at, of(v[i].Dev, 1)), v)
		}
	}
}

// P8.1: Of devices of which nothing is told, of 0 and of the greatest, written out.
func TestOfKnown(t *testing.T) {
	for _, c := range []struct {
		v    api.Vec
		dev  uint16
		want uint64
	}{
		{nil, 0, 0},
		{nil, 1, 0},
		{nil, last, 0},
		{row(1, 3, 2, 1), 0, 0},
		{row(1, 3, 2, 1), 1, 3},
		{row(1, 3, 2, 1), 2, 1},
		{row(1, 3, 2, 1), 3, 0},
		{row(1, 3, 2, 1), 257, 0},
		{row(1, 3, 2, 1), last, 0},
		{row(0, 7), 0, 0},
		{row(0, most, 1, 2), 0, 0},
		{row(last, 5), last, 5},
		{row(last, 5), last - 1, 0},
		{row(last, most, 1, 1), last, most},
		{row(last, 5, last, above), last, 5},
		{row(last, above, last, 5), last, 5},
		{row(last, huge), last, 0},
		{row(2, 4, 2, 7, 2, 6), 2, 7},
		{row(2, 7, 2, 4, 2, 6), 2, 7},
		{row(2, 6, 2, 4, 2, 7), 2, 7},
		{row(2, 0, 3, 9), 2, 0},
	} {
		wantIs(t, "Of", Of(c.v, c.dev), c.want, c.v, c.dev)
	}
}

// P8.1: Has of dots at, just below and just above what is told, and of those that may not be, written out.
func TestHasKnown(t *testing.T) {
	for _, c := range []struct {
		v    api.Vec
		yes  api.Vec
		nope api.Vec
	}{
		{nil, nil, append(never(), row(1, 1, last, most)...)},
		{row(2, 4), row(2, 1, 2, 2, 2, 3, 2, 4), append(never(), row(1, 1, 2, 5, 2, most, 3, 1, 258, 1)...)},
		{row(1, 1), row(1, 1), append(never(), row(1, 2, 2, 1, last, 1)...)},
		{row(1, most), row(1, 1, 1, most-1, 1, most), append(never(), row(2, 1)...)},
		{row(last, most, 1, 2), row(last, most, last, 1, 1, 1, 1, 2), append(never(), row(1, 3, last-1, 1)...)},
		{row(2, 3, 2, 5, 2, 4), row(2, 1, 2, 4, 2, 5), append(never(), row(2, 6, 1, 1)...)},
		{never(), nil, append(never(), row(1, 1, 2, 1, last, 1, 1, most)...)},
		{append(never(), of(2, 4)), row(2, 1, 2, 4), append(never(), row(1, 1, 2, 5, last, 1)...)},
	} {
		for _, d := range c.yes {
			wantIs(t, "Has", Has(c.v, d), true, c.v, d)
		}
		for _, d := range c.nope {
			wantIs(t, "Has", Has(c.v, d), false, c.v, d)
		}
	}
}

// P8.1: Put of one below, at and above what is told, of a device of which nothing was told, at either end and in the middle, written out.
func TestPutKnown(t *testing.T) {
	for _, c := range []struct {
		v    api.Vec
		d    api.Dot
		want api.Vec
	}{
		{nil, of(1, 1), row(1, 1)},
		{nil, of(last, most), row(last, most)},
		{nil, of(0, 1), nil},
		{nil, of(1, 0), nil},
		{nil, of(1, above), nil},
		{row(2, 4), of(2, 3), row(2, 4)},
		{row(2, 4), of(2, 4), row(2, 4)},
		{row(2, 4), of(2, 5), row(2, 5)},
		{row(2, 4), of(2, 9), row(2, 9)},
		{row(2, 4), of(2, most), row(2, most)},
		{row(2, most), of(2, above), row(2, most)},
		{row(2, 4), of(2, above), row(2, 4)},
		{row(2, 4), of(2, huge), row(2, 4)},
		{row(2, 4), of(2, 0), row(2, 4)},
		{row(2, 4), of(0, 9), row(2, 4)},
		{row(2, 4), of(1, 9), row(1, 9, 2, 4)},
		{row(2, 4), of(3, 1), row(2, 4, 3, 1)},
		{row(2, 4), of(last, 1), row(2, 4, last, 1)},
		{row(2, 4, 9, 1), of(5, 7), row(2, 4, 5, 7, 9, 1)},
		{row(2, 4, 9, 1), of(9, 2), row(2, 4, 9, 2)},
		{row(9, 1, 2, 4), of(5, 7), row(2, 4, 5, 7, 9, 1)},
		{row(9, 1, 2, 4), of(0, 0), row(2, 4, 9, 1)},
		{row(2, 4, 2, 6, 2, 5), of(2, 5), row(2, 6)},
		{row(2, 4, 0, 3, 1, above), of(1, 2), row(1, 2, 2, 4)},
		{row(2, 4, 0, 3, 1, above), of(0, 2), row(2, 4)},
	} {
		wantVec(t, "Put", Put(c.v, c.d), c.want, c.v, c.d)
	}
}

// P8.1: dots put one by one, in each order, come to the vector that tells of them all.
func TestPutEach(t *testing.T) {
	for _, l := range aid.Orders(row(2, 4, 1, 3, 2, 1, last, 2, 0, 7, 2, above)) {
		var v api.Vec
		for i, d := range l {
			v = Put(v, d)
			wantVec(t, "Put", v, Norm(l[:i+1]), l[:i+1])
		}
		wantVec(t, "Put", v, row(1, 3, 2, 4, last, 2), l)
	}
}

// P8.2: pairs written out; the first one's Order and Lack, and those the other way round.
func TestPairsKnown(t *testing.T) {
	for _, c := range []struct {
		a, b, join, meet api.Vec
		order, round     int
		lack, back       uint64
	}{
		{nil, nil, nil, nil, 0, 0, 0, 0},
		{nil, row(0, 5, 1, 0), nil, nil, 0, 0, 0, 0},
		{nil, row(1, 1), row(1, 1), nil, -1, 1, 1, 0},
		{nil, row(1, most), row(1, most), nil, -1, 1, most, 0},
		{row(0, 9), row(last, 7, 1, 2), row(1, 2, last, 7), nil, -1, 1, 9, 0},
		{row(1, 3), row(1, 3), row(1, 3), row(1, 3), 0, 0, 0, 0},
		{row(1, 3, 2, 1), row(2, 1, 1, 2, 1, 3, 0, 8, 2, huge), row(1, 3, 2, 1), row(1, 3, 2, 1), 0, 0, 0, 0},
		{row(1, 3), row(1, 4), row(1, 4), row(1, 3), -1, 1, 1, 0},
		{row(1, 3), row(1, most), row(1, most), row(1, 3), -1, 1, most - 3, 0},
		{row(1, 3, 2, 1), row(1, 3), row(1, 3, 2, 1), row(1, 3), 1, -1, 0, 1},
		{row(1, 3, 2, 5), row(1, 3, 2, 2), row(1, 3, 2, 5), row(1, 3, 2, 2), 1, -1, 0, 3},
		{row(1, 3), row(2, 4), row(1, 3, 2, 4), nil, 2, 2, 4, 3},
		{row(1, 3, 3, 1), row(2, 4, last, 2), row(1, 3, 2, 4, 3, 1, last, 2), nil, 2, 2, 6, 4},
		{row(1, 3, 2, 4), row(1, 4, 2, 3), row(1, 4, 2, 4), row(1, 3, 2, 3), 2, 2, 1, 1},
		{row(1, 9, 2, 4), row(1, 1, 2, 5), row(1, 9, 2, 5), row(1, 1, 2, 4), 2, 2, 1, 8},
		{row(1, most), row(last, most), row(1, most, last, most), nil, 2, 2, most, most},
		{row(2, 4, 2, 9), row(2, 9, 2, 4), row(2, 9), row(2, 9), 0, 0, 0, 0},
		{row(2, 4, 2, 9), row(2, 8), row(2, 9), row(2, 8), 1, -1, 0, 1},
		{row(2, above), row(2, 8), row(2, 8), nil, -1, 1, 8, 0},
		{row(1, 3, 2, above), row(1, 2, 2, most), row(1, 3, 2, most), row(1, 2), 2, 2, most, 1},
		{row(1, most, 2, most), row(1, 1, 2, 1), row(1, most, 2, most), row(1, 1, 2, 1), 1, -1, 0, 2 * (most - 1)},
	} {
		for _, a := range aid.Orders(c.a) {
			for _, b := range aid.Orders(c.b) {
				wantVec(t, "Join", Join(a, b), c.join, a, b)
				wantVec(t, "Join", Join(b, a), c.join, b, a)
				wantVec(t, "Meet", Meet(a, b), c.meet, a, b)
				wantVec(t, "Meet", Meet(b, a), c.meet, b, a)
				wantIs(t, "Order", Order(a, b), c.order, a, b)
				wantIs(t, "Order", Order(b, a), c.round, b, a)
				wantIs(t, "Lack", Lack(a, b), c.lack, a, b)
				wantIs(t, "Lack", Lack(b, a), c.back, b, a)
			}
		}
	}
}

// P8.1, P8.2: all vectors written out, as pairs.
func TestPairsOfKnown(t *testing.T) {
	for _, x := range known() {
		for _, y := range known() {
			wantTwo(t, x[0], y[0])
			wantTwo(t, x[1], y[0])
		}
	}
}

// few are all vectors of up to some dots, each one drawn from a list, in each order and as often as there is room.
func few(list api.Vec, upto int) []api.Vec {
	all := []api.Vec{nil}
	for from := 0; upto > 0; upto-- {
		end := len(all)
		for _, v := range all[from:end] {
			for _, d := range list {
				all = append(all, append(slices.Clone(v), d))
			}
		}
		from = end
	}
	return all
}

// P8.1: all vectors of up to three dots, whose parts are at all edges.
func TestThreeDots(t *testing.T) {
	var list api.Vec
	for _, dev := range []uint16{0, 1, last} {
		for _, n := range []uint64{0, 1, most, above, huge} {
			list = append(list, of(dev, n))
		}
	}
	for _, v := range few(list, 3) {
		wantOne(t, v, each(func(dev uint16) uint64 { return slow(v, dev) }))
	}
}

// P8.2: all pairs of vectors of up to two dots, whose parts are at all edges.
func TestPairsOfTwoDots(t *testing.T) {
	list := few(row(0, 1, 1, 0, 1, 1, 1, 2, 1, most, 1, above, last, 1, last, most-1, last, most, last, huge, 2, 7), 2)
	for _, a := range list {
		for _, b := range list {
			wantTwo(t, a, b)
		}
	}
}

// anyVec is up to some dots of any kind.
func anyVec(g *rand.Rand, upto int) api.Vec {
	nums := []uint64{0, 1, 2, 3, 4, 5, 6, most - 2, most - 1, most, above, above + 1, huge - 1, huge}
	var v api.Vec
	for range g.Intn(upto + 1) {
		n := nums[g.Intn(len(nums))]
		if g.Intn(4) == 0 {
			n = g.Uint64() >> g.Intn(64)
		}
		v = append(v, of(devs()[g.Intn(len(devs()))], n))
	}
	return v
}

// P8.1, P8.2: vectors of many dots, in any order.
func TestManyDots(t *testing.T) {
	g := rand.New(rand.NewSource(1))
	for range 3000 {
		a, b := anyVec(g, 30), anyVec(g, 30)
		wantOne(t, a, each(func(dev uint16) uint64 { return slow(a, dev) }))
		wantTwo(t, a, b)
		wantTwo(t, a, Join(a, b))
		wantTwo(t, Meet(a, b), b)
	}
}

// A set has dots, one by one.
type set map[api.Dot]bool

// dots are those that a vector of low numbers has.
func dots(v api.Vec) set {
	s := set{}
	for _, d := range v {
		for n := d.N; mayBe(d) && n > 0; n-- {
			s[of(d.Dev, n)] = true
		}
	}
	return s
}

// without is how many dots the one has that the other one has not.
func (s set) without(other set) uint64 {
	many := uint64(0)
	for d := range s {
		if !other[d] {
			many++
		}
	}
	return many
}

// P8.1, P8.2: vectors of low numbers, held against sets of their dots.
func TestSets(t *testing.T) {
	var all api.Vec
	for _, dev := range []uint16{0, 1, 2, last} {
		for n := range uint64(6) {
			all = append(all, of(dev, n))
		}
	}
	g := rand.New(rand.NewSource(2))
	drawn := func() api.Vec {
		var v api.Vec
		for range g.Intn(6) {
			v = append(v, all[g.Intn(len(all))])
		}
		return v
	}
	for range 20000 {
		a, b := drawn(), drawn()
		x, y := dots(a), dots(b)
		join, meet := Join(a, b), Meet(a, b)
		for _, d := range all {
			wantIs(t, "Has", Has(a, d), x[d], a, d)
			wantIs(t, "Join, and Has,", Has(join, d), x[d] || y[d], a, b, d)
			wantIs(t, "Meet, and Has,", Has(meet, d), x[d] && y[d], a, b, d)
		}
		lack, back := y.without(x), x.without(y)
		wantIs(t, "Lack", Lack(a, b), lack, a, b)
		wantIs(t, "Lack", Lack(b, a), back, b, a)
		order := map[[2]bool]int{{false, false}: 0, {true, false}: -1, {false, true}: 1, {true, true}: 2}
		wantIs(t, "Order", Order(a, b), order[[2]bool{lack > 0, back > 0}], a, b)
	}
}

// every is a vector of all devices, each with its number, shuffled; what is told of a device 0 of it may not be.
func every(seed int64, tell func(dev uint16) uint64) api.Vec {
	v := make(api.Vec, last+1)
	for i := range v {
		v[i] = of(uint16(i), tell(uint16(i)))
	}
	rand.New(rand.NewSource(seed)).Shuffle(len(v), func(i, j int) { v[i], v[j] = v[j], v[i] })
	return v
}

// always tells one number of each device.
func always(n uint64) func(uint16) uint64 {
	return func(uint16) uint64 { return n }
}

// P8.2: Lack of all devices with all their dots, which is the greatest that there is, and of what the sum of all N handed in goes beyond 64 bits.
func TestLackOfAll(t *testing.T) {
	const all = last * most // 2^64 less 2^48, less 2^16, and 1
	full := every(3, always(most))
	ones := every(4, always(1))
	less := every(5, always(most-1))
	twice := slices.Concat(full, less, full, ones)
	for _, c := range []struct {
		a, b api.Vec
		want uint64
	}{
		{nil, full, all},
		{never(), full, all},
		{nil, twice, all},
		{ones, twice, all - last},
		{ones, full, all - last},
		{less, full, last},
		{less, twice, last},
		{nil, less, all - last},
		{row(1, most), full, all - most},
		{row(1, 1, last, most-1), full, all - most},
		{full, full, 0},
		{twice, full, 0},
		{full, twice, 0},
		{full, nil, 0},
		{full, every(6, always(above)), 0},
		{nil, every(6, always(above)), 0},
		{nil, every(6, always(huge)), 0},
	} {
		if got := Lack(c.a, c.b); got != c.want {
			t.Errorf("Lack of %d and %d dots = %d, want %d", len(c.a), len(c.b), got, c.want)
		}
	}
}

// P8.1, P8.2: vectors of all devices, shuffled.
func TestAllDevices(t *testing.T) {
	up := func(dev uint16) uint64 { return uint64(dev) }
	down := func(dev uint16) uint64 { return uint64(last-dev) + 1 }
	a, b := every(7, up), every(8, down)
	join, meet := make(api.Vec, last), make(api.Vec, last)
	lack := uint64(0)
	for i := range join {
		dev := uint16(i + 1)
		x, y := up(dev), down(dev)
		join[i], meet[i] = of(dev, max(x, y)), of(dev, min(x, y))
		lack += max(x, y) - x
		if Of(a[:300], dev) != slow(a[:300], dev) {
			t.Errorf("Of %d = %d", dev, Of(a[:300], dev))
		}
	}
	if got := Join(a, b); !slices.Equal(got, join) || !Good(got) {
		t.Error("Join of all devices")
	}
	if got := Meet(a, b); !slices.Equal(got, meet) || !Good(got) {
		t.Error("Meet of all devices")
	}
	if got := Norm(slices.Concat(meet, join)); !slices.Equal(got, join) {
		t.Error("Norm of all devices")
	}
	if Good(a) || !Good(Norm(a)) || Order(a, Norm(a)) != 0 {
		t.Error("Good of all devices")
	}
	if Lack(a, b) != lack || Lack(a, join) != lack || Lack(meet, a) != lack {
		t.Errorf("Lack of all devices = %d, %d and %d, want %d", Lack(a, b), Lack(a, join), Lack(meet, a), lack)
	}
	if Order(a, b) != 2 || Order(a, join) != -1 || Order(join, b) != 1 || Order(meet, a) != -1 {
		t.Error("Order of all devices")
	}
}

// P8.1, P8.2: what is answered does not hang on the order in which a map is gone over.
func TestAgain(t *testing.T) {
	a, b := row(1, 3, 2, 1, 3, 9, 4, 2, 5, 5, 9, 1, 255, 4), row(2, 4, 3, 8, 5, 5, 7, 1, 9, 2, last, 3)
	for range 2000 {
		wantTwo(t, a, b)
		wantTwo(t, b, a)
	}
}

// scrawl writes into all of a list, the room behind it, too.
func scrawl(v api.Vec) {
	v = v[:cap(v)]
	for i := range v {
		v[i] = of(77, 78)
	}
}

// wantOwn holds that a call's answer shares nothing with its two vectors, nor with another answer, and leaves the room behind the vectors.
func wantOwn(t *testing.T, what string, call func(a, b api.Vec) api.Vec, a, b api.Vec) {
	t.Helper()
	roomA, roomB := append(slices.Clone(a), never()...), append(slices.Clone(b), never()...)
	keptA, keptB := slices.Clone(roomA), slices.Clone(roomB)
	x, y := roomA[:len(a)], roomB[:len(b)]
	first, second := call(x, y), call(x, y)
	want := slices.Clone(second)
	scrawl(first)
	wantKept(t, roomA, keptA)
	wantKept(t, roomB, keptB)
	if !slices.Equal(second, want) {
		t.Errorf("%s: what is written into an answer turned another one", what)
	}
	if !slices.Equal(call(x, y), want) {
		t.Errorf("%s: what is written into an answer turned a later one", what)
	}
	scrawl(roomA)
	scrawl(roomB)
	if !slices.Equal(second, want) {
		t.Errorf("%s: what is written into %v and %v turned the answer into %v, want %v", what, keptA, keptB, second, want)
	}
}

// P8.1, P8.2, rule 4: no answer shares anything with what came in, nor with another answer.
func TestShares(t *testing.T) {
	var lists []api.Vec
	for _, c := range known() {
		lists = append(lists, c[0])
	}
	for _, a := range lists {
		for _, b := range lists {
			wantOwn(t, "Join", Join, a, b)
			wantOwn(t, "Meet", Meet, a, b)
		}
		wantOwn(t, "Norm", func(x, _ api.Vec) api.Vec { return Norm(x) }, a, nil)
		for _, d := range append(never(), row(1, 1, 2, 4, last, most)...) {
			wantOwn(t, "Put", func(x, _ api.Vec) api.Vec { return Put(x, d) }, a, nil)
		}
	}
}

// P8.1, P8.2, rule 4: one list on both sides, whole or in part, is like two of their own.
func TestOneListTwice(t *testing.T) {
	g := rand.New(rand.NewSource(9))
	for range 2000 {
		v := anyVec(g, 12)
		from, to := g.Intn(len(v)+1), g.Intn(len(v)+1)
		wantTwo(t, v, v)
		wantTwo(t, v[from:], v[:to])
		scrawl(Join(v[from:], v[:to]))
		wantTwo(t, v[:to], v)
	}
}
