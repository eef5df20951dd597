package dcode

import (
	"bytes"
	"math"
	"math/rand"
	"runtime"
	"slices"
	"testing"

	"epitaph/aid"
	"epitaph/api"
	"epitaph/coded"
	"epitaph/pack"
)

const (
	most  = aid.Most
	above = aid.Above
	huge  = aid.Huge
	last  = aid.Last
)

// What stands in the tests in short.
var (
	of, dots, row, partOf      = aid.Dot, aid.Dots, aid.Runs, aid.Part
	copied, alike, ordered     = aid.Copied, aid.Alike, aid.InOrder
	mayBe, never, before, told = aid.MayBe, aid.Never, aid.Ahead, aid.Told
	rising                     = aid.Rising
	inOrder, notInOrder        = aid.Straight, aid.Crooked
	spoilCtx                   = aid.SpoilCtx
	nums, dotBytes             = aid.Nums, aid.DotBytes
	listBytes, ctxBytes        = aid.DotsBytes, aid.CtxBytes
	written                    = coded.Written
)

// sameDot holds Dot against the chapter's words on these bytes.
func sameDot(t *testing.T, b []byte) {
	t.Helper()
	a, r := &aid.Reader{Rest: b}, pack.New(b)
	want, got := a.Dot(), Dot(r)
	if got != want || r.Err() != a.Err || r.Left() != len(a.Rest) {
		t.Fatalf("Dot of %v: %s, %d, left %d, want %s, %d, left %d", b, told(got), r.Err(), r.Left(), told(want), a.Err, len(a.Rest))
	}
}

// sameDots holds Dots against the chapter's words on these bytes.
func sameDots(t *testing.T, b []byte, most int) {
	t.Helper()
	a, r := &aid.Reader{Rest: b}, pack.New(b)
	want, got := a.Dots(most), Dots(r, most)
	if !slices.Equal(got, want) || r.Err() != a.Err || r.Left() != len(a.Rest) {
		t.Fatalf("Dots of %.80v with most %d: %.9v, %d, left %d, want %.9v, %d, left %d",
			b, most, got, r.Err(), r.Left(), want, a.Err, len(a.Rest))
	}
}

// sameCtx holds Ctx and Decode against the chapter's words on these bytes.
func sameCtx(t *testing.T, b []byte) {
	t.Helper()
	a, r := &aid.Reader{Rest: b}, pack.New(b)
	want, got := a.Ctx(), Ctx(r)
	if !alike(got, want) || r.Err() != a.Err || r.Left() != len(a.Rest) {
		t.Fatalf("Ctx of %.80v: %.9v, %d, left %d, want %.9v, %d, left %d", b, got, r.Err(), r.Left(), want, a.Err, len(a.Rest))
	}
	if a.Err == api.OK && len(a.Rest) > 0 {
		a.Fail(api.ErrForm)
		want = nil
	}
	if got, errno := Decode(b); !alike(got, want) || errno != a.Err {
		t.Fatalf("Decode of %.80v: %.9v, %d, want %.9v, %d", b, got, errno, want, a.Err)
	}
}

// all holds all three against the chapter's words on these bytes.
func all(t *testing.T, b []byte) {
	t.Helper()
	sameDot(t, b)
	for _, most := range []int{math.MinInt, -1, 0, 1, 2, 3, math.MaxInt} {
		sameDots(t, b, most)
	}
	sameCtx(t, b)
}

// devs are numbers for a device, at both sides of each edge.
func devs() []uint64 {
	return []uint64{0, 1, 2, 127, 128, 255, 256, 257, 32767, 32768, last - 1, last, last + 1, last + 2, 1 << 17, 1<<17 + 1,
		1<<24 + 1, 1<<32 + 1, most, 1<<48 + 1, 1<<63 + 1, huge - 1, huge}
}

// counts are numbers for a dot's, at both sides of each edge.
func counts() []uint64 {
	list := []uint64{0, 1, 2, 127, 128, most - 1, most, above, above + 1, 1 << 63, huge - 1, huge}
	for i := 1; i < 8; i++ {
		edge := uint64(1) << (8 * i)
		list = append(list, edge-1, edge, edge+1)
	}
	return list
}

// edges are dots that may be at the edges of both parts.
func edges() []api.Dot {
	list := []api.Dot{}
	for _, dev := range []uint16{1, 2, 255, 256, last - 1, last} {
		for _, n := range []uint64{1, 2, 255, 256, 65535, 65536, most - 1, most} {
			list = append(list, of(dev, n))
		}
	}
	return list
}

// P15.1: Dev and N, each as a number, of dots that may be and of those that may not, behind nothing and behind something.
func TestPutDot(t *testing.T) {
	for _, d := range slices.Concat(edges(), never()) {
		want := nums(uint64(d.Dev), d.N)
		if got := written(func(w *pack.Writer) { PutDot(w, d) }); !bytes.Equal(got, want) {
			t.Errorf("PutDot of %s: %v, want %v", told(d), got, want)
		}
		got := written(func(w *pack.Writer) { w.Text("ab"); PutDot(w, d); PutDot(w, d); w.Byte(7) })
		if want := slices.Concat([]byte{1, 2, 'a', 'b'}, want, want, []byte{7}); !bytes.Equal(got, want) {
			t.Errorf("PutDot of %s behind others: %v, want %v", told(d), got, want)
		}
	}
}

// P15.1: the bytes of some dots, written out.
func TestPutDotWrittenOut(t *testing.T) {
	list := []struct {
		d api.Dot
		b []byte
	}{
		{of(1, 1), []byte{1, 1, 1, 1}},
		{of(3, 17), []byte{1, 3, 1, 17}},
		{of(258, 65536), []byte{2, 1, 2, 3, 1, 0, 0}},
		{of(last, most), []byte{2, 255, 255, 6, 255, 255, 255, 255, 255, 255}},
		{of(0, 0), []byte{0, 0}},
		{of(0, 5), []byte{0, 1, 5}},
		{of(5, 0), []byte{1, 5, 0}},
		{of(1, above), []byte{1, 1, 7, 1, 0, 0, 0, 0, 0, 0}},
		{of(1, huge), []byte{1, 1, 8, 255, 255, 255, 255, 255, 255, 255, 255}},
	}
	for _, x := range list {
		if got := written(func(w *pack.Writer) { PutDot(w, x.d) }); !bytes.Equal(got, x.b) {
			t.Errorf("PutDot of %s: %v, want %v", told(x.d), got, x.b)
		}
		r := pack.New(x.b)
		got := Dot(r)
		if mayBe(x.d) && (got != x.d || r.End() != api.OK) {
			t.Errorf("Dot of %v: %s, %d", x.b, told(got), r.Err())
		}
		if !mayBe(x.d) && (got != api.Dot{} || r.Err() != api.ErrForm) {
			t.Errorf("Dot of %v: %s, %d, want none", x.b, told(got), r.Err())
		}
	}
}

// P15.1: all pairs of numbers at the edges: a dot if it may be, else ErrForm and nothing; what stands behind is not read.
func TestDot(t *testing.T) {
	for _, dev := range devs() {
		for _, n := range counts() {
			b := nums(dev, n, 9)
			r := pack.New(b)
			got := Dot(r)
			if dev > last || !mayBe(of(uint16(dev), n)) {
				if (got != api.Dot{} || r.Err() != api.ErrForm || r.Left() != 0 || r.Num() != 0) {
					t.Errorf("Dot of %d and %d: %s, %d", dev, n, told(got), r.Err())
				}
			} else if got != of(uint16(dev), n) || r.Err() != api.OK || r.Left() != 2 || r.Num() != 9 || r.End() != api.OK {
				t.Errorf("Dot of %d and %d: %s, %d", dev, n, told(got), r.Err())
			}
			sameDot(t, b)
		}
	}
}

// P15.1: each device by itself, with the least number and the greatest one.
func TestDotOfAllDevices(t *testing.T) {
	for dev := 1; dev <= last; dev++ {
		for _, n := range []uint64{1, most} {
			d := of(uint16(dev), n)
			r := pack.New(written(func(w *pack.Writer) { PutDot(w, d) }))
			if got := Dot(r); got != d || r.End() != api.OK {
				t.Fatalf("%s is read as %s, %d", told(d), told(got), r.Err())
			}
		}
	}
}

// P15.1: bytes that end within either number, or ahead of it.
func TestDotEndsEarly(t *testing.T) {
	for _, d := range edges() {
		b := dotBytes(d)
		for i := range b {
			r := pack.New(b[:i])
			if got := Dot(r); (got != api.Dot{}) || r.Err() != api.ErrShort {
				t.Errorf("Dot of %v: %s, %d, want ErrShort", b[:i], told(got), r.Err())
			}
			sameDot(t, b[:i])
		}
	}
}

// P15.1: which error comes first: of Dev's number, of its size, of N's number, and then of the dot.
func TestDotErrorsInOrder(t *testing.T) {
	list := []struct {
		b []byte
		e api.Errno
	}{
		{nil, api.ErrShort},
		{[]byte{9}, api.ErrForm},
		{[]byte{1}, api.ErrShort},
		{[]byte{2, 1}, api.ErrShort},
		{[]byte{2, 0}, api.ErrForm},
		{[]byte{1, 0, 1, 1}, api.ErrForm},
		{[]byte{2, 0, 1, 1, 1}, api.ErrForm},
		{nums(last), api.ErrShort},
		{nums(last + 1), api.ErrForm},
		{nums(huge), api.ErrForm},
		{slices.Concat(nums(last+1), []byte{1}), api.ErrForm},
		{slices.Concat(nums(last+1), []byte{8, 1}), api.ErrForm},
		{[]byte{3, 1, 0}, api.ErrShort},
		{nums(0), api.ErrShort},
		{[]byte{0, 1}, api.ErrShort},
		{[]byte{0, 7, 1}, api.ErrShort},
		{[]byte{0, 9}, api.ErrForm},
		{[]byte{1, 1, 9}, api.ErrForm},
		{[]byte{1, 1, 1, 0}, api.ErrForm},
		{[]byte{1, 1, 7, 1, 0}, api.ErrShort},
		{[]byte{1, 1, 8, 0}, api.ErrForm},
		{nums(0, 0), api.ErrForm},
		{nums(1, above), api.ErrForm},
	}
	for _, x := range list {
		r := pack.New(x.b)
		if got := Dot(r); (got != api.Dot{}) || r.Err() != x.e || r.Left() != 0 {
			t.Errorf("Dot of %v: %s, %d, want %d", x.b, told(got), r.Err(), x.e)
		}
	}
}

// P15.1 to P15.3: all short bytes out of a few.
func TestAllShortBytes(t *testing.T) {
	aid.Lists([]byte{0, 1, 2, 9}, 7, func(b []byte) { all(t, b) })
	aid.Lists([]byte{1, 2}, 11, func(b []byte) { all(t, b) })
}

// P15.1 to P15.3: all short rows of numbers out of a few.
func TestAllShortRowsOfNumbers(t *testing.T) {
	aid.Lists([]uint64{0, 1, 2, 3}, 6, func(l []uint64) { all(t, nums(l...)) })
	aid.Lists([]uint64{1, 2}, 11, func(l []uint64) { all(t, nums(l...)) })
	aid.Lists([]uint64{0, 1, 2, last, last + 1, most, above, huge}, 5, func(l []uint64) {
		all(t, nums(l...))
	})
}

// P15.2: of lists of up to four out of a few: those that may be, rising, each once.
func TestPutDotsOfAllShortLists(t *testing.T) {
	few := dots(1, 1, 1, 2, 2, 1, 1, 256, 256, 1, 0, 1, 1, 0, last, most)
	aid.Lists(few, 4, func(l []api.Dot) {
		want := listBytes(rising(l))
		kept := slices.Clone(l)
		if got := written(func(w *pack.Writer) { PutDots(w, l) }); !bytes.Equal(got, want) {
			t.Fatalf("PutDots of %v: %v, want %v", l, got, want)
		}
		if !slices.Equal(l, kept) {
			t.Fatalf("PutDots turned %v into %v", kept, l)
		}
	})
}

// P15.2: nothing, one dot, dots that rise, fall, come twice, and of which some or all may not be, written out.
func TestPutDotsWrittenOut(t *testing.T) {
	list := []struct {
		l []api.Dot
		b []byte
	}{
		{nil, []byte{0}},
		{[]api.Dot{}, []byte{0}},
		{dots(3, 17), []byte{1, 1, 1, 3, 1, 17}},
		{dots(1, 1, 1, 2), []byte{1, 2, 1, 1, 1, 1, 1, 1, 1, 2}},
		{dots(1, 2, 1, 1), []byte{1, 2, 1, 1, 1, 1, 1, 1, 1, 2}},
		{dots(2, 1, 1, 9, 2, 1), []byte{1, 2, 1, 1, 1, 9, 1, 2, 1, 1}},
		{dots(1, 1, 1, 1, 1, 1), []byte{1, 1, 1, 1, 1, 1}},
		{dots(0, 1, 2, 1, 1, 0), []byte{1, 1, 1, 2, 1, 1}},
		{dots(last, most, 1, above, 1, 1), []byte{1, 2, 1, 1, 1, 1, 2, 255, 255, 6, 255, 255, 255, 255, 255, 255}},
		{never(), []byte{0}},
		{dots(0, 0), []byte{0}},
	}
	for _, x := range list {
		if got := written(func(w *pack.Writer) { PutDots(w, x.l) }); !bytes.Equal(got, x.b) {
			t.Errorf("PutDots of %v: %v, want %v", x.l, got, x.b)
		}
		got := written(func(w *pack.Writer) { w.Byte(9); PutDots(w, x.l); PutDots(w, x.l) })
		if want := slices.Concat([]byte{9}, x.b, x.b); !bytes.Equal(got, want) {
			t.Errorf("PutDots of %v behind others: %v, want %v", x.l, got, want)
		}
	}
}

// P15.2: a dot that may not be is left out at each place of a list, and those that may be stay.
func TestPutDotsLeavesOut(t *testing.T) {
	good := edges()
	want := listBytes(good)
	for _, d := range never() {
		for i := 0; i <= len(good); i++ {
			l := slices.Insert(slices.Clone(good), i, d)
			if got := written(func(w *pack.Writer) { PutDots(w, l) }); !bytes.Equal(got, want) {
				t.Fatalf("with %s at %d: %v", told(d), i, got)
			}
		}
	}
}

// P15.2 and P15.4: lists in any order are written in one form, and read in order.
func TestDotsShuffled(t *testing.T) {
	rnd := rand.New(rand.NewSource(15))
	good := edges()
	want := listBytes(good)
	for range 300 {
		l := slices.Concat(good, good[rnd.Intn(len(good)):], never())
		rnd.Shuffle(len(l), func(i, j int) { l[i], l[j] = l[j], l[i] })
		b := written(func(w *pack.Writer) { PutDots(w, l) })
		if !bytes.Equal(b, want) {
			t.Fatalf("PutDots of %v: %v", l, b)
		}
		r := pack.New(b)
		if got := Dots(r, len(good)); !slices.Equal(got, good) || r.End() != api.OK {
			t.Fatalf("Dots: %v, %d", got, r.Err())
		}
	}
}

// P15.2: how many there may be: below 0 as 0, just so many, one less, one more, and very great.
func TestDotsMost(t *testing.T) {
	for n := 0; n <= 48; n++ {
		l := edges()[:n]
		b := slices.Concat(listBytes(l), []byte{77})
		for _, most := range []int{math.MinInt, math.MinInt + 1, -n - 1, -n, -1, 0, 1, n - 2, n - 1, n, n + 1, 2*n + 1, 256, 1 << 32, math.MaxInt - 1, math.MaxInt} {
			r := pack.New(b)
			got := Dots(r, most)
			if n > max(most, 0) {
				if len(got) != 0 || r.Err() != api.ErrLong || r.Left() != 0 {
					t.Errorf("%d dots with most %d: %v, %d, want ErrLong", n, most, got, r.Err())
				}
				continue
			}
			if !slices.Equal(got, l) || r.Err() != api.OK || r.Left() != 1 || r.Byte() != 77 {
				t.Errorf("%d dots with most %d: %v, %d", n, most, got, r.Err())
			}
		}
	}
}

// P15.2: a count far above what stands there is too long, or the bytes are too short; that is asked ahead of the dots.
func TestDotsCountAbove(t *testing.T) {
	bodies := [][]byte{nil, dotBytes(of(1, 1)), slices.Concat(dotBytes(of(1, 1)), dotBytes(of(1, 2))), nums(0, 0), nums(last + 1), {9}}
	for _, n := range []uint64{3, 255, 65536, 1 << 31, 1 << 32, 1<<63 - 1, 1 << 63, 1<<63 + 1, huge - 1, huge} {
		for i, body := range bodies {
			b := slices.Concat(nums(n), body)
			for _, most := range []int{math.MinInt, -1, 0, 1, 2, 254, 65535, 1<<31 - 1, 1 << 31, math.MaxInt - 1, math.MaxInt} {
				r := pack.New(b)
				got := Dots(r, most)
				want := api.ErrShort
				switch {
				case most < 0 || n > uint64(most):
					want = api.ErrLong
				case i > 2:
					want = api.ErrForm
				}
				if len(got) != 0 || r.Err() != want || r.Left() != 0 {
					t.Errorf("count %d, bytes %v, most %d: %v, %d, want %d", n, body, most, got, r.Err(), want)
				}
				sameDots(t, b, most)
			}
		}
	}
}

// P15.2 and P15.3: no room is made for what a count tells, but for what stands there.
func TestCountMakesNoRoom(t *testing.T) {
	const count, room = 1 << 24, 1 << 20
	lists := [][]byte{
		slices.Concat(nums(count), dotBytes(of(1, 1))),
		slices.Concat(nums(count, 1, 1, 1, 1)),
		slices.Concat(nums(1, 1, count, 1, 1)),
	}
	for _, b := range lists {
		var ahead, behind runtime.MemStats
		runtime.ReadMemStats(&ahead)
		Dots(pack.New(b), math.MaxInt)
		Ctx(pack.New(b))
		runtime.ReadMemStats(&behind)
		if used := behind.TotalAlloc - ahead.TotalAlloc; used > room {
			t.Errorf("of %v: %d bytes are used", b, used)
		}
	}
}

// P15.2: dots that fall, that come twice, or may not be, at each place of a list: ErrForm, and nothing is told.
func TestDotsFaultAtEachPlace(t *testing.T) {
	good := edges()
	for n := 1; n <= 12; n++ {
		for i := 0; i < n; i++ {
			var faults []api.Dot
			faults = append(faults, never()...)
			if i > 0 {
				p := good[i-1]
				faults = append(faults, p, good[0], of(p.Dev, p.N-1), of(p.Dev-1, most))
			}
			for _, d := range faults {
				l := slices.Clone(good[:n])
				l[i] = d
				oneFault(t, l, i)
			}
		}
	}
}

// oneFault asks for ErrForm of a list with a fault at one place; what stands behind that place plays no part.
func oneFault(t *testing.T, l []api.Dot, at int) {
	t.Helper()
	b := listBytes(l)
	upto := len(b) - len(listBytes(l[at+1:])) + len(nums(uint64(len(l)-at-1)))
	for _, x := range [][]byte{b, b[:upto], slices.Concat(b[:upto], []byte{9}), slices.Concat(b, []byte{1})} {
		r := pack.New(x)
		if got := Dots(r, len(l)); len(got) != 0 || r.Err() != api.ErrForm || r.Left() != 0 {
			t.Fatalf("Dots of %v: %v, %d, want ErrForm", l, got, r.Err())
		}
		sameDots(t, x, len(l))
	}
	// Ahead of the fault's end the bytes are short, if its number itself is none that is refused.
	for i := range upto {
		sameDots(t, b[:i], len(l))
	}
}

// P15.2: bytes that end at each place.
func TestDotsEndEarly(t *testing.T) {
	b := listBytes(edges())
	for i := range b {
		r := pack.New(b[:i])
		if got := Dots(r, 48); len(got) != 0 || r.Err() != api.ErrShort || r.Left() != 0 {
			t.Errorf("Dots of %d bytes: %v, %d, want ErrShort", i, got, r.Err())
		}
	}
}

// P15.2: neighbours that are each only a little behind one another, and those that are not.
func TestDotsNeighbours(t *testing.T) {
	list := slices.Concat(edges(), never())
	for _, a := range list {
		for _, b := range list {
			r := pack.New(listBytes([]api.Dot{a, b}))
			got := Dots(r, 2)
			if mayBe(a) && mayBe(b) && before(a, b) {
				if !slices.Equal(got, []api.Dot{a, b}) || r.End() != api.OK {
					t.Errorf("Dots of %s and %s: %v, %d", told(a), told(b), got, r.Err())
				}
			} else if len(got) != 0 || r.Err() != api.ErrForm {
				t.Errorf("Dots of %s and %s: %v, %d, want ErrForm", told(a), told(b), got, r.Err())
			}
		}
	}
}

// P15.2: very many dots, more than a count of one byte, and of two.
func TestManyDots(t *testing.T) {
	for _, n := range []int{255, 256, 257, 65535, 65536, 65537, 100000} {
		l := make([]api.Dot, n)
		for i := range l {
			l[i] = of(uint16(1+i/1000), uint64(1+i%1000)*281474976)
		}
		want := listBytes(l)
		back := slices.Clone(l)
		slices.Reverse(back)
		if got := written(func(w *pack.Writer) { PutDots(w, back) }); !bytes.Equal(got, want) {
			t.Fatalf("PutDots of %d dots", n)
		}
		r := pack.New(want)
		if got := Dots(r, n); !slices.Equal(got, l) || r.End() != api.OK {
			t.Errorf("Dots of %d dots: %d, %d", n, len(got), r.Err())
		}
		r = pack.New(want)
		if got := Dots(r, n-1); len(got) != 0 || r.Err() != api.ErrLong {
			t.Errorf("Dots of %d dots with one less: %d, %d", n, len(got), r.Err())
		}
	}
}

// P15.3: the chapter's example.
func TestExample(t *testing.T) {
	c := api.Ctx{partOf(1, 1, 2)}
	b := []byte{1, 1, 1, 1, 1, 1, 1, 1, 1, 2}
	if got := Encode(c); !bytes.Equal(got, b) {
		t.Errorf("Encode: %v", got)
	}
	if got := written(func(w *pack.Writer) { PutCtx(w, c) }); !bytes.Equal(got, b) {
		t.Errorf("PutCtx: %v", got)
	}
	if got, errno := Decode(b); !alike(got, c) || errno != api.OK {
		t.Errorf("Decode: %v, %d", got, errno)
	}
	r := pack.New(b)
	if got := Ctx(r); !alike(got, c) || r.End() != api.OK {
		t.Errorf("Ctx: %v, %d", got, r.Err())
	}
	if !bytes.Equal(b, nums(1, 1, 1, 1, 2)) {
		t.Error("the numbers of the example")
	}
}

// P15.3 and P15.4: contexts in order are written as they stand, and read again; those that are not, as the one in order.
func TestCtx(t *testing.T) {
	for _, c := range inOrder() {
		oneForm(t, c, c)
	}
	for _, x := range notInOrder() {
		oneForm(t, x[0], x[1])
	}
}

// oneForm asks that a context is written as the one in order is, and read so.
func oneForm(t *testing.T, c, want api.Ctx) {
	t.Helper()
	b := ctxBytes(want)
	kept := copied(c)
	if got := Encode(c); !bytes.Equal(got, b) {
		t.Fatalf("Encode of %v: %v, want %v", c, got, b)
	}
	got := written(func(w *pack.Writer) { w.Byte(5); PutCtx(w, c); PutCtx(w, c) })
	if !bytes.Equal(got, slices.Concat([]byte{5}, b, b)) {
		t.Fatalf("PutCtx of %v: %v, want 5 and %v twice", c, got, b)
	}
	if !alike(c, kept) {
		t.Fatalf("%v was turned into %v", kept, c)
	}
	r := pack.New(got)
	r.Byte()
	one, two := Ctx(r), Ctx(r)
	if !alike(one, want) || !alike(two, want) || r.End() != api.OK {
		t.Fatalf("Ctx of %v twice: %v, %v, %d", b, one, two, r.Err())
	}
	if got, errno := Decode(b); !alike(got, want) || errno != api.OK {
		t.Fatalf("Decode of %v: %v, %d", b, got, errno)
	}
}

// P15.3: what is not in order is not read.
func TestCtxNotInOrder(t *testing.T) {
	for _, x := range notInOrder() {
		b := ctxBytes(x[0])
		r := pack.New(b)
		if got := Ctx(r); len(got) != 0 || r.Err() != api.ErrForm || r.Left() != 0 {
			t.Errorf("Ctx of %v: %v, %d, want ErrForm", x[0], got, r.Err())
		}
		if got, errno := Decode(b); len(got) != 0 || errno != api.ErrForm {
			t.Errorf("Decode of %v: %v, %d, want ErrForm", x[0], got, errno)
		}
		sameCtx(t, b)
	}
}

// P15.3: order is asked at the end: where the bytes end within what is not in order, that is told.
func TestCtxOrderAtTheEnd(t *testing.T) {
	for _, x := range notInOrder() {
		b := ctxBytes(x[0])
		for i := range b {
			if got, errno := Decode(b[:i]); len(got) != 0 || errno != api.ErrShort {
				t.Errorf("Decode of %d bytes of %v: %v, %d, want ErrShort", i, x[0], got, errno)
			}
			sameCtx(t, b[:i])
		}
		more := slices.Concat(nums(uint64(len(x[0])+1)), b[len(nums(uint64(len(x[0])))):])
		if got, errno := Decode(more); len(got) != 0 || errno != api.ErrShort {
			t.Errorf("Decode of %v and a part that lacks: %v, %d, want ErrShort", x[0], got, errno)
		}
		if got, errno := Decode(slices.Concat(more, []byte{0, 1, 1})); len(got) != 0 || errno != api.ErrShort {
			t.Errorf("Decode of %v and a part that ends: %v, %d, want ErrShort", x[0], got, errno)
		}
		// A device above all is refused as it comes, ahead of the bytes that lack behind it.
		if got, errno := Decode(slices.Concat(more, nums(last+1))); len(got) != 0 || errno != api.ErrForm {
			t.Errorf("Decode of %v and a device above all: %v, %d, want ErrForm", x[0], got, errno)
		}
	}
}

// P15.3: bytes that end at each place, and bytes behind.
func TestCtxMoreAndLess(t *testing.T) {
	for _, c := range inOrder() {
		b := ctxBytes(c)
		for i := range b {
			r := pack.New(b[:i])
			if got := Ctx(r); len(got) != 0 || r.Err() != api.ErrShort || r.Left() != 0 {
				t.Errorf("Ctx of %d bytes of %v: %v, %d, want ErrShort", i, c, got, r.Err())
			}
			if got, errno := Decode(b[:i]); len(got) != 0 || errno != api.ErrShort {
				t.Errorf("Decode of %d bytes of %v: %v, %d, want ErrShort", i, c, got, errno)
			}
		}
		for i := range 256 {
			more := slices.Concat(b, []byte{byte(i)})
			if got, errno := Decode(more); len(got) != 0 || errno != api.ErrForm {
				t.Errorf("Decode of %v and %d: %v, %d, want ErrForm", c, i, got, errno)
			}
			r := pack.New(more)
			if got := Ctx(r); !alike(got, c) || r.Err() != api.OK || r.Left() != 1 || r.Byte() != byte(i) {
				t.Errorf("Ctx of %v and %d: %v, %d", c, i, got, r.Err())
			}
		}
	}
	for _, b := range [][]byte{nil, {}} {
		if got, errno := Decode(b); len(got) != 0 || errno != api.ErrShort {
			t.Errorf("Decode of nothing: %v, %d, want ErrShort", got, errno)
		}
	}
}

// P15.3: each number for a device: 0 to MaxDev are read on, those above refused at once, first, in the midst and last.
func TestCtxDevices(t *testing.T) {
	for _, dev := range devs() {
		lists := [][]byte{
			nums(1, dev, 1, 1, 1),
			nums(2, dev, 1, 1, 1, last, 1, 2, 2),
			nums(2, 1, 1, 1, 1, dev, 1, 1, 1),
			nums(3, 1, 1, 1, 1, dev, 1, 1, 1, last, 1, 1, 1),
		}
		for _, b := range lists {
			sameCtx(t, b)
			for i := range b {
				sameCtx(t, b[:i])
			}
		}
		got, errno := Decode(nums(1, dev, 1, 1, 1))
		if dev >= 1 && dev <= last {
			if !alike(got, api.Ctx{partOf(uint16(dev), 1, 1)}) || errno != api.OK {
				t.Errorf("device %d: %v, %d", dev, got, errno)
			}
		} else if len(got) != 0 || errno != api.ErrForm {
			t.Errorf("device %d: %v, %d, want ErrForm", dev, got, errno)
		}
		got, errno = Decode(nums(1, dev))
		want := api.ErrShort
		if dev > last {
			want = api.ErrForm
		}
		if len(got) != 0 || errno != want {
			t.Errorf("device %d and nothing behind: %v, %d, want %d", dev, got, errno, want)
		}
	}
}

// P15.3: all pairs of numbers for a run at the edges.
func TestCtxRuns(t *testing.T) {
	for _, lo := range counts() {
		for _, hi := range counts() {
			c := api.Ctx{partOf(7, lo, hi)}
			got, errno := Decode(ctxBytes(c))
			if lo >= 1 && lo <= hi && hi <= most {
				if !alike(got, c) || errno != api.OK {
					t.Errorf("%d to %d: %v, %d", lo, hi, got, errno)
				}
				oneForm(t, c, c)
				continue
			}
			if len(got) != 0 || errno != api.ErrForm {
				t.Errorf("%d to %d: %v, %d, want ErrForm", lo, hi, got, errno)
			}
			oneForm(t, c, nil)
		}
	}
}

// P15.3: counts of parts, and of runs, far above what stands there.
func TestCtxCountsAbove(t *testing.T) {
	for _, n := range []uint64{2, 3, 255, 65536, 1 << 31, 1 << 32, 1 << 63, 1<<63 + 1, huge - 1, huge} {
		lists := [][]byte{
			nums(n),
			nums(n, 1, 1, 1, 1),
			nums(n, 0, 1, 0, 0),
			nums(n, 1, 0),
			nums(1, 1, n),
			nums(1, 1, n, 1, 1),
			nums(1, 1, n, 0, 0),
			nums(2, 1, n, 1, 1),
			nums(n, 1, n, 1, 1),
			nums(2, 1, 1, 1, 1, 2, n, 1),
		}
		for _, b := range lists {
			r := pack.New(b)
			if got := Ctx(r); len(got) != 0 || r.Err() != api.ErrShort || r.Left() != 0 {
				t.Errorf("Ctx of %v: %v, %d, want ErrShort", b, got, r.Err())
			}
			if got, errno := Decode(b); len(got) != 0 || errno != api.ErrShort {
				t.Errorf("Decode of %v: %v, %d, want ErrShort", b, got, errno)
			}
		}
		if got, errno := Decode(nums(n, last+1, 1)); len(got) != 0 || errno != api.ErrForm {
			t.Errorf("Decode of %d parts, the first of no device: %v, %d, want ErrForm", n, got, errno)
		}
	}
}

// P15.3: a number of a wrong form at each place is told as it comes, whatever stands ahead.
func TestCtxWrongNumbers(t *testing.T) {
	for _, c := range []api.Ctx{{partOf(1, 1, 2, 4, 4), partOf(2, 2, 2)}, {partOf(2, 4, 4, 1, 2), partOf(1, 2, 2)}} {
		b := ctxBytes(c)
		// Each number here has two bytes.
		for i := 0; i < len(b); i += 2 {
			for _, wrong := range [][]byte{{9}, {255}, {1, 0}, {2, 0}, {8, 0, 0, 0, 0, 0, 0, 0, 1}} {
				x := slices.Concat(b[:i], wrong)
				if got, errno := Decode(x); len(got) != 0 || errno != api.ErrForm {
					t.Errorf("Decode of %v: %v, %d, want ErrForm", x, got, errno)
				}
				sameCtx(t, x)
				sameCtx(t, slices.Concat(x, b[i+2:]))
			}
			for _, short := range [][]byte{{1}, {2, 1}, {8, 1, 2, 3}} {
				x := slices.Concat(b[:i], short)
				if got, errno := Decode(x); len(got) != 0 || errno != api.ErrShort {
					t.Errorf("Decode of %v: %v, %d, want ErrShort", x, got, errno)
				}
			}
		}
	}
}

// P15.3 and P15.4: all contexts of up to two parts with up to two runs out of a few: read if in order, and written in one form.
func TestAllSmallContexts(t *testing.T) {
	var parts []api.Part
	aid.Lists(row(1, 1, 2, 2, 3, 3, 1, 2, 2, 3, 3, 2, 0, 1, most, most, most, above), 2, func(l []api.Run) {
		for _, dev := range []uint16{0, 1, 2} {
			parts = append(parts, api.Part{Dev: dev, Runs: l})
		}
	})
	aid.Lists(parts, 2, func(l []api.Part) {
		c := api.Ctx(l)
		b := ctxBytes(c)
		got, errno := Decode(b)
		if ordered(c) {
			if !alike(got, c) || errno != api.OK || !bytes.Equal(Encode(c), b) {
				t.Fatalf("Decode of %v: %v, %d", c, got, errno)
			}
			return
		}
		if len(got) != 0 || errno != api.ErrForm {
			t.Fatalf("Decode of %v: %v, %d, want ErrForm", c, got, errno)
		}
		if one, errno := Decode(Encode(c)); errno != api.OK || !ordered(one) || !sameMarks(c, one) {
			t.Fatalf("Encode of %v is read as %v, %d", c, one, errno)
		}
	})
}

// sameMarks tells by the chapter's words whether two contexts have the same of the dots at which the small ones may begin or end.
func sameMarks(a, b api.Ctx) bool {
	for dev := range 3 {
		for _, n := range []uint64{0, 1, 2, 3, 4, most - 1, most, above} {
			if aid.Has(a, of(uint16(dev), n)) != aid.Has(b, of(uint16(dev), n)) {
				return false
			}
		}
	}
	return true
}

// drawn is a context drawn by chance, in order or not.
func drawn(rnd *rand.Rand) api.Ctx {
	var c api.Ctx
	for range rnd.Intn(5) {
		p := api.Part{Dev: uint16(rnd.Intn(6))}
		if rnd.Intn(4) == 0 {
			p.Dev = uint16(rnd.Intn(65536))
		}
		for range rnd.Intn(5) {
			lo := uint64(rnd.Intn(30))
			if rnd.Intn(4) == 0 {
				lo = rnd.Uint64() >> (14 + rnd.Intn(40))
			}
			p.Runs = append(p.Runs, api.Run{Lo: lo, Hi: lo + uint64(rnd.Intn(4)) - 1})
		}
		c = append(c, p)
	}
	return c
}

// P15.3 and P15.4: contexts that are drawn: what is written is read, and has the dots that the context had.
func TestDrawnContexts(t *testing.T) {
	rnd := rand.New(rand.NewSource(153))
	for range 20000 {
		c := drawn(rnd)
		b := Encode(c)
		got, errno := Decode(b)
		if errno != api.OK || !ordered(got) || !bytes.Equal(ctxBytes(got), b) || !bytes.Equal(Encode(got), b) {
			t.Fatalf("%v is written as %v, read as %v, %d", c, b, got, errno)
		}
		for _, p := range slices.Concat(c, got) {
			for _, x := range p.Runs {
				for _, n := range []uint64{x.Lo - 1, x.Lo, x.Hi, x.Hi + 1} {
					if aid.Has(c, of(p.Dev, n)) != aid.Has(got, of(p.Dev, n)) {
						t.Fatalf("%v is read as %v: %d.%d", c, got, p.Dev, n)
					}
				}
			}
		}
		sameCtx(t, ctxBytes(c))
	}
}

// P15.4: a context whose parts and runs stand in any order, cut in pieces, has one form.
func TestOneForm(t *testing.T) {
	rnd := rand.New(rand.NewSource(154))
	for _, c := range inOrder() {
		want := ctxBytes(c)
		for range 50 {
			if got := Encode(mixed(rnd, c)); !bytes.Equal(got, want) {
				t.Fatalf("Encode of %v in another form: %v, want %v", c, got, want)
			}
		}
	}
}

// mixed has the same dots in parts of single runs, some of them in two pieces or twice, in any order.
func mixed(rnd *rand.Rand, c api.Ctx) api.Ctx {
	list := api.Ctx{{Dev: 3}, partOf(0, 1, 1)}
	for _, p := range c {
		for _, x := range p.Runs {
			cut := x.Lo + uint64(rnd.Int63n(int64(x.Hi-x.Lo+1)))
			list = append(list, partOf(p.Dev, x.Lo, cut), partOf(p.Dev, cut, x.Hi), partOf(p.Dev, cut+1, x.Hi))
		}
	}
	rnd.Shuffle(len(list), func(i, j int) { list[i], list[j] = list[j], list[i] })
	return list
}

// P15.4: what is read as a context has been written so: all else is none.
func TestReadIsWritten(t *testing.T) {
	rnd := rand.New(rand.NewSource(155))
	read := 0
	for range 300000 {
		b := make([]byte, rnd.Intn(20))
		for i := range b {
			b[i] = byte(1 + rnd.Intn(2))
			if rnd.Intn(8) == 0 {
				b[i] = byte(rnd.Intn(12))
			}
		}
		if c, errno := Decode(b); errno == api.OK {
			read++
			if !bytes.Equal(Encode(c), b) || !ordered(c) {
				t.Fatalf("%v is read as %v, which is written as %v", b, c, Encode(c))
			}
		}
		all(t, b)
	}
	if read < 100 {
		t.Errorf("only %d were contexts", read)
	}
}

// P15.4: bytes of a context changed in one place, with one left out or one put in, are another context or none.
func TestChangedInOnePlace(t *testing.T) {
	for _, c := range inOrder() {
		b := Encode(c)
		for i := range b {
			for v := range 256 {
				if byte(v) == b[i] {
					continue
				}
				x := slices.Clone(b)
				x[i] = byte(v)
				unlike(t, c, x)
			}
			if x := slices.Delete(slices.Clone(b), i, i+1); !bytes.Equal(x, b) {
				unlike(t, c, x)
			}
		}
		for i := range len(b) + 1 {
			for v := range 256 {
				unlike(t, c, slices.Insert(slices.Clone(b), i, byte(v)))
			}
		}
	}
}

// unlike asks that bytes are not read as a context.
func unlike(t *testing.T, c api.Ctx, b []byte) {
	t.Helper()
	got, errno := Decode(b)
	if errno == api.OK && alike(got, c) {
		t.Fatalf("%v is read as %v, too", b, c)
	}
	if errno == api.OK && !bytes.Equal(Encode(got), b) {
		t.Fatalf("%v is read as %v, which is written otherwise", b, got)
	}
	sameCtx(t, b)
}

// P15.4: unlike contexts in order have unlike bytes.
func TestUnlikeContexts(t *testing.T) {
	seen := map[string]bool{}
	count := 0
	aid.Lists(row(1, 1, 2, 2, 3, 3, 1, 2, 2, 3, 4, 4, 3, 4), 2, func(l []api.Run) {
		for _, dev := range []uint16{1, 2} {
			for _, more := range []api.Ctx{nil, {partOf(3, 1, 1)}, {partOf(3, 1, 2)}} {
				c := append(api.Ctx{{Dev: dev, Runs: l}}, more...)
				if ordered(c) {
					count++
					seen[string(Encode(c))] = true
				}
			}
		}
	})
	if len(seen) != count || count < 20 {
		t.Errorf("%d contexts have %d forms", count, len(seen))
	}
}

// P15.3: very many parts, and very many runs.
func TestManyParts(t *testing.T) {
	c := make(api.Ctx, last)
	for i := range c {
		c[i] = partOf(uint16(1+i), 1, uint64(1+i), most, most)
	}
	c[6].Runs = nil
	for i := range uint64(100000) {
		c[6].Runs = append(c[6].Runs, api.Run{Lo: 1 + 3*i, Hi: 2 + 3*i})
	}
	b := ctxBytes(c)
	back := copied(c)
	slices.Reverse(back)
	slices.Reverse(back[len(back)-7].Runs)
	if got := Encode(back); !bytes.Equal(got, b) {
		t.Fatal("Encode of all devices")
	}
	if got, errno := Decode(b); !alike(got, c) || errno != api.OK {
		t.Errorf("Decode of all devices: %d, %d", len(got), errno)
	}
	if got, errno := Decode(b[:len(b)-1]); len(got) != 0 || errno != api.ErrShort {
		t.Errorf("Decode of all devices but a byte: %d, %d", len(got), errno)
	}
	c[last-1].Dev = 1
	if got, errno := Decode(ctxBytes(c)); len(got) != 0 || errno != api.ErrForm {
		t.Errorf("Decode of all devices, the last one the first: %d, %d", len(got), errno)
	}
}

// P15.4: several things written one behind another are read so.
func TestMixture(t *testing.T) {
	good, all := edges(), inOrder()
	one := func(w *pack.Writer, g aid.Chance) func(r *pack.Reader) bool {
		d := good[g.Intn(len(good))]
		PutDot(w, d)
		return func(r *pack.Reader) bool { return Dot(r) == d }
	}
	some := func(w *pack.Writer, g aid.Chance) func(r *pack.Reader) bool {
		at := g.Intn(len(good))
		l := good[at : at+g.Intn(len(good)-at)]
		PutDots(w, l)
		return func(r *pack.Reader) bool { return slices.Equal(Dots(r, len(l)), l) }
	}
	context := func(w *pack.Writer, g aid.Chance) func(r *pack.Reader) bool {
		c := all[g.Intn(len(all))]
		PutCtx(w, c)
		return func(r *pack.Reader) bool { return alike(Ctx(r), c) }
	}
	if why := coded.InTurn(rand.New(rand.NewSource(156)), 500, one, some, context); why != "" {
		t.Error(why)
	}
}

// P15.1 to P15.3: into a writer that is nil nothing is written; of a reader that is nil nothing is read.
func TestNil(t *testing.T) {
	PutDot(nil, of(1, 1))
	PutDots(nil, edges())
	PutDots(nil, nil)
	PutCtx(nil, inOrder()[8])
	PutCtx(nil, nil)
	if got := Dot(nil); (got != api.Dot{}) {
		t.Errorf("Dot of nil: %s", told(got))
	}
	for _, most := range []int{math.MinInt, 0, 5, math.MaxInt} {
		if got := Dots(nil, most); len(got) != 0 {
			t.Errorf("Dots of nil: %v", got)
		}
	}
	if got := Ctx(nil); len(got) != 0 {
		t.Errorf("Ctx of nil: %v", got)
	}
}

// P15.1 to P15.3: of a plain reader, which has no bytes.
func TestPlainReader(t *testing.T) {
	var a, b, c pack.Reader
	if got := Dot(&a); (got != api.Dot{}) || a.Err() != api.ErrShort {
		t.Errorf("Dot: %s, %d", told(got), a.Err())
	}
	if got := Dots(&b, 5); len(got) != 0 || b.Err() != api.ErrShort {
		t.Errorf("Dots: %v, %d", got, b.Err())
	}
	if got := Ctx(&c); len(got) != 0 || c.Err() != api.ErrShort {
		t.Errorf("Ctx: %v, %d", got, c.Err())
	}
}

// P15.1 to P15.3: a reader that has an error reads nothing, and its error stays.
func TestReaderWithError(t *testing.T) {
	reads := []func(r *pack.Reader) bool{
		func(r *pack.Reader) bool { return Dot(r) == api.Dot{} },
		func(r *pack.Reader) bool { return len(Dots(r, 5)) == 0 },
		func(r *pack.Reader) bool { return len(Dots(r, -1)) == 0 },
		func(r *pack.Reader) bool { return len(Ctx(r)) == 0 },
	}
	bodies := [][]byte{nil, nums(1, 1), nums(1, 1, 1), nums(1, 1, 1, 1, 2), nums(0), nums(last+1, 1), nums(0, 0), {9}}
	for e := 1; e < api.Errors; e++ {
		for _, body := range bodies {
			for i, read := range reads {
				r := pack.New(body)
				r.Fail(api.Errno(e))
				if !read(r) || !read(r) || r.Err() != api.Errno(e) || r.End() != api.Errno(e) || r.Left() != 0 {
					t.Errorf("error %d, call %d of %v: %d", e, i, body, r.Err())
				}
			}
		}
	}
}

// P15.1 to P15.3: behind an error nothing more is read, whatever stands there.
func TestNothingBehindError(t *testing.T) {
	good := slices.Concat(dotBytes(of(1, 1)), listBytes(dots(1, 1)), ctxBytes(api.Ctx{partOf(1, 1, 1)}))
	r := pack.New(slices.Concat(nums(0, 0), good))
	if Dot(r); r.Err() != api.ErrForm || (Dot(r) != api.Dot{}) || len(Dots(r, 9)) != 0 || len(Ctx(r)) != 0 || r.Err() != api.ErrForm {
		t.Errorf("behind a dot: %d", r.Err())
	}
	r = pack.New(slices.Concat(listBytes(dots(1, 1, 1, 2)), good))
	if Dots(r, 1); r.Err() != api.ErrLong || (Dot(r) != api.Dot{}) || len(Dots(r, 9)) != 0 || len(Ctx(r)) != 0 || r.Err() != api.ErrLong {
		t.Errorf("behind dots: %d", r.Err())
	}
	r = pack.New(slices.Concat(ctxBytes(api.Ctx{{Dev: 1}}), good))
	if Ctx(r); r.Err() != api.ErrForm || (Dot(r) != api.Dot{}) || len(Dots(r, 9)) != 0 || len(Ctx(r)) != 0 || r.Err() != api.ErrForm {
		t.Errorf("behind a context: %d", r.Err())
	}
}

// P15.2 and P15.3: what is then written into what came out is not seen anywhere else, nor what is written into what went in.
func TestSharesNothing(t *testing.T) {
	c := api.Ctx{partOf(1, 1, 2, 4, 4), partOf(2, 2, 2)}
	b := Encode(c)
	kept := slices.Clone(b)
	one, _ := Decode(b)
	two, _ := Decode(b)
	r := pack.New(slices.Concat(b, b))
	three, four := Ctx(r), Ctx(r)
	for i, x := range []api.Ctx{one, two, three, four} {
		if !alike(x, c) {
			t.Fatalf("context %d was turned into %v", i, x)
		}
		spoilCtx(x)
	}
	if !bytes.Equal(b, kept) {
		t.Errorf("the bytes were turned into %v", b)
	}
	five, _ := Decode(b)
	clear(b)
	if !alike(five, c) {
		t.Errorf("it goes with the bytes: %v", five)
	}
	out := Encode(c)
	clear(out)
	if !alike(c, five) || !bytes.Equal(Encode(c), kept) {
		t.Errorf("what Encode answered is seen in %v", c)
	}
}

// P15.2: lists of dots that were read do not share anything with one another or with the reader.
func TestDotsShareNothing(t *testing.T) {
	l := dots(1, 1, 1, 2, 2, 1)
	b := listBytes(l)
	r := pack.New(slices.Concat(b, b))
	one := Dots(r, 3)
	for i := range one[:cap(one)] {
		one[:cap(one)][i] = of(9, 9)
	}
	two := Dots(r, 3)
	if !slices.Equal(two, l) || r.End() != api.OK {
		t.Errorf("%v, %d", two, r.Err())
	}
}

// P15.2 and P15.3: what went in is not turned, nor the room behind it; what is then written into it is not seen.
func TestInIsNotTurned(t *testing.T) {
	room := dots(2, 1, 0, 1, 1, 1, 2, 1, 5, 5, 4, 4)
	kept := slices.Clone(room)
	var w pack.Writer
	PutDots(&w, room[:4])
	if !slices.Equal(room, kept) {
		t.Errorf("the dots were turned into %v", room)
	}
	clear(room)
	if want := listBytes(dots(1, 1, 2, 1)); !bytes.Equal(w.Bytes(), want) {
		t.Errorf("the bytes go with the dots: %v", w.Bytes())
	}
	runs := row(5, 6, 3, 2, 1, 1, 2, 2, 9, 9)
	list := api.Ctx{{Dev: 2, Runs: runs[:3]}, {Dev: 1, Runs: runs[2:4]}, {Dev: 2, Runs: runs[:1]}, partOf(7, 7, 7)}
	was := copied(list)
	var v pack.Writer
	PutCtx(&v, list[:3])
	if !alike(list, was) || !slices.Equal(runs, row(5, 6, 3, 2, 1, 1, 2, 2, 9, 9)) {
		t.Errorf("the context was turned into %v, %v", list, runs)
	}
	clear(runs)
	clear(list)
	if want := ctxBytes(api.Ctx{partOf(1, 1, 2), partOf(2, 1, 1, 5, 6)}); !bytes.Equal(v.Bytes(), want) {
		t.Errorf("the bytes go with the context: %v", v.Bytes())
	}
}
