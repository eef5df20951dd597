package count

import (
	"math"
	"math/rand"
	"testing"

	"epitaph/api"
)

const (
	most  = api.MaxCount
	above = api.MaxCount + 1
	huge  = math.MaxUint64
)

func wantNext(t *testing.T, c *Counter, n uint64, e api.Errno) {
	t.Helper()
	if gotN, gotE := c.Next(); gotN != n || gotE != e {
		t.Fatalf("Next = %d, %d, want %d, %d", gotN, gotE, n, e)
	}
}

func wantAt(t *testing.T, c *Counter, now, left uint64) {
	t.Helper()
	if c.Now() != now || c.Left() != left {
		t.Fatalf("Now %d, Left %d, want %d, %d", c.Now(), c.Left(), now, left)
	}
}

// P10.1: the chapter's example.
func TestExample(t *testing.T) {
	c := New(2)
	wantNext(t, c, 1, api.OK)
	wantNext(t, c, 2, api.OK)
	wantNext(t, c, 0, api.ErrSpent)
	c = New(9)
	c.Raise(5)
	wantNext(t, c, 6, api.OK)
	wantAt(t, c, 6, 3)
}

// P10.1: a new counter has given out nothing, and has as many numbers as its limit, or MaxCount of them.
func TestNew(t *testing.T) {
	for _, c := range []struct{ limit, left uint64 }{
		{0, 0}, {1, 1}, {2, 2}, {255, 255}, {256, 256},
		{1<<32 - 1, 1<<32 - 1}, {1 << 32, 1 << 32}, {1 << 47, 1 << 47},
		{most - 1, most - 1}, {most, most}, {above, most}, {above + 1, most},
		{1 << 49, most}, {1<<63 - 1, most}, {1 << 63, most}, {huge - 1, most}, {huge, most},
	} {
		got := New(c.limit)
		if got == nil {
			t.Fatalf("New(%d) is nil", c.limit)
		}
		wantAt(t, got, 0, c.left)
		if c.left == 0 {
			wantNext(t, got, 0, api.ErrSpent)
			wantAt(t, got, 0, 0)
			continue
		}
		wantNext(t, got, 1, api.OK)
		wantAt(t, got, 1, c.left-1)
	}
}

// P10.1: numbers up to the last one, at it, and again and again behind it.
func TestNextToTheEnd(t *testing.T) {
	for limit := range uint64(70) {
		c := New(limit)
		for n := uint64(1); n <= limit; n++ {
			wantNext(t, c, n, api.OK)
			wantAt(t, c, n, limit-n)
		}
		for range 5 {
			wantNext(t, c, 0, api.ErrSpent)
			wantAt(t, c, limit, 0)
		}
	}
}

// P10.1: the numbers ahead of the end of all numbers, MaxCount itself, and none behind it.
func TestNextToMaxCount(t *testing.T) {
	for _, limit := range []uint64{most, above, huge} {
		c := New(limit)
		c.Raise(most - 3)
		for n := uint64(most - 2); n <= most; n++ {
			wantNext(t, c, n, api.OK)
			wantAt(t, c, n, most-n)
		}
		for range 5 {
			wantNext(t, c, 0, api.ErrSpent)
			wantAt(t, c, most, 0)
		}
	}
}

// P10.1: what Raise comes to, ahead of the first Next, of counters with some numbers given out, and of spent ones.
func TestRaise(t *testing.T) {
	for _, c := range []struct{ limit, given, n, now, left uint64 }{
		{9, 0, 0, 0, 9}, {9, 0, 1, 1, 8}, {9, 0, 5, 5, 4},
		{9, 4, 0, 4, 5}, {9, 4, 1, 4, 5}, {9, 4, 3, 4, 5}, {9, 4, 4, 4, 5}, {9, 4, 5, 5, 4}, {9, 4, 6, 6, 3},
		{9, 4, 8, 8, 1}, {9, 4, 9, 9, 0}, {9, 4, 10, 10, 0}, {9, 4, 11, 11, 0}, {9, 4, 1 << 32, 1 << 32, 0},
		{9, 4, most - 1, most - 1, 0}, {9, 4, most, most, 0}, {9, 4, above, most, 0}, {9, 4, 1 << 63, most, 0}, {9, 4, huge, most, 0},
		{9, 9, 0, 9, 0}, {9, 9, 8, 9, 0}, {9, 9, 9, 9, 0}, {9, 9, 10, 10, 0}, {9, 9, most, most, 0}, {9, 9, above, most, 0}, {9, 9, huge, most, 0},
		{0, 0, 0, 0, 0}, {0, 0, 1, 1, 0}, {0, 0, most, most, 0}, {0, 0, huge, most, 0},
		{1, 0, 0, 0, 1}, {1, 0, 1, 1, 0}, {1, 0, 2, 2, 0}, {1, 1, 1, 1, 0}, {1, 1, 2, 2, 0},
		{1 << 40, 2, 1<<32 - 1, 1<<32 - 1, 1<<40 - 1<<32 + 1}, {1 << 40, 2, 1 << 32, 1 << 32, 1<<40 - 1<<32},
		{most - 1, 1, most - 2, most - 2, 1}, {most - 1, 1, most - 1, most - 1, 0}, {most - 1, 1, most, most, 0},
		{most, 3, most - 1, most - 1, 1}, {most, 3, most, most, 0}, {most, 3, above, most, 0}, {most, 3, huge, most, 0},
		{above, 3, most - 1, most - 1, 1}, {above, 3, above, most, 0}, {huge, 3, most - 1, most - 1, 1}, {huge, 3, huge, most, 0},
	} {
		x := New(c.limit)
		for range c.given {
			x.Next()
		}
		x.Raise(c.n)
		wantAt(t, x, c.now, c.left)
		if c.left == 0 {
			wantNext(t, x, 0, api.ErrSpent)
			wantAt(t, x, c.now, 0)
			continue
		}
		wantNext(t, x, c.now+1, api.OK)
		wantAt(t, x, c.now+1, c.left-1)
	}
}

// P10.1, P10.2: a lesser Raise behind a greater one takes nothing back, whether numbers came between or not.
func TestRaiseTakesNothingBack(t *testing.T) {
	c := New(20)
	for _, n := range []uint64{7, 6, 7, 1, 0} {
		c.Raise(n)
		wantAt(t, c, 7, 13)
	}
	wantNext(t, c, 8, api.OK)
	c.Raise(7)
	wantNext(t, c, 9, api.OK)
	c.Raise(30)
	for _, n := range []uint64{29, 20, 19, 9, 0} {
		c.Raise(n)
		wantAt(t, c, 30, 0)
		wantNext(t, c, 0, api.ErrSpent)
	}
	c.Raise(huge)
	c.Raise(most - 1)
	wantAt(t, c, most, 0)
}

// P10.1: of nil, and of a plain Counter{}, there is no number, and nothing is done.
func TestNothing(t *testing.T) {
	for _, c := range []*Counter{nil, {}, new(Counter)} {
		for _, n := range []uint64{0, 1, 5, most, above, huge} {
			wantAt(t, c, 0, 0)
			wantNext(t, c, 0, api.ErrSpent)
			c.Raise(n)
			wantAt(t, c, 0, 0)
			wantNext(t, c, 0, api.ErrSpent)
			if twin := c.Copy(); twin != nil {
				t.Fatalf("a copy: %v", twin)
			}
		}
	}
	// One that is raised by nothing isn't one of limit 0, which is.
	c := New(0)
	c.Raise(4)
	wantAt(t, c, 4, 0)
}

// P10.1: a copy of a new counter, of one in the midst, of a spent one, and of one beyond its limit goes on like it, and each goes its own way.
func TestCopy(t *testing.T) {
	for _, limit := range []uint64{0, 1, 2, 9, most, huge} {
		for _, n := range []uint64{0, 1, 2, 8, 9, 10, most - 1, most, huge} {
			c := New(limit)
			c.Raise(n)
			now, left := c.Now(), c.Left()
			twin := c.Copy()
			if twin == nil || twin == c {
				t.Fatalf("limit %d, raised to %d: a copy that is no other counter", limit, n)
			}
			wantAt(t, twin, now, left)
			c.Next()
			c.Raise(huge)
			wantAt(t, twin, now, left)
			third := twin.Copy()
			if left == 0 {
				wantNext(t, twin, 0, api.ErrSpent)
			} else {
				wantNext(t, twin, now+1, api.OK)
				wantAt(t, twin, now+1, left-1)
			}
			wantAt(t, c, most, 0)
			wantAt(t, third, now, left)
		}
	}
}

// P10.1: two counters have nothing to do with each other.
func TestApart(t *testing.T) {
	a, b := New(3), New(5)
	wantNext(t, a, 1, api.OK)
	wantNext(t, b, 1, api.OK)
	a.Raise(9)
	wantNext(t, b, 2, api.OK)
	wantAt(t, a, 9, 0)
	wantAt(t, b, 2, 3)
}

// shelf tells number by number, above base, which were given out, as the chapter's words go.
type shelf struct {
	base, limit uint64
	given       [8]bool
}

func (s *shelf) raise(n uint64) {
	for i := range s.given {
		if s.base+uint64(i)+1 <= n {
			s.given[i] = true
		}
	}
}

func (s *shelf) now() uint64 {
	n := s.base
	for i, g := range s.given {
		if g {
			n = s.base + uint64(i) + 1
		}
	}
	return n
}

func (s *shelf) left() uint64 {
	left := uint64(0)
	for i, g := range s.given {
		if !g && s.base+uint64(i)+1 <= s.limit {
			left++
		}
	}
	return left
}

func (s *shelf) next() (uint64, api.Errno) {
	for i, g := range s.given {
		if !g && s.base+uint64(i)+1 <= s.limit {
			s.given[i] = true
			return s.base + uint64(i) + 1, api.OK
		}
	}
	return 0, api.ErrSpent
}

// walk does all rows of a few calls with a counter and a shelf side by side, each row with copies of its own.
func walk(t *testing.T, c *Counter, s shelf, raises []uint64, steps int) {
	t.Helper()
	wantAt(t, c, s.now(), s.left())
	if steps == 0 {
		return
	}
	nextC, nextS := c.Copy(), s
	n, e := nextS.next()
	wantNext(t, nextC, n, e)
	walk(t, nextC, nextS, raises, steps-1)
	for _, n := range raises {
		raisedC, raisedS := c.Copy(), s
		raisedC.Raise(n)
		raisedS.raise(n)
		walk(t, raisedC, raisedS, raises, steps-1)
	}
}

// P10.1, P10.2: all rows of five calls, with the least numbers and few of them left.
func TestAllRowsAtTheLowEnd(t *testing.T) {
	for limit := range uint64(7) {
		walk(t, New(limit), shelf{limit: limit}, []uint64{0, 1, 2, 3, 4, 5, 6, 7, 8}, 5)
	}
}

// P10.1, P10.2: all rows of five calls at the greatest numbers.
func TestAllRowsAtTheHighEnd(t *testing.T) {
	const base = most - 8
	raises := []uint64{0, base - 1, base, base + 1, base + 4, most - 1, most, above, huge}
	for _, limit := range []uint64{base - 1, base, base + 1, base + 5, most - 1, most, above, huge} {
		c := New(limit)
		c.Raise(base)
		walk(t, c, shelf{base: base, limit: min(limit, most)}, raises, 5)
	}
}

// P10.2: a hundred thousand numbers come one by one, whatever is asked of the counter between them.
func TestOneByOne(t *testing.T) {
	const end = 100000
	c := New(end)
	for n := uint64(1); n <= end; n++ {
		c.Raise(n / 2)
		wantAt(t, c, n-1, end-n+1)
		c.Copy().Next()
		wantNext(t, c, n, api.OK)
	}
	wantNext(t, c, 0, api.ErrSpent)
}

// P10.2: numbers and raises in any mixture: each number is one above all that was given out or raised to, none comes twice.
func TestMixture(t *testing.T) {
	r := rand.New(rand.NewSource(10))
	for range 2000 {
		limit := r.Uint64() >> r.Intn(64)
		c := New(limit)
		limit = min(limit, most)
		top := uint64(0)
		for range 60 {
			if r.Intn(3) == 0 {
				n := r.Uint64() >> r.Intn(64)
				if r.Intn(2) == 0 {
					n = top + uint64(r.Intn(5)) - min(top, 2)
				}
				c.Raise(n)
				top = max(top, min(n, most))
			} else if top < limit {
				top++
				wantNext(t, c, top, api.OK)
			} else {
				wantNext(t, c, 0, api.ErrSpent)
			}
			wantAt(t, c, top, max(limit, top)-top)
		}
	}
}
