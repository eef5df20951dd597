package runs

import (
	"iter"
	"math"
	"math/rand"
	"slices"
	"testing"

	"epitaph/api"
)

const (
	most  = api.MaxCount
	above = api.MaxCount + 1
	huge  = math.MaxUint64
)

// row is a list of runs, its ends one behind another.
func row(ends ...uint64) []api.Run {
	list := []api.Run{}
	for i := 0; i+1 < len(ends); i += 2 {
		list = append(list, api.Run{Lo: ends[i], Hi: ends[i+1]})
	}
	return list
}

// orders are a list's runs in each order.
func orders(l []api.Run) [][]api.Run {
	if len(l) < 2 {
		return [][]api.Run{slices.Clone(l)}
	}
	var all [][]api.Run
	for i, r := range l {
		others := append(slices.Clone(l[:i]), l[i+1:]...)
		for _, rest := range orders(others) {
			all = append(all, append([]api.Run{r}, rest...))
		}
	}
	return all
}

// silent are runs that tell nothing, each for one cause or for more than one.
func silent() []api.Run {
	return row(0, 0, 0, 5, 0, most, 0, above, 0, huge, 5, 4, 5, 0, 2, 1, most, 1, most, most-1, above, most,
		1, above, 1, huge, 5, above, most, above, most, huge, above, above, above, huge, huge, huge, huge, above, huge, 1)
}

func wantRuns(t *testing.T, what string, got, want []api.Run, in ...[]api.Run) {
	t.Helper()
	if !slices.Equal(got, want) {
		t.Errorf("%s of %v = %v, want %v", what, in, got, want)
	}
}

func wantNum(t *testing.T, what string, got, want uint64, in ...[]api.Run) {
	t.Helper()
	if got != want {
		t.Errorf("%s of %v = %d, want %d", what, in, got, want)
	}
}

func wantBool(t *testing.T, what string, got, want bool, in ...[]api.Run) {
	t.Helper()
	if got != want {
		t.Errorf("%s of %v = %v, want %v", what, in, got, want)
	}
}

// wantKept holds that what a list tells, in order, is so whichever call is asked.
func wantKept(t *testing.T, l, want []api.Run) {
	t.Helper()
	wantRuns(t, "Norm", Norm(l), want, l)
	wantBool(t, "Good", Good(l), slices.Equal(l, want), l)
	wantRuns(t, "Join with none", Join(l, nil), want, l)
	wantRuns(t, "Join behind none", Join(nil, l), want, l)
	wantRuns(t, "Join with itself", Join(l, l), want, l)
	wantRuns(t, "Meet with itself", Meet(l, l), want, l)
	wantRuns(t, "Meet with all", Meet(l, row(1, most)), want, l)
	wantRuns(t, "Minus none", Minus(l, nil), want, l)
	wantRuns(t, "Minus itself", Minus(l, l), nil, l)
	wantRuns(t, "Add 0", Add(l, 0), want, l)
	wantRuns(t, "Add above", Add(l, above), want, l)
	wantRuns(t, "Add the greatest", Add(l, huge), want, l)
	wantBool(t, "Same as in order", Same(l, want) && Same(want, l), true, l)
	wantBool(t, "Within in order", Within(l, want) && Within(want, l), true, l)
}

// P6.1 to P6.3: the chapter's example.
func TestExample(t *testing.T) {
	l := Of(5, 1, 2, 6)
	wantRuns(t, "Of", l, row(1, 2, 5, 6))
	wantNum(t, "First", First(l), 3, l)
	wantNum(t, "Last", Last(l), 6, l)
	wantNum(t, "Size", Size(l), 4, l)
	wantRuns(t, "Join with 3 and 4", Join(l, Of(3, 4)), row(1, 6), l)
	wantRuns(t, "Add of 3, then 4", Add(Add(l, 3), 4), row(1, 6), l)
}

// known are lists, and what they tell, in order.
func known() [][2][]api.Run {
	return [][2][]api.Run{
		{nil, nil},
		{{}, nil},
		{make([]api.Run, 0, 5), nil},
		{row(1, 1), row(1, 1)},
		{row(7, 9), row(7, 9)},
		{row(1, most), row(1, most)},
		{row(most, most), row(most, most)},
		{row(1, 5, 3, 8), row(1, 8)},
		{row(3, 4, 1, 8), row(1, 8)},
		{row(1, 8, 3, 8), row(1, 8)},
		{row(1, 8, 1, 3), row(1, 8)},
		{row(2, 5, 2, 5), row(2, 5)},
		{row(1, 3, 3, 5), row(1, 5)},
		{row(1, 3, 4, 5), row(1, 5)},
		{row(1, 3, 5, 6), row(1, 3, 5, 6)},
		{row(1, 3, 6, 6), row(1, 3, 6, 6)},
		{row(1, 9, 2, 3, 10, 11), row(1, 11)},
		{row(1, 9, 2, 3, 5, 6, 11, 12), row(1, 9, 11, 12)},
		{row(1, 1, 2, 2, 3, 3, 5, 5), row(1, 3, 5, 5)},
		{row(1, 2, 4, 5, 3, 3), row(1, 5)},
		{row(1, 4, 6, 9, 4, 6), row(1, 9)},
		{row(1, most-1, most, most), row(1, most)},
		{row(1, most-2, most, most), row(1, most-2, most, most)},
		{row(1, 1, 2, most), row(1, most)},
		{row(1, 1, 3, most), row(1, 1, 3, most)},
		{row(1, most, most, most, 1, 1), row(1, most)},
		{row(most-3, most-1, most-1, most), row(most-3, most)},
	}
}

// P6.1: Norm and Good of lists written out, in each order of their runs.
func TestNormKnown(t *testing.T) {
	for _, c := range known() {
		for _, l := range orders(c[0]) {
			wantKept(t, l, c[1])
		}
		wantKept(t, c[0], c[1])
	}
}

// P6.1 to P6.3: runs that tell nothing, alone and all together.
func TestSilentAlone(t *testing.T) {
	lists := [][]api.Run{nil, {}, silent()}
	for _, r := range silent() {
		lists = append(lists, []api.Run{r}, []api.Run{r, r})
	}
	for _, l := range lists {
		wantKept(t, l, nil)
		wantNum(t, "Size", Size(l), 0, l)
		wantNum(t, "First", First(l), 1, l)
		wantNum(t, "Last", Last(l), 0, l)
		for _, n := range []uint64{0, 1, 2, 3, 5, most - 1, most, above, huge - 1, huge} {
			wantBool(t, "Has", Has(l, n), false, l)
		}
		for n := range Each(l) {
			t.Errorf("Each of %v goes over %d", l, n)
		}
	}
}

// P6.1: runs that tell nothing, ahead of, within and behind each list written out.
func TestSilentAmong(t *testing.T) {
	for _, c := range known() {
		for _, r := range silent() {
			for at := 0; at <= len(c[0]); at++ {
				wantKept(t, slices.Insert(slices.Clone(c[0]), at, r), c[1])
			}
		}
		wantKept(t, slices.Concat(silent(), c[0], silent()), c[1])
	}
}

// P6.1: lists that are in order, and those that are not by one thing alone.
func TestGood(t *testing.T) {
	for _, l := range [][]api.Run{
		nil, {}, row(1, 1), row(1, most), row(most, most), row(1, 1, 3, 3), row(1, 1, 3, most),
		row(1, most-2, most, most), row(2, 4, 6, 9, 100, 200), row(1, 1, 3, 3, 5, 5, 7, 7, 9, 9),
	} {
		wantBool(t, "Good", Good(l), true, l)
	}
	for _, l := range [][]api.Run{
		row(0, 1), row(0, 0), row(2, 1), row(1, above), row(above, above), row(huge, huge), row(1, huge),
		row(1, 1, 1, 1), row(1, 1, 2, 2), row(3, 3, 1, 1), row(1, 5, 3, 9), row(1, 9, 3, 5), row(1, 3, 3, 5),
		row(1, most-1, most, most), row(1, most, most, most), row(1, 2, 4, 5, 6, 7), row(1, 2, 4, 5, 1, 2),
		row(1, 2, 0, 0), row(1, 2, 4, 3), row(1, 2, 5, 4, 7, 8), row(1, 2, 4, above), row(0, 0, 2, 2), row(1, 1, above, huge),
	} {
		wantBool(t, "Good", Good(l), false, l)
	}
}

// P6.1: Of no number, of one, of the same many times, and of those that are told by none.
func TestOfKnown(t *testing.T) {
	for _, c := range []struct {
		nums []uint64
		want []api.Run
	}{
		{nil, nil},
		{[]uint64{}, nil},
		{[]uint64{0}, nil},
		{[]uint64{above}, nil},
		{[]uint64{huge}, nil},
		{[]uint64{huge, 0, above, huge - 1, 0}, nil},
		{[]uint64{1}, row(1, 1)},
		{[]uint64{most}, row(most, most)},
		{[]uint64{1, 1, 1, 1, 1}, row(1, 1)},
		{[]uint64{most, most, 1, most}, row(1, 1, most, most)},
		{[]uint64{0, 1, above, most, huge}, row(1, 1, most, most)},
		{[]uint64{most, above, most - 1}, row(most-1, most)},
		{[]uint64{4, 3, 2, 1}, row(1, 4)},
		{[]uint64{1, 3, 5, 3, 1}, row(1, 1, 3, 3, 5, 5)},
		{[]uint64{2, 4, 3, 2}, row(2, 4)},
	} {
		wantRuns(t, "Of", Of(c.nums...), c.want)
	}
	wantRuns(t, "Of without a number", Of(), nil)
}

// P6.1: Of any numbers, some of them many times, against a set of them.
func TestOf(t *testing.T) {
	g := rand.New(rand.NewSource(1))
	for range 3000 {
		set := map[uint64]bool{}
		var nums []uint64
		for range g.Intn(14) {
			n := []uint64{uint64(g.Intn(12)), most + 3 - uint64(g.Intn(9)), huge - uint64(g.Intn(2))}[g.Intn(3)]
			nums = append(nums, n)
			if n >= 1 && n <= most {
				set[n] = true
			}
		}
		var want []api.Run
		for n := range set {
			if set[n-1] {
				continue
			}
			hi := n
			for set[hi+1] {
				hi++
			}
			want = append(want, api.Run{Lo: n, Hi: hi})
		}
		slices.SortFunc(want, func(a, b api.Run) int { return int(int64(a.Lo) - int64(b.Lo)) })
		kept := slices.Clone(nums)
		wantRuns(t, "Of", Of(nums...), want)
		if !slices.Equal(nums, kept) {
			t.Fatalf("Of changed %v into %v", kept, nums)
		}
	}
}

// places is how many stretches a ruler has.
const places = 6

// A ruler's stretches, one to each place from 1 on, begin at its numbers; the last number is one behind all.
type ruler [places + 1]uint64

// rulers have one number a place at either end of all, and stretches that go from one end to the other.
func rulers() []ruler {
	return []ruler{
		{1, 2, 3, 4, 5, 6, 7},
		{most - 5, most - 4, most - 3, most - 2, most - 1, most, above},
		{1, 2, 3, 1 << 20, 1<<32 + 7, most, above},
	}
}

// lay makes of places, of which 0 and the one beyond the last are none, the numbers that stand there.
func (r ruler) lay(l []api.Run, beyond uint64) []api.Run {
	var list []api.Run
	for _, p := range l {
		wide := api.Run{Lo: beyond, Hi: beyond}
		if p.Lo == 0 {
			wide.Lo = 0
		} else if p.Lo <= places {
			wide.Lo = r[p.Lo-1]
		}
		if p.Hi == 0 {
			wide.Hi = 0
		} else if p.Hi <= places {
			wide.Hi = r[p.Hi] - 1
		}
		list = append(list, wide)
	}
	return list
}

// A set has the places 1 to the last one.
type set [places + 1]bool

// told are the places that a list tells, one by one.
func told(l []api.Run) set {
	var s set
	for _, p := range l {
		for n := p.Lo; p.Lo > 0 && p.Hi <= places && n <= p.Hi; n++ {
			s[n] = true
		}
	}
	return s
}

// runs are a set's places, in order, with a ruler's numbers.
func (s set) runs(r ruler) []api.Run {
	var list []api.Run
	for n := 1; n <= places; n++ {
		if !s[n] {
			continue
		}
		if !s[n-1] {
			list = append(list, api.Run{Lo: r[n-1]})
		}
		list[len(list)-1].Hi = r[n] - 1
	}
	return list
}

// all puts two sets together, place by place.
func all(a, b set, has func(a, b bool) bool) set {
	var s set
	for n := 1; n <= places; n++ {
		s[n] = has(a[n], b[n])
	}
	return s
}

func or(a, b bool) bool     { return a || b }
func and(a, b bool) bool    { return a && b }
func andNot(a, b bool) bool { return a && !b }

// around are the numbers at the ends of each stretch, those beside them, and those that are told by none.
func (r ruler) around() []uint64 {
	list := []uint64{0, 1, 2, most - 1, most, above, above + 1, huge - 1, huge}
	for _, n := range r {
		list = append(list, n-1, n, n+1)
	}
	return list
}

// at is the place where a number stands, 0 if it is at none.
func (r ruler) at(n uint64) int {
	for i := 1; i <= places; i++ {
		if r[i-1] <= n && n < r[i] {
			return i
		}
	}
	return 0
}

// wantSet holds the calls of one list against the set of its places.
func wantSet(t *testing.T, r ruler, l []api.Run, s set) {
	t.Helper()
	kept := slices.Clone(l)
	wantKept(t, l, s.runs(r))
	size, first, last := uint64(0), r[0], uint64(0)
	for n := 1; n <= places; n++ {
		if s[n] {
			size += r[n] - r[n-1]
			last = r[n] - 1
		}
		if s[n] && first == r[n-1] {
			first = r[n]
		}
	}
	if r[0] > 1 {
		first = 1
	}
	wantNum(t, "Size", Size(l), size, l)
	wantNum(t, "First", First(l), first, l)
	wantNum(t, "Last", Last(l), last, l)
	for _, n := range r.around() {
		if got, want := Has(l, n), s[r.at(n)]; got != want {
			t.Errorf("Has(%v, %d) = %v, want %v", l, n, got, want)
		}
	}
	if !slices.Equal(l, kept) {
		t.Fatalf("%v was changed into %v", kept, l)
	}
}

// wantSets holds the calls of two lists against the sets of their places.
func wantSets(t *testing.T, r ruler, a, b []api.Run, x, y set) {
	t.Helper()
	keptA, keptB := slices.Clone(a), slices.Clone(b)
	wantRuns(t, "Join", Join(a, b), all(x, y, or).runs(r), a, b)
	wantRuns(t, "Meet", Meet(a, b), all(x, y, and).runs(r), a, b)
	wantRuns(t, "Minus", Minus(a, b), all(x, y, andNot).runs(r), a, b)
	wantBool(t, "Within", Within(a, b), all(x, y, andNot) == set{}, a, b)
	wantBool(t, "Same", Same(a, b), x == y, a, b)
	if !slices.Equal(a, keptA) || !slices.Equal(b, keptB) {
		t.Fatalf("%v and %v were changed into %v and %v", keptA, keptB, a, b)
	}
}

// everyRun has all pairs of places as its ends, and of those that are none.
func everyRun() []api.Run {
	var list []api.Run
	for lo := range uint64(places + 2) {
		for hi := range uint64(places + 2) {
			list = append(list, api.Run{Lo: lo, Hi: hi})
		}
	}
	return list
}

// anyList is up to some runs, each of any places.
func anyList(g *rand.Rand, upto int) []api.Run {
	every := everyRun()
	var list []api.Run
	for range g.Intn(upto + 1) {
		list = append(list, every[g.Intn(len(every))])
	}
	return list
}

// P6.1 to P6.3: the calls of one list, of all lists of two runs.
func TestTwoRuns(t *testing.T) {
	every := append(everyRun(), api.Run{})
	for _, r := range rulers() {
		for _, a := range every {
			for _, b := range every {
				l := []api.Run{a, b}
				wantSet(t, r, r.lay(l, above), told(l))
				wantSet(t, r, r.lay(l[:1], huge), told(l[:1]))
			}
		}
	}
}

// P6.1 to P6.3: the calls of one list, of lists of many runs.
func TestManyRuns(t *testing.T) {
	g := rand.New(rand.NewSource(2))
	for range 4000 {
		l := anyList(g, 9)
		for _, r := range rulers() {
			wantSet(t, r, r.lay(l, above), told(l))
			wantSet(t, r, r.lay(l, huge), told(l))
		}
	}
}

// P6.2: the calls of two lists, of all pairs of runs, either of which may tell nothing.
func TestPairsOfRuns(t *testing.T) {
	for _, r := range rulers() {
		for _, a := range everyRun() {
			for _, b := range everyRun() {
				x, y := []api.Run{a}, []api.Run{b}
				wantSets(t, r, r.lay(x, above), r.lay(y, huge), told(x), told(y))
			}
		}
	}
}

// P6.2: the calls of two lists of many runs, in any order.
func TestPairs(t *testing.T) {
	g := rand.New(rand.NewSource(3))
	for range 8000 {
		x, y := anyList(g, 6), anyList(g, 6)
		for _, r := range rulers() {
			wantSets(t, r, r.lay(x, above), r.lay(y, huge), told(x), told(y))
		}
	}
}

// P6.2: the calls of two lists, of all pairs of sets, in order and backwards.
func TestPairsOfSets(t *testing.T) {
	r := rulers()[2]
	var sets []set
	for bits := range 1 << places {
		var s set
		for n := range places {
			s[n+1] = bits>>n&1 == 1
		}
		sets = append(sets, s)
	}
	for _, x := range sets {
		for _, y := range sets {
			a, b := x.runs(r), y.runs(r)
			wantSets(t, r, a, b, x, y)
			slices.Reverse(b)
			wantSets(t, r, a, b, x, y)
			wantSets(t, r, b, a, y, x)
		}
	}
}

// P6.2: either side, or both, nil, empty or telling nothing.
func TestPairsOfNone(t *testing.T) {
	nones := [][]api.Run{nil, {}, row(0, 5), row(5, 4), row(1, above), silent()}
	for _, none := range nones {
		for _, other := range nones {
			wantSets(t, rulers()[0], none, other, set{}, set{})
		}
		for _, c := range known() {
			l, want := c[0], c[1]
			empty := len(want) == 0
			wantRuns(t, "Join", Join(none, l), want, none, l)
			wantRuns(t, "Join", Join(l, none), want, l, none)
			wantRuns(t, "Meet", Meet(none, l), nil, none, l)
			wantRuns(t, "Meet", Meet(l, none), nil, l, none)
			wantRuns(t, "Minus", Minus(none, l), nil, none, l)
			wantRuns(t, "Minus", Minus(l, none), want, l, none)
			wantBool(t, "Within", Within(none, l), true, none, l)
			wantBool(t, "Within", Within(l, none), empty, l, none)
			wantBool(t, "Same", Same(none, l), empty, none, l)
			wantBool(t, "Same", Same(l, none), empty, l, none)
		}
	}
}

// P6.2: pairs written out.
func TestPairsKnown(t *testing.T) {
	for _, c := range []struct{ a, b, join, meet, minus []api.Run }{
		{row(1, most), row(5, 6), row(1, most), row(5, 6), row(1, 4, 7, most)},
		{row(5, 6), row(1, most), row(1, most), row(5, 6), nil},
		{row(1, most), row(1, 1, most, most), row(1, most), row(1, 1, most, most), row(2, most-1)},
		{row(1, most), row(1, most), row(1, most), row(1, most), nil},
		{row(1, 3), row(4, 6), row(1, 6), nil, row(1, 3)},
		{row(1, 3), row(5, 6), row(1, 3, 5, 6), nil, row(1, 3)},
		{row(1, 3), row(3, 6), row(1, 6), row(3, 3), row(1, 2)},
		{row(1, 3, 5, 7), row(2, 6), row(1, 7), row(2, 3, 5, 6), row(1, 1, 7, 7)},
		{row(5, 7, 1, 3), row(4, 4), row(1, 7), nil, row(1, 3, 5, 7)},
		{row(4, 9, 1, 5), row(8, 8, 2, 3, 2, 2), row(1, 9), row(2, 3, 8, 8), row(1, 1, 4, 7, 9, 9)},
		{row(1, 9), row(2, 2, 4, 4, 6, 6), row(1, 9), row(2, 2, 4, 4, 6, 6), row(1, 1, 3, 3, 5, 5, 7, 9)},
	} {
		wantRuns(t, "Join", Join(c.a, c.b), c.join, c.a, c.b)
		wantRuns(t, "Meet", Meet(c.a, c.b), c.meet, c.a, c.b)
		wantRuns(t, "Minus", Minus(c.a, c.b), c.minus, c.a, c.b)
		wantBool(t, "Within", Within(c.a, c.b), len(c.minus) == 0, c.a, c.b)
		wantBool(t, "Within", Within(c.meet, c.a) && Within(c.meet, c.b) && Within(c.a, c.join) && Within(c.b, c.join), true, c.a, c.b)
		wantBool(t, "Same", Same(c.a, c.b), len(c.minus) == 0 && slices.Equal(c.join, c.meet), c.a, c.b)
	}
}

// P6.1: one number more, of every kind, to lists of every kind.
func TestAdd(t *testing.T) {
	g := rand.New(rand.NewSource(4))
	for range 2000 {
		l := anyList(g, 5)
		for _, r := range rulers()[:2] {
			a := r.lay(l, above)
			kept := slices.Clone(a)
			for n := 1; n <= places; n++ {
				want := told(l)
				want[n] = true
				wantRuns(t, "Add", Add(a, r[n-1]), want.runs(r), a)
			}
			for _, n := range []uint64{0, above, above + 1, huge - 1, huge} {
				wantRuns(t, "Add of none", Add(a, n), told(l).runs(r), a)
			}
			if !slices.Equal(a, kept) {
				t.Fatalf("Add changed %v into %v", kept, a)
			}
		}
	}
}

// P6.1: one number more beside, between and within runs, written out.
func TestAddKnown(t *testing.T) {
	for _, c := range []struct {
		l    []api.Run
		n    uint64
		want []api.Run
	}{
		{nil, 1, row(1, 1)},
		{nil, most, row(most, most)},
		{nil, 0, nil},
		{nil, above, nil},
		{nil, huge, nil},
		{row(2, 3), 1, row(1, 3)},
		{row(2, 3), 2, row(2, 3)},
		{row(2, 3), 4, row(2, 4)},
		{row(2, 3), 5, row(2, 3, 5, 5)},
		{row(2, 3, 5, 6), 4, row(2, 6)},
		{row(5, 6, 2, 3), 4, row(2, 6)},
		{row(1, most), 7, row(1, most)},
		{row(1, most), above, row(1, most)},
		{row(1, most-1), most, row(1, most)},
		{row(2, most), 1, row(1, most)},
		{row(most, most), above, row(most, most)},
		{row(1, above), 2, row(2, 2)},
		{row(1, 1), 0, row(1, 1)},
		{row(1, 1), huge, row(1, 1)},
	} {
		wantRuns(t, "Add", Add(c.l, c.n), c.want, c.l)
	}
}

// P6.2: numbers at the ends of runs, beside them, and those that none tells.
func TestHasKnown(t *testing.T) {
	for _, c := range []struct {
		l    []api.Run
		yes  []uint64
		nope []uint64
	}{
		{nil, nil, []uint64{0, 1, most, above, huge}},
		{row(1, most), []uint64{1, 2, 1 << 40, most - 1, most}, []uint64{0, above, huge}},
		{row(5, 7, 1, 2), []uint64{1, 2, 5, 6, 7}, []uint64{0, 3, 4, 8, most, huge}},
		{row(1, above, 3, 3), []uint64{3}, []uint64{0, 1, 2, 4, most, above}},
		{row(0, 9, 3, 3), []uint64{3}, []uint64{0, 1, 2, 4, 9}},
		{row(9, 3, 4, 4), []uint64{4}, []uint64{3, 5, 9}},
		{row(most, most), []uint64{most}, []uint64{0, most - 1, above, huge}},
		{row(above, above, huge, huge, 0, 0), nil, []uint64{0, 1, above, huge}},
	} {
		for _, n := range c.yes {
			wantBool(t, "Has", Has(c.l, n), true, c.l)
		}
		for _, n := range c.nope {
			wantBool(t, "Has", Has(c.l, n), false, c.l)
		}
	}
}

// P6.3: how many, the first that lacks and the last, written out; of all numbers, where none is left, too.
func TestSizeFirstLastKnown(t *testing.T) {
	for _, c := range []struct {
		l                 []api.Run
		size, first, last uint64
	}{
		{nil, 0, 1, 0},
		{row(), 0, 1, 0},
		{row(1, most), most, above, most},
		{row(2, most, 1, 1), most, above, most},
		{row(1, most-1), most - 1, most, most - 1},
		{row(2, most), most - 1, 1, most},
		{row(1, 1, 3, most), most - 1, 2, most},
		{row(1, most, 1, above), most, above, most},
		{row(1, above), 0, 1, 0},
		{row(most, most), 1, 1, most},
		{row(1, 1), 1, 2, 1},
		{row(3, 4, 1, 2), 4, 5, 4},
		{row(3, 4, 1, 1), 3, 2, 4},
		{row(3, 4, 1, 4, 2, 9, 9, 8), 9, 10, 9},
		{row(5, 9, 6, 7), 5, 1, 9},
		{row(6, 7, 5, 9), 5, 1, 9},
		{row(0, 4, 5, 6), 2, 1, 6},
		{row(1, 2, 4, huge), 2, 3, 2},
	} {
		wantNum(t, "Size", Size(c.l), c.size, c.l)
		wantNum(t, "First", First(c.l), c.first, c.l)
		wantNum(t, "Last", Last(c.l), c.last, c.l)
	}
}

// gather goes over numbers, as many as said at the most, and holds that none comes behind a stop.
func gather(t *testing.T, seq iter.Seq[uint64], atMost int) []uint64 {
	t.Helper()
	var list []uint64
	stopped := false
	seq(func(n uint64) bool {
		if stopped {
			t.Errorf("%d comes behind a stop", n)
			return false
		}
		list = append(list, n)
		stopped = len(list) >= atMost
		return !stopped
	})
	return list
}

// P6.3: Each goes over a set's numbers, rising, may be stopped at each of them, and gone over again.
func TestEach(t *testing.T) {
	g := rand.New(rand.NewSource(5))
	for range 2000 {
		l := anyList(g, 6)
		for _, r := range rulers()[:2] {
			var want []uint64
			for n, has := range told(l) {
				if has {
					want = append(want, r[n-1])
				}
			}
			seq := Each(r.lay(l, above))
			for stop := 1; stop <= len(want)+1; stop++ {
				upto := want[:min(stop, len(want))]
				if got := gather(t, seq, stop); !slices.Equal(got, upto) {
					t.Errorf("Each of %v, stopped at %d: %v, want %v", r.lay(l, above), stop, got, upto)
				}
			}
			if got := slices.Collect(seq); !slices.Equal(got, want) {
				t.Errorf("Each of %v, gone over again: %v, want %v", r.lay(l, above), got, want)
			}
		}
	}
}

// P6.3: Each of all numbers, and of those at either end, stopped.
func TestEachKnown(t *testing.T) {
	for _, c := range []struct {
		l     []api.Run
		first []uint64
	}{
		{nil, nil},
		{row(1, most), []uint64{1, 2, 3, 4}},
		{row(1, most, 1, 1, 1, 2), []uint64{1, 2, 3, 4}},
		{row(2, most, 0, 1), []uint64{2, 3, 4, 5}},
		{row(5, most, 1, 1, 3, 3), []uint64{1, 3, 5, 6}},
		{row(most-1, most), []uint64{most - 1, most}},
		{row(most, most, 1, 1), []uint64{1, most}},
		{row(most-5, most, 1, above), []uint64{most - 5, most - 4, most - 3, most - 2}},
	} {
		seq := Each(c.l)
		for range 3 {
			for stop := 1; stop <= 4; stop++ {
				upto := c.first[:min(stop, len(c.first))]
				if got := gather(t, seq, stop); !slices.Equal(got, upto) {
					t.Errorf("Each of %v, stopped at %d: %v, want %v", c.l, stop, got, upto)
				}
			}
		}
	}
}

// P6.3: one going over numbers does not turn another one within it, and none is told where nobody asks.
func TestEachWithin(t *testing.T) {
	seq := Each(row(5, 6, 1, 2))
	var pairs []uint64
	for a := range seq {
		for b := range seq {
			if b == 6 {
				break
			}
			pairs = append(pairs, 10*a+b)
		}
	}
	if want := []uint64{11, 12, 15, 21, 22, 25, 51, 52, 55, 61, 62, 65}; !slices.Equal(pairs, want) {
		t.Errorf("Each within Each: %v, want %v", pairs, want)
	}
	seq(nil)
	Each(nil)(nil)
}

// P6.3, rule 4: what is written into the list behind the call turns nothing of what Each goes over.
func TestEachShares(t *testing.T) {
	l := row(1, 2, 4, 6)
	seq := Each(l)
	for _, other := range [][]api.Run{row(9, 9, 20, 30), row(0, 0, 0, 0), row(1, most, 1, most)} {
		copy(l, other)
		if got, want := gather(t, seq, 9), []uint64{1, 2, 4, 5, 6}; !slices.Equal(got, want) {
			t.Errorf("behind %v written into the list, Each goes over %v, want %v", other, got, want)
		}
	}
	l = row(1, 2, 4, 6)
	var got []uint64
	for n := range Each(l) {
		got = append(got, n)
		l[0], l[1] = api.Run{}, api.Run{Lo: 1, Hi: most}
	}
	if want := []uint64{1, 2, 4, 5, 6}; !slices.Equal(got, want) {
		t.Errorf("while the list is written, Each goes over %v, want %v", got, want)
	}
}

// scrawl writes into all of a list, the room behind it, too.
func scrawl(l []api.Run) {
	l = l[:cap(l)]
	for i := range l {
		l[i] = api.Run{Lo: 77, Hi: 78}
	}
}

// wantOwn holds that a call's answer shares nothing with its two lists, nor with another answer, and leaves the room behind the lists.
func wantOwn(t *testing.T, what string, call func(a, b []api.Run) []api.Run, a, b []api.Run) {
	t.Helper()
	roomA, roomB := append(slices.Clone(a), silent()...), append(slices.Clone(b), silent()...)
	keptA, keptB := slices.Clone(roomA), slices.Clone(roomB)
	x, y := roomA[:len(a)], roomB[:len(b)]
	first, second := call(x, y), call(x, y)
	want := slices.Clone(second)
	scrawl(first)
	if !slices.Equal(roomA, keptA) || !slices.Equal(roomB, keptB) {
		t.Errorf("%s: %v and %v were changed, to %v and %v", what, keptA, keptB, roomA, roomB)
	}
	if !slices.Equal(second, want) {
		t.Errorf("%s: what is written into an answer turned another one", what)
	}
	scrawl(roomA)
	scrawl(roomB)
	if !slices.Equal(second, want) {
		t.Errorf("%s: what is written into %v and %v turned the answer into %v, want %v", what, keptA, keptB, second, want)
	}
}

// P6.1, P6.2, rule 4: no answer shares anything with what came in.
func TestShares(t *testing.T) {
	lists := [][]api.Run{nil, row(1, most), row(2, 3), row(2, 3, 5, 9), row(5, 9, 2, 3), row(0, 0, 2, 6, 4, 8), row(1, 1, 3, 3, 5, 5, 7, 7)}
	for _, a := range lists {
		for _, b := range lists {
			wantOwn(t, "Join", Join, a, b)
			wantOwn(t, "Meet", Meet, a, b)
			wantOwn(t, "Minus", Minus, a, b)
		}
		wantOwn(t, "Norm", func(x, _ []api.Run) []api.Run { return Norm(x) }, a, nil)
		for _, n := range []uint64{0, 1, 4, 10, most, above} {
			wantOwn(t, "Add", func(x, _ []api.Run) []api.Run { return Add(x, n) }, a, nil)
		}
	}
}

// P6.1, rule 4: what is written into the numbers that went into Of turns nothing.
func TestOfShares(t *testing.T) {
	nums := []uint64{9, 1, 2, 0, 5}
	first, second := Of(nums...), Of(nums...)
	if want := []uint64{9, 1, 2, 0, 5}; !slices.Equal(nums, want) {
		t.Errorf("Of changed its numbers into %v", nums)
	}
	scrawl(first)
	for i := range nums {
		nums[i] = 77
	}
	wantRuns(t, "Of", second, row(1, 2, 5, 5, 9, 9))
}

// P6.1 to P6.3: lists of very many runs, in any order.
func TestVeryMany(t *testing.T) {
	const n = 100000
	even, odd := make([]uint64, n), make([]uint64, n)
	for i := range n {
		even[i], odd[i] = uint64(2*i+2), uint64(2*i+1)
	}
	g := rand.New(rand.NewSource(6))
	g.Shuffle(n, func(i, j int) { even[i], even[j] = even[j], even[i] })
	slices.Reverse(odd)
	a, b := Of(even...), Of(odd...)
	if len(a) != n || len(b) != n || !Good(a) || !Good(b) {
		t.Fatalf("%d and %d runs, in order: %v, %v", len(a), len(b), Good(a), Good(b))
	}
	g.Shuffle(n, func(i, j int) { a[i], a[j] = a[j], a[i] })
	wantNum(t, "Size", Size(a), n)
	wantNum(t, "First", First(b), 2)
	wantNum(t, "Last", Last(a), 2*n)
	wantRuns(t, "Join", Join(a, b), row(1, 2*n))
	wantRuns(t, "Meet", Meet(a, b), nil)
	wantRuns(t, "Minus", Minus(row(1, 2*n), a), b)
	wantBool(t, "Within", Within(a, row(2, 2*n)), true)
	wantBool(t, "Same", Same(a, Of(even...)), true)
	next := uint64(0)
	for got := range Each(a) {
		next += 2
		wantNum(t, "Each", got, next)
	}
	wantNum(t, "Each, at last,", next, 2*n)
}
