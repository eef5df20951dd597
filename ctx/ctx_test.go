package ctx

import (
	"math/big"
	"math/rand"
	"slices"
	"testing"

	"epitaph/aid"
	"epitaph/api"
)

const (
	most  = aid.Most
	above = aid.Above
	huge  = aid.Huge
	last  = aid.Last
)

// What stands in the tests in short.
var (
	of, dots, row, part = aid.Dot, aid.Dots, aid.Runs, aid.Part
	copied, alike       = aid.Copied, aid.Alike
	mayBe, never, told  = aid.MayBe, aid.Never, aid.Has
	devs, silent, mute  = aid.Devs, aid.Silent, aid.Mute
	anyDots, anyCtx     = aid.AnyDots, aid.AnyCtx
	spoilRuns, spoilCtx = aid.SpoilRuns, aid.SpoilCtx
	spoilDots           = aid.SpoilDots
	roomy, whole        = aid.Roomy, aid.Whole
)

// marks are the numbers, rising, at which what contexts have may begin or end, and one beyond all.
func marks(all ...api.Ctx) []uint64 {
	list := []uint64{1, above}
	for _, p := range slices.Concat(all...) {
		for _, r := range p.Runs {
			for _, n := range []uint64{r.Lo, r.Hi + 1} {
				if n >= 1 && n <= above {
					list = append(list, n)
				}
			}
		}
	}
	slices.Sort(list)
	return slices.Compact(list)
}

// form is the context in order of the dots that has tells, which turns at marks alone.
func form(at []uint64, has func(d api.Dot) bool) api.Ctx {
	var c api.Ctx
	for _, dev := range devs() {
		var l []api.Run
		for i, n := range at[:len(at)-1] {
			if !has(of(dev, n)) {
				continue
			}
			if end := len(l) - 1; end >= 0 && l[end].Hi == n-1 {
				l[end].Hi = at[i+1] - 1
			} else {
				l = append(l, api.Run{Lo: n, Hi: at[i+1] - 1})
			}
		}
		if len(l) > 0 {
			c = append(c, api.Part{Dev: dev, Runs: l})
		}
	}
	return c
}

// slow is a context in order, made mark by mark.
func slow(c api.Ctx) api.Ctx {
	return form(marks(c), func(d api.Dot) bool { return told(c, d) })
}

// slowRuns are the runs that a context in order has of a device.
func slowRuns(c api.Ctx, dev uint16) []api.Run {
	for _, p := range c {
		if p.Dev == dev {
			return p.Runs
		}
	}
	return nil
}

// slowSize is told by numbers without an end, of which 64 bits are kept at last; of a context in order.
func slowSize(c api.Ctx) uint64 {
	sum := new(big.Int)
	for _, p := range c {
		for _, r := range p.Runs {
			sum.Add(sum, new(big.Int).SetUint64(r.Hi))
			sum.Sub(sum, new(big.Int).SetUint64(r.Lo-1))
		}
	}
	return sum.Mod(sum, new(big.Int).Lsh(big.NewInt(1), 64)).Uint64()
}

// slowBase is the vector of the runs that begin at 1, of a context in order.
func slowBase(c api.Ctx) api.Vec {
	var v api.Vec
	for _, p := range c {
		for _, r := range p.Runs {
			if r.Lo == 1 {
				v = append(v, of(p.Dev, r.Hi))
			}
		}
	}
	return v
}

func wantCtx(t *testing.T, what string, got, want api.Ctx, in ...any) {
	t.Helper()
	if !alike(got, want) {
		t.Errorf("%s of %v = %v, want %v", what, in, got, want)
	}
	if !Good(got) {
		t.Errorf("%s of %v = %v: not in order", what, in, got)
	}
}

func wantRuns(t *testing.T, what string, got, want []api.Run, in ...any) {
	t.Helper()
	if !slices.Equal(got, want) {
		t.Errorf("%s of %v = %v, want %v", what, in, got, want)
	}
}

func wantVec(t *testing.T, what string, got, want api.Vec, in ...any) {
	t.Helper()
	if !slices.Equal(got, want) {
		t.Errorf("%s of %v = %v, want %v", what, in, got, want)
	}
}

func wantIs[T comparable](t *testing.T, what string, got, want T, in ...any) {
	t.Helper()
	if got != want {
		t.Errorf("%s of %v = %v, want %v", what, in, got, want)
	}
}

// wantKept holds that a context that went in is as it was.
func wantKept(t *testing.T, c, kept api.Ctx) {
	t.Helper()
	if !alike(c, kept) {
		t.Fatalf("%v was changed into %v", kept, c)
	}
}

// everything has all dots of the devices that the tests speak of, and those of 0, which may not be.
func everything() api.Ctx {
	var c api.Ctx
	for _, dev := range devs() {
		c = append(c, part(dev, 1, most))
	}
	return c
}

// wantOne holds the calls of one context against what it has, in order.
func wantOne(t *testing.T, c, want api.Ctx) {
	t.Helper()
	kept := copied(c)
	wantCtx(t, "Norm", Norm(c), want, c)
	wantCtx(t, "Norm of Norm", Norm(Norm(c)), want, c)
	wantIs(t, "Good", Good(c), alike(c, want), c)
	wantCtx(t, "Add of none", Add(c), want, c)
	wantCtx(t, "Add of those that may not be", Add(c, never()...), want, c)
	wantCtx(t, "Meet with everything", Meet(c, everything()), want, c)
	wantCtx(t, "Minus everything", Minus(c, everything()), nil, c)
	for _, none := range []api.Ctx{nil, {}, mute()} {
		wantCtx(t, "Join with none", Join(c, none), want, c)
		wantCtx(t, "Join behind none", Join(none, c), want, c)
		wantCtx(t, "Meet with none", Meet(c, none), nil, c)
		wantCtx(t, "Meet behind none", Meet(none, c), nil, c)
		wantCtx(t, "Minus none", Minus(c, none), want, c)
		wantCtx(t, "Minus of none", Minus(none, c), nil, c)
		wantIs(t, "Within none", Within(c, none), len(want) == 0, c)
		wantIs(t, "None within", Within(none, c), true, c)
		wantIs(t, "Same as none", Same(c, none), len(want) == 0, c)
		wantIs(t, "None same", Same(none, c), len(want) == 0, c)
	}
	wantSame(t, c, c)
	wantSame(t, c, want)
	wantSame(t, want, c)
	wantParts(t, c, want)
	wantHas(t, c, want)
	wantIs(t, "Size", Size(c), slowSize(want), c)
	wantVec(t, "Base", Base(c), slowBase(want), c)
	wantKept(t, c, kept)
}

// wantSame holds the calls of two contexts that have the same dots.
func wantSame(t *testing.T, a, b api.Ctx) {
	t.Helper()
	want := slow(a)
	wantCtx(t, "Join of the same", Join(a, b), want, a, b)
	wantCtx(t, "Meet of the same", Meet(a, b), want, a, b)
	wantCtx(t, "Minus of the same", Minus(a, b), nil, a, b)
	wantIs(t, "Within of the same", Within(a, b), true, a, b)
	wantIs(t, "Same", Same(a, b), true, a, b)
}

// wantParts holds what is told of each device by itself.
func wantParts(t *testing.T, c, want api.Ctx) {
	t.Helper()
	for _, dev := range append(devs(), 77) {
		l := slowRuns(want, dev)
		var only api.Ctx
		if len(l) > 0 {
			only = api.Ctx{{Dev: dev, Runs: l}}
		}
		wantRuns(t, "Runs", Runs(c, dev), l, c, dev)
		wantCtx(t, "Only", Only(c, dev), only, c, dev)
	}
}

// wantHas holds which dots there are round all ends of runs, of each device.
func wantHas(t *testing.T, c, want api.Ctx) {
	t.Helper()
	nums := []uint64{0, most - 1, most, above + 1, huge - 1, huge}
	for _, n := range marks(c) {
		nums = append(nums, n-1, n, n+1)
	}
	for _, dev := range devs() {
		for _, n := range nums {
			wantIs(t, "Has", Has(c, of(dev, n)), told(want, of(dev, n)), c, dev, n)
		}
	}
}

// wantTwo holds the calls of two contexts against what is told mark by mark.
func wantTwo(t *testing.T, a, b api.Ctx) {
	t.Helper()
	keptA, keptB := copied(a), copied(b)
	at := marks(a, b)
	minus := form(at, func(d api.Dot) bool { return told(a, d) && !told(b, d) })
	back := form(at, func(d api.Dot) bool { return told(b, d) && !told(a, d) })
	wantCtx(t, "Join", Join(a, b), form(at, func(d api.Dot) bool { return told(a, d) || told(b, d) }), a, b)
	wantCtx(t, "Meet", Meet(a, b), form(at, func(d api.Dot) bool { return told(a, d) && told(b, d) }), a, b)
	wantCtx(t, "Minus", Minus(a, b), minus, a, b)
	wantIs(t, "Within", Within(a, b), len(minus) == 0, a, b)
	wantIs(t, "Same", Same(a, b), len(minus) == 0 && len(back) == 0, a, b)
	wantKept(t, a, keptA)
	wantKept(t, b, keptB)
}

// P9.1 to P9.4: the chapter's example.
func TestExample(t *testing.T) {
	c := Of(dots(1, 1, 1, 2, 1, 4, 2, 2)...)
	wantCtx(t, "Of", c, api.Ctx{part(1, 1, 2, 4, 4), part(2, 2, 2)})
	wantVec(t, "Base", Base(c), dots(1, 2), c)
	wantCtx(t, "Add of 1.3", Add(c, of(1, 3)), api.Ctx{part(1, 1, 4), part(2, 2, 2)}, c)
	wantVec(t, "Base, with 1.3,", Base(Add(c, of(1, 3))), dots(1, 4), c)
}

// known are contexts, and what they have, in order.
func known() [][2]api.Ctx {
	return [][2]api.Ctx{
		{nil, nil},
		{{}, nil},
		{make(api.Ctx, 0, 5), nil},
		{{{}}, nil},
		{{{Dev: 1}}, nil},
		{{part(1)}, nil},
		{{part(last)}, nil},
		{{part(0, 1, 1)}, nil},
		{{part(0, 1, most)}, nil},
		{{part(1, 0, 1)}, nil},
		{{part(1, 1, above)}, nil},
		{{part(1, 2, 1)}, nil},
		{{part(last, 1, huge)}, nil},
		{{part(1, 1, 1)}, {part(1, 1, 1)}},
		{{part(1, 1, most)}, {part(1, 1, most)}},
		{{part(last, 1, most)}, {part(last, 1, most)}},
		{{part(last, most, most)}, {part(last, most, most)}},
		{{part(2, 5, 7, 1, 2)}, {part(2, 1, 2, 5, 7)}},
		{{part(2, 1, 2, 3, 4)}, {part(2, 1, 4)}},
		{{part(2, 3, 4, 1, 2)}, {part(2, 1, 4)}},
		{{part(2, 1, 5, 3, 8)}, {part(2, 1, 8)}},
		{{part(2, 1, 9, 3, 4, 6, 6)}, {part(2, 1, 9)}},
		{{part(2, 1, most-1, most, most)}, {part(2, 1, most)}},
		{{part(2, 1, most-2, most, most)}, {part(2, 1, most-2, most, most)}},
		{{part(2, 1, 3, 0, 9, 9, 8, 5, 6)}, {part(2, 1, 3, 5, 6)}},
		{{part(2, 1, 3, 1, above, 3, huge)}, {part(2, 1, 3)}},
		{{part(1, 1, 1), part(2, 2, 2)}, {part(1, 1, 1), part(2, 2, 2)}},
		{{part(1, 1, 3), part(1, 4, 6)}, {part(1, 1, 6)}},
		{{part(1, 1, 3), part(1, 5, 6)}, {part(1, 1, 3, 5, 6)}},
		{{part(1, 1, 1), part(1, 3, 3), part(1, 2, 2)}, {part(1, 1, 3)}},
		{{part(1, 1, 4), part(1, 1, 4), part(1, 2, 3)}, {part(1, 1, 4)}},
		{{part(1, 7, 9, 1, 2), part(1, 3, 4), part(1)}, {part(1, 1, 4, 7, 9)}},
		{{part(1, 1, 1), part(2, 5, 5), part(1, 3, 3), part(2, 4, 4)}, {part(1, 1, 1, 3, 3), part(2, 4, 5)}},
		{{part(1, 1, 1), part(255, 2, 2), part(256, 3, 3), part(last, 4, 4)}, {part(1, 1, 1), part(255, 2, 2), part(256, 3, 3), part(last, 4, 4)}},
		{{part(32767, 1, most), part(32768, 2, 2), part(65534, 1, 1)}, {part(32767, 1, most), part(32768, 2, 2), part(65534, 1, 1)}},
		{{part(0, 5, 6), part(1, 2, 2), part(last, 3, 3)}, {part(1, 2, 2), part(last, 3, 3)}},
		{{part(1, 2, 2), part(2), part(3, 3, 3)}, {part(1, 2, 2), part(3, 3, 3)}},
		{{part(1, 2, 2), part(2, 5, 4), part(3, 3, 3)}, {part(1, 2, 2), part(3, 3, 3)}},
		{{part(1, 2, 2), part(2, 4, 4, 0, 0), part(3, 3, 3)}, {part(1, 2, 2), part(2, 4, 4), part(3, 3, 3)}},
		{{part(0, 1, most), part(1, 1, above), part(2)}, nil},
	}
}

// ordersOfRuns are a context in which one part's runs stand in each order.
func ordersOfRuns(c api.Ctx) []api.Ctx {
	var all []api.Ctx
	for i := range c {
		for _, l := range aid.Orders(c[i].Runs) {
			other := copied(c)
			other[i].Runs = l
			all = append(all, other)
		}
	}
	return all
}

// P9.1 to P9.3: contexts written out, their parts in each order, and the runs of each part.
func TestKnown(t *testing.T) {
	for _, k := range known() {
		wantOne(t, k[0], k[1])
		wantOne(t, k[1], k[1])
		for _, c := range aid.Orders(k[0]) {
			wantOne(t, c, k[1])
		}
		for _, c := range ordersOfRuns(k[0]) {
			wantOne(t, c, k[1])
		}
	}
}

// P9.1 to P9.3: parts that have no dot, alone, twice, and all together.
func TestMuteAlone(t *testing.T) {
	wantOne(t, mute(), nil)
	for _, p := range mute() {
		wantOne(t, api.Ctx{p}, nil)
		wantOne(t, api.Ctx{p, p}, nil)
	}
}

// P9.1 to P9.3: parts that have no dot, ahead of, within and behind each context written out.
func TestMuteAmong(t *testing.T) {
	for _, k := range known() {
		for _, p := range mute() {
			for at := 0; at <= len(k[0]); at++ {
				wantOne(t, slices.Insert(slices.Clone(k[0]), at, p), k[1])
			}
		}
		wantOne(t, slices.Concat(mute(), k[0], mute()), k[1])
	}
}

// P9.1 to P9.3: runs that tell nothing, at each place of each part.
func TestSilentAmong(t *testing.T) {
	for _, k := range known() {
		for i := range k[0] {
			for _, r := range silent() {
				for at := 0; at <= len(k[0][i].Runs); at++ {
					c := copied(k[0])
					c[i].Runs = slices.Insert(c[i].Runs, at, r)
					wantOne(t, c, k[1])
				}
			}
		}
	}
}

// P9.1: contexts that are in order, and those that are not by one thing alone.
func TestGood(t *testing.T) {
	for _, c := range []api.Ctx{
		nil, {}, {part(1, 1, 1)}, {part(last, most, most)}, {part(1, 1, most)}, {part(1, 1, 1, 3, 3)},
		{part(1, 1, 1), part(2, 1, 1)}, {part(1, 9, 9), part(2, 1, 1)}, {part(255, 1, 1), part(256, 1, 1)},
		{part(32767, 1, 1), part(32768, 1, 1)}, {part(1, 1, 2, 4, 4), part(2, 2, 2), part(last, 1, most-2, most, most)},
	} {
		wantIs(t, "Good", Good(c), true, c)
	}
	for _, c := range []api.Ctx{
		{{}}, {part(0, 1, 1)}, {part(0)}, {part(1)}, {{Dev: 1}}, {part(1, 0, 1)}, {part(1, 0, 0)}, {part(1, 2, 1)},
		{part(1, 1, above)}, {part(1, above, above)}, {part(1, huge, huge)}, {part(1, 1, 1, 2, 2)}, {part(1, 1, 2, 2, 3)},
		{part(1, 3, 3, 1, 1)}, {part(1, 1, 1, 1, 1)}, {part(1, 1, 5, 2, 3)}, {part(1, 1, 1, 0, 0)}, {part(1, 1, 1, 4, 3)},
		{part(1, 1, most-1, most, most)}, {part(1, 1, 1, 3, above)},
		{part(2, 1, 1), part(1, 1, 1)}, {part(1, 1, 1), part(1, 1, 1)}, {part(1, 1, 1), part(1, 3, 3)},
		{part(0, 1, 1), part(1, 1, 1)}, {part(1, 1, 1), part(0, 1, 1)}, {part(1, 1, 1), part(2)}, {part(1), part(2, 1, 1)},
		{part(1, 1, 1), {Dev: 2}, part(3, 1, 1)}, {part(1, 1, 1), part(2, 0, 1), part(3, 1, 1)},
		{part(1, 1, 1), part(2, 1, 1, 2, 2)}, {part(1, 1, 1, 2, 2), part(2, 1, 1)}, {part(1, 1, 1), part(3, 1, 1), part(2, 1, 1)},
		{part(1, 1, 1), part(3, 1, 1), part(2, 1, 1), part(4, 1, 1)}, {part(1, 1, 1), part(2, 1, 1), part(2, 3, 3), part(3, 1, 1)},
		{part(last, 1, 1), part(1, 1, 1)}, {part(last, 1, 1), part(last, 3, 3)}, {part(256, 1, 1), part(255, 1, 1)},
	} {
		wantIs(t, "Good", Good(c), false, c)
	}
}

// P9.1: a context in order in which two parts, or two runs, stand in each other's places, or one is there twice.
func TestOutOfOrder(t *testing.T) {
	c := api.Ctx{part(1, 1, 2, 4, 4, 7, most), part(2, 3, 3), part(256, 1, most), part(last, 2, 4, 6, 8, most, most)}
	wantOne(t, c, c)
	for i := range c {
		for j := range i {
			other := copied(c)
			other[i], other[j] = other[j], other[i]
			wantOne(t, other, c)
		}
		for at := range len(c) + 1 {
			wantOne(t, slices.Insert(copied(c), at, c[i]), c)
		}
		for k, r := range c[i].Runs {
			for j := range k {
				other := copied(c)
				l := other[i].Runs
				l[k], l[j] = l[j], l[k]
				wantOne(t, other, c)
			}
			other := copied(c)
			other[i].Runs = append(other[i].Runs, r)
			wantOne(t, other, c)
		}
	}
}

// P9.1: Of, and Add to nothing, of no dot, of one, of the same many times, and of those that may not be; in each order.
func TestOfKnown(t *testing.T) {
	for _, k := range []struct {
		l    []api.Dot
		want api.Ctx
	}{
		{nil, nil},
		{dots(), nil},
		{dots(1, 1), api.Ctx{part(1, 1, 1)}},
		{dots(1, most), api.Ctx{part(1, most, most)}},
		{dots(last, 1), api.Ctx{part(last, 1, 1)}},
		{dots(last, most), api.Ctx{part(last, most, most)}},
		{dots(0, 1), nil},
		{dots(1, 0), nil},
		{dots(1, above), nil},
		{dots(1, huge), nil},
		{dots(0, 1, 1, 0, 2, above, 0, 0), nil},
		{dots(3, 17, 3, 17, 3, 17, 3, 17), api.Ctx{part(3, 17, 17)}},
		{dots(1, 1, 1, 2, 1, 3), api.Ctx{part(1, 1, 3)}},
		{dots(1, 1, 1, 3, 1, 5, 1, 3), api.Ctx{part(1, 1, 1, 3, 3, 5, 5)}},
		{dots(1, 2, 0, 3, 1, 3, 1, 0, 1, above), api.Ctx{part(1, 2, 3)}},
		{dots(1, most, 1, above, 1, most-1), api.Ctx{part(1, most-1, most)}},
		{dots(2, 1, 1, 2, last, 3, 2, 2), api.Ctx{part(1, 2, 2), part(2, 1, 2), part(last, 3, 3)}},
		{dots(256, 1, 255, 1, 1, 1), api.Ctx{part(1, 1, 1), part(255, 1, 1), part(256, 1, 1)}},
	} {
		for _, l := range aid.Orders(k.l) {
			kept := slices.Clone(l)
			wantCtx(t, "Of", Of(l...), k.want, l)
			wantCtx(t, "Add", Add(nil, l...), k.want, l)
			wantCtx(t, "Add", Add(mute(), l...), k.want, l)
			if !slices.Equal(l, kept) {
				t.Fatalf("%v was changed into %v", kept, l)
			}
		}
	}
	wantCtx(t, "Of without a dot", Of(), nil)
	wantCtx(t, "Of those that may not be", Of(never()...), nil)
	for _, d := range never() {
		wantCtx(t, "Of one that may not be", Of(d), nil, d)
	}
}

// P9.1: some dots more, beside, between, within and of other devices, written out.
func TestAddKnown(t *testing.T) {
	for _, k := range []struct {
		c    api.Ctx
		l    []api.Dot
		want api.Ctx
	}{
		{api.Ctx{part(2, 2, 3)}, dots(2, 1), api.Ctx{part(2, 1, 3)}},
		{api.Ctx{part(2, 2, 3)}, dots(2, 2), api.Ctx{part(2, 2, 3)}},
		{api.Ctx{part(2, 2, 3)}, dots(2, 4), api.Ctx{part(2, 2, 4)}},
		{api.Ctx{part(2, 2, 3)}, dots(2, 5), api.Ctx{part(2, 2, 3, 5, 5)}},
		{api.Ctx{part(2, 2, 3, 5, 6)}, dots(2, 4), api.Ctx{part(2, 2, 6)}},
		{api.Ctx{part(2, 5, 6), part(2, 2, 3)}, dots(2, 4), api.Ctx{part(2, 2, 6)}},
		{api.Ctx{part(2, 1, most)}, dots(2, above, 2, 0, 2, huge), api.Ctx{part(2, 1, most)}},
		{api.Ctx{part(2, 1, most-1)}, dots(2, most), api.Ctx{part(2, 1, most)}},
		{api.Ctx{part(2, 2, 3)}, dots(1, 4), api.Ctx{part(1, 4, 4), part(2, 2, 3)}},
		{api.Ctx{part(2, 2, 3)}, dots(3, 4), api.Ctx{part(2, 2, 3), part(3, 4, 4)}},
		{api.Ctx{part(2, 2, 3)}, dots(0, 4, last, 1, 1, 1), api.Ctx{part(1, 1, 1), part(2, 2, 3), part(last, 1, 1)}},
		{api.Ctx{part(3, 1, 1), part(1, 1, 1)}, dots(2, 1), api.Ctx{part(1, 1, 1), part(2, 1, 1), part(3, 1, 1)}},
		{api.Ctx{part(0, 4, 4), part(1, 1, above)}, dots(1, 4), api.Ctx{part(1, 4, 4)}},
		{api.Ctx{part(0, 4, 4)}, dots(0, 4, 0, 5), nil},
	} {
		for _, l := range aid.Orders(k.l) {
			wantCtx(t, "Add", Add(k.c, l...), k.want, k.c, l)
		}
	}
}

// each is a context of which each dot is a part of its own.
func each(l []api.Dot) api.Ctx {
	var c api.Ctx
	for _, d := range l {
		c = append(c, part(d.Dev, d.N, d.N))
	}
	return c
}

// P9.1: Of and Add of any dots, to any contexts.
func TestAnyDots(t *testing.T) {
	g := rand.New(rand.NewSource(1))
	for range 3000 {
		l, c := anyDots(g, 20), anyCtx(g, 5, 4)
		kept, keptC := slices.Clone(l), copied(c)
		wantCtx(t, "Of", Of(l...), slow(each(l)), l)
		wantCtx(t, "Add", Add(c, l...), slow(slices.Concat(c, each(l))), c, l)
		for _, d := range l {
			wantIs(t, "Of, and Has,", Has(Of(l...), d), mayBe(d), l, d)
			wantIs(t, "Add, and Has,", Has(Add(c, l...), d), mayBe(d), c, l, d)
		}
		if !slices.Equal(l, kept) {
			t.Fatalf("%v was changed into %v", kept, l)
		}
		wantKept(t, c, keptC)
	}
}

// P9.1: dots at, below and above the ends of runs, in gaps, of other devices, and those that may not be.
func TestHasKnown(t *testing.T) {
	for _, k := range []struct {
		c         api.Ctx
		yes, nope []api.Dot
	}{
		{nil, nil, append(never(), of(1, 1), of(last, most))},
		{mute(), nil, append(never(), dots(1, 1, 1, 5, 1, most, 2, 1, last, 1, last, most)...)},
		{api.Ctx{part(2, 5, 7, 1, 2)}, dots(2, 1, 2, 2, 2, 5, 2, 6, 2, 7), append(never(), dots(2, 3, 2, 4, 2, 8, 2, most, 1, 1, 3, 5, 258, 1)...)},
		{api.Ctx{part(2, 5, 7), part(1, 3, 3), part(2, 1, 2)}, dots(1, 3, 2, 1, 2, 2, 2, 5, 2, 7), append(never(), dots(2, 3, 2, 4, 1, 1, 1, 2, 1, 4, 1, 5)...)},
		{api.Ctx{part(1, 1, most)}, dots(1, 1, 1, 2, 1, most-1, 1, most), append(never(), of(2, 1), of(last, most))},
		{api.Ctx{part(last, most, most)}, dots(last, most), append(never(), of(last, most-1), of(1, most))},
		{api.Ctx{part(1, 1, above, 3, 3)}, dots(1, 3), append(never(), dots(1, 1, 1, 2, 1, 4, 1, most)...)},
		{api.Ctx{part(1, 0, 9), part(1, 3, 3)}, dots(1, 3), append(never(), dots(1, 1, 1, 2, 1, 4, 1, 9)...)},
		{api.Ctx{part(0, 1, most), part(1, 4, 4)}, dots(1, 4), append(never(), dots(0, 4, 1, 3, 1, 5)...)},
	} {
		for _, d := range k.yes {
			wantIs(t, "Has", Has(k.c, d), true, k.c, d)
		}
		for _, d := range k.nope {
			wantIs(t, "Has", Has(k.c, d), false, k.c, d)
		}
	}
}

// P9.1, P9.2: Runs and Only of devices of which there are dots, of which there are none, of 0 and of the greatest.
func TestOfOneDeviceKnown(t *testing.T) {
	c := api.Ctx{part(2, 5, 7), part(0, 1, 9), part(last, 3, 3, 1, 1), part(2, 1, 2, 8, 8), part(4), part(5, 2, 1)}
	for _, k := range []struct {
		dev  uint16
		want []api.Run
	}{
		{0, nil}, {1, nil}, {2, row(1, 2, 5, 8)}, {3, nil}, {4, nil}, {5, nil}, {258, nil}, {last - 1, nil}, {last, row(1, 1, 3, 3)},
	} {
		var only api.Ctx
		if k.want != nil {
			only = api.Ctx{{Dev: k.dev, Runs: k.want}}
		}
		wantRuns(t, "Runs", Runs(c, k.dev), k.want, c, k.dev)
		wantCtx(t, "Only", Only(c, k.dev), only, c, k.dev)
		wantRuns(t, "Runs", Runs(nil, k.dev), nil, k.dev)
		wantCtx(t, "Only", Only(nil, k.dev), nil, k.dev)
	}
}

// P9.2: pairs written out; Minus those of the first one alone, back those of the second one alone.
func TestPairsKnown(t *testing.T) {
	for _, k := range []struct{ a, b, join, meet, minus, back api.Ctx }{
		{nil, nil, nil, nil, nil, nil},
		{nil, api.Ctx{part(0, 1, 5), part(1)}, nil, nil, nil, nil},
		{nil, api.Ctx{part(2, 1, 5)}, api.Ctx{part(2, 1, 5)}, nil, nil, api.Ctx{part(2, 1, 5)}},
		{mute()[:5], api.Ctx{part(2, 1, 5)}, api.Ctx{part(2, 1, 5)}, nil, nil, api.Ctx{part(2, 1, 5)}},
		{api.Ctx{part(1, 1, 3)}, api.Ctx{part(2, 1, 3)}, api.Ctx{part(1, 1, 3), part(2, 1, 3)}, nil, api.Ctx{part(1, 1, 3)}, api.Ctx{part(2, 1, 3)}},
		{api.Ctx{part(1, 1, 3), part(3, 4, 4)}, api.Ctx{part(last, 1, 1), part(2, 7, 9)},
			api.Ctx{part(1, 1, 3), part(2, 7, 9), part(3, 4, 4), part(last, 1, 1)}, nil,
			api.Ctx{part(1, 1, 3), part(3, 4, 4)}, api.Ctx{part(2, 7, 9), part(last, 1, 1)}},
		{api.Ctx{part(1, 1, 3)}, api.Ctx{part(1, 4, 6)}, api.Ctx{part(1, 1, 6)}, nil, api.Ctx{part(1, 1, 3)}, api.Ctx{part(1, 4, 6)}},
		{api.Ctx{part(1, 1, 3)}, api.Ctx{part(1, 5, 6)}, api.Ctx{part(1, 1, 3, 5, 6)}, nil, api.Ctx{part(1, 1, 3)}, api.Ctx{part(1, 5, 6)}},
		{api.Ctx{part(1, 1, 3)}, api.Ctx{part(1, 3, 6)}, api.Ctx{part(1, 1, 6)}, api.Ctx{part(1, 3, 3)}, api.Ctx{part(1, 1, 2)}, api.Ctx{part(1, 4, 6)}},
		{api.Ctx{part(1, 1, 9)}, api.Ctx{part(1, 3, 4, 6, 6)}, api.Ctx{part(1, 1, 9)}, api.Ctx{part(1, 3, 4, 6, 6)},
			api.Ctx{part(1, 1, 2, 5, 5, 7, 9)}, nil},
		{api.Ctx{part(1, 1, most)}, api.Ctx{part(1, 1, 1, most, most)}, api.Ctx{part(1, 1, most)}, api.Ctx{part(1, 1, 1, most, most)},
			api.Ctx{part(1, 2, most-1)}, nil},
		{api.Ctx{part(1, 1, 3, 5, 7)}, api.Ctx{part(1, 2, 6)}, api.Ctx{part(1, 1, 7)}, api.Ctx{part(1, 2, 3, 5, 6)},
			api.Ctx{part(1, 1, 1, 7, 7)}, api.Ctx{part(1, 4, 4)}},
		{api.Ctx{part(1, 1, 3), part(2, 1, 3)}, api.Ctx{part(1, 1, 3)}, api.Ctx{part(1, 1, 3), part(2, 1, 3)}, api.Ctx{part(1, 1, 3)}, api.Ctx{part(2, 1, 3)}, nil},
		{api.Ctx{part(1, 1, 3), part(2, 2, 2)}, api.Ctx{part(1, 2, 2), part(2, 1, 3)}, api.Ctx{part(1, 1, 3), part(2, 1, 3)},
			api.Ctx{part(1, 2, 2), part(2, 2, 2)}, api.Ctx{part(1, 1, 1, 3, 3)}, api.Ctx{part(2, 1, 1, 3, 3)}},
		{api.Ctx{part(1, 1, 1), part(1, 2, 3)}, api.Ctx{part(1, 3, 3, 1, 2, 0, 9)}, api.Ctx{part(1, 1, 3)}, api.Ctx{part(1, 1, 3)}, nil, nil},
		{api.Ctx{part(2, 4, 4), part(1, 1, 4), part(2, 1, 3)}, api.Ctx{part(2, 1, 4), part(0, 1, 4), part(1, 4, 4, 1, 3)},
			api.Ctx{part(1, 1, 4), part(2, 1, 4)}, api.Ctx{part(1, 1, 4), part(2, 1, 4)}, nil, nil},
		{api.Ctx{part(1, 1, above), part(2, 1, 1)}, api.Ctx{part(1, 1, most)}, api.Ctx{part(1, 1, most), part(2, 1, 1)}, nil,
			api.Ctx{part(2, 1, 1)}, api.Ctx{part(1, 1, most)}},
		{api.Ctx{part(0, 1, 9), part(3, 1, 1)}, api.Ctx{part(0, 1, 9), part(3, 2, 2)}, api.Ctx{part(3, 1, 2)}, nil, api.Ctx{part(3, 1, 1)}, api.Ctx{part(3, 2, 2)}},
	} {
		for _, a := range aid.Orders(k.a) {
			for _, b := range aid.Orders(k.b) {
				wantPair(t, a, b, k.join, k.meet, k.minus, k.back)
				wantPair(t, b, a, k.join, k.meet, k.back, k.minus)
			}
		}
	}
}

// wantPair holds the calls of two contexts against what is said.
func wantPair(t *testing.T, a, b, join, meet, minus, back api.Ctx) {
	t.Helper()
	wantCtx(t, "Join", Join(a, b), join, a, b)
	wantCtx(t, "Meet", Meet(a, b), meet, a, b)
	wantCtx(t, "Minus", Minus(a, b), minus, a, b)
	wantIs(t, "Within", Within(a, b), len(minus) == 0, a, b)
	wantIs(t, "Same", Same(a, b), len(minus)+len(back) == 0, a, b)
}

// P9.2: all contexts written out, as pairs.
func TestPairsOfKnown(t *testing.T) {
	for _, x := range known() {
		for _, y := range known() {
			wantTwo(t, x[0], y[0])
			wantTwo(t, x[1], y[0])
			wantTwo(t, x[0], y[1])
		}
	}
}

// edges are runs that have as ends all pairs of some numbers at the edges.
func edges() []api.Run {
	var list []api.Run
	nums := []uint64{0, 1, 2, most - 1, most, above, huge}
	for _, lo := range nums {
		for _, hi := range nums {
			list = append(list, api.Run{Lo: lo, Hi: hi})
		}
	}
	return list
}

// P9.1 to P9.3: all contexts of one run, and of two in one part, in two parts of one device, and in parts of two devices.
func TestTwoRuns(t *testing.T) {
	for _, x := range edges() {
		for _, dev := range []uint16{0, 1, last} {
			c := api.Ctx{part(dev, x.Lo, x.Hi)}
			wantOne(t, c, slow(c))
		}
		for _, y := range edges() {
			for _, c := range []api.Ctx{
				{part(1, x.Lo, x.Hi, y.Lo, y.Hi)},
				{part(last, x.Lo, x.Hi), part(last, y.Lo, y.Hi)},
				{part(last, x.Lo, x.Hi), part(1, y.Lo, y.Hi)},
				{part(0, x.Lo, x.Hi), part(1, y.Lo, y.Hi)},
			} {
				wantOne(t, c, slow(c))
			}
		}
	}
}

// P9.2: all pairs of one run, of one device, and of two.
func TestPairsOfRuns(t *testing.T) {
	for _, x := range edges() {
		for _, y := range edges() {
			for _, a := range []uint16{0, 1, last} {
				for _, b := range []uint16{0, 1, last} {
					wantTwo(t, api.Ctx{part(a, x.Lo, x.Hi)}, api.Ctx{part(b, y.Lo, y.Hi)})
				}
			}
		}
	}
}

// P9.1 to P9.3: contexts of many parts with many runs, in any order.
func TestManyParts(t *testing.T) {
	g := rand.New(rand.NewSource(2))
	for range 2000 {
		a, b := anyCtx(g, 8, 5), anyCtx(g, 8, 5)
		wantOne(t, a, slow(a))
		wantTwo(t, a, b)
		wantTwo(t, a, Join(a, b))
		wantTwo(t, Meet(a, b), b)
		wantTwo(t, Minus(a, b), b)
	}
}

// P9.2: what both have, and what each has alone, make up all; no two of these have a dot in common.
func TestThreeMakeAll(t *testing.T) {
	g := rand.New(rand.NewSource(3))
	for range 2000 {
		a, b := anyCtx(g, 6, 4), anyCtx(g, 6, 4)
		both, one, other := Meet(a, b), Minus(a, b), Minus(b, a)
		wantIs(t, "Same of all three", Same(Join(Join(one, other), both), Join(a, b)), true, a, b)
		wantIs(t, "Size of all three", Size(both)+Size(one)+Size(other), Size(Join(a, b)), a, b)
		wantIs(t, "Within", Within(both, a) && Within(both, b) && Within(a, Join(a, b)) && Within(b, Join(a, b)), true, a, b)
		wantCtx(t, "Meet of two alone", Meet(one, other), nil, a, b)
	}
}

// every is a context of all devices, 0 too, shuffled.
func every(seed int64, tell func(dev uint16) []api.Run) api.Ctx {
	c := make(api.Ctx, last+1)
	for i := range c {
		c[i] = api.Part{Dev: uint16(i), Runs: tell(uint16(i))}
	}
	rand.New(rand.NewSource(seed)).Shuffle(len(c), func(i, j int) { c[i], c[j] = c[j], c[i] })
	return c
}

// always tells the same runs of each device.
func always(ends ...uint64) func(uint16) []api.Run {
	return func(uint16) []api.Run { return row(ends...) }
}

// P9.2: Size of all dots of all devices, which is the greatest that there is, of nearly all, and of what lies over one another.
func TestSizeOfAll(t *testing.T) {
	const all = last * most // 2^64 less 2^48, less 2^16, and 1
	full := every(4, always(1, most))
	for _, k := range []struct {
		c    api.Ctx
		want uint64
	}{
		{nil, 0},
		{api.Ctx{part(1, 1, most)}, most},
		{api.Ctx{part(1, 1, most), part(last, 1, most)}, 2 * most},
		{full, all},
		{slices.Concat(full, full, every(5, always(2, 9, 1, most-1))), all},
		{slices.Concat(full, every(6, always(1, above, 0, most))), all},
		{every(7, always(2, most)), all - last},
		{every(8, always(1, 1, most, most)), 2 * last},
		{every(9, always(1, above)), 0},
		{every(10, always(0, huge)), 0},
		{Minus(full, api.Ctx{part(1, 1, most)}), all - most},
	} {
		if got := Size(k.c); got != k.want {
			t.Errorf("Size of a context of %d parts = %d, want %d", len(k.c), got, k.want)
		}
	}
}

// P9.1 to P9.3: contexts of all devices, shuffled.
func TestAllDevices(t *testing.T) {
	up := func(dev uint16) []api.Run { return row(1, uint64(dev), most, most) }
	down := func(dev uint16) []api.Run { return row(last-uint64(dev)+1, last) }
	a, b := every(11, up), every(12, down)
	join, meet, minus := make(api.Ctx, last), api.Ctx{}, make(api.Ctx, last)
	base, plain := make(api.Vec, last), make(api.Ctx, last)
	for i := range join {
		dev, n := uint16(i+1), uint64(i+1)
		x, y := row(1, n, most, most), row(last-n+1, last)
		both := api.Run{Lo: y[0].Lo, Hi: n}
		join[i] = api.Part{Dev: dev, Runs: row(1, n, last-n+1, last, most, most)}
		minus[i] = api.Part{Dev: dev, Runs: x}
		if both.Lo <= both.Hi {
			meet = append(meet, api.Part{Dev: dev, Runs: []api.Run{both}})
			minus[i].Runs = row(1, both.Lo-1, most, most)
		}
		if both.Lo <= both.Hi+1 {
			join[i].Runs = row(1, last, most, most)
		}
		if both.Lo == 1 {
			minus[i].Runs = row(most, most)
		}
		base[i], plain[i] = of(dev, n), part(dev, 1, n)
	}
	for what, pair := range map[string][2]api.Ctx{
		"Join": {Join(a, b), join}, "Meet": {Meet(a, b), meet}, "Minus": {Minus(a, b), minus},
		"Plain": {Plain(Base(a)), plain}, "Norm": {Norm(slices.Concat(minus, a, meet)), Norm(a)},
	} {
		if !alike(pair[0], pair[1]) || !Good(pair[0]) {
			t.Errorf("%s of all devices", what)
		}
	}
	if !slices.Equal(Base(a), base) || Good(a) || !Within(meet, a) || Within(a, meet) || !Same(Join(meet, minus), a) {
		t.Error("Base, Good, Within or Same of all devices")
	}
}

// P9.3: Base of contexts whose first dot is 1, or is not, and that have gaps, written out; the runs in each order.
func TestBaseKnown(t *testing.T) {
	for _, k := range []struct {
		c    api.Ctx
		want api.Vec
	}{
		{nil, nil},
		{mute()[:7], nil},
		{api.Ctx{part(1, 1, 1)}, dots(1, 1)},
		{api.Ctx{part(1, 1, most)}, dots(1, most)},
		{api.Ctx{part(last, 1, most)}, dots(last, most)},
		{api.Ctx{part(1, 2, most)}, nil},
		{api.Ctx{part(1, most, most)}, nil},
		{api.Ctx{part(1, 1, above)}, nil},
		{api.Ctx{part(0, 1, 7)}, nil},
		{api.Ctx{part(1, 1, 2, 4, 9)}, dots(1, 2)},
		{api.Ctx{part(1, 1, 2, 3, 9)}, dots(1, 9)},
		{api.Ctx{part(1, 3, 4, 1, 1, 2, 2)}, dots(1, 4)},
		{api.Ctx{part(1, 1, most-1, most, most)}, dots(1, most)},
		{api.Ctx{part(1, 1, most-2, most, most)}, dots(1, most-2)},
		{api.Ctx{part(1, 1, 4, 2, 3)}, dots(1, 4)},
		{api.Ctx{part(2, 4, 9), part(1, 5, 5), part(2, 1, 3)}, dots(2, 9)},
		{api.Ctx{part(last, 1, 1, 3, 3), part(2, 1, 8), part(0, 1, 1), part(1, 2, 2), part(256, 1, 2)}, dots(2, 8, 256, 2, last, 1)},
		{api.Ctx{part(3, 1, 3), part(2, 1, 2), part(1, 1, 1)}, dots(1, 1, 2, 2, 3, 3)},
	} {
		wantVec(t, "Base", Base(k.c), k.want, k.c)
		for _, c := range ordersOfRuns(k.c) {
			wantVec(t, "Base", Base(c), k.want, c)
		}
	}
}

// P9.3: Plain of vectors written out, in each order of their dots.
func TestPlainKnown(t *testing.T) {
	for _, k := range []struct {
		v    api.Vec
		want api.Ctx
	}{
		{nil, nil},
		{api.Vec{}, nil},
		{dots(1, 1), api.Ctx{part(1, 1, 1)}},
		{dots(1, most), api.Ctx{part(1, 1, most)}},
		{dots(last, most), api.Ctx{part(last, 1, most)}},
		{dots(0, 1), nil},
		{dots(1, 0), nil},
		{dots(1, above), nil},
		{dots(1, huge), nil},
		{dots(2, 4, 1, 3), api.Ctx{part(1, 1, 3), part(2, 1, 4)}},
		{dots(2, 4, 2, 9, 2, 1), api.Ctx{part(2, 1, 9)}},
		{dots(2, 4, 2, above, 0, 5, 2, 0), api.Ctx{part(2, 1, 4)}},
		{dots(last, 2, 256, 1, 255, 7, 1, 1), api.Ctx{part(1, 1, 1), part(255, 1, 7), part(256, 1, 1), part(last, 1, 2)}},
	} {
		for _, v := range aid.Orders(k.v) {
			wantCtx(t, "Plain", Plain(v), k.want, v)
		}
	}
	wantCtx(t, "Plain of those that may not be", Plain(never()), nil)
}

// P9.3: Plain of any vectors has the dots that these have; Base of it is the vector in order.
func TestAnyPlain(t *testing.T) {
	g := rand.New(rand.NewSource(13))
	for range 3000 {
		v := api.Vec(anyDots(g, 12))
		kept := slices.Clone(v)
		var upto api.Ctx
		for _, d := range v {
			if mayBe(d) {
				upto = append(upto, part(d.Dev, 1, d.N))
			}
		}
		want := slow(upto)
		wantCtx(t, "Plain", Plain(v), want, v)
		wantVec(t, "Base of Plain", Base(Plain(v)), slowBase(want), v)
		if !slices.Equal(v, kept) {
			t.Fatalf("%v was changed into %v", kept, v)
		}
	}
}

// P9.3: all that Base tells is there, and the next dot of each device is not.
func TestBaseIsTheGreatest(t *testing.T) {
	g := rand.New(rand.NewSource(14))
	for range 3000 {
		c := anyCtx(g, 8, 6)
		base := Base(c)
		wantIs(t, "Plain of Base within", Within(Plain(base), c), true, c)
		for _, dev := range devs() {
			n := uint64(0)
			for _, d := range base {
				if d.Dev == dev {
					n = d.N
				}
			}
			wantIs(t, "Has of the next one", Has(c, of(dev, n+1)), false, c, dev, n)
		}
	}
}

// P9.4: dots in each order, one by one, all at once, in two lots and as contexts that are joined, make one context.
func TestEachOrder(t *testing.T) {
	for _, k := range []struct {
		l    []api.Dot
		want api.Ctx
	}{
		{dots(1, 1, 1, 2, 1, 3, 1, 4, 1, 5, 1, 6), api.Ctx{part(1, 1, 6)}},
		{dots(1, 1, 1, 2, 1, 4, 2, 2, 1, 3, 2, 1), api.Ctx{part(1, 1, 4), part(2, 1, 2)}},
		{dots(1, 1, 1, 3, 1, 5, 2, 1, last, 1, last, 2), api.Ctx{part(1, 1, 1, 3, 3, 5, 5), part(2, 1, 1), part(last, 1, 2)}},
		{dots(1, most, 1, most-1, 1, above, 0, 1, 1, 0, 2, 3), api.Ctx{part(1, most-1, most), part(2, 3, 3)}},
		{dots(3, 1, 3, 1, 3, 2, 3, 2, 2, 1, 3, 3), api.Ctx{part(2, 1, 1), part(3, 1, 3)}},
	} {
		for _, l := range aid.Orders(k.l) {
			var one, lot, joined api.Ctx
			for i, d := range l {
				one = Add(one, d)
				joined = Join(Of(d), joined)
				wantCtx(t, "Add, one by one,", one, Of(l[:i+1]...), l[:i+1])
			}
			lot = Add(Of(l[:3]...), l[3:]...)
			for what, got := range map[string]api.Ctx{"Add, one by one,": one, "Add, in lots,": lot, "Join": joined, "Of": Of(l...)} {
				wantCtx(t, what, got, k.want, l)
			}
		}
	}
}

// P9.4: dots from 1 on without a gap, shuffled, are one run, behind whichever steps.
func TestClosesUp(t *testing.T) {
	g := rand.New(rand.NewSource(15))
	for _, many := range []int{1, 2, 3, 10, 200} {
		for _, dev := range []uint16{1, 2, last} {
			var c api.Ctx
			seen := map[uint64]bool{}
			for _, i := range g.Perm(many) {
				n := uint64(i + 1)
				seen[n] = true
				c = Add(c, of(dev, n))
				begun := 0
				for n := range seen {
					if !seen[n-1] {
						begun++
					}
				}
				wantIs(t, "runs", len(Runs(c, dev)), begun, c)
			}
			wantCtx(t, "Add, shuffled,", c, api.Ctx{part(dev, 1, uint64(many))}, many)
			wantVec(t, "Base", Base(c), dots(uint64(dev), uint64(many)), many)
		}
	}
}

// P9.1 to P9.3: what is answered does not hang on the order in which a map is gone over.
func TestAgain(t *testing.T) {
	a := api.Ctx{part(1, 1, 3), part(2, 5, 5), part(3, 1, 1), part(255, 1, 9), part(256, 7, 7, 1, 2), part(65534, 1, most)}
	b := api.Ctx{part(65535, 4, 4), part(2, 1, 4), part(3, 1, 6), part(255, 2, 3, 7, 7), part(32768, 3, 3), part(65534, 5, 5)}
	want := slow(a)
	for range 300 {
		wantOne(t, a, want)
		wantTwo(t, a, b)
		wantTwo(t, b, a)
	}
}

// wantOwn holds that a call's answer shares nothing with its two contexts, nor with another answer, and leaves the rooms behind them.
func wantOwn(t *testing.T, what string, call func(a, b api.Ctx) api.Ctx, a, b api.Ctx) {
	t.Helper()
	x, y := roomy(a), roomy(b)
	keptX, keptY := whole(x), whole(y)
	first, second := call(x, y), call(x, y)
	want := copied(second)
	spoilCtx(first)
	wantKept(t, whole(x), keptX)
	wantKept(t, whole(y), keptY)
	wantCtx(t, what+", where another answer was written into,", second, want, a, b)
	wantCtx(t, what+", behind an answer that was written into,", call(x, y), want, a, b)
	spoilCtx(x)
	spoilCtx(y)
	wantCtx(t, what+", where what went in was written into,", second, want, a, b)
	for i := range second {
		if !alike(second[i:], want[i:]) {
			t.Errorf("%s of %v and %v: what is written into one part turned another one", what, a, b)
		}
		spoilRuns(second[i].Runs)
	}
}

// shared are contexts, out of order and in order, for what they may share.
func shared() []api.Ctx {
	list := []api.Ctx{{part(9, 1, 1), part(2, 5, 7, 1, 2), part(9, 3, 3), part(0, 1, 1), part(4)}}
	for _, k := range known() {
		list = append(list, k[0])
	}
	return list
}

// P9.1, P9.2, rule 4: no context that is answered shares anything with what came in, nor with another answer.
func TestShares(t *testing.T) {
	for _, a := range shared() {
		for _, b := range shared() {
			wantOwn(t, "Join", Join, a, b)
			wantOwn(t, "Meet", Meet, a, b)
			wantOwn(t, "Minus", Minus, a, b)
		}
		wantOwn(t, "Norm", func(x, _ api.Ctx) api.Ctx { return Norm(x) }, a, nil)
		wantOwn(t, "Add", func(x, _ api.Ctx) api.Ctx { return Add(x) }, a, nil)
		wantOwn(t, "Add", func(x, _ api.Ctx) api.Ctx { return Add(x, dots(1, 1, 2, 4, 0, 1)...) }, a, nil)
		for _, dev := range devs() {
			wantOwn(t, "Only", func(x, _ api.Ctx) api.Ctx { return Only(x, dev) }, a, nil)
		}
	}
}

// P9.1, P9.3, rule 4: nor do runs and vectors that are answered, nor what is made of lists of dots and of vectors.
func TestSharesLists(t *testing.T) {
	for _, a := range shared() {
		for _, dev := range devs() {
			x := roomy(a)
			first, second := Runs(x, dev), Runs(x, dev)
			want := slices.Clone(second)
			spoilRuns(first)
			wantRuns(t, "Runs, behind an answer that was written into,", Runs(x, dev), want, a, dev)
			spoilCtx(x)
			wantRuns(t, "Runs, where what went in was written into,", second, want, a, dev)
		}
		base := Base(a)
		want := slices.Clone(base)
		spoilDots(base)
		wantVec(t, "Base, behind an answer that was written into,", Base(a), want, a)
	}
	for _, call := range []func(l []api.Dot) api.Ctx{
		func(l []api.Dot) api.Ctx { return Of(l...) },
		func(l []api.Dot) api.Ctx { return Add(api.Ctx{part(2, 1, 1)}, l...) },
		func(l []api.Dot) api.Ctx { return Plain(l) },
	} {
		l := dots(2, 4, 1, 3, 1, 4, last, 1, 0, 5, 3, above)
		room := slices.Clone(l)
		c := call(l[:3])
		want := copied(c)
		if !slices.Equal(l, room) {
			t.Fatalf("%v was changed into %v", room, l)
		}
		spoilDots(l)
		wantCtx(t, "what dots make", c, want, room)
		spoilCtx(c)
		wantCtx(t, "what dots make", call(room[:3]), want, room)
	}
}

// P9.2, rule 4: one context on both sides, whole or in part, is like two of their own; so are parts that share their runs.
func TestOneContextTwice(t *testing.T) {
	g := rand.New(rand.NewSource(16))
	for range 500 {
		c := anyCtx(g, 6, 4)
		from, to := g.Intn(len(c)+1), g.Intn(len(c)+1)
		wantTwo(t, c, c)
		wantTwo(t, c[from:], c[:to])
		spoilCtx(Join(c[from:], c[:to]))
		wantTwo(t, c[:to], c)
	}
	l := row(5, 7, 1, 2, 3, 3, 9, 9)
	c := api.Ctx{{Dev: 1, Runs: l}, {Dev: 2, Runs: l[1:3]}, {Dev: 1, Runs: l[2:]}, {Dev: 3, Runs: l[:1]}, {Dev: 2, Runs: l[:2]}}
	wantOne(t, c, api.Ctx{part(1, 1, 3, 5, 7, 9, 9), part(2, 1, 3, 5, 7), part(3, 5, 7)})
	wantTwo(t, c, c[1:3])
}
