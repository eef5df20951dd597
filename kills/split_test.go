package kills

import (
	"math/rand"
	"slices"
	"testing"

	"epitaph/aid"
	"epitaph/api"
)

// split tells dot by dot what a context has, and what it has not.
func split(l []api.Dot, c api.Ctx) (kept, left []api.Dot) {
	for _, d := range risen(l) {
		if has(c, d) {
			kept = append(kept, d)
		} else {
			left = append(left, d)
		}
	}
	return kept, left
}

// wantSplit holds Keep and Drop, that what went in is not turned, nor the rooms behind it, and that nothing is shared.
func wantSplit(t *testing.T, l []api.Dot, c api.Ctx, kept, left []api.Dot) {
	t.Helper()
	in, from := append(slices.Clone(l), dots(1, 1, 9, 9, 0, 0)...)[:len(l)], roomy(c)
	wasIn, wasFrom := slices.Clone(in[:cap(in)]), whole(from)
	one, two := Keep(in, from), Drop(in, from)
	three, four := Keep(in, from), Drop(in, from)
	if !slices.Equal(one, kept) || !slices.Equal(three, kept) {
		t.Fatalf("Keep(%v, %v) = %v, then %v, want %v", l, c, one, three, kept)
	}
	if !slices.Equal(two, left) || !slices.Equal(four, left) {
		t.Fatalf("Drop(%v, %v) = %v, then %v, want %v", l, c, two, four, left)
	}
	spoilDots(one)
	spoilDots(two)
	if !slices.Equal(in[:cap(in)], wasIn) || !aid.Alike(whole(from), wasFrom) {
		t.Fatalf("of %v and %v, %v and %v was made", l, c, in[:cap(in)], from)
	}
	spoilDots(in)
	spoilCtx(from)
	if !slices.Equal(three, kept) || !slices.Equal(four, left) {
		t.Fatalf("what was written into %v, %v, and what was told of them, is seen in %v, or in %v", l, c, three, four)
	}
}

// wantSlowly holds Keep and Drop against what is told dot by dot, and that together they tell all dots, and none twice.
func wantSlowly(t *testing.T, l []api.Dot, c api.Ctx) {
	t.Helper()
	kept, left := split(l, c)
	wantSplit(t, l, c, kept, left)
	all := map[api.Dot]int{}
	for _, d := range slices.Concat(Keep(l, c), Drop(l, c)) {
		all[d]++
	}
	for _, d := range l {
		if all[d] != 1 {
			t.Fatalf("of %v and %v, %v is told %d times", l, c, d, all[d])
		}
	}
	if len(all) != len(risen(l)) {
		t.Fatalf("of %v and %v, %d dots are told", l, c, len(all))
	}
}

// P17.1: Keep and Drop, written out.
func TestKeepKnown(t *testing.T) {
	two := api.Ctx{part(1, 1, 2, 4, 4), part(2, 2, 2)}
	ends := api.Ctx{part(1, 1, 1, most, most), part(last, 1, most)}
	for _, c := range []struct {
		l          []api.Dot
		c          api.Ctx
		kept, left []api.Dot
	}{
		{nil, nil, nil, nil},
		{dots(), api.Ctx{}, nil, nil},
		{nil, two, nil, nil},
		{dots(1, 1, 2, 2), nil, nil, dots(1, 1, 2, 2)},
		{dots(2, 2, 1, 1, 2, 2), api.Ctx{}, nil, dots(1, 1, 2, 2)},
		{dots(1, 1), two, dots(1, 1), nil},
		{dots(1, 3), two, nil, dots(1, 3)},
		{dots(1, 1, 1, 2, 1, 3, 1, 4, 1, 5, 2, 1, 2, 2, 2, 3, 3, 1), two, dots(1, 1, 1, 2, 1, 4, 2, 2), dots(1, 3, 1, 5, 2, 1, 2, 3, 3, 1)},
		// Dots that fall, and that come twice.
		{dots(3, 1, 2, 3, 2, 2, 2, 1, 1, 5, 1, 4, 1, 3, 1, 2, 1, 1), two, dots(1, 1, 1, 2, 1, 4, 2, 2), dots(1, 3, 1, 5, 2, 1, 2, 3, 3, 1)},
		{dots(1, 1, 1, 1, 1, 1), two, dots(1, 1), nil},
		{dots(1, 3, 1, 3, 1, 3), two, nil, dots(1, 3)},
		{dots(2, 2, 1, 3, 2, 2, 1, 3, 1, 1, 2, 2, 1, 3), two, dots(1, 1, 2, 2), dots(1, 3)},
		// Dots that may not be are in no context.
		{dots(0, 0, 0, 1, 1, 0, 1, above, 1, huge), two, nil, dots(0, 0, 0, 1, 1, 0, 1, above, 1, huge)},
		{dots(1, huge, 1, 1, 0, 1, 1, 1, 0, 1, 1, huge), two, dots(1, 1), dots(0, 1, 1, huge)},
		{dots(0, 1, 1, 0, 1, above, last, 0, last, above), api.Ctx{part(0, 1, most), part(0, 0, huge), part(1, 0, huge), part(last, 0, above)}, nil, dots(0, 1, 1, 0, 1, above, last, 0, last, above)},
		{dots(0, 5, 5, 5), api.Ctx{part(0, 1, 9), part(5, 1, 9)}, dots(5, 5), dots(0, 5)},
		// At both ends of both parts.
		{dots(1, 1, 1, 2, 1, most-1, 1, most, last, 1, last, most), ends, dots(1, 1, 1, most, last, 1, last, most), dots(1, 2, 1, most-1)},
		{dots(last, most, last, above, last, huge, last, 0, last-1, 1, last-1, most), ends, dots(last, most), dots(last-1, 1, last-1, most, last, 0, last, above, last, huge)},
		{dots(255, 1, 256, 1, 257, 1, 1, 256, 1, 255), api.Ctx{part(256, 1, 1), part(1, 255, 255)}, dots(1, 255, 256, 1), dots(1, 256, 255, 1, 257, 1)},
		{dots(1, 1<<32, 1, 1<<32+1, 1, 1, 1, 1<<47), api.Ctx{part(1, 1<<32, 1<<32, 1<<47, 1<<47)}, dots(1, 1<<32, 1, 1<<47), dots(1, 1, 1, 1<<32+1)},
		// Contexts that are not in order, with parts of one device that come more than once.
		{dots(1, 1, 2, 1, 3, 1), api.Ctx{part(3, 1, 1), part(1, 1, 1)}, dots(1, 1, 3, 1), dots(2, 1)},
		{dots(1, 1, 1, 2, 1, 3, 1, 4), api.Ctx{part(1, 3, 3), part(2, 1, 9), part(1, 1, 1)}, dots(1, 1, 1, 3), dots(1, 2, 1, 4)},
		{dots(1, 1, 1, 2, 1, 3, 1, 4), api.Ctx{part(1, 3, 3, 1, 1), {Dev: 1}, part(1, 3, 3)}, dots(1, 1, 1, 3), dots(1, 2, 1, 4)},
		// Runs that touch, that overlap, and that tell nothing.
		{row(1, 1, 6), api.Ctx{part(1, 1, 2, 3, 4)}, row(1, 1, 4), row(1, 5, 2)},
		{row(1, 1, 6), api.Ctx{part(1, 2, 4, 3, 5)}, row(1, 2, 4), dots(1, 1, 1, 6)},
		{row(1, 1, 6), api.Ctx{part(1, 2, 5, 3, 3)}, row(1, 2, 4), dots(1, 1, 1, 6)},
		{row(1, 1, 6), api.Ctx{part(1, 3, 3, 3, 3)}, dots(1, 3), dots(1, 1, 1, 2, 1, 4, 1, 5, 1, 6)},
		{row(1, 1, 6), api.Ctx{part(1, 5, 2, 0, 6, 1, above, 4, huge)}, nil, row(1, 1, 6)},
		{row(1, 1, 6), api.Ctx{part(1, 5, 2, 2, 2, 0, 9, 6, above, 4, 4)}, dots(1, 2, 1, 4), dots(1, 1, 1, 3, 1, 5, 1, 6)},
	} {
		wantSplit(t, c.l, c.c, c.kept, c.left)
		wantSlowly(t, c.l, c.c)
		turned := slices.Clone(c.l)
		slices.Reverse(turned)
		wantSplit(t, turned, c.c, c.kept, c.left)
		if len(c.l) < 6 {
			for _, l := range aid.Orders(c.l) {
				wantSplit(t, l, c.c, c.kept, c.left)
			}
		}
	}
}

// edges are dots at the ends of both parts, and next to what the few contexts have, those that may be and those that may not.
func edges() []api.Dot {
	l := few()
	for _, dev := range []uint16{0, 1, 2, 3, 255, 256, last - 1, last} {
		for _, n := range []uint64{0, 1, 2, 3, 4, 5, 6, 7, 8, 9, 10, 11, 254, 255, 256, 257, 65536, 65537, most - 2, most - 1, most, above, huge} {
			l = append(l, at(dev, n))
		}
	}
	return l
}

// P17.1: contexts in order, and those that are not with all orders of their parts, by dots on both sides of each end.
func TestKeepContexts(t *testing.T) {
	l := edges()
	g := rand.New(rand.NewSource(173))
	for _, c := range aid.Straight() {
		g.Shuffle(len(l), func(i, k int) { l[i], l[k] = l[k], l[i] })
		wantSlowly(t, l, c)
		wantSlowly(t, l, append(aid.Copied(c), aid.Mute()...))
		wantSlowly(t, l, append(aid.Mute(), c...))
	}
	for _, x := range aid.Crooked() {
		g.Shuffle(len(l), func(i, k int) { l[i], l[k] = l[k], l[i] })
		wantSlowly(t, l, x[0])
		kept, left := split(l, x[1])
		for _, c := range aid.Orders(x[0]) {
			wantSplit(t, l, c, kept, left)
			wantSplit(t, l, append(aid.Mute(), c...), kept, left)
		}
	}
	wantSplit(t, l, aid.Mute(), nil, risen(l))
	for _, p := range aid.Mute() {
		wantSplit(t, l, api.Ctx{p}, nil, risen(l))
	}
}

// P17.1: all lists of up to three out of a few dots, and all contexts of up to two runs out of a few, in one part and in two.
func TestKeepAll(t *testing.T) {
	var all []api.Ctx
	for _, devs := range [][2]uint16{{1, 1}, {1, 2}, {2, 1}, {0, 1}} {
		aid.Lists(aid.Runs(1, 1, 2, 2, 1, 2, 3, most, 2, 1, 0, 2, 2, above), 2, func(l []api.Run) {
			var c api.Ctx
			for i, r := range l {
				c = append(c, part(devs[i], r.Lo, r.Hi))
			}
			all = append(all, c, api.Ctx{{Dev: devs[0], Runs: l}})
		})
	}
	some := dots(1, 1, 1, 2, 1, 3, 2, 1, 2, most, 0, 1, 1, 0, 1, above)
	aid.Lists(some, 3, func(l []api.Dot) {
		for _, c := range all {
			wantKept, wantLeft := split(l, c)
			if kept, left := Keep(l, c), Drop(l, c); !slices.Equal(kept, wantKept) || !slices.Equal(left, wantLeft) {
				t.Fatalf("of %v and %v %v is kept, and %v is not", l, c, kept, left)
			}
		}
	})
}

// near are drawn dots, most of them next to where a context's runs begin and end, some more than once.
func near(g *rand.Rand, c api.Ctx) []api.Dot {
	l := aid.AnyDots(g, 5)
	for _, p := range c {
		for _, r := range p.Runs {
			for _, n := range []uint64{r.Lo - 1, r.Lo, r.Lo + 1, r.Hi - 1, r.Hi, r.Hi + 1} {
				if g.Intn(3) == 0 {
					l = append(l, at(p.Dev, n))
				}
			}
		}
	}
	if len(l) > 0 {
		l = append(l, l[:g.Intn(len(l))]...)
	}
	g.Shuffle(len(l), func(i, k int) { l[i], l[k] = l[k], l[i] })
	return l
}

// P17.1: drawn dots and drawn contexts; together what is kept and what is not are all dots, and no dot is in both.
func TestKeepAny(t *testing.T) {
	g := rand.New(rand.NewSource(174))
	both := 0
	for range 4000 {
		c := anyCtx(g, 6, 4)
		l := near(g, c)
		wantSlowly(t, l, c)
		if len(Keep(l, c)) > 0 && len(Drop(l, c)) > 0 {
			both++
		}
	}
	if both < 1000 {
		t.Errorf("of %d lists alone some dots are kept, and some not", both)
	}
}

// P17.1: what is kept is all kept again, what is not is not, and what is told once is told so again.
func TestKeepAgain(t *testing.T) {
	g := rand.New(rand.NewSource(175))
	for range 2000 {
		c := anyCtx(g, 6, 4)
		l := near(g, c)
		kept, left := Keep(l, c), Drop(l, c)
		wantSplit(t, kept, c, kept, nil)
		wantSplit(t, left, c, nil, left)
		wantSplit(t, slices.Concat(left, kept), c, kept, left)
	}
}

// P17.1: very many dots, and contexts of very many runs, parts and dots.
func TestKeepMany(t *testing.T) {
	const many = 200000
	g := rand.New(rand.NewSource(176))
	l := append(row(1, 1, many), row(1, 1, many)...)
	g.Shuffle(len(l), func(i, k int) { l[i], l[k] = l[k], l[i] })
	var even []api.Run
	var kept, left []api.Dot
	for n := uint64(1); n <= many; n++ {
		if n%2 > 0 {
			left = append(left, at(1, n))
			continue
		}
		kept = append(kept, at(1, n))
		even = append(even, api.Run{Lo: n, Hi: n})
	}
	g.Shuffle(len(even), func(i, k int) { even[i], even[k] = even[k], even[i] })
	if c := (api.Ctx{{Dev: 1, Runs: even}}); !slices.Equal(Keep(l, c), kept) || !slices.Equal(Drop(l, c), left) {
		t.Error("of very many dots and a context of very many runs")
	}
	var parts api.Ctx
	for _, r := range even {
		parts = append(parts, part(1, r.Lo, r.Hi))
	}
	if !slices.Equal(Keep(l, parts), kept) || !slices.Equal(Drop(l, parts), left) {
		t.Error("of very many dots and a context of very many parts")
	}
}

// P17.1: dots of all devices, and contexts that have all dots of each, or one.
func TestKeepDevices(t *testing.T) {
	g := rand.New(rand.NewSource(178))
	var every, one api.Ctx
	var all, kept, left []api.Dot
	for dev := uint16(1); dev != 0; dev++ {
		every = append(every, part(dev, 1, most))
		one = append(one, part(dev, uint64(dev), uint64(dev)))
		kept = append(kept, at(dev, uint64(dev)))
		left = append(left, at(dev, uint64(dev)+1))
		all = append(all, at(dev, uint64(dev)), at(dev, uint64(dev)+1))
	}
	l := slices.Clone(all)
	g.Shuffle(len(l), func(i, k int) { l[i], l[k] = l[k], l[i] })
	g.Shuffle(len(one), func(i, k int) { one[i], one[k] = one[k], one[i] })
	g.Shuffle(len(every), func(i, k int) { every[i], every[k] = every[k], every[i] })
	if !slices.Equal(Keep(l, every), all) || len(Drop(l, every)) > 0 {
		t.Error("of all devices, with all their dots")
	}
	if !slices.Equal(Keep(l, one), kept) || !slices.Equal(Drop(l, one), left) {
		t.Error("of all devices, with one dot each")
	}
	if len(Keep(l, nil)) > 0 || !slices.Equal(Drop(l, nil), all) {
		t.Error("of all devices, with no dot")
	}
}

// P17.1: Strip, written out: of each kind, with and without Kills, whose dot the context has, or has not.
func TestStripKnown(t *testing.T) {
	c := api.Ctx{part(3, 7, 7, 5, 4), part(2, 5, 9), part(0, 1, 9), part(3, 1, 2), part(1, 0, 9, 1, above)}
	for _, x := range []struct {
		d   api.Dot
		has bool
	}{
		{at(2, 5), true}, {at(2, 7), true}, {at(2, 9), true}, {at(2, 4), false}, {at(2, 10), false}, {at(3, 1), true}, {at(3, 2), true}, {at(3, 3), false}, {at(3, 4), false}, {at(3, 5), false}, {at(3, 6), false},
		{at(3, 7), true}, {at(3, 8), false}, {at(4, 7), false}, {at(258, 5), false}, {at(0, 5), false}, {at(0, 0), false}, {at(2, 0), false}, {at(1, 1), false}, {at(1, 5), false}, {at(1, above), false}, {at(2, 5+1<<48), false}, {at(2, huge), false},
	} {
		for _, kind := range []uint8{0, 1, 2, 3, 255} {
			for _, kills := range [][]api.Dot{nil, {}, dots(2, 5), dots(9, 9), dots(1, 1, 1, 2), dots(3, 3, 1, 1, 3, 3, 0, 0), {x.d}, row(7, 1, 300)} {
				wantStrip(t, other(kind, least, 4, x.d, kills...), c, x.has)
				wantStrip(t, other(kind, 0, 0, x.d, kills...), c, x.has)
				wantStrip(t, other(kind, huge, 255, x.d, kills...), nil, false)
				wantStrip(t, other(kind, huge, 255, x.d, kills...), api.Ctx{}, false)
			}
		}
	}
	for _, e := range aid.Unlike() {
		wantStrip(t, e, c, has(c, e.Dot))
		wantStrip(t, e, api.Ctx{part(1, 1, most), part(2, 5, 5)}, has(api.Ctx{part(1, 1, most), part(2, 5, 5)}, e.Dot))
		wantStrip(t, e, aid.Mute(), false)
	}
}

// wantStrip holds Strip, that what went in is not turned, nor the rooms behind it, and that nothing is shared.
func wantStrip(t *testing.T, e api.Event, c api.Ctx, had bool) {
	t.Helper()
	want := again(e, false)
	if had {
		want.Kills = nil
	}
	for _, empty := range []bool{false, true} {
		in, from := again(e, empty), roomy(c)
		in.Kills = append(in.Kills, at(6, 66))[:len(in.Kills)]
		room := slices.Clone(in.Kills[:cap(in.Kills)])
		wasFrom := whole(from)
		one, two := Strip(in, from), Strip(in, from)
		if told(one) != told(want) || told(two) != told(want) {
			t.Fatalf("Strip(%.300q, %v) = %.300q, then %.300q, want %.300q", told(e), c, told(one), told(two), told(want))
		}
		spoil(&one)
		if told(in) != told(e) || !slices.Equal(in.Kills[:cap(in.Kills)], room) || !aid.Alike(whole(from), wasFrom) || told(two) != told(want) {
			t.Fatalf("Strip(%.300q, %v), or what was written into its answer, is seen in %.300q, %v or %.300q", told(e), c, told(in), from, told(two))
		}
		spoilCtx(from)
		spoil(&in)
		if told(two) != told(want) {
			t.Fatalf("what was written into %.300q is seen in what Strip answered, %.300q", told(e), told(two))
		}
	}
}

// P17.1: Strip of drawn events and drawn contexts.
func TestStripAny(t *testing.T) {
	g := rand.New(rand.NewSource(177))
	had := 0
	for range 1000 {
		c := anyCtx(g, 6, 4)
		for _, d := range near(g, c) {
			e := anyEvent(g)
			e.Dot = d
			if has(c, d) && len(e.Kills) > 0 {
				had++
			}
			wantStrip(t, e, c, has(c, d))
		}
	}
	if had < 500 {
		t.Errorf("%d events alone lost Kills", had)
	}
}
