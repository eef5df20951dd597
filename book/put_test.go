package book

import (
	"slices"
	"testing"

	"epitaph/aid"
	"epitaph/api"
)

// wantBook holds what a book has, written out, and what the slow telling has.
func wantBook(t *testing.T, p *pair, c api.Ctx, live, tombs []api.Event) {
	t.Helper()
	if got := p.b.Ctx(); !aid.Alike(got, c) {
		t.Errorf("Ctx is %v, want %v", got, c)
	}
	if got := p.b.Live(); toldAll(got) != toldAll(live) {
		t.Errorf("Live is %q, want %q", toldAll(got), toldAll(live))
	}
	if got := p.b.Tombs(); toldAll(got) != toldAll(tombs) {
		t.Errorf("Tombs is %q, want %q", toldAll(got), toldAll(tombs))
	}
	p.want()
}

// wantPut puts an event in, and holds the answer, and all that the book has then.
func wantPut(t *testing.T, p *pair, e api.Event, err api.Errno, c api.Ctx, live, tombs []api.Event) {
	t.Helper()
	if got := p.put(e); got != err {
		t.Errorf("Put of %q is %d, want %d", told(e), got, err)
	}
	wantBook(t, p, c, live, tombs)
}

// all are some events as a list.
func all(l ...api.Event) []api.Event { return l }

// P18.2: Put, written out: edits, then what they kill, and what was seen.
func TestPutKnown(t *testing.T) {
	a, b, c := wrote(least, 4, at(1, 1)), wrote(least, 4, at(1, 2), at(1, 1)), wrote(least, 4, at(2, 1))
	p := start(t)
	wantPut(t, p, a, api.OK, api.Ctx{part(1, 1, 1)}, all(a), nil)
	wantPut(t, p, a, api.ErrThere, api.Ctx{part(1, 1, 1)}, all(a), nil)
	wantPut(t, p, c, api.OK, api.Ctx{part(1, 1, 1), part(2, 1, 1)}, all(a, c), nil)
	wantPut(t, p, b, api.OK, api.Ctx{part(1, 1, 2), part(2, 1, 1)}, all(b, c), nil)
	wantPut(t, p, a, api.ErrThere, api.Ctx{part(1, 1, 2), part(2, 1, 1)}, all(b, c), nil)
	// Kills that tell a live edit, one that was killed ahead, and dots of nothing.
	d := ended(least, at(3, 1), dots(1, 1, 1, 2, 3, 9, 5, 5)...)
	seen := api.Ctx{part(1, 1, 2), part(2, 1, 1), part(3, 1, 1, 9, 9), part(5, 5, 5)}
	wantPut(t, p, d, api.OK, seen, all(c), all(d))
	wantPut(t, p, d, api.ErrThere, seen, all(c), all(d))
	wantPut(t, p, b, api.ErrThere, seen, all(c), all(d))
	wantPut(t, p, wrote(least, 4, at(5, 5)), api.ErrThere, seen, all(c), all(d))
	wantPut(t, p, ended(least, at(3, 9), at(2, 1)), api.ErrThere, seen, all(c), all(d))
	// Kills that tell a tomb, which stays, and those of another contact, which go.
	e := wrote(least+1, 1, at(3, 2), dots(2, 1, 3, 1)...)
	seen = api.Ctx{part(1, 1, 2), part(2, 1, 1), part(3, 1, 2, 9, 9), part(5, 5, 5)}
	wantPut(t, p, e, api.OK, seen, all(e), all(d))
	// Kills that were all seen.
	f := ended(huge, at(1, 3), dots(1, 1, 5, 5)...)
	seen = api.Ctx{part(1, 1, 3), part(2, 1, 1), part(3, 1, 2, 9, 9), part(5, 5, 5)}
	wantPut(t, p, f, api.OK, seen, all(e), all(f, d))
	// At the ends of what a dot may be.
	g, h := wrote(least, 1, at(last, most), dots(1, most, last, 1)...), ended(least, at(last, most-1), at(last, most))
	seen = api.Ctx{part(1, 1, 3, most, most), part(2, 1, 1), part(3, 1, 2, 9, 9), part(5, 5, 5), part(last, 1, 1, most, most)}
	wantPut(t, p, g, api.OK, seen, all(e, g), all(f, d))
	seen[4] = part(last, 1, 1, most-1, most)
	wantPut(t, p, h, api.OK, seen, all(e), all(f, d, h))
}

// P18.2: events that may be are put, whatever they have; those that may not be are ErrArg, each for one cause, and turn nothing.
func TestPutArg(t *testing.T) {
	put, refused := 0, 0
	for _, e := range aid.Unlike() {
		for _, p := range []*pair{start(t), filled(t, wrote(least, 4, at(1, 1), at(3, 3)), ended(least, at(1, 2)))} {
			want := api.ErrArg
			if aid.EventMayBe(e) {
				want = api.OK
			}
			if is := has(p.s.seen, e.Dot); want == api.OK && is {
				want = api.ErrThere
			}
			if err := p.put(e); err != want {
				t.Errorf("Put of %q is %d, want %d", told(e), err, want)
			} else if err == api.OK {
				put++
			} else {
				refused++
			}
			p.want()
		}
	}
	if put < 60 || refused < 60 {
		t.Error(put, refused)
	}
}

// P18.2: of all Kinds edits and deletions alone are put: the one is live, the other a tomb.
func TestPutKinds(t *testing.T) {
	for kind := range 256 {
		for _, e := range []api.Event{other(uint8(kind), least, 4, at(2, 1), at(1, 1)), {Dot: at(2, 1), Kind: uint8(kind), Cid: least, Kills: dots(1, 1)}} {
			p := filled(t, edit(at(1, 1)))
			c, live, tombs, err := api.Ctx{part(1, 1, 1)}, all(edit(at(1, 1))), all(), api.ErrArg
			if kind == 1 && e.Field == 4 {
				c, live, err = append(c, part(2, 1, 1)), all(e), api.OK
			}
			if kind == 2 && e.Field == 0 {
				c, live, tombs, err = append(c, part(2, 1, 1)), all(), all(e), api.OK
			}
			wantPut(t, p, e, err, c, live, tombs)
		}
	}
}

// P18.2: of an event that may not be, and whose dot was seen, ErrArg is told; its own dot among its Kills is such a cause.
func TestPutFirst(t *testing.T) {
	a := wrote(least, 4, at(1, 1))
	p := filled(t, a)
	c, live := api.Ctx{part(1, 1, 1)}, all(a)
	wantPut(t, p, wrote(least, 4, at(1, 1), at(1, 1)), api.ErrArg, c, live, nil)
	wantPut(t, p, wrote(least, 4, at(2, 2), at(2, 2)), api.ErrArg, c, live, nil)
	wantPut(t, p, ended(least, at(2, 2), dots(1, 1, 2, 2)...), api.ErrArg, c, live, nil)
	wantPut(t, p, wrote(least, 6, at(1, 1)), api.ErrArg, c, live, nil)
	wantPut(t, p, other(2, least, 4, at(1, 1)), api.ErrArg, c, live, nil)
	wantPut(t, p, ended(0, at(1, 1)), api.ErrArg, c, live, nil)
	wantPut(t, p, wrote(least, 4, at(1, 1), dots(3, 3, 2, 2)...), api.ErrArg, c, live, nil)
	wantPut(t, p, ended(least, at(1, 1), row(3, 1, 257)...), api.ErrArg, c, live, nil)
	wantPut(t, p, ended(least, at(1, 1), row(3, 1, 256)...), api.ErrThere, c, live, nil)
	for _, d := range aid.Never() {
		wantPut(t, p, edit(d), api.ErrArg, c, live, nil)
		wantPut(t, p, gone(at(3, 3), d), api.ErrArg, c, live, nil)
	}
}

// P18.2: an event whose dot was seen is not put, in whichever way it was seen, and whatever it is.
func TestPutThere(t *testing.T) {
	live, tomb := wrote(least, 4, at(1, 2), dots(1, 1, 3, 3)...), ended(least, at(2, 2), dots(2, 1, 4, 4)...)
	p := filled(t, live, tomb)
	p.see(api.Ctx{part(5, 2, 3), part(1, 5, 5)})
	p.prune(api.Ctx{part(9, 9, 9)})
	c := p.b.Ctx()
	for _, d := range dots(1, 1, 1, 2, 1, 5, 2, 1, 2, 2, 3, 3, 4, 4, 5, 2, 5, 3) {
		for _, e := range []api.Event{wrote(least, 4, d), wrote(least+1, 1, d, at(9, 9)), ended(least, d), ended(least, d, at(8, 8), at(9, 9))} {
			wantPut(t, p, e, api.ErrThere, c, all(live), all(tomb))
		}
	}
	for _, d := range dots(1, 3, 1, 4, 1, 6, 2, 3, 3, 1, 3, 2, 3, 4, 4, 3, 5, 1, 5, 4, 6, 2) {
		if err := p.b.Copy().Put(wrote(least, 4, d)); err != api.OK {
			t.Errorf("Put of %v is %d", d, err)
		}
	}
}

// P18.2: of many live edits just those go whose dots are among the Kills, at whichever place, and whatever else is killed.
func TestPutPlaces(t *testing.T) {
	for _, many := range []int{1, 2, 3, 7, 20, 256} {
		for place := range many {
			if many > 20 && place%51 != 0 {
				continue
			}
			p := start(t)
			var want []api.Event
			for i := range many {
				e := wrote(least+uint64(i%3), uint8(1+i%5), at(1, uint64(1+i)))
				p.put(e)
				if i != place {
					want = append(want, e)
				}
			}
			e := ended(least+7, at(3, 1), at(1, uint64(1+place)), at(2, uint64(1+place)))
			wantPut(t, p, e, api.OK, api.Ctx{part(1, 1, uint64(many)), part(2, uint64(1+place), uint64(1+place)), part(3, 1, 1)}, want, all(e))
			rest := wrote(least, 1, at(4, 1), lessOne(row(1, 1, many), at(1, uint64(1+place)))...)
			wantPut(t, p, rest, api.OK, api.Ctx{part(1, 1, uint64(many)), part(2, uint64(1+place), uint64(1+place)), part(3, 1, 1), part(4, 1, 1)}, all(rest), all(e))
		}
	}
}

// P18.2: See, written out: the dots of a context are seen, and nothing else changes.
func TestSeeKnown(t *testing.T) {
	live, tomb := wrote(least, 4, at(1, 2), at(1, 1)), ended(least, at(2, 2), at(4, 4))
	was := api.Ctx{part(1, 1, 2), part(2, 2, 2), part(4, 4, 4)}
	for _, x := range []struct{ c, want api.Ctx }{
		// Nothing, and what was seen: dots of live edits, of tombs, and of what they kill.
		{nil, was}, {api.Ctx{}, was}, {aid.Mute(), was}, {was, was}, {api.Ctx{part(1, 1, 1)}, was}, {api.Ctx{part(1, 2, 2)}, was},
		{api.Ctx{part(2, 2, 2)}, was}, {api.Ctx{part(4, 4, 4), part(1, 1, 2)}, was},
		// What is new, ahead of all, between, behind, and closing up.
		{api.Ctx{part(1, 3, 3)}, api.Ctx{part(1, 1, 3), part(2, 2, 2), part(4, 4, 4)}},
		{api.Ctx{part(3, 7, 9)}, api.Ctx{part(1, 1, 2), part(2, 2, 2), part(3, 7, 9), part(4, 4, 4)}},
		{api.Ctx{part(2, 1, 3), part(last, 1, most)}, api.Ctx{part(1, 1, 2), part(2, 1, 3), part(4, 4, 4), part(last, 1, most)}},
		{api.Ctx{part(1, 1, most)}, api.Ctx{part(1, 1, most), part(2, 2, 2), part(4, 4, 4)}},
		// Not in order.
		{api.Ctx{part(4, 6, 5, 9, 8, 1, 2, 2, 3), part(0, 1, 1), part(1, 5, 5, 4, 4), part(4, 0, 9)}, api.Ctx{part(1, 1, 2, 4, 5), part(2, 2, 2), part(4, 1, 4)}},
		{api.Ctx{part(1, 3, above), part(1, most, huge), part(1, 4, 4)}, api.Ctx{part(1, 1, 2, 4, 4), part(2, 2, 2), part(4, 4, 4)}},
	} {
		p := filled(t, live, tomb)
		p.see(x.c)
		wantBook(t, p, x.want, all(live), all(tomb))
		p.see(x.c)
		wantBook(t, p, x.want, all(live), all(tomb))
		p = start(t)
		p.see(x.c)
		p.want()
	}
	for _, x := range aid.Crooked() {
		p := start(t)
		p.see(x[0])
		wantBook(t, p, x[1], nil, nil)
	}
}

// P18.2: an edit that is live stays so when it is seen, and one that was seen by See does not come any more.
func TestSeeThenPut(t *testing.T) {
	a, b := wrote(least, 4, at(1, 1)), ended(least, at(1, 2), at(1, 1))
	p := start(t)
	p.see(api.Ctx{part(1, 1, 1)})
	wantPut(t, p, a, api.ErrThere, api.Ctx{part(1, 1, 1)}, nil, nil)
	wantPut(t, p, b, api.OK, api.Ctx{part(1, 1, 2)}, nil, all(b))
	p = filled(t, a)
	p.see(api.Ctx{part(1, 1, 2)})
	wantPut(t, p, b, api.ErrThere, api.Ctx{part(1, 1, 2)}, all(a), nil)
}

// wantPrune prunes, and holds how many tombs go, and all that the book has then.
func wantPrune(t *testing.T, p *pair, c api.Ctx, many int, live, tombs []api.Event) {
	t.Helper()
	seen := p.b.Ctx()
	if got := p.prune(c); got != many {
		t.Errorf("Prune of %v is %d, want %d", c, got, many)
	}
	wantBook(t, p, seen, live, tombs)
}

// P18.2: Prune, written out: tombs go, live edits lose their Kills, and what was seen stays so.
func TestPruneKnown(t *testing.T) {
	a, b, c := wrote(least, 4, at(1, 1)), wrote(least, 4, at(1, 2), dots(3, 1, 3, 2)...), wrote(least, 4, at(2, 1), at(3, 3))
	x, y, z := ended(least, at(1, 5)), ended(least, at(1, 6), dots(3, 4, 3, 5)...), ended(least, at(2, 6), at(3, 6))
	bare := func(e api.Event) api.Event { e.Kills = nil; return e }
	for _, k := range []struct {
		c     api.Ctx
		many  int
		live  []api.Event
		tombs []api.Event
	}{
		{nil, 0, all(a, b, c), all(x, y, z)},
		{api.Ctx{}, 0, all(a, b, c), all(x, y, z)},
		{aid.Mute(), 0, all(a, b, c), all(x, y, z)},
		// Dots of neither: of nothing, of what is killed, and near by.
		{api.Ctx{part(1, 3, 4, 7, most), part(2, 2, 5, 7, 7), part(3, 1, 6), part(4, 1, 9)}, 0, all(a, b, c), all(x, y, z)},
		// Dots of tombs, with Kills and without.
		{of(x.Dot), 1, all(a, b, c), all(y, z)},
		{of(y.Dot), 1, all(a, b, c), all(x, z)},
		{of(z.Dot), 1, all(a, b, c), all(x, y)},
		{of(z.Dot, x.Dot), 2, all(a, b, c), all(y)},
		{of(x.Dot, y.Dot, z.Dot), 3, all(a, b, c), nil},
		// Dots of live edits, with Kills and without.
		{of(a.Dot), 0, all(a, b, c), all(x, y, z)},
		{of(b.Dot), 0, all(a, bare(b), c), all(x, y, z)},
		{of(c.Dot), 0, all(a, b, bare(c)), all(x, y, z)},
		{of(c.Dot, a.Dot, b.Dot), 0, all(a, bare(b), bare(c)), all(x, y, z)},
		// Of both, whole, and not in order.
		{of(b.Dot, y.Dot), 1, all(a, bare(b), c), all(x, z)},
		{api.Ctx{part(1, 1, most)}, 2, all(a, bare(b), c), all(z)},
		{api.Ctx{part(1, 1, 6), part(2, 1, 6)}, 3, all(a, bare(b), bare(c)), nil},
		{api.Ctx{part(2, 9, 1, 6, 6, 0, 1), part(0, 1, 9), part(1, 6, 6, 5, 5), part(1, 2, 2, 1, above)}, 3, all(a, bare(b), c), nil},
	} {
		p := filled(t, a, x, c, z, b, y)
		wantPrune(t, p, k.c, k.many, k.live, k.tombs)
		wantPrune(t, p, k.c, 0, k.live, k.tombs)
		// Events that are let go, or have lost their Kills, don't come again.
		for _, e := range all(a, b, c, x, y, z) {
			wantPut(t, p, e, api.ErrThere, p.b.Ctx(), k.live, k.tombs)
		}
	}
}

// P18.2: what was not seen may be pruned as well, and turns nothing; an event that comes then is not pruned.
func TestPruneAhead(t *testing.T) {
	x := ended(least, at(1, 1), at(2, 2))
	p := start(t)
	wantPrune(t, p, api.Ctx{part(1, 1, 9)}, 0, nil, nil)
	wantPut(t, p, x, api.OK, api.Ctx{part(1, 1, 1), part(2, 2, 2)}, nil, all(x))
	wantPrune(t, p, of(at(2, 2)), 0, nil, all(x))
	wantPrune(t, p, of(at(1, 1)), 1, nil, nil)
}

// P18.2: of very many tombs and live edits, and contexts of very many runs, each is pruned that is asked for.
func TestPruneMany(t *testing.T) {
	const many = 60000
	seen := api.Ctx{part(1, 1, 4*many), part(2, 1, 1)}
	var l []api.Event
	var every, none api.Ctx
	for n := uint64(1); n <= many; n++ {
		l = append(l, wrote(least, 1, at(1, 4*n-3), at(2, 1)), ended(least, at(1, 4*n-1), at(2, 1)))
		every = append(every, part(1, 4*n-2, 4*n-1))
		none = append(none, part(1, 4*n-2, 4*n-2), part(1, 4*n, 4*n))
	}
	b, err := From(seen, l)
	if err != api.OK {
		t.Fatal(err)
	}
	slices.Reverse(every)
	if n := b.Prune(none); n != 0 || len(b.Live()) != many || len(b.Tombs()) != many {
		t.Error(n)
	}
	if n := b.Prune(every[:many/2]); n != many/2 || len(b.Live()) != many || len(b.Tombs()) != many/2 {
		t.Error(n)
	}
	if n := b.Prune(every); n != many/2 || len(b.Live()) != many || len(b.Tombs()) != 0 {
		t.Error(n)
	}
	for _, e := range b.Live() {
		if len(e.Kills) != 1 {
			t.Fatal(told(e))
		}
	}
	if n := b.Prune(seen); n != 0 || len(b.Live()) != many {
		t.Error(n)
	}
	for _, e := range b.Live() {
		if len(e.Kills) != 0 {
			t.Fatal(told(e))
		}
	}
}

// P18.2: very many events, one behind another, of which each kills the one ahead of it.
func TestPutMany(t *testing.T) {
	const many = 30000
	b := New()
	for n := uint64(1); n <= many; n++ {
		e, err := b.Make(wrote(least, 4, at(1, n)))
		if e.Kills = slices.Clip(e.Kills); len(e.Kills) > 2 {
			e.Kills = e.Kills[len(e.Kills)-2:]
		}
		if err != api.OK || b.Put(e) != api.OK || b.Put(e) != api.ErrThere {
			t.Fatal(n, err)
		}
	}
	if l := b.Live(); len(l) != 1 || !aid.Alike(b.Ctx(), api.Ctx{part(1, 1, many)}) {
		t.Error(len(l))
	}
	b = New()
	for n := uint64(1); n <= api.MaxEvents; n++ {
		b.Put(wrote(least+n, 4, at(1, 2*n), at(2, 3*n)))
	}
	if l := b.Live(); len(l) != api.MaxEvents || len(b.Ctx()[0].Runs) != api.MaxEvents || len(b.Of(least+7)) != 1 {
		t.Error(len(l))
	}
}
