package book

import (
	"math/rand"
	"slices"
	"testing"

	"epitaph/aid"
	"epitaph/api"
)

// may is P18.4, word by word: whether there is a book of a context and of events.
func may(c api.Ctx, l []api.Event) bool {
	if !aid.InOrder(c) {
		return false
	}
	for i, e := range l {
		if !aid.EventMayBe(e) || i > 0 && !aid.Ahead(l[i-1].Dot, e.Dot) || !has(c, e.Dot) {
			return false
		}
		for _, d := range e.Kills {
			if !has(c, d) || slices.ContainsFunc(l, func(x api.Event) bool { return x.Kind == 1 && x.Dot == d }) {
				return false
			}
		}
	}
	return true
}

// wantFrom holds From, that what went in is not turned, and that the book has nothing of it.
func wantFrom(t *testing.T, c api.Ctx, l []api.Event, ok bool) {
	t.Helper()
	if may(c, l) != ok {
		t.Fatalf("From(%v, %.400q), slowly told, is not %v", c, toldAll(l), ok)
	}
	in, list := roomy(c), append(againAll(l, true), gone(at(1, 1), at(1, 2)))[:len(l)]
	was, room := whole(in), toldAll(list[:len(l)+1])
	b, err := From(in, list)
	if (err == api.OK) != ok || (b != nil) != ok || !ok && err != api.ErrArg {
		t.Fatalf("From(%v, %.400q) is %d", c, toldAll(l), err)
	}
	if !aid.Alike(was, whole(in)) || room != toldAll(list[:len(l)+1]) {
		t.Fatalf("From has turned %v, %.400q into %v, %.400q", c, toldAll(l), in, toldAll(list))
	}
	twin, _ := From(in, list)
	spoilCtx(in)
	spoilAll(list)
	if !Same(b, twin) {
		t.Fatalf("what was written into what went into From is seen in what it answered")
	}
	if ok {
		p := &pair{t: t, b: b, s: &slow{seen: copied(c)}, past: []string{"From"}}
		for _, e := range l {
			if e.Kind == 1 {
				p.s.live = append(p.s.live, e)
			} else {
				p.s.tombs = append(p.s.tombs, e)
			}
		}
		p.want()
	}
}

// P18.4: From, written out: what may be, and what may not, each for one cause.
func TestFromKnown(t *testing.T) {
	a, b, x := wrote(least, 4, at(1, 1)), wrote(least, 4, at(1, 2)), ended(least, at(2, 1))
	up := api.Ctx{part(1, 1, 5), part(2, 1, 5)}
	for _, k := range []struct {
		c  api.Ctx
		l  []api.Event
		ok bool
	}{
		{nil, nil, true}, {api.Ctx{}, []api.Event{}, true}, {up, nil, true}, {up, all(a), true}, {up, all(a, b), true}, {up, all(a, b, x), true}, {up, all(x), true},
		// The context has just what is needed, or lacks a dot.
		{of(at(1, 1)), all(a), true}, {api.Ctx{part(1, 1, 2), part(2, 1, 1)}, all(a, b, x), true},
		{nil, all(a), false}, {of(at(1, 2)), all(a), false}, {of(at(2, 1)), all(a), false}, {api.Ctx{part(1, 1, 2)}, all(a, b, x), false},
		{api.Ctx{part(1, 2, 2), part(2, 1, 1)}, all(a, b, x), false}, {api.Ctx{part(1, 1, 1), part(2, 1, 1)}, all(a, b, x), false},
		// It lacks a dot that is killed: the first one, one between, the last one.
		{up, all(wrote(least, 4, at(1, 1), dots(1, 2, 1, 5, 2, 5)...)), true},
		{api.Ctx{part(1, 1, 1, 5, 5), part(2, 5, 5)}, all(wrote(least, 4, at(1, 1), dots(1, 2, 1, 5, 2, 5)...)), false},
		{api.Ctx{part(1, 1, 4), part(2, 5, 5)}, all(wrote(least, 4, at(1, 1), dots(1, 2, 1, 5, 2, 5)...)), false},
		{api.Ctx{part(1, 1, 5), part(2, 1, 4)}, all(wrote(least, 4, at(1, 1), dots(1, 2, 1, 5, 2, 5)...)), false},
		{api.Ctx{part(1, 1, 1), part(2, 1, 1)}, all(a, ended(least, at(2, 1), at(2, 2))), false},
		// Events that fall, that come twice, that have one dot.
		{up, all(b, a), false}, {up, all(a, a), false}, {up, all(x, a), false}, {up, all(a, x, b), false}, {up, all(a, b, b), false},
		{up, all(a, wrote(least, 5, at(1, 1))), false}, {up, all(a, ended(least, at(1, 1))), false}, {up, all(ended(least, at(1, 1)), a), false},
		// Events that may not be, at each place.
		{up, all(api.Event{}), false}, {up, all(wrote(least, 6, at(1, 1)), b, x), false}, {up, all(a, wrote(least, 0, at(1, 2)), x), false},
		{up, all(a, b, other(2, least, 4, at(2, 1))), false}, {up, all(other(3, least, 4, at(1, 1))), false}, {up, all(a, wrote(least, 4, at(1, 2), at(1, 2))), false},
		{up, all(a, wrote(least, 4, at(1, 2), dots(1, 4, 1, 3)...)), false}, {up, all(wrote(0, 4, at(1, 1))), false},
		// An edit that one of them kills, ahead of it or behind it, an edit or a deletion.
		{up, all(a, wrote(least, 4, at(1, 2), at(1, 1))), false}, {up, all(wrote(least, 4, at(1, 1), at(1, 2)), b), false},
		{up, all(a, b, ended(least, at(2, 1), at(1, 1))), false}, {up, all(a, b, ended(least, at(2, 1), at(1, 2))), false},
		{up, all(wrote(least, 4, at(1, 1), at(1, 2)), wrote(least, 4, at(1, 2), at(1, 1))), false},
		{up, all(a, b, ended(huge, at(2, 1), dots(1, 1, 1, 2, 1, 3)...)), false}, {up, all(ended(huge, at(1, 1), dots(1, 2, 1, 3)...), wrote(least, 1, at(1, 2))), false},
		// A deletion that one of them kills is a tomb all the same, and what is killed may be there more than once.
		{up, all(wrote(least, 4, at(1, 1), at(2, 1)), x), true}, {up, all(ended(least, at(1, 1), at(2, 1)), ended(least, at(2, 1), at(1, 1))), true},
		{up, all(wrote(least, 4, at(1, 1), at(1, 5)), wrote(least, 4, at(1, 2), at(1, 5)), ended(least, at(2, 1), at(1, 5))), true},
		// At the ends of what a dot may be.
		{api.Ctx{part(1, 1, most), part(last, most, most)}, all(wrote(least, 4, at(1, 7), row(1, most-255, 256)...), wrote(huge, 1, at(last, most), at(1, 9))), true},
		{api.Ctx{part(1, 1, most), part(last, most, most)}, all(wrote(least, 4, at(1, 7), row(1, most-256, 257)...)), false},
		{api.Ctx{part(1, 1, most), part(last, most, most)}, all(edit(at(last, most-1))), false},
	} {
		wantFrom(t, k.c, k.l, k.ok)
	}
}

// P18.4: a context that is not in order is ErrArg, whatever it has; one in order is taken.
func TestFromCtx(t *testing.T) {
	for _, x := range aid.Crooked() {
		wantFrom(t, x[0], nil, false)
		wantFrom(t, x[1], nil, true)
		for _, d := range dots(1, 1, 2, 1, 1, most) {
			wantFrom(t, x[0], all(edit(d)), false)
			wantFrom(t, x[1], all(edit(d)), has(x[1], d))
		}
	}
	for _, c := range aid.Straight() {
		wantFrom(t, c, nil, true)
		for _, d := range aid.Few() {
			wantFrom(t, c, all(edit(d)), has(c, d))
			wantFrom(t, c, all(gone(d)), has(c, d))
			if d != at(1, 1) {
				wantFrom(t, c, all(gone(at(1, 1), d)), has(c, at(1, 1)) && has(c, d))
			}
		}
	}
}

// P18.4: events that may not be, each for one cause, by themselves and beside others.
func TestFromEvents(t *testing.T) {
	c := api.Ctx{part(1, 1, most), part(2, 1, most), part(3, 1, most)}
	for _, e := range aid.Unlike() {
		fits := aid.EventMayBe(e) && e.Dot.Dev < 4
		wantFrom(t, c, all(e), fits && !slices.ContainsFunc(e.Kills, func(d api.Dot) bool { return d.Dev > 3 }))
		first, behind := edit(at(1, 1<<40)), gone(at(3, most))
		wantFrom(t, c, all(first, e, behind), may(c, all(first, e, behind)))
	}
}

// P18.4: all lists of up to three of a few events, with each of a few contexts.
func TestFromAll(t *testing.T) {
	some := []api.Event{
		wrote(least, 1, at(1, 1)), wrote(least, 1, at(1, 2), at(1, 1)), ended(least, at(1, 2)), wrote(least, 1, at(1, 3), at(2, 2)), ended(least, at(2, 1), dots(1, 1, 1, 3)...),
		wrote(least+1, 2, at(2, 1), at(1, 2)), wrote(least, 2, at(2, 2), at(1, 4)), ended(least, at(2, 2), at(2, 2)), wrote(least, 9, at(1, 1)), {},
	}
	contexts := []api.Ctx{nil, {part(1, 1, 4), part(2, 1, 2)}, {part(1, 1, 3), part(2, 1, 2)}, {part(1, 1, 2, 4, 4), part(2, 1, 2)}, {part(1, 1, 4), part(2, 2, 2)}, {part(1, 1, 2)}, {part(1, 1, 4), part(2, 2, 2, 1, 1)}}
	ok := 0
	aid.Lists(some, 3, func(l []api.Event) {
		for _, c := range contexts {
			if wantFrom(t, c, l, may(c, l)); may(c, l) {
				ok++
			}
		}
	})
	if ok < 80 {
		t.Error(ok)
	}
}

// P18.4: From of what drawn books tell is OK, and goes on as they do; one thing changed, it mostly is not.
func TestFromAny(t *testing.T) {
	ok, refused := 0, 0
	for seed := range int64(800) {
		g := rand.New(rand.NewSource(seed))
		p := start(t)
		met := map[api.Errno]int{}
		for range g.Intn(25) {
			anyStep(g, p, met)
		}
		c, l := p.b.Ctx(), p.b.All()
		wantFrom(t, c, l, true)
		b, _ := From(c, l)
		p.b = b
		for range 8 {
			anyStep(g, p, met)
		}
		p.want()
		if len(l) == 0 {
			continue
		}
		i := g.Intn(len(l))
		switch g.Intn(6) {
		case 0:
			l[i] = near(g, 3, 8)
		case 1:
			l[i].Kills = risen(append(slices.Clip(l[i].Kills), at(uint16(1+g.Intn(3)), uint64(1+g.Intn(8)))))
		case 2:
			c = little(g, 3, 8)
		case 3:
			l = append(l, l[i])
		case 4:
			k := g.Intn(len(l))
			l[i], l[k] = l[k], l[i]
		case 5:
			l = inOrder(append(l, near(g, 3, 8)))
		}
		if wantFrom(t, c, l, may(c, l)); may(c, l) {
			ok++
		} else {
			refused++
		}
	}
	if ok < 80 || refused < 200 {
		t.Error(ok, refused)
	}
}

// P18.4: very many events, with very many Kills, and contexts of very many runs.
func TestFromMany(t *testing.T) {
	const many = 60000
	var c api.Ctx
	for dev := range uint16(4) {
		p := api.Part{Dev: dev + 1}
		for n := uint64(1); n <= many; n++ {
			p.Runs = append(p.Runs, api.Run{Lo: 2 * n, Hi: 2 * n})
		}
		c = append(c, p)
	}
	var l []api.Event
	for n := uint64(1); n <= many; n++ {
		l = append(l, wrote(least+n, 4, at(2, 2*n), at(3, 2*n), at(4, 2*n)))
	}
	b, err := From(c, l)
	if err != api.OK || len(b.Live()) != many || !aid.Alike(b.Ctx(), c) || !Same(b, b.Copy()) || len(b.Of(least+7)) != 1 {
		t.Error(err)
	}
	for _, k := range []func(){
		func() { l[many-1].Kills = dots(3, 2*many+1) },
		func() { l[many-1].Kills = dots(2, 2) },
		func() { l[many-1].Kills = dots(2, 2*many-2) },
		func() { l[many-1] = l[many-2] },
	} {
		kept := l[many-1]
		k()
		if b, err := From(c, l); b != nil || err != api.ErrArg {
			t.Error(err)
		}
		l[many-1] = kept
	}
}
