package book

import (
	"math/rand"
	"slices"
	"testing"

	"epitaph/aid"
	"epitaph/api"
)

// with is a book that was told some things.
func with(do ...func(b *Book)) *Book {
	b := New()
	for _, f := range do {
		f(b)
	}
	return b
}

// puts, sees and prunes are things that a book may be told.
func puts(l ...api.Event) func(b *Book) {
	return func(b *Book) {
		for _, e := range l {
			b.Put(e)
		}
	}
}
func sees(c ...api.Part) func(b *Book)   { return func(b *Book) { b.See(c) } }
func prunes(c ...api.Part) func(b *Book) { return func(b *Book) { b.Prune(c) } }

// from is the book of a context and of events.
func from(t *testing.T, c api.Ctx, l ...api.Event) *Book {
	t.Helper()
	b, err := From(c, l)
	if err != api.OK {
		t.Fatal(err)
	}
	return b
}

// groups are books: those of one group have the same, those of two groups not.
func groups(t *testing.T) [][]*Book {
	a, b, x := wrote(least, 4, at(1, 1)), wrote(least, 4, at(1, 2), at(1, 1)), ended(least, at(1, 3), dots(1, 1, 1, 2)...)
	note := func(change func(e *api.Event)) api.Event { e := a; change(&e); return e }
	up := func(n uint64) api.Ctx { return api.Ctx{part(1, 1, n)} }
	bare := func(e api.Event) api.Event { e.Kills = nil; return e }
	return [][]*Book{
		// Nothing, in whichever way.
		{nil, New(), {}, New().Copy(), from(t, nil), with(sees()), with(prunes(part(1, 1, 9))), with(sees(aid.Mute()...)), with(puts(api.Event{}, edit(at(0, 1))))},
		// The context alone.
		{with(sees(part(1, 1, 1))), from(t, up(1)), with(sees(part(1, 1, 1)), sees(part(1, 1, 1))), with(sees(part(1, 1, 1, 1, above), part(0, 5, 5)))},
		{with(sees(part(1, 2, 2)))},
		{with(sees(part(2, 1, 1)))},
		{with(sees(part(1, 1, 1), part(2, 1, 1))), with(sees(part(2, 1, 1)), sees(part(1, 1, 1)))},
		{with(sees(part(1, 1, 2))), with(sees(part(1, 2, 2)), sees(part(1, 1, 1))), with(sees(part(1, 1, 2), part(1, 2, 2)))},
		{with(sees(part(1, 1, most)))},
		// One live edit, and one that is unlike in one thing.
		{with(puts(a)), with(puts(a, a)), with(puts(a), sees(part(1, 1, 1))), with(puts(a), prunes(part(1, 1, 1))), from(t, up(1), a), with(puts(a)).Copy(), with(puts(a, wrote(least, 5, at(1, 1))))},
		{with(puts(note(func(e *api.Event) { e.Text = "y" })))},
		{with(puts(note(func(e *api.Event) { e.Text = "" })))},
		{with(puts(note(func(e *api.Event) { e.Field = 5 })))},
		{with(puts(note(func(e *api.Event) { e.Cid++ })))},
		{with(puts(note(func(e *api.Event) { e.Dot.N++ })))},
		{with(puts(note(func(e *api.Event) { e.Dot.Dev++ })))},
		{with(puts(ended(least, at(1, 1))))},
		{with(puts(ended(least+1, at(1, 1))))},
		// The context, with a live edit.
		{with(puts(a), sees(part(1, 2, 2))), with(sees(part(1, 2, 2)), puts(a)), from(t, up(2), a)},
		{with(puts(a), sees(part(2, 2, 2)))},
		// Kills alone, of a live edit and of a tomb.
		{with(puts(a, b)), with(puts(b, a)), with(puts(b)), from(t, up(2), b), with(sees(part(1, 1, 1)), puts(b)), with(puts(b), prunes(part(1, 1, 1)))},
		{with(sees(part(1, 1, 1)), puts(bare(b))), with(puts(a, b), prunes(part(1, 2, 2))), from(t, up(2), bare(b))},
		{with(puts(a, b, x)), with(puts(x, b, a)), from(t, up(3), x), with(puts(x), prunes(part(1, 1, 2)))},
		{with(sees(part(1, 1, 2)), puts(bare(x))), from(t, up(3), bare(x))},
		{with(sees(part(1, 1, 2)), puts(ended(least, at(1, 3), at(1, 1)))), from(t, up(3), ended(least, at(1, 3), at(1, 1)))},
		{with(sees(part(1, 1, 2)), puts(ended(least, at(1, 3), at(1, 2))))},
		// A tomb that is let go: the context is left.
		{with(puts(a, b, x), prunes(part(1, 3, 3))), with(sees(part(1, 1, 3))), from(t, up(3))},
		// Two live edits, and two tombs, of which one is unlike, or lacks.
		{with(puts(wrote(least, 4, at(1, 1)), wrote(least, 4, at(1, 2)))), with(puts(wrote(least, 4, at(1, 2)), wrote(least, 4, at(1, 1))))},
		{with(puts(wrote(least, 4, at(1, 1)), wrote(least, 5, at(1, 2))))},
		{with(puts(wrote(least, 4, at(1, 1)), ended(least, at(1, 2)))), with(puts(ended(least, at(1, 2)), wrote(least, 4, at(1, 1))))},
		{with(puts(ended(least, at(1, 1)), wrote(least, 4, at(1, 2))))},
		{with(puts(ended(least, at(1, 1)), ended(least, at(1, 2)))), with(puts(ended(least, at(1, 2)), ended(least, at(1, 1))))},
		{with(puts(ended(least, at(1, 1)), ended(least, at(1, 2))), prunes(part(1, 1, 1)))},
		{with(puts(ended(least, at(1, 1)), ended(least, at(1, 2))), prunes(part(1, 2, 2)))},
	}
}

// P18.3: Same, of books that came about in different steps, and of those that are unlike in one thing alone.
func TestSameKnown(t *testing.T) {
	all := groups(t)
	for i, l := range all {
		for k, m := range all {
			for x, a := range l {
				for y, b := range m {
					if Same(a, b) != (i == k) {
						t.Errorf("Same of the book %d of group %d and the book %d of group %d is %v", x, i, y, k, i != k)
					}
				}
			}
		}
	}
}

// P18.3: Same of drawn books is the same as to tell all that they have.
func TestSameAny(t *testing.T) {
	same, unlike := 0, 0
	for seed := range int64(400) {
		g := rand.New(rand.NewSource(seed))
		var list []*pair
		for range 6 {
			p := start(t)
			for range 1 + g.Intn(3) {
				steps()[g.Intn(len(steps()))](p)
			}
			list = append(list, p)
		}
		for _, a := range list {
			for _, b := range list {
				want := aid.SameDots(a.s.seen, b.s.seen) && toldAll(inOrder(a.s.live)) == toldAll(inOrder(b.s.live)) && toldAll(inOrder(a.s.tombs)) == toldAll(inOrder(b.s.tombs))
				if Same(a.b, b.b) != want {
					t.Fatalf("Same is not %v, of %q and %q", want, a.past, b.past)
				}
				if want {
					same++
				} else {
					unlike++
				}
			}
		}
		for _, p := range list {
			p.want()
		}
	}
	if same < 2500 || unlike < 5000 {
		t.Error(same, unlike)
	}
}

// P18.3: a copy has the same, and goes on by itself: what is done to one of both is not seen in the other one.
func TestCopy(t *testing.T) {
	for _, l := range groups(t) {
		for _, b := range l {
			c := b.Copy()
			if (c == nil) != (b == nil) || b != nil && c == b || !Same(b, c) || !Same(c, b) || !Same(c.Copy(), b) {
				t.Errorf("the copy of %q is %q", toldAll(b.All()), toldAll(c.All()))
			}
		}
	}
	for _, before := range steps() {
		for _, then := range steps() {
			for _, last := range steps() {
				p := start(t)
				before(p)
				then(p)
				twin := &pair{t, p.b.Copy(), p.s.copy(), append(slices.Clip(p.past), "copy")}
				last(p)
				twin.want()
				p.want()
				// And the other way round.
				third := &pair{t, p.b.Copy(), p.s.copy(), append(slices.Clip(p.past), "copy")}
				before(third)
				last(third)
				then(third)
				p.want()
				third.want()
			}
		}
	}
}

// P18.3: what a copy tells is its own: Kills that are lost in one of both stay in the other one.
func TestCopyKills(t *testing.T) {
	e, x := wrote(least, 4, at(1, 2), at(1, 1)), ended(least, at(2, 2), at(2, 1))
	b := with(puts(e, x))
	c := b.Copy()
	b.Prune(api.Ctx{part(1, 2, 2)})
	if toldAll(c.All()) != toldAll([]api.Event{e, x}) || len(b.Live()[0].Kills) != 0 {
		t.Errorf("the copy has %q", toldAll(c.All()))
	}
	c.Prune(api.Ctx{part(2, 2, 2)})
	if len(b.Tombs()) != 1 || len(c.Tombs()) != 0 {
		t.Error("the copy's tomb is the book's")
	}
	for range 2 {
		spoilAll(c.All())
		spoilAll(b.All())
		spoilCtx(b.Ctx())
		spoilCtx(c.Ctx())
	}
	if toldAll(c.All()) != toldAll([]api.Event{e}) || toldAll(b.Tombs()) != toldAll([]api.Event{x}) || !aid.Alike(b.Ctx(), c.Ctx()) {
		t.Error("what was written into what one told is seen in the other one")
	}
}

// P18.3: Of tells the live edits of a contact, of all fields, rising by their dots, and no deletion.
func TestOf(t *testing.T) {
	p := start(t)
	want := map[uint64][]api.Event{}
	cids := []uint64{least, least + 1, 1<<48 + most, 2<<48 + 1, 258<<48 + 1, huge, 1<<63 + 1}
	g := rand.New(rand.NewSource(180))
	for i := range 200 {
		cid := cids[i%len(cids)]
		e := wrote(cid, uint8(1+g.Intn(5)), at(uint16(1+g.Intn(9)), uint64(1+i)), at(20, uint64(1+i)))
		p.put(e)
		p.put(ended(cid, at(10, uint64(i+1))))
		want[cid] = inOrder(append(want[cid], e))
	}
	for _, cid := range append(cids, 0, 1, least+2, 3<<48+1, most, 1<<48, huge-1) {
		if got := p.b.Of(cid); toldAll(got) != toldAll(want[cid]) {
			t.Errorf("Of %d is %q, want %q", cid, toldAll(got), toldAll(want[cid]))
		}
	}
	p.want()
	p.put(ended(least, at(11, 1), p.b.Of(least)[0].Dot))
	if got := p.b.Of(least); toldAll(got) != toldAll(want[least][1:]) {
		t.Errorf("Of is %q", toldAll(got))
	}
}

// P18.3: All is what Live and Tombs tell, rising by their dots, whichever come first.
func TestAll(t *testing.T) {
	var l []api.Event
	for n := uint64(1); n <= 40; n++ {
		if n%3 == 0 {
			l = append(l, ended(least, at(uint16(1+n/20), n)))
		} else {
			l = append(l, wrote(least, 2, at(uint16(1+n/20), n)))
		}
	}
	g := rand.New(rand.NewSource(181))
	for range 20 {
		g.Shuffle(len(l), func(i, k int) { l[i], l[k] = l[k], l[i] })
		b := with(puts(l...))
		if toldAll(b.All()) != toldAll(inOrder(l)) || toldAll(inOrder(slices.Concat(b.Tombs(), b.Live()))) != toldAll(b.All()) || len(b.Tombs()) != 13 {
			t.Fatalf("All is %q", toldAll(b.All()))
		}
	}
}
