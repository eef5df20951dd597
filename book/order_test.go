package book

import (
	"math/rand"
	"slices"
	"testing"

	"epitaph/aid"
	"epitaph/api"
)

// apart tells whether no event of a list kills another one of it, and no two have one dot.
func apart(l []api.Event) bool {
	for i, a := range l {
		for k, b := range l {
			if i != k && (a.Dot == b.Dot || slices.Contains(a.Kills, b.Dot)) {
				return false
			}
		}
	}
	return true
}

// closed tells whether dots are unlike, each event that kills another one of a list kills all that this one kills, none kills a deletion, and no two kill each other.
func closed(l []api.Event) bool {
	for i, a := range l {
		for k, b := range l {
			if i != k && a.Dot == b.Dot {
				return false
			}
			if !slices.Contains(a.Kills, b.Dot) {
				continue
			}
			if b.Kind == 2 || slices.ContainsFunc(b.Kills, func(d api.Dot) bool { return !slices.Contains(a.Kills, d) }) {
				return false
			}
		}
	}
	return true
}

// wantSame holds that events make the same of a book, in whichever of some orders they come.
func wantSame(t *testing.T, b *Book, orders [][]api.Event) {
	t.Helper()
	var first *Book
	for _, l := range orders {
		p := b.Copy()
		for _, e := range l {
			p.Put(e)
		}
		if first == nil {
			first = p
		}
		if !Same(first, p) {
			t.Fatalf("%.600q puts %.600q, %v, and %.600q puts %.600q, %v", toldAll(orders[0]), toldAll(first.All()), first.Ctx(), toldAll(l), toldAll(p.All()), p.Ctx())
		}
		// And those that come again turn nothing.
		for _, e := range l {
			if err := p.Put(e); err != api.ErrThere {
				t.Fatalf("Put of %q, again, is %d", told(e), err)
			}
		}
		if !Same(first, p) {
			t.Fatalf("events that came again turned %.600q into %.600q", toldAll(first.All()), toldAll(p.All()))
		}
	}
}

// P18.5: the order, written out: of events of which none kills the other one, and of those that a new one has put out.
func TestOrderKnown(t *testing.T) {
	a, b, c := wrote(least, 4, at(1, 1)), wrote(least, 4, at(2, 1)), wrote(least, 5, at(3, 1), dots(7, 7, 8, 8)...)
	x, y := ended(least, at(4, 1), dots(7, 7, 9, 9)...), ended(least+1, at(5, 1))
	wantSame(t, New(), aid.Orders(all(a, b, c, x, y)))
	// Over live edits that some of them put out.
	wantSame(t, with(puts(wrote(least, 1, at(7, 7)), wrote(least, 1, at(8, 8)), wrote(least, 1, at(6, 6)))), aid.Orders(all(a, b, c, x, y)))
	// Over what was seen already, of their dots and of their Kills.
	wantSame(t, with(sees(part(1, 1, 1), part(7, 7, 7), part(4, 1, 3))), aid.Orders(all(a, b, c, x, y)))
	// An edit, one that puts it out, one that puts out both, and a deletion of all.
	d := wrote(least, 4, at(1, 2), at(1, 1))
	e := wrote(least, 4, at(3, 1), dots(1, 1, 1, 2)...)
	z := ended(least, at(3, 2), dots(1, 1, 1, 2, 3, 1)...)
	wantSame(t, New(), aid.Orders(all(a, b, d, e, z)))
	for _, l := range aid.Orders(all(a, b, d, e, z)) {
		if got := with(puts(l...)); toldAll(got.Live()) != toldAll(all(b)) || toldAll(got.Tombs()) != toldAll(all(z)) || !aid.Alike(got.Ctx(), api.Ctx{part(1, 1, 2), part(2, 1, 1), part(3, 1, 2)}) {
			t.Errorf("%q makes %q", toldAll(l), toldAll(got.All()))
		}
	}
}

// P18.5: events that come again turn nothing, whatever else they have now.
func TestAgain(t *testing.T) {
	p := filled(t, wrote(least, 4, at(1, 1)), wrote(least, 5, at(1, 2), at(3, 3)), ended(least, at(2, 1), dots(1, 2, 4, 4)...))
	was := p.b.Copy()
	for _, d := range dots(1, 1, 1, 2, 2, 1, 3, 3, 4, 4) {
		for _, e := range all(wrote(least, 4, d), wrote(least+1, 1, d, at(9, 9)), ended(least, d), ended(least, d, at(8, 8)), wrote(least, 4, d, lessOne(dots(1, 1, 5, 5), d)...)) {
			if err := p.put(e); err != api.ErrThere || !Same(p.b, was) {
				t.Errorf("%q turned %q into %q", told(e), toldAll(was.All()), toldAll(p.b.All()))
			}
		}
	}
	p.want()
}

// P18.5: all lists of up to four of a few events, in each order, as far as none of two kills the other one, or each that is killed is so with all that it kills.
func TestOrderAll(t *testing.T) {
	some := all(
		wrote(least, 1, at(1, 1)), wrote(least, 1, at(1, 2), at(1, 1)), wrote(least, 2, at(1, 3), dots(1, 1, 1, 2)...), wrote(least+1, 1, at(2, 1), at(1, 1)),
		wrote(least, 1, at(2, 2), dots(1, 1, 2, 1, 2, 5)...), ended(least, at(2, 3), dots(1, 1, 1, 2, 1, 3)...), ended(least, at(3, 1), dots(1, 5, 2, 5)...), wrote(least, 1, at(3, 2), dots(1, 1, 2, 1)...),
	)
	few, closedUp := 0, 0
	aid.Lists(some, 4, func(l []api.Event) {
		if apart(l) {
			few++
		} else if closed(l) {
			closedUp++
		} else {
			return
		}
		wantSame(t, New(), aid.Orders(l))
	})
	if few < 100 || closedUp < 100 {
		t.Error(few, closedUp)
	}
}

// P18.5: two events of which none kills the other one are put in both orders, over drawn books, with the same answers.
func TestOrderOfTwo(t *testing.T) {
	met := map[api.Errno]int{}
	pairs := 0
	for seed := range int64(1500) {
		g := rand.New(rand.NewSource(seed))
		p := start(t)
		for range g.Intn(12) {
			anyStep(g, p, map[api.Errno]int{})
		}
		a, b := near(g, 3, 10), near(g, 3, 10)
		if !apart(all(a, b)) {
			continue
		}
		pairs++
		x, y := p.b.Copy(), p.b.Copy()
		xa, xb := x.Put(a), x.Put(b)
		yb, ya := y.Put(b), y.Put(a)
		if xa != ya || xb != yb || !Same(x, y) {
			t.Fatalf("%q and %q make %q and %q of %q", told(a), told(b), toldAll(x.All()), toldAll(y.All()), toldAll(p.b.All()))
		}
		met[xa]++
		met[xb]++
	}
	if pairs < 700 || met[api.OK] < 300 || met[api.ErrThere] < 300 || met[api.ErrArg] < 20 {
		t.Error(pairs, met)
	}
}

// P18.5: many drawn events of which none kills another one, over drawn books, in drawn orders.
func TestOrderAny(t *testing.T) {
	many := 0
	for seed := range int64(500) {
		g := rand.New(rand.NewSource(seed))
		p := start(t)
		for range g.Intn(12) {
			anyStep(g, p, map[api.Errno]int{})
		}
		var l []api.Event
		for range 30 {
			if e := near(g, 4, 30); aid.EventMayBe(e) && apart(append(slices.Clip(l), e)) {
				l = append(l, e)
			}
		}
		many += len(l)
		var orders [][]api.Event
		for range 6 {
			g.Shuffle(len(l), func(i, k int) { l[i], l[k] = l[k], l[i] })
			orders = append(orders, slices.Clone(l))
		}
		wantSame(t, p.b, orders)
	}
	if many < 4000 {
		t.Error(many)
	}
}

// P18.5, P18.1: where machines make events by Make, and hear of one another's now and then, in whichever order, each that has heard of all has the same:
// live are the edits that none puts out, and all deletions are tombs.
func TestOrderOnMachines(t *testing.T) {
	const machines = 3
	tombs, live := 0, 0
	for seed := range int64(300) {
		g := rand.New(rand.NewSource(seed))
		books := [machines]*Book{New(), New(), New()}
		var made []api.Event
		for step := range 24 {
			m := g.Intn(machines)
			// Some of what was made comes, in any order, and some of it more than once.
			for _, i := range g.Perm(len(made)) {
				if g.Intn(3) == 0 {
					books[m].Put(made[i])
				}
			}
			e := near(g, 1, 1)
			e.Dot = at(uint16(m+1), uint64(step+1))
			x, err := books[m].Make(e)
			if err != api.OK || books[m].Put(x) != api.OK {
				t.Fatalf("Make of %q is %d", told(e), err)
			}
			made = append(made, x)
		}
		if !closed(made) {
			t.Fatalf("%q are not closed", toldAll(made))
		}
		var want []api.Event
		for _, e := range made {
			if e.Kind == 2 || !slices.ContainsFunc(made, func(x api.Event) bool { return slices.Contains(x.Kills, e.Dot) }) {
				want = append(want, e)
			}
		}
		for m, b := range books {
			for _, i := range g.Perm(len(made)) {
				b.Put(made[i])
			}
			if toldAll(b.All()) != toldAll(inOrder(want)) || !Same(b, books[0]) {
				t.Fatalf("the machine %d has %.600q, not %.600q", m, toldAll(b.All()), toldAll(inOrder(want)))
			}
		}
		tombs, live = tombs+len(books[0].Tombs()), live+len(books[0].Live())
	}
	if tombs < 1000 || live < 500 {
		t.Error(tombs, live)
	}
}
