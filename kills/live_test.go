package kills

import (
	"math/rand"
	"slices"
	"testing"

	"epitaph/aid"
	"epitaph/api"
)

// killed tells, dot by dot, whether some event of a list kills a dot.
func killed(l []api.Event, d api.Dot) bool {
	for _, e := range l {
		for _, k := range e.Kills {
			if k.Dev == d.Dev && k.N == d.N {
				return true
			}
		}
	}
	return false
}

// living is told event by event, by the words of the chapter.
func living(l []api.Event) []api.Event {
	list := inOrder(l)
	var live []api.Event
	for _, e := range list {
		if e.Kind == 1 && !killed(list, e.Dot) {
			live = append(live, e)
		}
	}
	return live
}

// wantLive holds Live, that what went in is not turned, nor the room behind it, and that nothing is shared.
func wantLive(t *testing.T, l, want []api.Event) {
	t.Helper()
	was, wanted := toldAll(l), toldAll(want)
	if slow := toldAll(living(l)); slow != wanted {
		t.Fatalf("Live(%.300q), slowly told, is %.300q, not %.300q", was, slow, wanted)
	}
	for _, empty := range []bool{false, true} {
		in := append(againAll(l, empty), gone(at(1, 1), at(1, 2)))[:len(l)]
		room := toldAll(in[:len(l)+1])
		one, two := Live(in), Live(in)
		if toldAll(one) != wanted || toldAll(two) != wanted {
			t.Fatalf("Live(%.300q) = %.300q, then %.300q, want %.300q", was, toldAll(one), toldAll(two), wanted)
		}
		if toldAll(in[:len(l)+1]) != room {
			t.Fatalf("Live has turned %.300q into %.300q", room, toldAll(in[:len(l)+1]))
		}
		if again := toldAll(Live(one)); again != wanted {
			t.Fatalf("Live of what is live, %.300q, is %.300q", wanted, again)
		}
		spoilAll(one)
		if toldAll(in[:len(l)+1]) != room || toldAll(two) != wanted || toldAll(Live(in)) != wanted {
			t.Fatalf("what was written into what Live answered is seen in what went in, %.300q, or in another answer", toldAll(in))
		}
		spoilAll(in)
		if toldAll(two) != wanted {
			t.Fatalf("what was written into what went in is seen in what Live answered, %.300q", toldAll(two))
		}
	}
}

// P17.2: Dead, written out.
func TestDeadKnown(t *testing.T) {
	a, b, c := edit(at(1, 1)), edit(at(1, 2), at(1, 1), at(3, 3)), gone(at(2, 1), at(1, 2), at(1, 1))
	for _, x := range []struct {
		l    []api.Event
		d    api.Dot
		want bool
	}{
		{nil, at(1, 1), false},
		{nil, api.Dot{}, false},
		{[]api.Event{}, at(1, 1), false},
		{[]api.Event{{}}, api.Dot{}, false},
		{[]api.Event{{Kills: dots(0, 0)}}, api.Dot{}, true},
		// A dot that an event has, but none kills.
		{[]api.Event{a}, at(1, 1), false},
		{[]api.Event{gone(at(1, 1))}, at(1, 1), false},
		{[]api.Event{a, edit(at(1, 2)), edit(at(1, 3))}, at(1, 1), false},
		{[]api.Event{b}, at(1, 2), false},
		{[]api.Event{a, b, c}, at(2, 1), false},
		// One that one event kills, whether an event has it or not, and one that more than one do.
		{[]api.Event{b}, at(1, 1), true},
		{[]api.Event{b}, at(3, 3), true},
		{[]api.Event{a, b}, at(1, 1), true},
		{[]api.Event{b, a}, at(1, 1), true},
		{[]api.Event{a, b, c}, at(1, 1), true},
		{[]api.Event{a, b, c}, at(1, 2), true},
		{[]api.Event{a, b, c}, at(3, 3), true},
		{[]api.Event{c}, at(1, 2), true},
		{[]api.Event{a, a, a}, at(1, 1), false},
		// Of each kind, of each contact and field, and by itself.
		{[]api.Event{other(0, 0, 0, at(9, 9), at(1, 1))}, at(1, 1), true},
		{[]api.Event{other(3, huge, 255, at(9, 9), at(1, 1))}, at(1, 1), true},
		{[]api.Event{edit(at(1, 1), at(1, 1))}, at(1, 1), true},
		// Kills that do not rise, and that tell a dot more than once.
		{[]api.Event{gone(at(9, 9), dots(3, 3, 2, 2, 1, 1)...)}, at(3, 3), true},
		{[]api.Event{gone(at(9, 9), dots(3, 3, 2, 2, 1, 1)...)}, at(2, 2), true},
		{[]api.Event{gone(at(9, 9), dots(3, 3, 2, 2, 1, 1)...)}, at(1, 1), true},
		{[]api.Event{gone(at(9, 9), dots(2, 2, 2, 2, 1, 1)...)}, at(1, 1), true},
		{[]api.Event{gone(at(9, 9), dots(2, 2, 2, 2, 1, 1)...)}, at(1, 2), false},
		// Neither part alone is enough, and dots that may not be are taken as they stand.
		{[]api.Event{edit(at(9, 9), dots(1, 2, 2, 1)...)}, at(1, 1), false},
		{[]api.Event{edit(at(9, 9), dots(1, 2, 2, 1)...)}, at(2, 2), false},
		{[]api.Event{edit(at(9, 9), at(258, 1))}, at(2, 1), false},
		{[]api.Event{edit(at(9, 9), at(2, 1+1<<48))}, at(2, 1), false},
		{[]api.Event{edit(at(9, 9), dots(0, 5, 1, above, 1, 0)...)}, at(0, 5), true},
		{[]api.Event{edit(at(9, 9), dots(0, 5, 1, above, 1, 0)...)}, at(1, above), true},
		{[]api.Event{edit(at(9, 9), dots(0, 5, 1, above, 1, 0)...)}, at(1, 0), true},
		{[]api.Event{edit(at(9, 9), at(last, huge))}, at(last, huge), true},
		{[]api.Event{edit(at(9, 9), at(last, most))}, at(last, most), true},
		// Of events of one dot that are not alike all count.
		{[]api.Event{edit(at(1, 5), at(1, 1)), edit(at(1, 5), at(1, 2))}, at(1, 1), true},
		{[]api.Event{edit(at(1, 5), at(1, 1)), edit(at(1, 5), at(1, 2))}, at(1, 2), true},
	} {
		for _, l := range aid.Orders(x.l) {
			if Dead(l, x.d) != x.want || killed(l, x.d) != x.want {
				t.Errorf("Dead(%q, %v) is not %v", toldAll(l), x.d, x.want)
			}
		}
	}
}

// P17.2: a dot is found at each place of Kills of each event of a list.
func TestDeadPlaces(t *testing.T) {
	for _, many := range []int{1, 2, 3, 7, 20} {
		for _, deep := range []int{1, 2, 3, 11, api.MaxKills, 300} {
			l := make([]api.Event, many)
			for i := range l {
				l[i] = edit(at(9, uint64(i+1)), row(uint16(10+i), 1, deep)...)
			}
			was := toldAll(l)
			for i := range l {
				for k := range deep {
					d := at(uint16(10+i), uint64(k+1))
					if !Dead(l, d) || Dead(l, at(d.Dev+uint16(many), d.N)) || Dead(l, at(d.Dev, d.N+uint64(deep))) || Dead(l[i+1:], d) || Dead(l[:i], d) || !Dead(l[i:i+1], d) {
						t.Fatalf("of %d events with %d Kills each the dot at %d of event %d", many, deep, k, i)
					}
				}
				if Dead(l, l[i].Dot) {
					t.Fatalf("of %d events with %d Kills each the event %d is dead", many, deep, i)
				}
			}
			if toldAll(l) != was {
				t.Fatalf("Dead has turned %.300q into %.300q", was, toldAll(l))
			}
		}
	}
}

// P17.2: Dead of drawn lists, and all of a few dots.
func TestDeadAny(t *testing.T) {
	g := rand.New(rand.NewSource(179))
	for range 3000 {
		l := anyEvents(g, g.Intn(9))
		for _, d := range few() {
			if Dead(l, d) != killed(l, d) {
				t.Fatalf("Dead(%q, %v) is not %v", toldAll(l), d, killed(l, d))
			}
		}
	}
}

// P17.2: Live, written out, of events with unlike dots in all their orders.
func TestLiveKnown(t *testing.T) {
	a, b, c := edit(at(1, 1)), edit(at(1, 2)), edit(at(2, 1))
	for _, x := range []struct{ l, want []api.Event }{
		{nil, nil},
		{[]api.Event{}, nil},
		{[]api.Event{{}}, nil},
		// Edits alone, and deletions alone.
		{[]api.Event{a}, []api.Event{a}},
		{[]api.Event{a, b, c}, []api.Event{a, b, c}},
		{[]api.Event{edit(at(1, 1), at(5, 5)), edit(at(3, 1), at(5, 5), at(4, 4))}, []api.Event{edit(at(1, 1), at(5, 5)), edit(at(3, 1), at(5, 5), at(4, 4))}},
		{[]api.Event{gone(at(1, 1))}, nil},
		{[]api.Event{gone(at(1, 1)), gone(at(1, 2), at(1, 1)), gone(at(2, 1), at(9, 9))}, nil},
		// Killed by an edit, by a deletion, by both, and by an event of another kind.
		{[]api.Event{a, edit(at(1, 2), at(1, 1))}, []api.Event{edit(at(1, 2), at(1, 1))}},
		{[]api.Event{b, edit(at(1, 1), at(1, 2))}, []api.Event{edit(at(1, 1), at(1, 2))}},
		{[]api.Event{a, gone(at(1, 3), at(1, 1))}, nil},
		{[]api.Event{a, b, gone(at(1, 3), at(1, 1))}, []api.Event{b}},
		{[]api.Event{a, b, c, gone(at(1, 3), at(1, 1), at(2, 1))}, []api.Event{b}},
		{[]api.Event{a, c, edit(at(1, 2), at(1, 1)), gone(at(3, 1), at(1, 1))}, []api.Event{edit(at(1, 2), at(1, 1)), c}},
		{[]api.Event{a, b, other(0, 5, 5, at(7, 7), at(1, 1))}, []api.Event{b}},
		{[]api.Event{a, b, other(255, 0, 0, at(7, 7), at(1, 2))}, []api.Event{a}},
		// What kills plays no part by its contact and its field.
		{[]api.Event{wrote(1, 1, at(1, 1)), wrote(2, 2, at(1, 2), at(1, 1))}, []api.Event{wrote(2, 2, at(1, 2), at(1, 1))}},
		// Killed by themselves, and by events that are killed.
		{[]api.Event{edit(at(1, 1), at(1, 1))}, nil},
		{[]api.Event{edit(at(1, 1), at(1, 1)), b}, []api.Event{b}},
		{[]api.Event{a, edit(at(1, 2), at(1, 1)), edit(at(1, 3), at(1, 2))}, []api.Event{edit(at(1, 3), at(1, 2))}},
		{[]api.Event{a, edit(at(1, 2), at(1, 1)), gone(at(1, 3), at(1, 2))}, nil},
		{[]api.Event{a, edit(at(1, 2), at(1, 1), at(1, 2))}, nil},
		{[]api.Event{edit(at(1, 1), at(1, 2)), edit(at(1, 2), at(1, 1))}, nil},
		{[]api.Event{edit(at(1, 1), at(1, 2)), edit(at(1, 2), at(2, 1)), edit(at(2, 1), at(1, 1)), edit(at(3, 1))}, []api.Event{edit(at(3, 1))}},
		// A deletion that is killed kills all the same.
		{[]api.Event{a, gone(at(1, 2), at(1, 1)), gone(at(1, 3), at(1, 2))}, nil},
		{[]api.Event{a, gone(at(1, 2), at(1, 1), at(1, 2))}, nil},
		// Kills that do not rise, and that tell a dot more than once.
		{[]api.Event{a, b, c, gone(at(9, 9), dots(2, 1, 1, 1, 2, 1)...)}, []api.Event{b}},
		{[]api.Event{a, b, c, gone(at(9, 9), dots(2, 1, 2, 1, 1, 2)...)}, []api.Event{a}},
		// Neither part of a dot alone is enough.
		{[]api.Event{a, b, c, edit(at(2, 2), at(3, 1), at(1, 3), at(257, 1), at(1, 1+1<<48))}, []api.Event{a, b, c, edit(at(2, 2), at(3, 1), at(1, 3), at(257, 1), at(1, 1+1<<48))}},
		// Dots and edits that may not be are taken as they stand.
		{[]api.Event{wrote(0, 0, api.Dot{}), wrote(huge, 255, at(0, 5)), edit(at(last, huge))}, []api.Event{wrote(0, 0, api.Dot{}), wrote(huge, 255, at(0, 5)), edit(at(last, huge))}},
		{[]api.Event{edit(api.Dot{}), edit(at(0, 5)), edit(at(last, huge)), gone(at(1, above), dots(last, huge, 0, 0)...)}, []api.Event{edit(at(0, 5))}},
		{[]api.Event{edit(api.Dot{}, api.Dot{}), a}, []api.Event{a}},
	} {
		for _, l := range aid.Orders(x.l) {
			wantLive(t, l, x.want)
		}
	}
}

// P17.2: of events of one dot that are not alike the first one in the list alone is told, and its Kills alone count.
func TestLiveClashes(t *testing.T) {
	a, b := edit(at(1, 1)), edit(at(1, 2))
	one, two := edit(at(1, 5), at(1, 1)), edit(at(1, 5), at(1, 2))
	dead := gone(at(1, 5), at(1, 1), at(1, 2))
	self := edit(at(1, 5), at(1, 5), at(1, 2))
	long := wrote(7, 2, at(1, 5))
	for _, x := range []struct{ l, want []api.Event }{
		{[]api.Event{a, a, a}, []api.Event{a}},
		{[]api.Event{one, one}, []api.Event{one}},
		{[]api.Event{a, b, one, two}, []api.Event{b, one}},
		{[]api.Event{a, b, two, one}, []api.Event{a, two}},
		{[]api.Event{one, a, two, b}, []api.Event{b, one}},
		{[]api.Event{two, b, one, a}, []api.Event{a, two}},
		{[]api.Event{a, b, long, one, two}, []api.Event{a, b, long}},
		{[]api.Event{long, two, one, b, a}, []api.Event{a, b, long}},
		{[]api.Event{one, long, two, b, a}, []api.Event{b, one}},
		{[]api.Event{a, b, dead, one}, nil},
		{[]api.Event{a, b, one, dead}, []api.Event{b, one}},
		{[]api.Event{a, b, self, one}, []api.Event{a}},
		{[]api.Event{a, b, one, self}, []api.Event{b, one}},
		{[]api.Event{gone(at(1, 1)), a}, nil},
		{[]api.Event{a, gone(at(1, 1))}, []api.Event{a}},
		{[]api.Event{other(3, 1, 1, at(1, 1)), a}, nil},
		{[]api.Event{gone(at(9, 9), at(1, 1)), a, wrote(3, 3, at(1, 1)), b}, []api.Event{b}},
		{[]api.Event{b, gone(at(9, 9)), a, gone(at(9, 9), at(1, 1), at(1, 2))}, []api.Event{a, b}},
		{[]api.Event{b, gone(at(9, 9), at(1, 2)), a, gone(at(9, 9))}, []api.Event{a}},
		{[]api.Event{edit(api.Dot{}, at(1, 1)), a, edit(api.Dot{}, at(1, 2)), b}, []api.Event{edit(api.Dot{}, at(1, 1)), b}},
	} {
		wantLive(t, x.l, x.want)
	}
}

// P17.2: all lists of up to four out of a few events, those of one dot that are not alike among them.
func TestLiveAll(t *testing.T) {
	some := []api.Event{
		edit(at(1, 1)), edit(at(1, 1), at(1, 2)), edit(at(1, 2)), edit(at(1, 2), at(1, 1)), edit(at(1, 2), at(1, 2)), edit(at(2, 1), at(1, 1), at(1, 2)),
		gone(at(2, 1), at(1, 1)), gone(at(1, 3), at(1, 2), at(2, 1)), gone(at(1, 1), at(2, 1)), other(3, 1, 1, at(2, 2), at(1, 1)), wrote(1, 5, at(2, 2)),
	}
	aid.Lists(some, 4, func(l []api.Event) {
		if got, want := toldAll(Live(l)), toldAll(living(l)); got != want {
			t.Fatalf("Live(%q) = %q, want %q", toldAll(l), got, want)
		}
		for _, d := range dots(1, 1, 1, 2, 2, 1, 1, 3) {
			if Dead(l, d) != killed(l, d) {
				t.Fatalf("Dead(%q, %v) is not %v", toldAll(l), d, killed(l, d))
			}
		}
	})
}

// dense is drawn events, all of whose dots and Kills are of a few, so that they often kill one another.
func dense(g *rand.Rand, many, of int) []api.Event {
	some := append(row(1, 1, of), row(2, 1, of)...)
	l := make([]api.Event, many)
	for i := range l {
		l[i] = wrote(uint64(least+g.Intn(2)), uint8(1+g.Intn(2)), some[g.Intn(len(some))])
		if g.Intn(4) == 0 {
			l[i].Kind = uint8(2 + g.Intn(2))
		}
		for range g.Intn(3) {
			l[i].Kills = append(l[i].Kills, some[g.Intn(len(some))])
		}
	}
	return l
}

// P17.2: Live of drawn lists, of few dots and of many.
func TestLiveAny(t *testing.T) {
	g := rand.New(rand.NewSource(180))
	live, gone := 0, 0
	for range 1500 {
		for _, l := range [][]api.Event{anyEvents(g, g.Intn(12)), dense(g, g.Intn(9), 3), dense(g, g.Intn(30), 20)} {
			want := living(l)
			wantLive(t, l, want)
			live += len(want)
			gone += len(inOrder(l)) - len(want)
		}
	}
	if live < 5000 || gone < 5000 {
		t.Errorf("%d events are live, and %d are not", live, gone)
	}
}

// named is drawn events with unlike dots.
func named(g *rand.Rand, many int) []api.Event {
	return inOrder(dense(g, many, 4))
}

// P17.2: in whichever order events with unlike dots stand, the same ones are live, and the same dots dead.
func TestOrders(t *testing.T) {
	g := rand.New(rand.NewSource(181))
	for range 300 {
		l := named(g, 6)
		live := toldAll(Live(l))
		for _, m := range aid.Orders(l) {
			if got := toldAll(Live(m)); got != live {
				t.Fatalf("Live(%q) = %q, in another order it is %q", toldAll(m), got, live)
			}
			for _, d := range append(row(1, 1, 5), row(2, 1, 5)...) {
				if Dead(m, d) != Dead(l, d) {
					t.Fatalf("Dead(%q, %v) is another one than in another order", toldAll(m), d)
				}
			}
		}
	}
}

// P17.2: very many events, each of which kills the one ahead of it, the one behind it, or none.
func TestLiveMany(t *testing.T) {
	const many = 60000
	g := rand.New(rand.NewSource(182))
	var ahead, behind, none, even []api.Event
	for n := uint64(1); n <= many; n++ {
		ahead = append(ahead, edit(at(1, n), at(1, n-1)))
		behind = append(behind, edit(at(1, n), at(1, n+1)))
		none = append(none, edit(at(1, n), at(2, n)))
		if n%2 == 0 {
			even = append(even, edit(at(1, n), at(2, n)))
		}
	}
	var pairs []api.Event
	for n := uint64(1); n <= many; n++ {
		pairs = append(pairs, none[n-1])
		if n%2 > 0 {
			pairs = append(pairs, gone(at(3, n), at(1, n), at(1, n), at(3, n+1)))
		}
	}
	for _, x := range []struct{ l, want []api.Event }{{ahead, ahead[many-1:]}, {behind, behind[:1]}, {none, none}, {pairs, even}} {
		l, want := slices.Clone(x.l), toldAll(x.want)
		g.Shuffle(len(l), func(i, k int) { l[i], l[k] = l[k], l[i] })
		if got := toldAll(Live(l)); got != want {
			t.Errorf("of very many events %.99q is live, want %.99q", got, want)
		}
	}
	if !Dead(ahead, at(1, many-1)) || Dead(ahead, at(1, many)) || !Dead(behind, at(1, 2)) || Dead(behind, at(1, 1)) {
		t.Error("the ends of very many events")
	}
}

// P17.2, rule 4: Kills that share memory, and have room behind them, share none in what Live answers.
func TestLiveApart(t *testing.T) {
	room := dots(5, 1, 5, 2, 5, 3, 9, 9, 9, 8)
	kept := slices.Clone(room)
	a, b, c, d := edit(at(1, 1)), edit(at(1, 2)), gone(at(1, 3)), edit(at(1, 4))
	a.Kills, b.Kills, c.Kills, d.Kills = room[:3], room[:2], room[1:4], room[2:2]
	list := append(make([]api.Event, 0, 6), d, c, b, a, gone(at(8, 8), at(1, 1)))[:4]
	was := toldAll(list[:5])
	got := Live(list)
	if toldAll(got) != toldAll([]api.Event{a, b, d}) || toldAll(list[:5]) != was || !slices.Equal(room, kept) {
		t.Fatalf("Live = %q, of %q, %v", toldAll(got), toldAll(list[:5]), room)
	}
	for i := range got {
		others := toldAll(slices.Delete(slices.Clone(got), i, i+1))
		spoil(&got[i])
		if now := toldAll(slices.Delete(slices.Clone(got), i, i+1)); now != others {
			t.Errorf("what was written into event %d is seen in the others, %q", i, now)
		}
	}
	spoilAll(got)
	if toldAll(list[:5]) != was || !slices.Equal(room, kept) {
		t.Errorf("what was written into what Live answered is seen in %q, %v", toldAll(list[:5]), room)
	}
}
