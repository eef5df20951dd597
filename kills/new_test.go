package kills

import (
	"math/rand"
	"slices"
	"testing"

	"epitaph/aid"
	"epitaph/api"
)

// free tells whether no event has a dot, or kills it.
func free(l []api.Event, d api.Dot) bool {
	return !killed(l, d) && !slices.ContainsFunc(l, func(e api.Event) bool { return e.Dot == d })
}

// without is a list without what is to go.
func without(l []api.Event, goes func(e api.Event) bool) []api.Event {
	return slices.DeleteFunc(slices.Clone(l), goes)
}

// wantPutOut holds what is live behind a new event, at whichever place of the list it stands, and what is live of what was live ahead, and of it.
func wantPutOut(t *testing.T, l []api.Event, e api.Event, want []api.Event) {
	t.Helper()
	wanted := toldAll(inOrder(want))
	live := Live(l)
	for _, m := range [][]api.Event{append(slices.Clone(l), e), append([]api.Event{e}, l...), append(slices.Clone(live), e), append([]api.Event{e}, live...)} {
		if got := toldAll(Live(m)); got != wanted {
			t.Fatalf("Live(%.400q), where %.200q is new, is %.400q, want %.400q", toldAll(m), told(e), got, wanted)
		}
		for _, x := range l {
			if is := slices.ContainsFunc(live, func(y api.Event) bool { return x.Dot == y.Dot }); is != slices.ContainsFunc(want, func(y api.Event) bool { return x.Dot == y.Dot }) && !Dead(m, x.Dot) {
				t.Fatalf("%v was put out, but is not dead in %.400q", x.Dot, toldAll(m))
			}
		}
	}
}

// puts holds P17.3 of a list, with a new edit of a contact's field, and with a new deletion of the contact, of some dot that is free.
func puts(t *testing.T, l []api.Event, d api.Dot, cid uint64, f uint8) {
	t.Helper()
	live := Live(l)
	e := wrote(cid, f, d, Edit(live, cid, f)...)
	left := without(live, func(x api.Event) bool { return x.Cid == cid && x.Field == f })
	wantPutOut(t, l, e, append(left, e))
	x := other(2, cid, 0, d, Delete(live, cid)...)
	wantPutOut(t, l, x, without(live, func(x api.Event) bool { return x.Cid == cid }))
}

// P17.3: a new edit, and a new deletion, written out.
func TestNewKnown(t *testing.T) {
	name, town, note := wrote(5, 1, at(1, 1)), wrote(5, 4, at(1, 2)), wrote(5, 5, at(2, 1), at(1, 9))
	far := wrote(6, 4, at(1, 3))
	l := []api.Event{name, town, note, far}
	e := wrote(5, 4, at(3, 1), Edit(l, 5, 4)...)
	if !slices.Equal(e.Kills, dots(1, 2)) {
		t.Errorf("a new edit of the town kills %v", e.Kills)
	}
	wantPutOut(t, l, e, []api.Event{name, note, far, e})
	e = wrote(5, 5, at(3, 1), Edit(l, 5, 5)...)
	if !slices.Equal(e.Kills, dots(1, 9, 2, 1)) {
		t.Errorf("a new edit of the note kills %v", e.Kills)
	}
	wantPutOut(t, l, e, []api.Event{name, town, far, e})
	e = wrote(5, 2, at(3, 1), Edit(l, 5, 2)...)
	if len(e.Kills) != 0 {
		t.Errorf("a new edit of the phone kills %v", e.Kills)
	}
	wantPutOut(t, l, e, append(l[:4:4], e))
	x := other(2, 5, 0, at(3, 1), Delete(l, 5)...)
	if !slices.Equal(x.Kills, dots(1, 1, 1, 2, 1, 9, 2, 1)) {
		t.Errorf("a new deletion kills %v", x.Kills)
	}
	wantPutOut(t, l, x, []api.Event{far})
	x = other(2, 7, 0, at(3, 1), Delete(l, 7)...)
	if len(x.Kills) != 0 {
		t.Errorf("a new deletion of what is not there kills %v", x.Kills)
	}
	wantPutOut(t, l, x, l)
	wantPutOut(t, nil, wrote(5, 4, at(1, 1)), []api.Event{wrote(5, 4, at(1, 1))})
	wantPutOut(t, nil, gone(at(1, 1)), nil)
}

// P17.3: two edits of one field that did not see each other both stand, till one that saw both comes; an edit that a deletion did not see stays.
func TestNewApart(t *testing.T) {
	first := wrote(5, 4, at(1, 1))
	one := wrote(5, 4, at(1, 2), Edit([]api.Event{first}, 5, 4)...)
	two := wrote(5, 4, at(2, 1), Edit([]api.Event{first}, 5, 4)...)
	both := []api.Event{first, one, two}
	wantLive(t, both, []api.Event{one, two})
	e := wrote(5, 4, at(3, 1), Edit(Live(both), 5, 4)...)
	if !slices.Equal(e.Kills, dots(1, 1, 1, 2, 2, 1)) {
		t.Errorf("the edit that saw both kills %v", e.Kills)
	}
	wantPutOut(t, both, e, []api.Event{e})
	x := other(2, 5, 0, at(3, 1), Delete(Live([]api.Event{first, one}), 5)...)
	if !slices.Equal(x.Kills, dots(1, 1, 1, 2)) {
		t.Errorf("the deletion that saw one of both kills %v", x.Kills)
	}
	wantLive(t, append(both, x), []api.Event{two})
	// Where the edit that was not seen came first, the one that it put out does not come back.
	wantLive(t, []api.Event{x, two, first}, []api.Event{two})
}

// P17.3: all lists of up to three out of a few events, of whichever kinds, with each new edit and each new deletion.
func TestNewAll(t *testing.T) {
	some := []api.Event{
		wrote(1, 1, at(1, 1)), wrote(1, 1, at(1, 2), at(1, 1)), wrote(1, 2, at(1, 2)), wrote(1, 2, at(2, 1), at(1, 1), at(2, 1)), wrote(2, 1, at(2, 2), at(1, 2)),
		wrote(1, 1, at(1, 1), at(3, 3), at(2, 2)), wrote(0, 0, at(1, 3)), wrote(huge, 255, at(1, 3), at(1, 1)),
		other(2, 1, 0, at(1, 4), at(1, 1), at(1, 2)), other(2, 2, 1, at(1, 5), at(2, 2)), other(3, 1, 1, at(1, 6), at(2, 1)), wrote(1, 1, api.Dot{}, at(0, 5)),
	}
	aid.Lists(some, 3, func(l []api.Event) {
		for _, cid := range []uint64{0, 1, 2, 3, huge} {
			for _, f := range []uint8{0, 1, 2, 255} {
				puts(t, l, at(9, 9), cid, f)
			}
		}
	})
}

// P17.3: drawn lists, of events that may be and of those that may not, with new events of dots ahead of all, among them, and behind all.
func TestNewAny(t *testing.T) {
	g := rand.New(rand.NewSource(183))
	put, refused := 0, 0
	for range 4000 {
		for _, l := range [][]api.Event{anyEvents(g, g.Intn(8)), dense(g, g.Intn(8), 3), dense(g, g.Intn(25), 20)} {
			d := []api.Dot{at(0, 0), at(1, 0), at(1, uint64(1+g.Intn(20))), at(1, 30), at(2, uint64(1+g.Intn(20))), at(last, huge)}[g.Intn(6)]
			if !free(l, d) {
				refused++
				continue
			}
			x := anyEvent(g)
			if len(l) > 0 && g.Intn(8) > 0 {
				x = l[g.Intn(len(l))]
			}
			puts(t, l, d, x.Cid, x.Field)
			put++
		}
	}
	if put < 5000 || refused < 100 {
		t.Errorf("%d events were new, and %d dots not free", put, refused)
	}
}

// saw is an event, and all that had been heard of where it was made.
type saw struct {
	e   api.Event
	all []api.Event
}

// puts tells whether an event had seen an edit of its field, or of the contact that it deletes.
func (s saw) puts(e api.Event) bool {
	seen := slices.ContainsFunc(s.all, func(x api.Event) bool { return x.Dot == e.Dot })
	return seen && s.e.Cid == e.Cid && (s.e.Kind == 2 || s.e.Field == e.Field)
}

// news is a new event of a machine that has heard of some, drawn.
func news(g *rand.Rand, d api.Dot, heard []api.Event) api.Event {
	cid, f := uint64(least+g.Intn(2)), uint8(1+g.Intn(2))
	live := Live(heard)
	if g.Intn(4) == 0 {
		return other(2, cid, 0, d, Delete(live, cid)...)
	}
	return wrote(cid, f, d, Edit(live, cid, f)...)
}

// P17.3: where machines make events one by one, and tell each other all that they have heard of now and then,
// an edit is live with all of them just if no event of its field, and no deletion of its contact, had seen it.
func TestNewOnMachines(t *testing.T) {
	const machines, steps = 3, 24
	for seed := range int64(400) {
		g := rand.New(rand.NewSource(seed))
		var heard [machines][]api.Event
		var made []saw
		for step := range steps {
			m := g.Intn(machines)
			if g.Intn(3) == 0 {
				heard[m] = inOrder(append(heard[m], heard[g.Intn(machines)]...))
			}
			e := news(g, at(uint16(m+1), uint64(step+1)), heard[m])
			made = append(made, saw{e, heard[m]})
			heard[m] = append(slices.Clone(heard[m]), e)
		}
		all := slices.Concat(heard[:]...)
		var want []api.Event
		for _, x := range made {
			if x.e.Kind == 1 && !slices.ContainsFunc(made, func(s saw) bool { return s.puts(x.e) }) {
				want = append(want, x.e)
			}
		}
		g.Shuffle(len(all), func(i, k int) { all[i], all[k] = all[k], all[i] })
		if got := toldAll(Live(all)); got != toldAll(inOrder(want)) {
			t.Fatalf("Live(%q) = %q, want %q", toldAll(all), got, toldAll(want))
		}
	}
}

// P17.3: one machine that makes all events shows of each field the last text alone, and of a contact that is deleted nothing.
func TestNewAlone(t *testing.T) {
	for seed := range int64(200) {
		g := rand.New(rand.NewSource(seed))
		type place struct {
			cid uint64
			f   uint8
		}
		shown := map[place]api.Event{}
		var l []api.Event
		for step := range 40 {
			e := news(g, at(1, uint64(step+1)), l)
			l = append(l, e)
			for p := range shown {
				if e.Kind == 2 && p.cid == e.Cid {
					delete(shown, p)
				}
			}
			if e.Kind == 1 {
				shown[place{e.Cid, e.Field}] = e
			}
			var want []api.Event
			for _, x := range shown {
				want = append(want, x)
			}
			if got := toldAll(Live(l)); got != toldAll(inOrder(want)) {
				t.Fatalf("Live(%q) = %q, want %q", toldAll(l), got, toldAll(inOrder(want)))
			}
		}
	}
}
