package kills

import (
	"math/rand"
	"slices"
	"testing"

	"epitaph/aid"
	"epitaph/api"
)

const (
	most  = aid.Most
	above = aid.Above
	huge  = aid.Huge
	last  = aid.Last
	least = aid.Least
)

// What stands in the tests in short.
var (
	at, dots, row, part  = aid.Dot, aid.Dots, aid.Row, aid.Part
	edit, gone           = aid.Edit, aid.Gone
	wrote, other         = aid.Wrote, aid.Other
	inOrder              = aid.ByDots
	told, toldAll        = aid.ToldEvent, aid.ToldEvents
	again, againAll      = aid.Again, aid.AgainAll
	spoil, spoilAll      = aid.Spoil, aid.SpoilAll
	spoilDots, spoilCtx  = aid.SpoilDots, aid.SpoilCtx
	anyEvent, anyEvents  = aid.AnyEvent, aid.AnyEvents
	risen, has, few      = aid.Risen, aid.Has, aid.Few
	anyCtx, roomy, whole = aid.AnyCtx, aid.Roomy, aid.Whole
)

// anyField stands for all fields.
const anyField = -1

// slowly is what edits of a contact, and of a field, have, event by event.
func slowly(l []api.Event, cid uint64, f int) []api.Dot {
	var all []api.Dot
	for _, e := range l {
		if e.Kind != 1 || e.Cid != cid || f != anyField && int(e.Field) != f {
			continue
		}
		all = append(all, e.Kills...)
		all = append(all, e.Dot)
	}
	return risen(all)
}

// wantOf holds what a call tells of events, that what went in is not turned, and that neither is seen in the other one.
func wantOf(t *testing.T, what string, call func(l []api.Event) []api.Dot, l []api.Event, want []api.Dot) {
	t.Helper()
	was := toldAll(l)
	for _, empty := range []bool{false, true} {
		in := againAll(l, empty)
		got, twin := call(in), call(in)
		if !slices.Equal(got, want) || !slices.Equal(twin, want) {
			t.Fatalf("%s of %.300q = %.300v, then %.300v, want %.300v", what, was, got, twin, want)
		}
		if toldAll(in) != was {
			t.Fatalf("%s has turned %.300q into %.300q", what, was, toldAll(in))
		}
		spoilDots(got)
		if toldAll(in) != was || !slices.Equal(twin, want) || !slices.Equal(call(in), want) {
			t.Fatalf("what was written into what %s answered is seen in what went in, %.300q, or in another answer", what, toldAll(in))
		}
		spoilAll(in)
		if !slices.Equal(twin, want) {
			t.Fatalf("what was written into what went in is seen in what %s answered, %.300v", what, twin)
		}
	}
}

// wantEdit holds Edit of a contact and of a field.
func wantEdit(t *testing.T, l []api.Event, cid uint64, f uint8, want []api.Dot) {
	t.Helper()
	wantOf(t, "Edit", func(l []api.Event) []api.Dot { return Edit(l, cid, f) }, l, want)
	if slow := slowly(l, cid, int(f)); !slices.Equal(slow, want) {
		t.Fatalf("Edit(%.300q, %d, %d), slowly told, is %.300v, not %.300v", toldAll(l), cid, f, slow, want)
	}
}

// wantDelete holds Delete of a contact.
func wantDelete(t *testing.T, l []api.Event, cid uint64, want []api.Dot) {
	t.Helper()
	wantOf(t, "Delete", func(l []api.Event) []api.Dot { return Delete(l, cid) }, l, want)
	if slow := slowly(l, cid, anyField); !slices.Equal(slow, want) {
		t.Fatalf("Delete(%.300q, %d), slowly told, is %.300v, not %.300v", toldAll(l), cid, slow, want)
	}
}

// The chapter's example.
func TestExample(t *testing.T) {
	one, two := wrote(least, 4, at(1, 1)), wrote(least, 4, at(1, 2), at(1, 1))
	live := Live([]api.Event{one, two})
	if toldAll(live) != toldAll([]api.Event{two}) {
		t.Errorf("live is %q", toldAll(live))
	}
	if got := Edit(live, least, 4); !slices.Equal(got, dots(1, 1, 1, 2)) {
		t.Errorf("a further edit there kills %v", got)
	}
	if !Dead(live, at(1, 1)) || Dead(live, at(1, 2)) {
		t.Error("1.1 alone is dead")
	}
}

// P17.1: Edit and Delete, written out: of what is asked for all edits are told, and of nothing else anything.
func TestEditKnown(t *testing.T) {
	const a, b = uint64(least), uint64(least + 1)
	for _, c := range []struct {
		l    []api.Event
		edit []api.Dot
		all  []api.Dot
	}{
		{nil, nil, nil},
		{[]api.Event{}, nil, nil},
		{[]api.Event{wrote(a, 4, at(1, 1))}, dots(1, 1), dots(1, 1)},
		{[]api.Event{wrote(a, 4, at(1, 3), at(1, 1), at(1, 2))}, dots(1, 1, 1, 2, 1, 3), dots(1, 1, 1, 2, 1, 3)},
		{[]api.Event{wrote(a, 4, at(1, 3), at(1, 7), at(2, 2))}, dots(1, 3, 1, 7, 2, 2), dots(1, 3, 1, 7, 2, 2)},
		{[]api.Event{wrote(a, 4, at(2, 1)), wrote(a, 4, at(1, 9)), wrote(a, 4, at(1, 2))}, dots(1, 2, 1, 9, 2, 1), dots(1, 2, 1, 9, 2, 1)},
		{[]api.Event{wrote(a, 4, at(1, 1)), wrote(a, 4, at(1, 2), at(1, 1))}, dots(1, 1, 1, 2), dots(1, 1, 1, 2)},
		{[]api.Event{wrote(a, 4, at(1, 1), at(1, 2)), wrote(a, 4, at(1, 2), at(1, 1))}, dots(1, 1, 1, 2), dots(1, 1, 1, 2)},
		// Of another contact, and of another field.
		{[]api.Event{wrote(b, 4, at(1, 1), at(3, 3))}, nil, nil},
		{[]api.Event{wrote(a, 5, at(1, 1), at(3, 3))}, nil, dots(1, 1, 3, 3)},
		{[]api.Event{wrote(a, 3, at(1, 1)), wrote(b, 4, at(1, 2)), wrote(a, 4, at(1, 3)), wrote(b, 3, at(1, 4))}, dots(1, 3), dots(1, 1, 1, 3)},
		{[]api.Event{wrote(b, 4, at(1, 1), at(9, 1)), wrote(a, 4, at(1, 2), at(9, 2)), wrote(b, 4, at(1, 3), at(9, 3))}, dots(1, 2, 9, 2), dots(1, 2, 9, 2)},
		{[]api.Event{wrote(a, 1, at(1, 1), at(9, 1)), wrote(a, 4, at(1, 2), at(9, 2)), wrote(a, 5, at(1, 3), at(9, 3))}, dots(1, 2, 9, 2), dots(1, 1, 1, 2, 1, 3, 9, 1, 9, 2, 9, 3)},
		// Of other kinds.
		{[]api.Event{gone(at(1, 2), at(1, 1))}, nil, nil},
		{[]api.Event{other(2, a, 4, at(1, 2), at(1, 1))}, nil, nil},
		{[]api.Event{other(0, a, 4, at(1, 2), at(1, 1)), other(3, a, 4, at(1, 4), at(1, 3)), other(255, a, 4, at(1, 6), at(1, 5))}, nil, nil},
		{[]api.Event{wrote(a, 4, at(1, 1)), gone(at(1, 2), at(1, 1)), wrote(a, 4, at(2, 1))}, dots(1, 1, 2, 1), dots(1, 1, 2, 1)},
		{[]api.Event{gone(at(3, 1), at(3, 3)), wrote(a, 4, at(3, 2), at(3, 1)), gone(at(3, 4))}, dots(3, 1, 3, 2), dots(3, 1, 3, 2)},
		// Kills that tell a dot more than once, that do not rise, and that tell the event's own dot.
		{[]api.Event{wrote(a, 4, at(2, 2), at(1, 1), at(1, 1), at(1, 1))}, dots(1, 1, 2, 2), dots(1, 1, 2, 2)},
		{[]api.Event{wrote(a, 4, at(2, 2), at(3, 1), at(1, 9), at(1, 1))}, dots(1, 1, 1, 9, 2, 2, 3, 1), dots(1, 1, 1, 9, 2, 2, 3, 1)},
		{[]api.Event{wrote(a, 4, at(2, 2), at(2, 2))}, dots(2, 2), dots(2, 2)},
		{[]api.Event{wrote(a, 4, at(2, 2), at(3, 3), at(2, 2), at(1, 1), at(2, 2))}, dots(1, 1, 2, 2, 3, 3), dots(1, 1, 2, 2, 3, 3)},
		// Events that come twice, and those of one dot that are not alike.
		{[]api.Event{wrote(a, 4, at(1, 2), at(1, 1)), wrote(a, 4, at(1, 2), at(1, 1))}, dots(1, 1, 1, 2), dots(1, 1, 1, 2)},
		{[]api.Event{wrote(a, 4, at(1, 2), at(1, 1)), wrote(a, 4, at(1, 2), at(3, 3))}, dots(1, 1, 1, 2, 3, 3), dots(1, 1, 1, 2, 3, 3)},
		{[]api.Event{wrote(a, 5, at(1, 2), at(1, 1)), wrote(a, 4, at(1, 2), at(3, 3))}, dots(1, 2, 3, 3), dots(1, 1, 1, 2, 3, 3)},
		{[]api.Event{wrote(b, 4, at(1, 2), at(1, 1)), wrote(a, 4, at(1, 2), at(3, 3)), gone(at(1, 2), at(4, 4))}, dots(1, 2, 3, 3), dots(1, 2, 3, 3)},
		// Dots that may not be, and those at the ends.
		{[]api.Event{wrote(a, 4, api.Dot{}, at(0, 7), at(1, 0), at(1, above), at(1, huge))}, dots(0, 0, 0, 7, 1, 0, 1, above, 1, huge), dots(0, 0, 0, 7, 1, 0, 1, above, 1, huge)},
		{[]api.Event{wrote(a, 4, at(last, most), at(last, huge), at(1, most), at(1, 1))}, dots(1, 1, 1, most, last, most, last, huge), dots(1, 1, 1, most, last, most, last, huge)},
		{[]api.Event{wrote(a, 4, at(256, 1), at(255, 2), at(1, 256), at(1, 255), at(1, 1<<40))}, dots(1, 255, 1, 256, 1, 1<<40, 255, 2, 256, 1), dots(1, 255, 1, 256, 1, 1<<40, 255, 2, 256, 1)},
		{[]api.Event{wrote(a, 4, at(2, 5), row(1, 1, 300)...)}, append(row(1, 1, 300), at(2, 5)), append(row(1, 1, 300), at(2, 5))},
	} {
		wantEdit(t, c.l, a, 4, c.edit)
		wantDelete(t, c.l, a, c.all)
		slices.Reverse(c.l)
		wantEdit(t, c.l, a, 4, c.edit)
		wantDelete(t, c.l, a, c.all)
		// Of a contact and of a field that no event has there is nothing.
		wantEdit(t, c.l, b+1, 4, nil)
		wantEdit(t, c.l, a, 2, nil)
		wantDelete(t, c.l, b+1, nil)
		wantDelete(t, c.l, 0, nil)
	}
}

// P17.1: contacts and fields are taken as they stand, at both ends, and one bit makes another one.
func TestEditEnds(t *testing.T) {
	cids := []uint64{0, 1, 2, most, 1 << 48, least, least + 1, 1<<49 + 1, 1 << 63, huge - 1, huge}
	for bit := range 64 {
		cids = append(cids, (5<<50|3)^1<<bit)
	}
	fields := []uint8{0, 1, 2, 4, 5, 6, 127, 128, 254, 255}
	var l []api.Event
	for i, cid := range cids {
		for k, f := range fields {
			l = append(l, wrote(cid, f, at(uint16(1+i), uint64(1+k)), at(uint16(101+i), uint64(1+k))))
		}
	}
	g := rand.New(rand.NewSource(170))
	g.Shuffle(len(l), func(i, k int) { l[i], l[k] = l[k], l[i] })
	for i, cid := range cids {
		for k, f := range fields {
			if got := Edit(l, cid, f); !slices.Equal(got, []api.Dot{at(uint16(1+i), uint64(1+k)), at(uint16(101+i), uint64(1+k))}) {
				t.Errorf("Edit of the contact %d and the field %d is %v", cid, f, got)
			}
		}
		if got := Delete(l, cid); !slices.Equal(got, append(row(uint16(1+i), 1, len(fields)), row(uint16(101+i), 1, len(fields))...)) {
			t.Errorf("Delete of the contact %d is %v", cid, got)
		}
		if got := Edit(l, cid, 3); len(got) > 0 {
			t.Errorf("Edit of the contact %d and of a field that is not there is %v", cid, got)
		}
	}
	if len(Edit(l, 5<<50|3, 1)) > 0 || len(Delete(l, 5<<50|3)) > 0 {
		t.Error("of a contact that is not there something is told")
	}
}

// P17.1: of all kinds it is edits alone, and of all fields the one that is asked for alone.
func TestEditKindsAndFields(t *testing.T) {
	var kinds, fields []api.Event
	for i := range 256 {
		kinds = append(kinds, other(uint8(i), 7, 9, at(1, uint64(1+i)), at(2, uint64(1+i))))
		fields = append(fields, wrote(7, uint8(i), at(1, uint64(1+i)), at(2, uint64(1+i))))
	}
	wantEdit(t, kinds, 7, 9, dots(1, 2, 2, 2))
	wantDelete(t, kinds, 7, dots(1, 2, 2, 2))
	wantDelete(t, fields, 7, append(row(1, 1, 256), row(2, 1, 256)...))
	for i := range 256 {
		wantEdit(t, fields, 7, uint8(i), dots(1, uint64(1+i), 2, uint64(1+i)))
	}
}

// P17.1: what is asked for is found at each place of lists of each length.
func TestEditPlaces(t *testing.T) {
	for many := 1; many <= 40; many++ {
		l := make([]api.Event, many)
		for i := range l {
			l[i] = wrote(least, 4, at(5, uint64(1+i)), at(6, uint64(1+i)))
		}
		for place := range l {
			kept := l[place]
			l[place] = wrote(least+1, 4, at(3, 3), at(9, 1), at(2, 2))
			if !slices.Equal(Edit(l, least+1, 4), dots(2, 2, 3, 3, 9, 1)) || !slices.Equal(Delete(l, least+1), dots(2, 2, 3, 3, 9, 1)) {
				t.Fatalf("of %d events the one at %d is not found", many, place)
			}
			l[place] = wrote(least, 5, at(3, 3), at(9, 1), at(2, 2))
			if !slices.Equal(Edit(l, least, 5), dots(2, 2, 3, 3, 9, 1)) || len(Edit(l, least, 4)) != 2*(many-1) || len(Delete(l, least)) != 2*many+1 {
				t.Fatalf("of %d events the field of the one at %d is not told", many, place)
			}
			l[place] = gone(at(3, 3), at(9, 1), at(2, 2))
			if got := Edit(l, least, 4); len(got) != 2*(many-1) || slices.Contains(got, at(3, 3)) || slices.Contains(got, at(9, 1)) || !slices.Equal(got, Delete(l, least)) {
				t.Fatalf("of %d events the deletion at %d is told", many, place)
			}
			l[place] = kept
		}
	}
}

// P17.1: all lists of up to three out of a few events, of all that may be asked for.
func TestEditAll(t *testing.T) {
	some := []api.Event{
		wrote(1, 1, at(1, 1)), wrote(1, 1, at(1, 2), at(1, 1)), wrote(1, 1, at(1, 2), at(2, 1)), wrote(1, 2, at(1, 1)), wrote(1, 2, at(2, 1), at(1, 2), at(1, 1)),
		wrote(2, 1, at(1, 1), at(1, 1)), wrote(2, 1, at(2, 2), at(2, 2), at(1, 1)), wrote(2, 2, at(1, 3)), wrote(1, 0, at(3, 1)), wrote(0, 1, at(3, 2), at(3, 1)),
		other(2, 1, 0, at(1, 4), at(1, 2)), other(2, 1, 1, at(1, 5), at(1, 1)), other(3, 1, 1, at(1, 6), at(1, 3)), other(0, 2, 2, at(1, 7), at(1, 7)),
	}
	aid.Lists(some, 3, func(l []api.Event) {
		for cid := range uint64(4) {
			for f := range uint8(4) {
				if got, want := Edit(l, cid, f), slowly(l, cid, int(f)); !slices.Equal(got, want) {
					t.Fatalf("Edit(%q, %d, %d) = %v, want %v", toldAll(l), cid, f, got, want)
				}
			}
			if got, want := Delete(l, cid), slowly(l, cid, anyField); !slices.Equal(got, want) {
				t.Fatalf("Delete(%q, %d) = %v, want %v", toldAll(l), cid, got, want)
			}
		}
	})
}

// P17.1: drawn lists, of each contact and each field that some event has, and of some that none has.
func TestEditAny(t *testing.T) {
	g := rand.New(rand.NewSource(171))
	for _, many := range []int{1, 2, 3, 5, 8, 13, 40} {
		for range 40 {
			l := anyEvents(g, many)
			for _, e := range append(slices.Clone(l), anyEvent(g)) {
				wantEdit(t, l, e.Cid, e.Field, slowly(l, e.Cid, int(e.Field)))
				wantDelete(t, l, e.Cid, slowly(l, e.Cid, anyField))
			}
		}
	}
}

// P17.1: of very many events, whose dots and Kills stand in no order, all are told, rising, each once.
func TestEditMany(t *testing.T) {
	const many = 60000
	l := make([]api.Event, many)
	for i := range l {
		n := uint64(i + 1)
		l[i] = wrote(least+n%2, uint8(1+n/2%2), at(1, n), at(3, n), at(2, n), at(3, n))
	}
	g := rand.New(rand.NewSource(172))
	g.Shuffle(many, func(i, k int) { l[i], l[k] = l[k], l[i] })
	// every goes over the numbers, and takes those that are left over by some number.
	every := func(from, by uint64) []api.Dot {
		var want []api.Dot
		for dev := uint16(1); dev <= 3; dev++ {
			for n := uint64(1); n <= many; n++ {
				if n%by == from {
					want = append(want, at(dev, n))
				}
			}
		}
		return want
	}
	if !slices.Equal(Delete(l, least), every(0, 2)) || !slices.Equal(Delete(l, least+1), every(1, 2)) {
		t.Error("Delete of very many events")
	}
	for n := range uint64(4) {
		if !slices.Equal(Edit(l, least+n%2, uint8(1+n/2%2)), every(n, 4)) {
			t.Error("Edit of very many events", n)
		}
	}
}

// P17.1, rule 4: Kills that share memory, and have room behind them, are left as they are, and what is told uses none of it.
func TestEditApart(t *testing.T) {
	room := dots(1, 1, 1, 2, 1, 3, 9, 9, 9, 8)
	kept := slices.Clone(room)
	a, b, c := wrote(5, 1, at(2, 1)), wrote(5, 1, at(2, 2)), wrote(5, 2, at(2, 3))
	a.Kills, b.Kills, c.Kills = room[:3], room[1:2], room[2:4]
	list := append(make([]api.Event, 0, 6), a, b, c, gone(at(8, 8)))[:3]
	was := toldAll(list[:4])
	one, two := Edit(list, 5, 1), Delete(list, 5)
	wantOne, wantTwo := dots(1, 1, 1, 2, 1, 3, 2, 1, 2, 2), dots(1, 1, 1, 2, 1, 3, 2, 1, 2, 2, 2, 3, 9, 9)
	if !slices.Equal(one, wantOne) || !slices.Equal(two, wantTwo) {
		t.Errorf("%v and %v", one, two)
	}
	if toldAll(list[:4]) != was || !slices.Equal(room, kept) {
		t.Errorf("what went in was turned into %q, %v", toldAll(list[:4]), room)
	}
	spoilDots(one)
	if toldAll(list[:4]) != was || !slices.Equal(room, kept) || !slices.Equal(two, wantTwo) {
		t.Errorf("what was written into what Edit answered is seen in %q, %v, %v", toldAll(list[:4]), room, two)
	}
	spoilDots(two)
	if toldAll(list[:4]) != was || !slices.Equal(room, kept) {
		t.Errorf("what was written into what Delete answered is seen in %q, %v", toldAll(list[:4]), room)
	}
	// An edit without Kills of its own, alone in its list.
	alone := wrote(5, 1, at(2, 1))
	alone.Kills = room[:0]
	got := Edit([]api.Event{alone}, 5, 1)
	spoilDots(got)
	if !slices.Equal(room, kept) {
		t.Errorf("the room behind no Kills was turned into %v", room)
	}
}
