package book

import (
	"math/rand"
	"slices"
	"testing"

	"epitaph/aid"
	"epitaph/api"
)

// wantMake holds what Make of an event kills, or its error, and that nothing changes.
func wantMake(t *testing.T, p *pair, e api.Event, kills []api.Dot, err api.Errno) {
	t.Helper()
	got, is := p.make(e)
	if is != err {
		t.Errorf("Make of %q is %d, want %d", told(e), is, err)
	}
	want := api.Event{}
	if err == api.OK {
		want = e
		want.Kills = kills
	}
	if told(got) != told(want) {
		t.Errorf("Make of %q is %q, want %q", told(e), told(got), told(want))
	}
	p.want()
}

// filled is a pair to which some events were put, one behind another.
func filled(t *testing.T, l ...api.Event) *pair {
	t.Helper()
	p := start(t)
	for _, e := range l {
		if err := p.put(e); err != api.OK {
			t.Fatalf("Put of %q is %d", told(e), err)
		}
	}
	return p
}

// P18.1: Make, written out: of the live edits of the field, and of the contact, the dots and all their Kills.
func TestMakeKnown(t *testing.T) {
	const a, b = uint64(least), uint64(least + 1)
	for _, x := range []struct {
		l    []api.Event
		edit []api.Dot
		gone []api.Dot
	}{
		// Over nothing, over a tomb, and over what was killed.
		{nil, nil, nil},
		{[]api.Event{ended(a, at(1, 1))}, nil, nil},
		{[]api.Event{ended(a, at(1, 1), at(1, 2), at(3, 3))}, nil, nil},
		{[]api.Event{wrote(a, 4, at(1, 1)), ended(a, at(1, 2), at(1, 1))}, nil, nil},
		{[]api.Event{wrote(a, 4, at(1, 1)), wrote(b, 4, at(1, 2), at(1, 1))}, nil, nil},
		// Over one edit, with Kills and without, and over more than one.
		{[]api.Event{wrote(a, 4, at(1, 1))}, dots(1, 1), dots(1, 1)},
		{[]api.Event{wrote(a, 4, at(1, 3), dots(1, 1, 1, 2)...)}, dots(1, 1, 1, 2, 1, 3), dots(1, 1, 1, 2, 1, 3)},
		{[]api.Event{wrote(a, 4, at(1, 3), dots(1, 9, 2, 2)...)}, dots(1, 3, 1, 9, 2, 2), dots(1, 3, 1, 9, 2, 2)},
		{[]api.Event{wrote(a, 4, at(2, 1)), wrote(a, 4, at(1, 9)), wrote(a, 4, at(1, 2))}, dots(1, 2, 1, 9, 2, 1), dots(1, 2, 1, 9, 2, 1)},
		{[]api.Event{wrote(a, 4, at(2, 1), dots(1, 1, 5, 5)...), wrote(a, 4, at(1, 9), dots(1, 1, 3, 3)...)}, dots(1, 1, 1, 9, 2, 1, 3, 3, 5, 5), dots(1, 1, 1, 9, 2, 1, 3, 3, 5, 5)},
		{[]api.Event{wrote(a, 4, at(1, 1)), wrote(a, 4, at(1, 2), at(1, 1))}, dots(1, 1, 1, 2), dots(1, 1, 1, 2)},
		{[]api.Event{wrote(a, 4, at(1, 1)), wrote(a, 4, at(1, 2), at(7, 7))}, dots(1, 1, 1, 2, 7, 7), dots(1, 1, 1, 2, 7, 7)},
		{[]api.Event{wrote(a, 4, at(last, most)), wrote(a, 4, at(1, most), at(last, 1))}, dots(1, most, last, 1, last, most), dots(1, most, last, 1, last, most)},
		// Of another contact, and of another field.
		{[]api.Event{wrote(b, 4, at(1, 1), at(7, 7))}, nil, nil},
		{[]api.Event{wrote(a, 3, at(1, 1), at(7, 7))}, nil, dots(1, 1, 7, 7)},
		{[]api.Event{wrote(a, 1, at(1, 1)), wrote(a, 2, at(1, 2)), wrote(a, 3, at(1, 3)), wrote(a, 4, at(1, 4)), wrote(a, 5, at(1, 5))}, dots(1, 4), row(1, 1, 5)},
		{[]api.Event{wrote(a+1<<48, 4, at(1, 1)), wrote(a+2, 4, at(1, 2)), wrote(a, 4, at(1, 3)), wrote(huge, 4, at(1, 4))}, dots(1, 3), dots(1, 3)},
		// Some go, some stay.
		{[]api.Event{wrote(a, 4, at(1, 1)), wrote(a, 4, at(1, 2)), wrote(a, 5, at(1, 3), at(1, 1))}, dots(1, 2), dots(1, 1, 1, 2, 1, 3)},
		{[]api.Event{wrote(a, 4, at(1, 1)), wrote(a, 4, at(1, 2)), ended(a, at(1, 3), at(1, 1))}, dots(1, 2), dots(1, 2)},
	} {
		p := filled(t, x.l...)
		wantMake(t, p, wrote(a, 4, at(9, 1)), x.edit, api.OK)
		wantMake(t, p, ended(a, at(9, 1)), x.gone, api.OK)
		// Kills of its own play no part, whatever they are.
		for _, kills := range [][]api.Dot{dots(6, 6), dots(1, 1, 1, 3), dots(2, 2, 1, 1, 1, 1), dots(9, 1), aid.Never(), row(8, 1, 256), row(8, 1, 257)} {
			wantMake(t, p, wrote(a, 4, at(9, 1), kills...), x.edit, api.OK)
			wantMake(t, p, ended(a, at(9, 1), kills...), x.gone, api.OK)
		}
		// Of a contact, and of a field, that have nothing.
		wantMake(t, p, wrote(a+9, 4, at(9, 1)), nil, api.OK)
		wantMake(t, p, ended(a+9, at(9, 1)), nil, api.OK)
	}
}

// P18.1: each field, and each bit of a contact's number, counts.
func TestMakeEnds(t *testing.T) {
	p := start(t)
	cids := []uint64{least, least + 1, 1<<49 - 1, huge}
	for bit := range 64 {
		cids = append(cids, (5<<50|3)^1<<bit)
	}
	for i, cid := range cids {
		for f := uint8(1); f <= 5; f++ {
			p.put(wrote(cid, f, at(uint16(1+i), uint64(f)), at(uint16(101+i), uint64(f))))
		}
	}
	for i, cid := range cids {
		for f := uint8(1); f <= 5; f++ {
			if e, err := p.make(wrote(cid, f, at(999, 1))); err != api.OK || !slices.Equal(e.Kills, []api.Dot{at(uint16(1+i), uint64(f)), at(uint16(101+i), uint64(f))}) {
				t.Errorf("Make of the contact %d and the field %d is %q, %d", cid, f, told(e), err)
			}
		}
		if e, err := p.make(ended(cid, at(999, 1))); err != api.OK || !slices.Equal(e.Kills, append(row(uint16(1+i), 1, 5), row(uint16(101+i), 1, 5)...)) {
			t.Errorf("Make of the deletion of %d is %q, %d", cid, told(e), err)
		}
	}
	p.want()
}

// P18.1: events that may not be are ErrArg, each for one cause; Kills are no cause.
func TestMakeArg(t *testing.T) {
	refused, made := 0, 0
	for _, e := range aid.Unlike() {
		for _, p := range []*pair{start(t), filled(t, wrote(least, 4, at(1, 1), at(3, 3)))} {
			bare := e
			bare.Kills = nil
			if _, err := p.make(e); err == api.OK != aid.EventMayBe(bare) || err != api.OK && err != api.ErrArg {
				t.Errorf("Make of %q is %d", told(e), err)
			} else if err == api.OK {
				made++
			} else {
				refused++
			}
			p.want()
		}
	}
	if refused < 60 || made < 60 {
		t.Error(refused, made)
	}
	p := filled(t, wrote(least, 4, at(1, 1)))
	for kind := range 256 {
		for _, e := range []api.Event{other(uint8(kind), least, 4, at(2, 1)), {Dot: at(2, 1), Kind: uint8(kind), Cid: least}} {
			if _, err := p.make(e); err == api.OK != (e.Field == 4 && kind == 1 || e.Field == 0 && kind == 2) {
				t.Errorf("Make of %q is %d", told(e), err)
			}
		}
	}
	for _, d := range aid.Never() {
		wantMake(t, p, edit(d), nil, api.ErrArg)
		wantMake(t, p, gone(d), nil, api.ErrArg)
	}
	p.want()
}

// P18.1: a dot that was seen, in whichever way, is ErrThere.
func TestMakeThere(t *testing.T) {
	p := filled(t, wrote(least, 4, at(1, 2), dots(1, 1, 3, 3)...), ended(least, at(2, 2), dots(2, 1, 4, 4)...))
	p.see(api.Ctx{part(5, 2, 3), part(1, 5, 5), part(0, 1, 9)})
	seen := dots(1, 1, 1, 2, 1, 5, 2, 1, 2, 2, 3, 3, 4, 4, 5, 2, 5, 3)
	for dev := uint16(1); dev < 7; dev++ {
		for n := uint64(1); n < 8; n++ {
			kills, err := dots(1, 1, 1, 2, 3, 3), api.OK
			if slices.Contains(seen, at(dev, n)) {
				kills, err = nil, api.ErrThere
			}
			wantMake(t, p, wrote(least, 4, at(dev, n)), kills, err)
			wantMake(t, p, ended(least, at(dev, n)), kills, err)
			// Of another contact as well.
			if _, is := p.make(ended(least+1, at(dev, n))); is != err {
				t.Errorf("Make of %d.%d is %d, want %d", dev, n, is, err)
			}
		}
	}
	// Behind a tomb that is let go its dot stays seen, and so do dots of edits that go.
	p = filled(t, wrote(least, 4, at(1, 1)), ended(least, at(1, 2), at(1, 1)))
	p.prune(api.Ctx{part(1, 1, 2)})
	wantMake(t, p, wrote(least, 4, at(1, 1)), nil, api.ErrThere)
	wantMake(t, p, ended(least, at(1, 2)), nil, api.ErrThere)
	wantMake(t, p, ended(least, at(1, 3)), nil, api.OK)
	// What Make made is not seen till it is put.
	wantMake(t, p, ended(least, at(1, 3)), nil, api.OK)
}

// P18.1: just MaxKills Kills are made, and one more is ErrLong, whichever edits they come from.
func TestMakeLong(t *testing.T) {
	for _, x := range []struct {
		what string
		l    []api.Event
		many int
	}{
		{"one edit with Kills", []api.Event{wrote(least, 4, at(1, 1), row(2, 1, 255)...)}, 256},
		{"one edit with one Kill more", []api.Event{wrote(least, 4, at(1, 1), row(2, 1, 256)...)}, 257},
		{"two with the same Kills", []api.Event{wrote(least, 4, at(1, 1), row(2, 1, 254)...), wrote(least, 4, at(1, 2), row(2, 1, 254)...)}, 256},
		{"two with one Kill that is not the same", []api.Event{wrote(least, 4, at(1, 1), row(2, 1, 254)...), wrote(least, 4, at(1, 2), row(2, 2, 254)...)}, 257},
		{"two with unlike Kills", []api.Event{wrote(least, 4, at(1, 1), row(2, 1, 127)...), wrote(least, 4, at(1, 2), row(3, 1, 127)...)}, 256},
		{"two with one unlike Kill more", []api.Event{wrote(least, 4, at(1, 1), row(2, 1, 128)...), wrote(least, 4, at(1, 2), row(3, 1, 127)...)}, 257},
		{"two with very many", []api.Event{wrote(least, 4, at(1, 1), row(2, 1, 256)...), wrote(least, 4, at(1, 2), row(3, 1, 256)...)}, 514},
	} {
		p := filled(t, x.l...)
		wantLong(t, p, wrote(least, 4, at(9, 9)), x.many)
		wantLong(t, p, ended(least, at(9, 9)), x.many)
		// Of another field, and of another contact, it is not too many.
		wantLong(t, p, wrote(least, 5, at(9, 9)), 0)
		wantLong(t, p, ended(least+1, at(9, 9)), 0)
		// Behind a pruning that has their dots the Kills are gone.
		p.prune(api.Ctx{part(1, 1, 2)})
		wantLong(t, p, wrote(least, 4, at(9, 9)), len(x.l))
		wantLong(t, p, ended(least, at(9, 9)), len(x.l))
	}
}

// wantLong holds that Make has so many Kills, or is ErrLong.
func wantLong(t *testing.T, p *pair, e api.Event, many int) {
	t.Helper()
	got, err := p.make(e)
	if many > api.MaxKills {
		if err != api.ErrLong || told(got) != told(api.Event{}) {
			t.Errorf("Make of what kills %d is %d", many, err)
		}
		return
	}
	if err != api.OK || len(got.Kills) != many {
		t.Errorf("Make of what kills %d is %d, and kills %d", many, err, len(got.Kills))
	}
}

// P18.1: very many edits without Kills, of one field, and of all fields of a contact.
func TestMakeLongRow(t *testing.T) {
	p, q := start(t), start(t)
	for i := range 260 {
		wantLong(t, p, wrote(least, 4, at(9, 9)), i)
		wantLong(t, p, ended(least, at(9, 9)), i)
		wantLong(t, q, ended(least, at(9, 9)), i)
		wantLong(t, q, wrote(least, 1, at(9, 9)), (i+4)/5)
		p.put(wrote(least, 4, at(1, uint64(2*i+1))))
		q.put(wrote(least, uint8(1+i%5), at(uint16(i+1), 7)))
	}
	p.want()
	q.want()
}

// P18.1: of several errors the one that stands first is told.
func TestMakeFirst(t *testing.T) {
	p := filled(t, wrote(least, 4, at(1, 1), row(2, 1, 256)...))
	bad := other(2, least, 4, at(1, 1))
	wantMake(t, p, bad, nil, api.ErrArg)
	wantMake(t, p, wrote(least, 6, at(1, 1)), nil, api.ErrArg)
	wantMake(t, p, wrote(least, 4, at(1, 1)), nil, api.ErrThere)
	wantMake(t, p, wrote(least, 4, at(2, 256)), nil, api.ErrThere)
	wantMake(t, p, ended(least, at(2, 7)), nil, api.ErrThere)
	wantMake(t, p, wrote(least, 4, at(2, 257)), nil, api.ErrLong)
	wantMake(t, p, ended(least, at(1, 2)), nil, api.ErrLong)
	wantMake(t, p, wrote(least, 5, at(1, 2)), nil, api.OK)
}

// P18.1: a new edit puts out all edits of its field, a new deletion all of its contact, and nothing else; both may be.
func TestMakeThenPut(t *testing.T) {
	made := 0
	for seed := range int64(600) {
		g := rand.New(rand.NewSource(seed))
		p := start(t)
		for range g.Intn(20) {
			anyStep(g, p, map[api.Errno]int{})
		}
		e := near(g, 4, 12)
		x, err := p.b.Make(e)
		if err != api.OK {
			continue
		}
		made++
		want := without(p.b.Live(), func(y api.Event) bool { return y.Cid == x.Cid && (x.Kind == 2 || y.Field == x.Field) })
		tombs := p.b.Tombs()
		if x.Kind == 1 {
			want = append(want, x)
		} else {
			tombs = append(tombs, x)
		}
		if !aid.EventMayBe(x) || p.put(x) != api.OK || toldAll(p.b.Live()) != toldAll(inOrder(want)) || toldAll(p.b.Tombs()) != toldAll(inOrder(tombs)) {
			t.Fatalf("Make of %q is %q, and then live is %q, want %q", told(e), told(x), toldAll(p.b.Live()), toldAll(want))
		}
	}
	if made < 200 {
		t.Error(made)
	}
}
