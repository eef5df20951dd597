package book

import (
	"math/rand"
	"slices"
	"strings"
	"testing"

	"epitaph/aid"
	"epitaph/api"
)

const (
	most  = aid.Most
	above = aid.Above
	huge  = aid.Huge
	last  = aid.Last
	least = aid.Least
)

// What stands in the tests in short.
var (
	at, dots, row, part  = aid.Dot, aid.Dots, aid.Row, aid.Part
	edit, gone           = aid.Edit, aid.Gone
	wrote, ended, other  = aid.Wrote, aid.Ended, aid.Other
	told, toldAll        = aid.ToldEvent, aid.ToldEvents
	again, againAll      = aid.Again, aid.AgainAll
	spoil, spoilAll      = aid.Spoil, aid.SpoilAll
	spoilDots, spoilCtx  = aid.SpoilDots, aid.SpoilCtx
	anyEvent, anyCtx     = aid.AnyEvent, aid.AnyCtx
	risen, inOrder, has  = aid.Risen, aid.ByDots, aid.Has
	roomy, whole, copied = aid.Roomy, aid.Whole, aid.Copied
)

// slow is a book as the words of the chapter tell it: what was seen is all that was ever told, part behind part.
type slow struct {
	seen        api.Ctx
	live, tombs []api.Event
}

// of are dots as parts of a context.
func of(l ...api.Dot) api.Ctx {
	var c api.Ctx
	for _, d := range l {
		c = append(c, part(d.Dev, d.N, d.N))
	}
	return c
}

// without is a list without some events.
func without(l []api.Event, which func(e api.Event) bool) []api.Event {
	return slices.DeleteFunc(slices.Clone(l), which)
}

// make is P18.1, word by word.
func (s *slow) make(e api.Event) (api.Event, api.Errno) {
	e.Kills = nil
	if !aid.EventMayBe(e) {
		return api.Event{}, api.ErrArg
	}
	if has(s.seen, e.Dot) {
		return api.Event{}, api.ErrThere
	}
	var all []api.Dot
	for _, x := range s.live {
		if x.Cid == e.Cid && (e.Kind == 2 || x.Field == e.Field) {
			all = append(append(all, x.Kills...), x.Dot)
		}
	}
	if e.Kills = risen(all); len(e.Kills) > 256 {
		return api.Event{}, api.ErrLong
	}
	return e, api.OK
}

// put is P18.2, word by word.
func (s *slow) put(e api.Event) api.Errno {
	if !aid.EventMayBe(e) {
		return api.ErrArg
	}
	if has(s.seen, e.Dot) {
		return api.ErrThere
	}
	e = again(e, false)
	s.seen = append(append(s.seen, of(e.Dot)...), of(e.Kills...)...)
	s.live = without(s.live, func(x api.Event) bool { return slices.Contains(e.Kills, x.Dot) })
	if e.Kind == 1 {
		s.live = append(s.live, e)
	} else {
		s.tombs = append(s.tombs, e)
	}
	return api.OK
}

// see is P18.2, word by word.
func (s *slow) see(c api.Ctx) { s.seen = append(s.seen, copied(c)...) }

// prune is P18.2, word by word.
func (s *slow) prune(c api.Ctx) int {
	left := without(s.tombs, func(x api.Event) bool { return has(c, x.Dot) })
	many := len(s.tombs) - len(left)
	s.tombs = left
	for _, l := range [][]api.Event{s.live, s.tombs} {
		for i, x := range l {
			if has(c, x.Dot) {
				l[i].Kills = nil
			}
		}
	}
	return many
}

// copy is another one with the same.
func (s *slow) copy() *slow {
	return &slow{copied(s.seen), againAll(s.live, false), againAll(s.tombs, false)}
}

// pair is a book, and its slow telling, to which the same things are done.
type pair struct {
	t    *testing.T
	b    *Book
	s    *slow
	past []string
}

// start is a pair that has nothing.
func start(t *testing.T) *pair { return &pair{t: t, b: New(), s: &slow{}} }

// fail tells what was done, and what is wrong.
func (p *pair) fail(what string, got, want any) {
	p.t.Helper()
	p.t.Fatalf("%s is %.400v, want %.400v, behind %.2000s", what, got, want, strings.Join(p.past, ", "))
}

// asks are the contacts that a book is asked of.
func (s *slow) asks() []uint64 {
	list := []uint64{0, least, least + 1, huge}
	for _, e := range slices.Concat(s.live, s.tombs) {
		list = append(list, e.Cid, e.Cid+1<<48)
	}
	slices.Sort(list)
	return slices.Compact(list)
}

// wantAll holds a list that a book tells, and writes into it.
func (p *pair) wantAll(what string, got, want []api.Event) {
	p.t.Helper()
	if x, y := toldAll(got), toldAll(inOrder(want)); x != y {
		p.fail(what, x, y)
	}
	spoilAll(got)
}

// want holds all that a book tells, twice: what is written into what it told is not seen in what it tells then.
func (p *pair) want() {
	p.t.Helper()
	for range 2 {
		c := p.b.Ctx()
		if !aid.InOrder(c) || !aid.SameDots(c, p.s.seen) {
			p.fail("Ctx", c, p.s.seen)
		}
		spoilCtx(c)
		p.wantAll("Live", p.b.Live(), p.s.live)
		p.wantAll("Tombs", p.b.Tombs(), p.s.tombs)
		p.wantAll("All", p.b.All(), slices.Concat(p.s.live, p.s.tombs))
		for _, cid := range p.s.asks() {
			p.wantAll("Of", p.b.Of(cid), without(p.s.live, func(x api.Event) bool { return x.Cid != cid }))
		}
	}
	// What Ctx and All tell is enough to build the book again.
	twin, err := From(p.b.Ctx(), p.b.All())
	if err != api.OK || !Same(p.b, twin) || !Same(twin, p.b) {
		p.fail("From of Ctx and All", err, api.OK)
	}
}

// room is an event with something behind its Kills, and all of these.
func room(e api.Event) (api.Event, []api.Dot) {
	e = again(e, true)
	all := append(e.Kills, dots(91, 1, 92, 2)...)
	e.Kills = all[:len(e.Kills)]
	return e, all
}

// gave holds that an event which was handed in was not turned, nor what stands behind it, and writes into it.
func (p *pair) gave(in api.Event, all []api.Dot, e api.Event) {
	p.t.Helper()
	if told(in) != told(e) || !slices.Equal(all, append(slices.Clip(e.Kills), dots(91, 1, 92, 2)...)) {
		p.fail("what went in", told(in), told(e))
	}
	spoilDots(all)
	spoil(&in)
}

// put puts an event into both.
func (p *pair) put(e api.Event) api.Errno {
	p.t.Helper()
	p.past = append(p.past, "put "+told(e))
	in, all := room(e)
	got, want := p.b.Put(in), p.s.put(e)
	if got != want {
		p.fail("Put", got, want)
	}
	p.gave(in, all, e)
	return got
}

// make makes an event of both, and writes into what came out.
func (p *pair) make(e api.Event) (api.Event, api.Errno) {
	p.t.Helper()
	p.past = append(p.past, "make "+told(e))
	in, all := room(e)
	got, err := p.b.Make(in)
	twin, _ := p.b.Make(in)
	want, wanted := p.s.make(e)
	if err != wanted || told(got) != told(want) || told(twin) != told(want) {
		p.fail("Make", told(got)+" and "+told(twin), told(want))
	}
	spoil(&got)
	p.gave(in, all, e)
	if told(twin) != told(want) {
		p.fail("what Make told, behind writing into what went in and into what it told again,", told(twin), told(want))
	}
	return want, err
}

// see lets both see a context.
func (p *pair) see(c api.Ctx) {
	p.t.Helper()
	p.past = append(p.past, "see "+string(aid.CtxBytes(c)))
	in := roomy(c)
	was := whole(in)
	p.b.See(in)
	p.s.see(c)
	if !aid.Alike(was, whole(in)) {
		p.fail("what went into See", in, c)
	}
	spoilCtx(in)
}

// prune prunes both.
func (p *pair) prune(c api.Ctx) int {
	p.t.Helper()
	p.past = append(p.past, "prune "+string(aid.CtxBytes(c)))
	in := roomy(c)
	was := whole(in)
	got, want := p.b.Prune(in), p.s.prune(c)
	if got != want {
		p.fail("Prune", got, want)
	}
	if !aid.Alike(was, whole(in)) {
		p.fail("what went into Prune", in, c)
	}
	spoilCtx(in)
	return got
}

// The chapter's example.
func TestExample(t *testing.T) {
	b := New()
	if err := b.Put(wrote(least, 4, at(1, 1))); err != api.OK {
		t.Fatal(err)
	}
	e, err := b.Make(ended(least, at(1, 2)))
	if err != api.OK || told(e) != told(ended(least, at(1, 2), at(1, 1))) {
		t.Fatalf("Make is %q, %d", told(e), err)
	}
	if err := b.Put(e); err != api.OK || len(b.Live()) != 0 || toldAll(b.Tombs()) != toldAll([]api.Event{e}) {
		t.Errorf("live is %q, tombs %q", toldAll(b.Live()), toldAll(b.Tombs()))
	}
	if n := b.Prune(of(at(1, 2))); n != 1 || len(b.Live()) != 0 || len(b.Tombs()) != 0 || !aid.Alike(b.Ctx(), api.Ctx{part(1, 1, 2)}) {
		t.Errorf("pruned %d: live is %q, tombs %q, seen %v", n, toldAll(b.Live()), toldAll(b.Tombs()), b.Ctx())
	}
}

// P18.1 to P18.4: a nil book answers ErrArg, nil, or nothing, whatever it is asked.
func TestNil(t *testing.T) {
	var b *Book
	for _, e := range append(aid.Unlike(), wrote(least, 1, at(1, 1)), ended(least, at(1, 2), at(1, 1))) {
		if got, err := b.Make(e); err != api.ErrArg || told(got) != told(api.Event{}) {
			t.Errorf("Make is %q, %d", told(got), err)
		}
		if err := b.Put(e); err != api.ErrArg {
			t.Errorf("Put is %d", err)
		}
		if len(b.Of(e.Cid)) != 0 {
			t.Error("Of tells something")
		}
	}
	for _, c := range aid.Straight() {
		b.See(c)
		if n := b.Prune(c); n != 0 {
			t.Errorf("Prune is %d", n)
		}
	}
	if len(b.Ctx()) != 0 || len(b.Live()) != 0 || len(b.Tombs()) != 0 || len(b.All()) != 0 || b.Copy() != nil {
		t.Error("a nil book has something")
	}
	if !Same(b, nil) || !Same(b, New()) || !Same(New(), b) || !Same(&Book{}, b) || !Same(b, &Book{}) {
		t.Error("a nil book has not nothing")
	}
}

// P18.1 to P18.4: a new book, and a plain one, have nothing, and take each step first.
func TestNothing(t *testing.T) {
	for _, made := range []func() *Book{
		New,
		func() *Book { return &Book{} },
		func() *Book { return (&Book{}).Copy() },
		func() *Book { b, _ := From(nil, nil); return b },
		func() *Book { b, _ := From(api.Ctx{}, []api.Event{}); return b },
	} {
		fresh := func() *pair { return &pair{t: t, b: made(), s: &slow{}} }
		fresh().want()
		for _, do := range []func(p *pair){
			func(p *pair) { p.make(wrote(least, 1, at(1, 1))) },
			func(p *pair) { p.make(ended(least, at(1, 1))) },
			func(p *pair) { p.make(api.Event{}) },
			func(p *pair) { p.put(wrote(least, 1, at(1, 1))) },
			func(p *pair) { p.put(wrote(least, 1, at(1, 1), at(1, 2), at(3, 3))) },
			func(p *pair) { p.put(ended(least, at(1, 1))) },
			func(p *pair) { p.put(ended(least, at(1, 1), at(1, 2), at(3, 3))) },
			func(p *pair) { p.put(api.Event{}) },
			func(p *pair) { p.see(nil) },
			func(p *pair) { p.see(api.Ctx{part(1, 1, 4)}) },
			func(p *pair) { p.prune(nil) },
			func(p *pair) { p.prune(api.Ctx{part(1, 1, 4)}) },
			func(p *pair) { p.b = p.b.Copy() },
		} {
			p := fresh()
			do(p)
			p.want()
			do(p)
			p.want()
		}
	}
	if a, b := New(), New(); a == b || a.Put(wrote(least, 1, at(1, 1))) != api.OK || Same(a, b) || len(b.All()) != 0 || len(New().All()) != 0 {
		t.Error("new books share something")
	}
}

// steps are what may be done, of a few dots.
func steps() []func(p *pair) {
	var list []func(p *pair)
	for _, e := range []api.Event{
		wrote(least, 1, at(1, 1)), wrote(least, 1, at(1, 2), at(1, 1)), wrote(least, 2, at(1, 3), at(1, 2)), wrote(least+1, 1, at(2, 1), at(1, 4)),
		wrote(least, 1, at(2, 2), dots(1, 1, 1, 2, 2, 1)...), ended(least, at(1, 4), dots(1, 1, 1, 2)...), ended(least, at(2, 3), dots(1, 4, 2, 2)...),
		ended(least+1, at(2, 4)), wrote(least, 1, at(1, 1), at(1, 4)),
	} {
		list = append(list, func(p *pair) { p.put(e) })
	}
	for _, e := range []api.Event{wrote(least, 1, at(3, 1)), ended(least, at(3, 2))} {
		list = append(list, func(p *pair) {
			if e, err := p.make(e); err == api.OK {
				p.put(e)
			}
		})
	}
	for _, c := range []api.Ctx{{part(1, 1, 1)}, {part(1, 4, 4), part(2, 3, 3)}, {part(2, 1, 4)}, {part(3, 1, 2), part(1, 2, 3)}} {
		list = append(list, func(p *pair) { p.see(c) }, func(p *pair) { p.prune(c) })
	}
	return list
}

// P18.1 to P18.4: all ways of up to three steps.
func TestStepsAll(t *testing.T) {
	aid.Lists(steps(), 3, func(l []func(p *pair)) {
		p := start(t)
		for _, do := range l {
			do(p)
		}
		p.want()
	})
}

// near is an event of a few dots that mostly may be, drawn.
func near(g *rand.Rand, devs, nums int) api.Event {
	d := func() api.Dot { return at(uint16(1+g.Intn(devs)), uint64(1+g.Intn(nums))) }
	cid := uint64(least + g.Intn(2))
	var kills []api.Dot
	for range g.Intn(4) {
		kills = append(kills, d())
	}
	if g.Intn(40) > 0 {
		kills = risen(kills)
	}
	e := ended(cid, d(), kills...)
	if g.Intn(3) > 0 {
		e = wrote(cid, uint8(1+g.Intn(2)), e.Dot, kills...)
		e.Text = []string{"", "a", "b", aid.Long(60)}[g.Intn(4)]
	}
	if g.Intn(20) > 0 {
		e.Kills = lessOne(e.Kills, e.Dot)
	}
	return e
}

// lessOne is a list of dots without one.
func lessOne(l []api.Dot, d api.Dot) []api.Dot {
	return slices.DeleteFunc(l, func(x api.Dot) bool { return x == d })
}

// little is a context of a few dots, drawn.
func little(g *rand.Rand, devs, nums int) api.Ctx {
	var c api.Ctx
	for range g.Intn(3) {
		lo := uint64(g.Intn(nums + 1))
		c = append(c, part(uint16(g.Intn(devs+1)), lo, lo+uint64(g.Intn(3)), uint64(g.Intn(nums)), uint64(g.Intn(nums))))
	}
	return c
}

// anyStep does something, drawn, and tells which errors it met.
func anyStep(g *rand.Rand, p *pair, met map[api.Errno]int) {
	e := near(g, 3, 8)
	if g.Intn(12) == 0 {
		e = anyEvent(g)
	}
	c := little(g, 3, 8)
	if g.Intn(6) == 0 {
		c = anyCtx(g, 3, 3)
	}
	switch g.Intn(8) {
	case 0, 1, 2:
		met[p.put(e)]++
	case 3, 4:
		e, err := p.make(e)
		if met[err]++; err == api.OK {
			p.put(e)
		}
	case 5:
		p.make(e)
	case 6:
		if g.Intn(3) == 0 {
			p.see(c)
		}
	case 7:
		if p.prune(c) > 0 {
			met[api.ErrNone]++
		}
	}
}

// P18.1 to P18.4: drawn steps, of which now and then the book is copied, and each of both goes on by itself.
func TestStepsAny(t *testing.T) {
	met := map[api.Errno]int{}
	for seed := range int64(1500) {
		g := rand.New(rand.NewSource(seed))
		all := []*pair{start(t)}
		for range 25 {
			p := all[g.Intn(len(all))]
			if anyStep(g, p, met); g.Intn(3) == 0 {
				p.want()
			}
			if g.Intn(12) == 0 {
				all = append(all, &pair{t, p.b.Copy(), p.s.copy(), slices.Clip(append(slices.Clip(p.past), "copy"))})
			}
		}
		for _, p := range all {
			p.want()
		}
	}
	if met[api.OK] < 4000 || met[api.ErrArg] < 1000 || met[api.ErrThere] < 4000 || met[api.ErrNone] < 400 {
		t.Error(met)
	}
}

// Rule 4: no two lists of one answer share anything.
func TestListsApart(t *testing.T) {
	b := New()
	kills := dots(5, 1, 5, 2, 5, 3)
	for i := range 4 {
		b.Put(wrote(least, 1, at(1, uint64(i+1)), kills...))
		b.Put(ended(least, at(2, uint64(i+1)), kills...))
	}
	for _, tell := range []func() []api.Event{b.Live, b.Tombs, b.All, func() []api.Event { return b.Of(least) }} {
		for i := range tell() {
			l := tell()
			if spoilDots(l[i].Kills); len(l) < 4 {
				t.Error(len(l))
			}
			for k, e := range l {
				if k != i && !slices.Equal(e.Kills, kills) {
					t.Errorf("of %d events %d and %d share their Kills", len(l), i, k)
				}
			}
		}
	}
	if l := b.All(); len(l) != 8 || !slices.Equal(l[0].Kills, kills) || !slices.Equal(kills, dots(5, 1, 5, 2, 5, 3)) {
		t.Error("a book was turned from outside")
	}
	b.See(api.Ctx{part(1, 9, 9), part(7, 7, 7)})
	for i := range b.Ctx() {
		c := b.Ctx()
		aid.SpoilRuns(c[i].Runs)
		for k, p := range b.Ctx() {
			if k != i && !slices.Equal(c[k].Runs, p.Runs) {
				t.Errorf("the parts %d and %d share their runs", i, k)
			}
		}
	}
}
