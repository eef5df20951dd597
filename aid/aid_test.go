package aid

import (
	"bytes"
	"math/rand"
	"slices"
	"testing"

	"epitaph/api"
)

// Things written in short are those of api, whatever is lacking at their end.
func TestShort(t *testing.T) {
	if l := Dots(3, 17, Last, Huge, 5); !slices.Equal(l, []api.Dot{{Dev: 3, N: 17}, {Dev: 65535, N: 1<<64 - 1}}) {
		t.Error(l)
	}
	if l := Runs(1, 2, 5, 4, 9); !slices.Equal(l, []api.Run{{Lo: 1, Hi: 2}, {Lo: 5, Hi: 4}}) {
		t.Error(l)
	}
	if p := Part(7, 1, 2); p.Dev != 7 || !slices.Equal(p.Runs, Runs(1, 2)) {
		t.Error(p)
	}
	if s := Told(Dot(0, Huge)); s != "0.18446744073709551615" {
		t.Error(s)
	}
	for _, d := range Never() {
		if MayBe(d) {
			t.Error(Told(d))
		}
	}
}

// A copy is alike till one of both is written into.
func TestCopied(t *testing.T) {
	c := api.Ctx{Part(1, 1, 2), Part(2, 3, 4)}
	other := Copied(c)
	if !Alike(c, other) {
		t.Error(other)
	}
	for _, x := range []api.Ctx{nil, c[:1], {c[1], c[0]}, {Part(1, 1, 2), Part(2, 3, 5)}, {Part(1, 1, 2), Part(3, 3, 4)}, {Part(1, 1, 2), Part(2)}} {
		if Alike(c, x) || Alike(x, c) {
			t.Error(x)
		}
	}
	if other[0].Runs[0].Hi = 9; Alike(c, other) || c[0].Runs[0].Hi != 2 {
		t.Error(c)
	}
}

// All lists are gone over, each once, and none shares its room with another one.
func TestLists(t *testing.T) {
	var all []string
	var kept [][]byte
	Lists([]byte("ab"), 2, func(l []byte) {
		all = append(all, string(l))
		kept = append(kept, l)
	})
	if want := []string{"", "a", "aa", "ab", "b", "ba", "bb"}; !slices.Equal(all, want) {
		t.Error(all)
	}
	for i, l := range kept {
		if string(l) != all[i] {
			t.Error(i, l)
		}
	}
}

// All orders are told, each once, of things that are all unlike, and none shares its room with another one.
func TestOrders(t *testing.T) {
	in := []byte("abc")
	all := Orders(in)
	var told []string
	for _, l := range all {
		told = append(told, string(l))
		clear(l)
	}
	if want := []string{"abc", "acb", "bac", "bca", "cab", "cba"}; !slices.Equal(told, want) || string(in) != "abc" {
		t.Error(told, in)
	}
	if none, one := Orders([]byte{}), Orders([]byte{7}); len(none) != 1 || len(none[0]) != 0 || len(one) != 1 || !slices.Equal(one[0], []byte{7}) {
		t.Error(none, one)
	}
}

// What is spoilt is spoilt itself, not a copy of it, with room behind it and without.
func TestSpoil(t *testing.T) {
	for room := range 3 {
		dots := append(make([]api.Dot, 0, 2+room), Dots(1, 1, 1, 2)...)
		kills := append(make([]api.Dot, 0, 2+room), Dots(1, 1, 1, 2)...)
		list := append(make([]api.Event, 0, 1+room), Edit(Dot(2, 2), kills...))
		parts := append(make(api.Ctx, 0, 1+room), api.Part{Dev: 1, Runs: append(make([]api.Run, 0, 1+room), Runs(1, 2)...)})
		runs := parts[0].Runs
		SpoilDots(dots)
		SpoilAll(list)
		SpoilCtx(parts)
		for _, l := range [][]api.Dot{dots, kills} {
			for i, d := range l[:cap(l)] {
				if d == Dot(1, 1) || d == Dot(1, 2) || d == (api.Dot{}) {
					t.Error(room, i, l)
				}
			}
		}
		if e := list[:cap(list)][room]; e.Dot == Dot(2, 2) || e.Kind == 0 {
			t.Error(room, e)
		}
		if p := parts[:cap(parts)][room]; p.Dev < 2 || runs[:cap(runs)][room].Lo < 2 {
			t.Error(room, p, runs)
		}
	}
}

// Contexts in order are that, and those that are not have the same dots as the one that stands beside them; mute ones have none.
func TestContexts(t *testing.T) {
	for _, c := range Straight() {
		if !InOrder(c) {
			t.Error(c)
		}
	}
	var dots []api.Dot
	for _, dev := range []uint16{0, 1, 2, 3, 255, 256, Last} {
		for n := range uint64(12) {
			dots = append(dots, Dot(dev, n), Dot(dev, Most-n), Dot(dev, Most+n), Dot(dev, Huge-n))
		}
	}
	for _, x := range Crooked() {
		if InOrder(x[0]) || !InOrder(x[1]) {
			t.Error(x)
		}
		for _, d := range dots {
			if Has(x[0], d) != Has(x[1], d) || Has(Mute(), d) || Has(api.Ctx{{Dev: 1, Runs: Silent()}, {Dev: 0, Runs: Silent()}}, d) {
				t.Error(x, Told(d))
			}
		}
	}
	if !slices.IsSorted(Devs()) || InOrder(Mute()) {
		t.Error(Devs())
	}
}

// A context with room has the same, and what is written into its rooms is told by the whole of it.
func TestRoomy(t *testing.T) {
	for _, x := range Crooked() {
		c := Roomy(x[0])
		was := Whole(c)
		if !Alike(c, x[0]) || !Alike(was[:len(c)], Whole(c)[:len(c)]) || !Alike(was, Whole(c)) || cap(c) <= len(c) {
			t.Error(x[0], c)
		}
		for i := range c {
			if cap(c[i].Runs) <= len(c[i].Runs) {
				t.Error(x[0], i)
			}
			_ = append(c[i].Runs, api.Run{Lo: 5, Hi: 6})
			if Alike(was, Whole(c)) {
				t.Error(x[0], i)
			}
			was = Whole(c)
		}
		if _ = append(c, Part(5, 6, 7)); Alike(was, Whole(c)) || !Alike(c, x[0]) {
			t.Error(x[0])
		}
	}
}

// Drawn contexts and dots: some have something, some nothing, some are in order, some not.
func TestAnyCtx(t *testing.T) {
	g := rand.New(rand.NewSource(2))
	ordered, had, may, all := 0, 0, 0, 0
	for range 1000 {
		c := AnyCtx(g, 4, 3)
		if InOrder(c) {
			ordered++
		}
		for _, d := range AnyDots(g, 6) {
			all++
			if MayBe(d) {
				may++
			}
			if Has(c, d) {
				had++
			}
		}
	}
	if ordered < 100 || ordered > 900 || may < all/4 || may > all*9/10 || had < 20 || had > may/2 {
		t.Error(ordered, had, may, all)
	}
}

// Dots that may be, and how they stand, written out.
func TestWordsOfDots(t *testing.T) {
	good := Dots(1, 1, 1, 2, 1, Most, 2, 1, Last, 1, Last, Most)
	for i, a := range good {
		if !MayBe(a) {
			t.Error(Told(a))
		}
		for k, b := range good {
			if Ahead(a, b) != (i < k) {
				t.Error(Told(a), Told(b))
			}
		}
	}
}

// What contexts have, and which are in order, written out.
func TestWordsOfContexts(t *testing.T) {
	c := api.Ctx{Part(2, 5, 4, 3, 4, 0, 9), Part(0, 1, 1), Part(1, Most, Most, 1, Above), Part(2, 6, 6)}
	for _, d := range Dots(2, 3, 2, 4, 2, 6, 1, Most) {
		if !Has(c, d) {
			t.Error(Told(d))
		}
	}
	for _, d := range Dots(2, 2, 2, 5, 2, 7, 1, 1, 1, Most-1, 1, Above, 0, 1, 3, 3) {
		if Has(c, d) {
			t.Error(Told(d))
		}
	}
	for _, x := range []api.Ctx{nil, {Part(1, 1, 1)}, {Part(1, 1, 1, 3, Most), Part(Last, 2, 2)}} {
		if !InOrder(x) {
			t.Error(x)
		}
	}
	for _, x := range []api.Ctx{c, {Part(0, 1, 1)}, {Part(1)}, {Part(1, 0, 1)}, {Part(1, 2, 1)}, {Part(1, 1, Above)}, {Part(1, 1, 1, 2, 2)},
		{Part(1, 3, 3, 1, 1)}, {Part(2, 1, 1), Part(1, 1, 1)}, {Part(1, 1, 1), Part(1, 3, 3)}, {Part(1, 1, 1), Part(2)}} {
		if InOrder(x) {
			t.Error(x)
		}
	}
}

// Contexts with the same dots, whatever order they stand in, and those that are unlike in one dot.
func TestSameDots(t *testing.T) {
	for _, x := range Crooked() {
		if !SameDots(x[0], x[1]) || !SameDots(x[1], x[0]) {
			t.Error(x)
		}
	}
	for _, x := range Mute() {
		if !SameDots(nil, api.Ctx{x}) || !SameDots(api.Ctx{x}, nil) {
			t.Error(x)
		}
	}
	all := Straight()[1:]
	for i, a := range all {
		for k, b := range all {
			if SameDots(a, b) != (i == k) {
				t.Error(a, b)
			}
		}
	}
	// A context, and the same one with one dot more, or with one dot less.
	c := api.Ctx{Part(1, 2, 5, 8, 9), Part(3, Most-3, Most)}
	for _, d := range Dots(1, 1, 1, 6, 1, 7, 1, 10, 2, 1, 3, 1, 3, Most-4) {
		if other := append(Copied(c), Part(d.Dev, d.N, d.N)); SameDots(c, other) || SameDots(other, c) {
			t.Error(Told(d))
		}
	}
	for _, other := range []api.Ctx{
		{Part(1, 3, 5, 8, 9), c[1]}, {Part(1, 2, 2, 4, 5, 8, 9), c[1]}, {Part(1, 2, 4, 8, 9), c[1]}, {Part(1, 2, 5, 9, 9), c[1]}, {Part(1, 2, 5, 8, 8), c[1]},
		{c[0], Part(3, Most-2, Most)}, {c[0], Part(3, Most-3, Most-3, Most-1, Most)}, {c[0], Part(3, Most-3, Most-1)}, c[:1], c[1:],
	} {
		if SameDots(c, other) || SameDots(other, c) {
			t.Error(other)
		}
	}
}

// Bytes, written out.
func TestBytes(t *testing.T) {
	if b := Nums(0, 1, 258, Huge); !bytes.Equal(b, []byte{0, 1, 1, 2, 1, 2, 8, 255, 255, 255, 255, 255, 255, 255, 255}) {
		t.Error(b)
	}
	if b := DotsBytes(Dots(3, 17, 0, 256)); !bytes.Equal(b, []byte{1, 2, 1, 3, 1, 17, 0, 2, 1, 0}) {
		t.Error(b)
	}
	if b := CtxBytes(api.Ctx{Part(1, 1, 2)}); !bytes.Equal(b, []byte{1, 1, 1, 1, 1, 1, 1, 1, 1, 2}) {
		t.Error(b)
	}
}

// The reader reads what was written, one behind another, and stays at its first error.
func TestReader(t *testing.T) {
	c := api.Ctx{Part(1, 1, 2, 4, 4), Part(2, 2, 2)}
	l := Dots(1, 1, 1, 2, 2, 1)
	r := &Reader{Rest: slices.Concat(Nums(258), DotBytes(l[0]), DotsBytes(l), CtxBytes(c), Nums(0))}
	if r.Num() != 258 || r.Dot() != l[0] || !slices.Equal(r.Dots(3), l) || !Alike(r.Ctx(), c) || r.Num() != 0 || r.Err != api.OK || len(r.Rest) != 0 {
		t.Error(r)
	}
	if r.Num() != 0 || r.Err != api.ErrShort {
		t.Error(r)
	}
	if r.Fail(api.ErrForm); r.Err != api.ErrShort {
		t.Error(r)
	}
}

// Bytes that are wrong, each with its error.
func TestReaderErrors(t *testing.T) {
	num := func(r *Reader) { r.Num() }
	dot := func(r *Reader) { r.Dot() }
	dots := func(r *Reader) { r.Dots(2) }
	ctx := func(r *Reader) { r.Ctx() }
	list := []struct {
		read func(r *Reader)
		b    []byte
		e    api.Errno
	}{
		{num, nil, api.ErrShort}, {num, []byte{9}, api.ErrForm}, {num, []byte{1}, api.ErrShort}, {num, []byte{2, 0}, api.ErrForm},
		{num, []byte{2, 1}, api.ErrShort}, {dot, Nums(Last+1, 1), api.ErrForm}, {dot, Nums(Last + 1), api.ErrForm}, {dot, Nums(0), api.ErrShort},
		{dot, Nums(0, 1), api.ErrForm}, {dots, Nums(3), api.ErrLong}, {dots, Nums(2, 1, 1), api.ErrShort}, {dots, Nums(2, 1, 1, 1, 1), api.ErrForm},
		{ctx, Nums(1, 1, 2, 1, 1), api.ErrShort}, {ctx, Nums(1, 1, 0), api.ErrForm}, {ctx, Nums(2, 2, 1, 1, 1, 1, 1, 1, 1), api.ErrForm},
		{ctx, Nums(1, Last+1), api.ErrForm},
	}
	for _, x := range list {
		r := &Reader{Rest: x.b}
		if x.read(r); r.Err != x.e || len(r.Rest) != 0 {
			t.Errorf("%v: %d, want %d", x.b, r.Err, x.e)
		}
	}
}

// The dots that may be, rising, each once.
func TestRising(t *testing.T) {
	for _, x := range [][2][]api.Dot{
		{nil, nil}, {Never(), nil}, {Dots(1, 1), Dots(1, 1)}, {Dots(2, 1, 1, 2, 0, 1, 1, 1, 2, 1), Dots(1, 1, 1, 2, 2, 1)},
	} {
		if got := Rising(x[0]); !slices.Equal(got, x[1]) {
			t.Error(got)
		}
	}
	all := Dots(1, Above, 0, 1, 1, 1, 0, 0, 1, Huge, 0, 1, 0, Huge, Last, 0, 1, 1)
	if got := Risen(all); !slices.Equal(got, Dots(0, 0, 0, 1, 0, Huge, 1, 1, 1, Above, 1, Huge, Last, 0)) || len(Risen(nil)) != 0 {
		t.Error(got)
	}
}

// Which events may be, written out, each fault by itself.
func TestWordsOfEvents(t *testing.T) {
	d := Dot(2, 5)
	full := Gone(d, Row(1, 1, 256)...)
	for _, e := range []api.Event{Edit(d), Gone(d), Edit(d, Dot(1, 1), Dot(2, 4), Dot(2, 6)), full, {Dot: d, Kind: 1, Cid: Huge, Field: 5, Text: Long(60)}, {Dot: d, Kind: 1, Cid: Least, Field: 1}} {
		if !EventMayBe(e) {
			t.Error(ToldEvent(e))
		}
	}
	list := []api.Event{{}, Edit(Dot(0, 1)), Gone(Dot(1, 0)), Edit(d, d), Edit(d, Dots(1, 2, 1, 1)...), Edit(d, Dots(1, 1, 1, 1)...), Edit(d, Dot(1, 0)), Gone(d, Row(1, 1, 257)...)}
	for _, change := range []func(e *api.Event){
		func(e *api.Event) { e.Kind = 0 }, func(e *api.Event) { e.Kind = 2 }, func(e *api.Event) { e.Kind = 3 },
		func(e *api.Event) { e.Cid = Most }, func(e *api.Event) { e.Cid = 1 << 48 }, func(e *api.Event) { e.Field = 0 }, func(e *api.Event) { e.Field = 6 },
		func(e *api.Event) { e.Text = "\x1f" }, func(e *api.Event) { e.Text = "a\x7f" }, func(e *api.Event) { e.Text = Long(61) },
	} {
		e := Edit(d)
		change(&e)
		list = append(list, e)
	}
	for _, change := range []func(e *api.Event){func(e *api.Event) { e.Field = 1 }, func(e *api.Event) { e.Text = "a" }} {
		e := Gone(d)
		change(&e)
		list = append(list, e)
	}
	for _, e := range list {
		if EventMayBe(e) {
			t.Error(ToldEvent(e))
		}
	}
}

// Events that are unlike are told unlike, those that are the same alike; what is written into one is not seen in the other one.
func TestToldEvents(t *testing.T) {
	seen := map[string]bool{}
	all := Unlike()
	for _, e := range all {
		was := ToldEvent(e)
		seen[was] = true
		a, b := Again(e, false), Again(e, true)
		Spoil(&a)
		if ToldEvent(e) != was || ToldEvent(b) != was || ToldEvent(a) == was {
			t.Error(was)
		}
	}
	if len(seen) != len(all) {
		t.Error(len(seen), len(all))
	}
	was := ToldEvents(all)
	other := AgainAll(all, false)
	SpoilAll(other)
	if ToldEvents(all) != was || ToldEvents(AgainAll(all, true)) != was || ToldEvents(other) == was || ToldEvents(all[1:]) == was {
		t.Error("all")
	}
}

// Events written in short, and lists of them in order, of each dot the first one.
func TestByDots(t *testing.T) {
	a, b, c := Wrote(Least, 3, Dot(2, 1), Dot(1, 7)), Ended(Least+1, Dot(1, 2), Dot(1, 1)), Other(1, Least, 3, Dot(2, 1))
	if ToldEvent(a) != ToldEvent(api.Event{Dot: Dot(2, 1), Kind: 1, Cid: Least, Field: 3, Text: "x", Kills: Dots(1, 7)}) {
		t.Error(a)
	}
	if ToldEvent(b) != ToldEvent(api.Event{Dot: Dot(1, 2), Kind: 2, Cid: Least + 1, Kills: Dots(1, 1)}) || !EventMayBe(a) || !EventMayBe(b) {
		t.Error(b)
	}
	for _, x := range [][2][]api.Event{{nil, nil}, {{a}, {a}}, {{a, b}, {b, a}}, {{a, c, b}, {b, a}}, {{c, b, a, b}, {b, c}}} {
		if got := ByDots(x[0]); ToldEvents(got) != ToldEvents(x[1]) {
			t.Error(got)
		}
	}
}

// Drawn events: many may be, many may not.
func TestAnyEvent(t *testing.T) {
	may := 0
	for _, e := range AnyEvents(rand.New(rand.NewSource(1)), 1000) {
		if EventMayBe(e) {
			may++
		}
	}
	if may < 100 || may > 900 {
		t.Error(may)
	}
}

// The bytes of events, written out, and what they are read as.
func TestEventBytes(t *testing.T) {
	a := api.Event{Dot: Dot(1, 1), Kind: 1, Cid: Least, Field: 4, Text: "ab"}
	b := api.Event{Dot: Dot(1, 2), Kind: 2, Cid: Least, Kills: Dots(1, 1)}
	want := []byte{1, 2, 1, 1, 1, 1, 1, 7, 1, 0, 0, 0, 0, 0, 1, 4, 1, 2, 'a', 'b', 0, 1, 1, 1, 2, 2, 7, 1, 0, 0, 0, 0, 0, 1, 0, 0, 1, 1, 1, 1, 1, 1}
	got := EventsBytes([]api.Event{a, b})
	if !bytes.Equal(got, want) || !bytes.Equal(slices.Concat(EventBytes(a), EventBytes(b)), want[2:]) {
		t.Error(got)
	}
	r := &Reader{Rest: slices.Concat(got, got[2:])}
	if l := r.Events(2); ToldEvents(l) != ToldEvents([]api.Event{a, b}) || ToldEvent(r.Event()) != ToldEvent(a) || ToldEvent(r.Event()) != ToldEvent(b) || r.Err != api.OK || len(r.Rest) != 0 {
		t.Error(r)
	}
	if e := r.Event(); ToldEvent(e) != ToldEvent(api.Event{}) || r.Err != api.ErrShort || r.Byte() != 0 || r.Text(5) != "" || len(r.Events(5)) != 0 || r.Err != api.ErrShort {
		t.Error(r)
	}
}

// Bytes of events that are wrong, each with its error.
func TestEventErrors(t *testing.T) {
	one := func(r *Reader) { r.Event() }
	two := func(r *Reader) { r.Events(2) }
	text := func(r *Reader) { r.Text(2) }
	a, b := EventBytes(Edit(Dot(1, 1))), EventBytes(Gone(Dot(1, 2)))
	list := []struct {
		read func(r *Reader)
		b    []byte
		e    api.Errno
	}{
		{text, Nums(3), api.ErrLong}, {text, []byte{1, 2, 'a'}, api.ErrShort}, {text, []byte{9}, api.ErrForm}, {func(r *Reader) { r.Text(-1) }, []byte{1, 1, 'a'}, api.ErrLong},
		{one, a[:len(a)-1], api.ErrShort}, {one, EventBytes(Edit(Dot(0, 1))), api.ErrForm}, {one, EventBytes(Edit(Dot(1, 1), Dot(1, 1))), api.ErrForm},
		{one, EventBytes(api.Event{Dot: Dot(1, 1), Text: Long(61)}), api.ErrLong}, {one, EventBytes(Gone(Dot(1, 1), Row(1, 2, 257)...)), api.ErrLong},
		{two, Nums(3), api.ErrLong}, {two, slices.Concat(Nums(2), a), api.ErrShort}, {two, slices.Concat(Nums(2), b, a), api.ErrForm}, {two, slices.Concat(Nums(2), b, b), api.ErrForm},
	}
	for _, x := range list {
		r := &Reader{Rest: x.b}
		if x.read(r); r.Err != x.e || len(r.Rest) != 0 {
			t.Errorf("%v: %d, want %d", x.b, r.Err, x.e)
		}
	}
}
