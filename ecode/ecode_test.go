package ecode

import (
	"bytes"
	"math"
	"math/rand"
	"runtime"
	"slices"
	"strings"
	"testing"

	"epitaph/aid"
	"epitaph/api"
	"epitaph/coded"
	"epitaph/pack"
)

const (
	most  = aid.Most
	above = aid.Above
	huge  = aid.Huge
	last  = aid.Last
	least = aid.Least
)

// What stands in the tests in short.
var (
	of, dots, row, long    = aid.Dot, aid.Dots, aid.Row, aid.Long
	edit, gone             = aid.Edit, aid.Gone
	nums, dotBytes         = aid.Nums, aid.DotBytes
	listBytes, rising      = aid.DotsBytes, aid.Rising
	eventBytes, allBytes   = aid.EventBytes, aid.EventsBytes
	told, toldAll, mayBe   = aid.ToldEvent, aid.ToldEvents, aid.EventMayBe
	again, spoil, spoilAll = aid.Again, aid.Spoil, aid.SpoilAll
	written                = coded.Written
)

// same holds Get and Decode against the chapter's words on these bytes.
func same(t *testing.T, b []byte) {
	t.Helper()
	a, r := &aid.Reader{Rest: b}, pack.New(b)
	want, got := a.Event(), Get(r)
	if told(got) != told(want) || r.Err() != a.Err || r.Left() != len(a.Rest) {
		t.Fatalf("Get of %.200v: %.99q, %d, left %d, want %.99q, %d, left %d", b, told(got), r.Err(), r.Left(), told(want), a.Err, len(a.Rest))
	}
	if a.Err == api.OK && len(a.Rest) > 0 {
		a.Fail(api.ErrForm)
		want = api.Event{}
	}
	if got, errno := Decode(b); told(got) != told(want) || errno != a.Err {
		t.Fatalf("Decode of %.200v: %.99q, %d, want %.99q, %d", b, told(got), errno, told(want), a.Err)
	}
}

// sameAll holds GetAll against the chapter's words on these bytes.
func sameAll(t *testing.T, b []byte, most int) {
	t.Helper()
	a, r := &aid.Reader{Rest: b}, pack.New(b)
	want, got := a.Events(most), GetAll(r, most)
	if toldAll(got) != toldAll(want) || r.Err() != a.Err || r.Left() != len(a.Rest) {
		t.Fatalf("GetAll of %.200v with most %d: %.99q, %d, left %d, want %.99q, %d, left %d",
			b, most, toldAll(got), r.Err(), r.Left(), toldAll(want), a.Err, len(a.Rest))
	}
}

// refused asks that Get tells an error and nothing else, with no bytes left, and Decode, too.
func refused(t *testing.T, b []byte, want api.Errno) {
	t.Helper()
	r := pack.New(b)
	if e := Get(r); told(e) != told(api.Event{}) || r.Err() != want || r.Left() != 0 || r.End() != want {
		t.Errorf("Get of %.200v: %.99q, %d, want %d", b, told(e), r.Err(), want)
	}
	if e, errno := Decode(b); told(e) != told(api.Event{}) || errno != want {
		t.Errorf("Decode of %.200v: %.99q, %d, want %d", b, told(e), errno, want)
	}
	same(t, b)
}

// refusedAll asks that GetAll tells an error and nothing else.
func refusedAll(t *testing.T, b []byte, most int, want api.Errno) {
	t.Helper()
	r := pack.New(b)
	if l := GetAll(r, most); len(l) != 0 || r.Err() != want || r.Left() != 0 {
		t.Errorf("GetAll of %.200v with most %d: %.99q, %d, want %d", b, most, toldAll(l), r.Err(), want)
	}
	sameAll(t, b, most)
}

// put is what Put writes.
func put(e api.Event) []byte {
	return written(func(w *pack.Writer) { Put(w, e) })
}

// putAll is what PutAll writes.
func putAll(l []api.Event) []byte {
	return written(func(w *pack.Writer) { PutAll(w, l) })
}

// with is an event in which something is another.
func with(e api.Event, change func(e *api.Event)) api.Event {
	change(&e)
	return e
}

// good are events that may be, at the edges of all their parts, their dots rising.
func good() []api.Event {
	list := []api.Event{
		{Dot: of(1, 1), Kind: 1, Cid: least, Field: 1},
		{Dot: of(1, 2), Kind: 2, Cid: least},
		{Dot: of(1, 3), Kind: 1, Cid: huge, Field: 5, Text: long(60), Kills: row(1, 4, 256)},
		{Dot: of(1, 255), Kind: 2, Cid: huge, Kills: row(last, most-255, 256)},
		{Dot: of(1, 256), Kind: 1, Cid: 1<<49 + 1, Field: 2, Text: "a", Kills: dots(1, 1)},
		{Dot: of(1, most), Kind: 1, Cid: 1<<56 + 255, Field: 3, Text: " ~", Kills: dots(1, 1, 1, most-1)},
		{Dot: of(2, 5), Kind: 2, Cid: 2<<48 + 5, Kills: dots(1, 1, 2, 4, 2, 6, last, most)},
		{Dot: of(2, 6), Kind: 1, Cid: 2<<48 + 256, Field: 4, Text: "Rome", Kills: []api.Dot{}},
		{Dot: of(255, 65536), Kind: 1, Cid: 1<<63 + 1, Field: 1, Text: long(59), Kills: row(256, 1, 255)},
		{Dot: of(256, 1<<32), Kind: 2, Cid: 1<<63 - 1, Kills: row(256, 250, 10)},
		{Dot: of(last, 1), Kind: 1, Cid: last<<48 + 1, Field: 5, Text: "\"\\", Kills: dots(1, most, last, most)},
		{Dot: of(last, most), Kind: 2, Cid: huge, Kills: dots(last, most-1)},
	}
	return list
}

// fault is an event that may not be, and what reading its bytes, the Kills as they stand, comes to.
type fault struct {
	e    api.Event
	want api.Errno
}

// faults are events that may not be, each for one cause.
func faults() []fault {
	var list []fault
	kill := dots(1, 1, 2, 4, 3, 3)
	for _, base := range []api.Event{edit(of(2, 5), kill...), gone(of(2, 5), kill...), edit(of(2, 5)), gone(of(2, 5))} {
		is := func(want api.Errno, change func(e *api.Event)) {
			list = append(list, fault{with(again(base, false), change), want})
		}
		for _, d := range aid.Never() {
			is(api.ErrForm, func(e *api.Event) { e.Dot = d })
		}
		for _, kind := range []uint8{0, 3, 4, 127, 128, 129, 130, 254, 255} {
			is(api.ErrForm, func(e *api.Event) { e.Kind = kind })
		}
		is(api.ErrForm, func(e *api.Event) { e.Kind = 3 - e.Kind })
		for _, cid := range []uint64{0, 1, 2, most, 1 << 48, 1 << 49, 1 << 63, last << 48} {
			is(api.ErrForm, func(e *api.Event) { e.Cid = cid })
		}
		for _, f := range []uint8{6, 7, 128, 129, 255} {
			is(api.ErrForm, func(e *api.Event) { e.Field = f })
		}
		is(api.ErrForm, func(e *api.Event) { e.Field = 4 - e.Field })
		for _, s := range []string{"\x1f", "\x7f", "\x00", "a\nb", "Zoë", long(59) + "\xff", "\x80" + long(59)} {
			is(api.ErrForm, func(e *api.Event) { e.Text = s })
		}
		for _, n := range []int{61, 62, 255, 256, 65536} {
			is(api.ErrLong, func(e *api.Event) { e.Text = long(n) })
		}
		for _, l := range [][]api.Dot{dots(1, 2, 1, 1), dots(2, 1, 1, 2), dots(1, 1, 1, 1), dots(1, 1, 2, 1, 1, 2), dots(2, 5), dots(1, 1, 2, 5), dots(2, 4, 2, 5, 2, 6), row(2, 1, 256)} {
			is(api.ErrForm, func(e *api.Event) { e.Kills = l })
		}
		for _, d := range aid.Never() {
			is(api.ErrForm, func(e *api.Event) { e.Kills = []api.Dot{d} })
			is(api.ErrForm, func(e *api.Event) { e.Kills = []api.Dot{of(1, 1), d} })
			is(api.ErrForm, func(e *api.Event) { e.Kills = []api.Dot{d, of(last, most)} })
		}
		for _, n := range []int{257, 258, 512} {
			is(api.ErrLong, func(e *api.Event) { e.Kills = row(1, 1, n) })
		}
	}
	list = append(list, fault{with(gone(of(1, 1)), func(e *api.Event) { e.Text = "a" }), api.ErrForm})
	list = append(list, fault{with(gone(of(1, 1)), func(e *api.Event) { e.Text = long(60) }), api.ErrForm})
	return append(list, fault{api.Event{}, api.ErrForm})
}

// P16.1: the chapter's example, and the bytes of an edit, written out.
func TestExample(t *testing.T) {
	list := []struct {
		e api.Event
		b []byte
	}{
		{api.Event{Dot: of(1, 2), Kind: 2, Cid: 281474976710657, Kills: dots(1, 1)},
			[]byte{1, 1, 1, 2, 2, 7, 1, 0, 0, 0, 0, 0, 1, 0, 0, 1, 1, 1, 1, 1, 1}},
		{api.Event{Dot: of(258, 3), Kind: 1, Cid: 2<<48 + 5, Field: 4, Text: "Rome"},
			[]byte{2, 1, 2, 1, 3, 1, 7, 2, 0, 0, 0, 0, 0, 5, 4, 1, 4, 'R', 'o', 'm', 'e', 0}},
		{api.Event{Dot: of(1, 1), Kind: 1, Cid: 1<<56 + 1, Field: 5, Kills: dots(1, 2, 3, 256)},
			[]byte{1, 1, 1, 1, 1, 8, 1, 0, 0, 0, 0, 0, 0, 1, 5, 0, 1, 2, 1, 1, 1, 2, 1, 3, 2, 1, 0}},
	}
	for _, x := range list {
		isForm(t, x.e, x.b)
	}
}

// isForm asks that these are the bytes of an event that may be, for all calls.
func isForm(t *testing.T, e api.Event, b []byte) {
	t.Helper()
	if got := put(e); !bytes.Equal(got, b) {
		t.Errorf("Put of %.99q: %v, want %v", told(e), got, b)
	}
	if got, errno := Encode(e); !bytes.Equal(got, b) || errno != api.OK {
		t.Errorf("Encode of %.99q: %v, %d, want %v", told(e), got, errno, b)
	}
	r := pack.New(slices.Concat(b, []byte{77}))
	if got := Get(r); told(got) != told(e) || r.Err() != api.OK || r.Left() != 1 || r.Byte() != 77 {
		t.Errorf("Get of %v: %.99q, %d, left %d", b, told(got), r.Err(), r.Left())
	}
	if got, errno := Decode(b); told(got) != told(e) || errno != api.OK {
		t.Errorf("Decode of %v: %.99q, %d", b, told(got), errno)
	}
	same(t, b)
}

// P16.1, P16.3 and P16.4: events that may be, at the edges of all their parts, are written and read.
func TestGood(t *testing.T) {
	for _, e := range good() {
		if !mayBe(e) {
			t.Fatalf("%q may not be", told(e))
		}
		isForm(t, e, eventBytes(e))
		b := eventBytes(e)
		got := written(func(w *pack.Writer) { w.Text("ab"); Put(w, e); Put(w, e); w.Byte(7) })
		if want := slices.Concat([]byte{1, 2, 'a', 'b'}, b, b, []byte{7}); !bytes.Equal(got, want) {
			t.Errorf("Put of %q behind others: %v, want %v", told(e), got, want)
		}
	}
}

// P16.1 and P16.3: all pairs of the edges of two parts of an event each.
func TestGoodEdges(t *testing.T) {
	cids := []uint64{least, least + 1, 1<<49 - 1, 1<<49 + 1, 1<<56 - 1, 1<<56 + 1, 1<<63 - 1, 1<<63 + 1, huge - 1, huge}
	texts := []string{"", " ", "~", "a", "ab", long(59), long(60), strings.Repeat("~", 60)}
	kills := [][]api.Dot{nil, dots(1, 2), dots(1, 2, 1, 3), dots(last, most), row(300, 1, 255), row(300, 1, 256)}
	for _, d := range dots(1, 1, 1, most, 255, 255, 256, 256, last, 1, last, most-1) {
		for _, cid := range cids {
			for _, l := range kills {
				isForm(t, api.Event{Dot: d, Kind: 2, Cid: cid, Kills: l}, eventBytes(api.Event{Dot: d, Kind: 2, Cid: cid, Kills: l}))
			}
			for i, s := range texts {
				e := api.Event{Dot: d, Kind: 1, Cid: cid, Field: uint8(1 + i%5), Text: s, Kills: kills[i%6]}
				isForm(t, e, eventBytes(e))
			}
		}
	}
	for f := uint8(1); f <= 5; f++ {
		for n := range 61 {
			for c := byte(32); c < 127; c += 47 {
				e := api.Event{Dot: of(3, 4), Kind: 1, Cid: least, Field: f, Text: strings.Repeat(string(rune(c)), n), Kills: kills[n%6]}
				isForm(t, e, eventBytes(e))
			}
		}
	}
	for n := range 257 {
		isForm(t, edit(of(3, 4), row(5, 1, n)...), eventBytes(edit(of(3, 4), row(5, 1, n)...)))
	}
}

// P16.1 and P16.3: of an event that may not be, each for one cause: Put writes it as it stands, of its Kills those that may be, in order; Encode is ErrArg; and its bytes are none.
func TestFaults(t *testing.T) {
	for _, x := range faults() {
		if mayBe(x.e) {
			t.Fatalf("%.99q may be", told(x.e))
		}
		if b, errno := Encode(x.e); len(b) != 0 || errno != api.ErrArg {
			t.Errorf("Encode of %.99q: %v, %d, want ErrArg", told(x.e), b, errno)
		}
		b := put(x.e)
		want := eventBytes(with(x.e, func(e *api.Event) { e.Kills = rising(e.Kills) }))
		if !bytes.Equal(b, want) {
			t.Errorf("Put of %.99q: %.200v, want %.200v", told(x.e), b, want)
		}
		refused(t, eventBytes(x.e), x.want)
		same(t, b)
	}
}

// P16.1 and P16.3: very many Kills, whose number has the low bits of one that is allowed.
func TestManyKills(t *testing.T) {
	for _, n := range []int{65536, 65537, 65792, 65793, 1 << 18} {
		for _, e := range []api.Event{edit(of(9, 9), row(1, 1, n)...), gone(of(9, 9), row(1, 1, n)...)} {
			b := eventBytes(e)
			if got := put(e); !bytes.Equal(got, b) {
				t.Errorf("Put of an event with %d Kills", n)
			}
			if got, errno := Encode(e); len(got) != 0 || errno != api.ErrArg {
				t.Errorf("Encode of an event with %d Kills: %d bytes, %d", n, len(got), errno)
			}
			refused(t, b, api.ErrLong)
		}
	}
}

// P16.1 and P16.4: Kills that fall, come twice or may not be are written as the list of dots in order, and so the event has one form.
func TestPutKills(t *testing.T) {
	list := []struct{ kills, want []api.Dot }{
		{dots(1, 2, 1, 1), dots(1, 1, 1, 2)},
		{dots(3, 1, 2, 1, 1, 1), dots(1, 1, 2, 1, 3, 1)},
		{dots(1, 1, 1, 1), dots(1, 1)},
		{dots(1, 2, 1, 1, 1, 2, 1, 1), dots(1, 1, 1, 2)},
		{dots(0, 1), nil},
		{dots(0, 0, 1, 1, 1, 0), dots(1, 1)},
		{dots(1, above, 1, 3, 1, huge, 1, 2), dots(1, 2, 1, 3)},
		{aid.Never(), nil},
		{slices.Concat(row(1, 1, 256), row(1, 1, 256)), row(1, 1, 256)},
		{slices.Concat(aid.Never(), row(1, 0, 257)), row(1, 1, 256)},
	}
	for _, x := range list {
		for _, make := range []func(d api.Dot, kills ...api.Dot) api.Event{edit, gone} {
			e, want := make(of(9, 9), x.kills...), make(of(9, 9), x.want...)
			b := put(e)
			if !bytes.Equal(b, eventBytes(want)) {
				t.Errorf("Put of %.99q: %.200v, want %.200v", told(e), b, eventBytes(want))
			}
			if got, errno := Decode(b); told(got) != told(want) || errno != api.OK {
				t.Errorf("Decode of %.200v: %.99q, %d, want %.99q", b, told(got), errno, told(want))
			}
			if b, errno := Encode(e); len(b) != 0 || errno != api.ErrArg {
				t.Errorf("Encode of %.99q: %v, %d, want ErrArg", told(e), b, errno)
			}
		}
	}
}

// P16.1: all lists of up to four Kills out of a few, with the event's own dot among them.
func TestAllShortKills(t *testing.T) {
	few := dots(1, 1, 1, 2, 2, 1, 2, 2, 1, 0, 1, above, 0, 1)
	aid.Lists(few, 4, func(l []api.Dot) {
		for _, e := range []api.Event{edit(of(2, 1), l...), gone(of(2, 1), l...)} {
			want := eventBytes(with(e, func(e *api.Event) { e.Kills = rising(l) }))
			if got := put(e); !bytes.Equal(got, want) {
				t.Fatalf("Put of %q: %v, want %v", told(e), got, want)
			}
			b, errno := Encode(e)
			if mayBe(e) && (!bytes.Equal(b, want) || errno != api.OK) || !mayBe(e) && (len(b) != 0 || errno != api.ErrArg) {
				t.Fatalf("Encode of %q: %v, %d", told(e), b, errno)
			}
			same(t, want)
			same(t, eventBytes(e))
		}
	})
}

// P16.1 and P16.3: bytes of all mixtures of a few parts, of those that may be, those that may not, and those that are broken.
func TestAllMixtures(t *testing.T) {
	some := [][]byte{dotBytes(of(1, 1)), dotBytes(of(2, 5)), nums(0, 1), nums(1, 0), nums(last+1, 1), nums(1, above), {1, 1, 9}}
	kinds := [][]byte{{0}, {1}, {2}, {3}}
	cids := [][]byte{nums(least), nums(huge), nums(0), nums(1), nums(1 << 48), {9}, {2, 0, 1}}
	fields := [][]byte{{0}, {1}, {5}, {6}}
	texts := [][]byte{nums(0), {1, 1, 'a'}, {1, 1, 31}, slices.Concat(nums(60), []byte(long(60))), slices.Concat(nums(61), []byte(long(61))), nums(61), nums(2), {1, 0}}
	kills := [][]byte{nums(0), listBytes(dots(1, 2)), listBytes(dots(1, 2, 1, 3)), listBytes(dots(1, 2, 1, 2)), listBytes(dots(1, 1)), listBytes(dots(2, 5)),
		listBytes(dots(0, 1)), nums(257), nums(1), nums(1, last+1), {}}
	may := 0
	for _, a := range some {
		for _, b := range kinds {
			for _, c := range cids {
				for _, d := range fields {
					for _, s := range texts {
						for _, l := range kills {
							x := slices.Concat(a, b, c, d, s, l)
							same(t, x)
							if _, errno := Decode(x); errno == api.OK {
								may++
							}
						}
					}
				}
			}
		}
	}
	// Of two dots and two contacts: edits of two fields and of three texts, and deletions; 1.1 kills four lists of the Kills, 2.5 as well.
	if want := 2 * 2 * (2*3 + 1) * 4; may != want {
		t.Errorf("%d mixtures are events, want %d", may, want)
	}
}

// P16.1 and P16.3: bytes that end at each place, and a byte more.
func TestEndsEarly(t *testing.T) {
	for _, e := range good() {
		b := eventBytes(e)
		for i := range b {
			refused(t, b[:i], api.ErrShort)
		}
		for _, c := range []byte{0, 1, 9, 255} {
			if got, errno := Decode(slices.Concat(b, []byte{c})); told(got) != told(api.Event{}) || errno != api.ErrForm {
				t.Errorf("Decode of %.99q and %d: %.99q, %d, want ErrForm", told(e), c, told(got), errno)
			}
		}
		if got, errno := Decode(slices.Concat(b, b)); told(got) != told(api.Event{}) || errno != api.ErrForm {
			t.Errorf("Decode of %.99q twice: %.99q, %d, want ErrForm", told(e), told(got), errno)
		}
	}
	refused(t, nil, api.ErrShort)
	refused(t, []byte{}, api.ErrShort)
}

// P16.1 and P16.3: which error comes first: of the parts as they are read, and behind all of these of the event.
func TestErrorsInOrder(t *testing.T) {
	dot, cid := nums(1, 1), nums(least)
	list := []struct {
		b    []byte
		want api.Errno
	}{
		{nums(last + 1), api.ErrForm},
		{nums(0), api.ErrShort},
		{nums(0, 1), api.ErrForm},
		{slices.Concat(nums(0, 1), []byte{1}, cid, []byte{1}, nums(61)), api.ErrForm},
		{dot, api.ErrShort},
		{slices.Concat(dot, []byte{3}), api.ErrShort},
		{slices.Concat(dot, []byte{3, 9}), api.ErrForm},
		{slices.Concat(dot, []byte{3, 2, 1}), api.ErrShort},
		{slices.Concat(dot, []byte{3, 2, 0}), api.ErrForm},
		{slices.Concat(dot, []byte{3, 0}), api.ErrShort},
		{slices.Concat(dot, []byte{1}, nums(5), []byte{1}), api.ErrShort},
		{slices.Concat(dot, []byte{1}, cid, []byte{6}), api.ErrShort},
		{slices.Concat(dot, []byte{3, 0, 9}, nums(61)), api.ErrLong},
		{slices.Concat(dot, []byte{3, 0, 9}, nums(huge)), api.ErrLong},
		{slices.Concat(dot, []byte{3, 0, 9}, nums(60), []byte(long(59))), api.ErrShort},
		{slices.Concat(dot, []byte{3, 0, 9, 9}), api.ErrForm},
		{slices.Concat(dot, []byte{3, 0, 9}, nums(1), []byte{31}), api.ErrShort},
		{slices.Concat(dot, []byte{3, 0, 9}, nums(1), []byte{31}, nums(257)), api.ErrLong},
		{slices.Concat(dot, []byte{3, 0, 9}, nums(1), []byte{31}, nums(huge)), api.ErrLong},
		{slices.Concat(dot, []byte{3, 0, 9}, nums(1), []byte{31}, nums(1)), api.ErrShort},
		{slices.Concat(dot, []byte{3, 0, 9}, nums(1), []byte{31}, nums(2, 1, 2)), api.ErrShort},
		{slices.Concat(dot, []byte{3, 0, 9}, nums(1), []byte{31}, nums(2, 1, 2, 1, 2)), api.ErrForm},
		{slices.Concat(dot, []byte{3, 0, 9}, nums(1), []byte{31}, nums(2, 0, 1)), api.ErrForm},
		{slices.Concat(dot, []byte{3, 0, 9}, nums(1), []byte{31}, nums(0)), api.ErrForm},
		{slices.Concat(dot, []byte{2}, cid, []byte{0}, nums(0), nums(1, 1, 1)), api.ErrForm},
		{slices.Concat(dot, []byte{2}, cid, []byte{0}, nums(0), nums(2, 1, 1)), api.ErrShort},
		{slices.Concat(dot, []byte{2}, cid, []byte{0}, nums(0), nums(2, 1, 1, 1, 1)), api.ErrForm},
		{slices.Concat(dot, []byte{2}, cid, []byte{0}, nums(0), nums(257, 1, 1)), api.ErrLong},
	}
	for _, x := range list {
		refused(t, x.b, x.want)
	}
}

// P16.1: how long a text may be that is read, also where so many bytes stand there, and where they don't.
func TestTextLengths(t *testing.T) {
	for _, n := range []int{0, 1, 58, 59, 60, 61, 62, 119, 120, 121, 255, 256, 257, 316, 65535, 65536, 65596} {
		for _, kind := range []byte{1, 2} {
			head := slices.Concat(nums(3, 4), []byte{kind}, nums(least), []byte{2 - kind}, nums(uint64(n)))
			b := slices.Concat(head, []byte(long(n)), nums(0))
			switch {
			case n > 60:
				refused(t, b, api.ErrLong)
				refused(t, head, api.ErrLong)
			case kind == 1 || n == 0:
				e := api.Event{Dot: of(3, 4), Kind: kind, Cid: least, Field: 2 - kind, Text: long(n)}
				isForm(t, e, b)
			default:
				refused(t, b, api.ErrForm)
			}
		}
	}
	for _, n := range []uint64{1 << 31, 1 << 32, 1<<32 + 1, 1<<63 - 1, 1 << 63, 1<<63 + 60, huge} {
		refused(t, slices.Concat(nums(3, 4), []byte{1}, nums(least), []byte{1}, nums(n), []byte(long(60)), nums(0)), api.ErrLong)
	}
}

// P16.1: a Text that may not be, each byte at each of some places of texts of some lengths.
func TestTextBytes(t *testing.T) {
	for _, n := range []int{1, 2, 30, 60} {
		for _, at := range []int{0, 1, n / 2, n - 1} {
			for c := range 256 {
				s := []byte(long(n))
				s[min(at, n-1)] = byte(c)
				e := edit(of(3, 4), of(1, 1))
				e.Text = string(s)
				if c >= 32 && c <= 126 {
					isForm(t, e, eventBytes(e))
				} else {
					refused(t, eventBytes(e), api.ErrForm)
				}
			}
		}
	}
}

// P16.1: each Kind with each Field, with a text and without.
func TestKindsAndFields(t *testing.T) {
	for kind := range 256 {
		for f := range 256 {
			for _, s := range []string{"", "a"} {
				e := api.Event{Dot: of(3, 4), Kind: uint8(kind), Cid: least, Field: uint8(f), Text: s}
				b := put(e)
				if !bytes.Equal(b, eventBytes(e)) {
					t.Fatalf("Put of %q: %v", told(e), b)
				}
				got, errno := Decode(b)
				if kind == 1 && f >= 1 && f <= 5 || kind == 2 && f == 0 && s == "" {
					if told(got) != told(e) || errno != api.OK {
						t.Fatalf("Decode of %v: %q, %d", b, told(got), errno)
					}
				} else if told(got) != told(api.Event{}) || errno != api.ErrForm {
					t.Fatalf("Decode of %v: %q, %d, want ErrForm", b, told(got), errno)
				}
			}
		}
	}
}

// P16.1: each single fault among Kills of many lengths.
func TestKillsFaultAtEachPlace(t *testing.T) {
	for _, n := range []int{1, 2, 3, 4, 7, 16, 255, 256} {
		for i := range n {
			for _, d := range slices.Concat(dots(9, 9, 0, uint64(i)+1, 5, 0, 5, above, 6, huge), row(5, uint64(i), min(i, 1))) {
				kills := row(5, 1, n)
				kills[i] = d
				if d == of(9, 9) {
					// What rises behind the event's own dot is of devices beyond it.
					copy(kills[i+1:], row(10, 1, n-i-1))
				}
				refused(t, eventBytes(edit(of(9, 9), kills...)), api.ErrForm)
			}
		}
	}
}

// P16.2: nothing, one event, events that rise, that fall and that come twice, written as they stand.
func TestPutAll(t *testing.T) {
	g := good()
	a, b, c := g[0], g[4], g[6]
	lists := [][]api.Event{nil, {}, {a}, {c}, {a, b}, {b, a}, {a, a}, {a, b, c}, {c, b, a}, {a, c, b}, {b, a, b}, {c, c, c}, g, {{}}, {{}, {}}, {a, {}, c}}
	for _, l := range lists {
		want := nums(uint64(len(l)))
		for _, e := range l {
			want = append(want, eventBytes(e)...)
		}
		if got := putAll(l); !bytes.Equal(got, want) {
			t.Errorf("PutAll of %.99q: %v, want %v", toldAll(l), got, want)
		}
		got := written(func(w *pack.Writer) { w.Byte(9); PutAll(w, l); PutAll(w, l) })
		if !bytes.Equal(got, slices.Concat([]byte{9}, want, want)) {
			t.Errorf("PutAll of %.99q behind others: %v", toldAll(l), got)
		}
	}
	if got := putAll([]api.Event{a, gone(of(1, 2), of(1, 1))}); !bytes.Equal(got, []byte{1, 2,
		1, 1, 1, 1, 1, 7, 1, 0, 0, 0, 0, 0, 1, 1, 0, 0,
		1, 1, 1, 2, 2, 7, 1, 0, 0, 0, 0, 0, 1, 0, 0, 1, 1, 1, 1, 1, 1}) {
		t.Errorf("PutAll: %v", got)
	}
}

// P16.2: Kills are written in order within a list, too, and the events stay where they stand.
func TestPutAllKills(t *testing.T) {
	l := []api.Event{edit(of(3, 1), dots(1, 2, 1, 1)...), gone(of(2, 1), dots(1, 1, 1, 1, 0, 1)...)}
	want := allBytes([]api.Event{edit(of(3, 1), dots(1, 1, 1, 2)...), gone(of(2, 1), dots(1, 1)...)})
	if got := putAll(l); !bytes.Equal(got, want) {
		t.Errorf("PutAll: %v, want %v", got, want)
	}
}

// P16.2: how many there may be: below 0 as 0, just so many, one less, one more, and very great.
func TestGetAllMost(t *testing.T) {
	for n := range len(good()) + 1 {
		l := good()[:n]
		b := slices.Concat(allBytes(l), []byte{77})
		for _, most := range []int{math.MinInt, math.MinInt + 1, -n - 1, -n, -1, 0, 1, n - 2, n - 1, n, n + 1, 2*n + 1, 4096, 1 << 32, math.MaxInt - 1, math.MaxInt} {
			if n > max(most, 0) {
				refusedAll(t, b, most, api.ErrLong)
				continue
			}
			r := pack.New(b)
			got := GetAll(r, most)
			if toldAll(got) != toldAll(l) || r.Err() != api.OK || r.Left() != 1 || r.Byte() != 77 {
				t.Errorf("%d events with most %d: %.99q, %d", n, most, toldAll(got), r.Err())
			}
			sameAll(t, b, most)
		}
	}
}

// P16.2: a count far above what stands there is too long, or the bytes are too short; that is asked ahead of the events.
func TestGetAllCountAbove(t *testing.T) {
	g := good()
	bodies := []struct {
		b    []byte
		want api.Errno
	}{
		{nil, api.ErrShort},
		{eventBytes(g[0]), api.ErrShort},
		{slices.Concat(eventBytes(g[0]), eventBytes(g[1])), api.ErrShort},
		{slices.Concat(eventBytes(g[0]), eventBytes(g[1])[:5]), api.ErrShort},
		{slices.Concat(eventBytes(g[1]), eventBytes(g[0])), api.ErrForm},
		{eventBytes(edit(of(0, 1))), api.ErrForm},
		{[]byte{9}, api.ErrForm},
	}
	for _, n := range []uint64{3, 255, 4097, 65536, 1 << 31, 1 << 32, 1<<63 - 1, 1 << 63, 1<<63 + 1, huge - 1, huge} {
		for _, x := range bodies {
			b := slices.Concat(nums(n), x.b)
			for _, most := range []int{math.MinInt, -1, 0, 1, 2, 254, 4096, 65535, 1<<31 - 1, 1 << 31, math.MaxInt - 1, math.MaxInt} {
				if most < 0 || n > uint64(most) {
					refusedAll(t, b, most, api.ErrLong)
				} else {
					refusedAll(t, b, most, x.want)
				}
			}
		}
	}
	for _, b := range [][]byte{nil, {1}, {2, 1}} {
		refusedAll(t, b, math.MaxInt, api.ErrShort)
		refusedAll(t, b, -1, api.ErrShort)
	}
	for _, b := range [][]byte{{9}, {1, 0}, {2, 0, 1}} {
		refusedAll(t, b, math.MaxInt, api.ErrForm)
		refusedAll(t, b, -1, api.ErrForm)
	}
}

// P16.2: no room is made for what a count tells, but for what stands there.
func TestCountMakesNoRoom(t *testing.T) {
	const count, room = 1 << 22, 1 << 19
	b := slices.Concat(nums(count), eventBytes(good()[0]))
	var ahead, behind runtime.MemStats
	runtime.ReadMemStats(&ahead)
	GetAll(pack.New(b), math.MaxInt)
	runtime.ReadMemStats(&behind)
	if used := behind.TotalAlloc - ahead.TotalAlloc; used > room {
		t.Errorf("%d bytes are used", used)
	}
}

// P16.2: all lists of up to four events out of a few: those that rise are read, all others are refused.
func TestAllShortLists(t *testing.T) {
	few := []api.Event{edit(of(1, 1)), gone(of(1, 2), of(1, 1)), edit(of(2, 1), of(1, 1)), gone(of(2, 1)), edit(of(256, 1)), edit(of(1, 0)), with(edit(of(3, 1)), func(e *api.Event) { e.Field = 0 })}
	aid.Lists(few, 4, func(l []api.Event) {
		b := allBytes(l)
		if got := putAll(l); !bytes.Equal(got, b) {
			t.Fatalf("PutAll of %q: %v, want %v", toldAll(l), got, b)
		}
		rise := true
		for i, e := range l {
			rise = rise && mayBe(e) && (i == 0 || aid.Ahead(l[i-1].Dot, e.Dot))
		}
		r := pack.New(b)
		got := GetAll(r, len(l))
		if rise && (toldAll(got) != toldAll(l) || r.End() != api.OK) || !rise && (len(got) != 0 || r.Err() != api.ErrForm) {
			t.Fatalf("GetAll of %q: %q, %d", toldAll(l), toldAll(got), r.Err())
		}
		for _, most := range []int{-1, 0, 1, 2, 3, 4, 5} {
			sameAll(t, b, most)
		}
		sameAll(t, b[:len(b)-1], 4)
		sameAll(t, slices.Concat(b, []byte{1}), 4)
	})
}

// P16.2: events that fall, that come twice, or may not be, first, in the midst and last: their error, and nothing is told.
func TestGetAllFaultAtEachPlace(t *testing.T) {
	g := good()
	for _, n := range []int{1, 2, 3, 5} {
		for i := range n {
			list := faults()
			if i > 0 {
				p := g[i-1]
				list = append(list, fault{p, api.ErrForm}, fault{g[0], api.ErrForm}, fault{gone(p.Dot), api.ErrForm}, fault{edit(p.Dot, of(77, 7)), api.ErrForm})
			}
			for _, x := range list {
				l := slices.Clone(g[:n])
				l[i] = x.e
				b := allBytes(l)
				upto := len(b) - len(allBytes(l[i+1:])) + len(nums(uint64(n-i-1)))
				// What stands behind the fault plays no part.
				for _, b := range [][]byte{b, b[:upto], slices.Concat(b[:upto], []byte{9})} {
					r := pack.New(b)
					if got := GetAll(r, n); len(got) != 0 || r.Err() != x.want || r.Left() != 0 {
						t.Fatalf("GetAll with %.99q at %d of %d: %.99q, %d, want %d", told(x.e), i, n, toldAll(got), r.Err(), x.want)
					}
				}
			}
		}
	}
}

// P16.2: neighbours that are only a little behind one another, and those that are not, whatever else they have.
func TestGetAllNeighbours(t *testing.T) {
	list := dots(1, 1, 1, 2, 1, 255, 1, 256, 1, most-1, 1, most, 2, 1, 2, 2, 2, most, 255, 1, 256, 1, 257, 1, 512, most, last, 1, last, most-1, last, most)
	for i, a := range list {
		for j, b := range list {
			for _, l := range [][]api.Event{{edit(a), edit(b)}, {gone(a), edit(b, of(77, 7))}, {edit(a, of(77, 7), of(78, 8)), gone(b)}} {
				r := pack.New(allBytes(l))
				got := GetAll(r, 2)
				if i < j && (toldAll(got) != toldAll(l) || r.End() != api.OK) || i >= j && (len(got) != 0 || r.Err() != api.ErrForm) {
					t.Fatalf("GetAll of %q: %q, %d", toldAll(l), toldAll(got), r.Err())
				}
			}
		}
	}
}

// P16.2: which error comes first: each event is read whole, then its dot is held against the one ahead of it, and then the next one is read.
func TestGetAllErrorsInOrder(t *testing.T) {
	a, b := eventBytes(edit(of(1, 1))), eventBytes(edit(of(1, 2)))
	tooLong := eventBytes(with(edit(of(1, 1)), func(e *api.Event) { e.Text = long(61) }))
	list := []struct {
		b    []byte
		want api.Errno
	}{
		{slices.Concat(nums(3), b, a, tooLong), api.ErrForm},
		{slices.Concat(nums(3), b, a), api.ErrForm},
		{slices.Concat(nums(3), b, tooLong), api.ErrLong},
		{slices.Concat(nums(3), b, a[:len(a)-1]), api.ErrShort},
		{slices.Concat(nums(3), b, a[:4]), api.ErrShort},
		{slices.Concat(nums(3), b, b), api.ErrForm},
		{slices.Concat(nums(3), a, b), api.ErrShort},
		{slices.Concat(nums(3), a, b, nums(0, 1)), api.ErrForm},
		{slices.Concat(nums(3), tooLong, nums(0, 1)), api.ErrLong},
		{slices.Concat(nums(3), nums(0, 1), tooLong), api.ErrForm},
		{slices.Concat(nums(4), b, a, tooLong), api.ErrLong},
		{slices.Concat(nums(4), nums(0, 1)), api.ErrLong},
	}
	for _, x := range list {
		refusedAll(t, x.b, 3, x.want)
	}
}

// P16.2: bytes of a list that end at each place.
func TestGetAllEndsEarly(t *testing.T) {
	l := good()
	b := allBytes(l)
	for i := range b {
		r := pack.New(b[:i])
		if got := GetAll(r, len(l)); len(got) != 0 || r.Err() != api.ErrShort || r.Left() != 0 {
			t.Fatalf("GetAll of %d bytes: %.99q, %d, want ErrShort", i, toldAll(got), r.Err())
		}
	}
}

// P16.2: very many events, more than a count of one byte, and of two.
func TestManyEvents(t *testing.T) {
	for _, n := range []int{255, 256, 257, 4096, 65535, 65536, 65537, 100000} {
		l := make([]api.Event, n)
		for i := range l {
			d := of(uint16(1+i/1000), uint64(1+i%1000)*281474976)
			if l[i] = edit(d); i%2 == 1 {
				l[i] = gone(d, l[i-1].Dot)
			}
		}
		b := allBytes(l)
		if got := putAll(l); !bytes.Equal(got, b) {
			t.Fatalf("PutAll of %d events", n)
		}
		r := pack.New(b)
		if got := GetAll(r, n); toldAll(got) != toldAll(l) || r.End() != api.OK {
			t.Errorf("GetAll of %d events: %d, %d", n, len(got), r.Err())
		}
		r = pack.New(b)
		if got := GetAll(r, n-1); len(got) != 0 || r.Err() != api.ErrLong {
			t.Errorf("GetAll of %d events with one less: %d, %d", n, len(got), r.Err())
		}
		l[n-1].Dot = l[n-2].Dot
		r = pack.New(allBytes(l))
		if got := GetAll(r, n); len(got) != 0 || r.Err() != api.ErrForm {
			t.Errorf("GetAll of %d events, the last one's dot twice: %d, %d", n, len(got), r.Err())
		}
	}
}

// P16.1 to P16.4: drawn events: Put, Encode, Decode and Get against the chapter's words, and what is written is read.
func TestDrawnEvents(t *testing.T) {
	rnd := rand.New(rand.NewSource(161))
	may := 0
	for range 100000 {
		e := aid.AnyEvent(rnd)
		plain := with(e, func(e *api.Event) { e.Kills = rising(e.Kills) })
		want := eventBytes(plain)
		if got := put(e); !bytes.Equal(got, want) {
			t.Fatalf("Put of %q: %v, want %v", told(e), got, want)
		}
		b, errno := Encode(e)
		if mayBe(e) {
			may++
			if got, back := Decode(b); !bytes.Equal(b, want) || errno != api.OK || told(got) != told(e) || back != api.OK {
				t.Fatalf("%q is written as %v, %d, read as %q, %d", told(e), b, errno, told(got), back)
			}
		} else if len(b) != 0 || errno != api.ErrArg {
			t.Fatalf("Encode of %q: %v, %d, want ErrArg", told(e), b, errno)
		}
		same(t, want)
		same(t, eventBytes(e))
		same(t, want[:rnd.Intn(len(want))])
	}
	if may < 10000 || may > 90000 {
		t.Errorf("%d drawn events may be", may)
	}
}

// P16.2 and P16.4: drawn lists, in order or not.
func TestDrawnLists(t *testing.T) {
	rnd := rand.New(rand.NewSource(162))
	read := 0
	for range 50000 {
		l := aid.AnyEvents(rnd, rnd.Intn(5))
		if rnd.Intn(2) == 0 {
			l = slices.DeleteFunc(l, func(e api.Event) bool { return !mayBe(e) })
		}
		if rnd.Intn(2) == 0 {
			slices.SortFunc(l, func(a, b api.Event) int {
				if aid.Ahead(a.Dot, b.Dot) {
					return -1
				}
				return 1
			})
		}
		b := putAll(l)
		r := pack.New(b)
		got := GetAll(r, 4)
		if r.End() == api.OK {
			read++
			if again := putAll(got); !bytes.Equal(again, b) {
				t.Fatalf("%v is read as %q, which is written as %v", b, toldAll(got), again)
			}
		}
		sameAll(t, b, 4)
		sameAll(t, allBytes(l), rnd.Intn(6)-1)
	}
	if read < 5000 || read > 45000 {
		t.Errorf("%d drawn lists are read", read)
	}
}

// P16.4: events that are all unlike, of which those that may be have unlike bytes.
func TestUnlikeEvents(t *testing.T) {
	seen := map[string]string{}
	for _, e := range slices.Concat(aid.Unlike(), good()) {
		b, errno := Encode(e)
		if !mayBe(e) {
			if len(b) != 0 || errno != api.ErrArg {
				t.Errorf("Encode of %.99q: %d bytes, %d, want ErrArg", told(e), len(b), errno)
			}
			same(t, eventBytes(e))
			continue
		}
		if was, there := seen[string(b)]; there && was != told(e) {
			t.Errorf("%.99q and %.99q have one form", was, told(e))
		}
		seen[string(b)] = told(e)
		isForm(t, e, eventBytes(e))
	}
	if len(seen) < 30 {
		t.Errorf("only %d events may be", len(seen))
	}
}

// P16.4: bytes of an event changed in one place, with one left out or one put in, are another event or none.
func TestChangedInOnePlace(t *testing.T) {
	list := []api.Event{edit(of(2, 5)), gone(of(2, 5)), edit(of(256, 258), dots(1, 1, 1, 2)...), gone(of(1, 2), dots(1, 1, 1, 256, 2, 2)...),
		{Dot: of(last, most), Kind: 1, Cid: huge, Field: 5, Text: " ~", Kills: dots(1, most)}}
	for _, e := range list {
		b := eventBytes(e)
		for i := range b {
			for v := range 256 {
				if byte(v) == b[i] {
					continue
				}
				x := slices.Clone(b)
				x[i] = byte(v)
				another(t, e, x)
			}
			if x := slices.Delete(slices.Clone(b), i, i+1); !bytes.Equal(x, b) {
				another(t, e, x)
			}
		}
		for i := range len(b) + 1 {
			for v := range 256 {
				another(t, e, slices.Insert(slices.Clone(b), i, byte(v)))
			}
		}
	}
	for _, e := range good() {
		b := eventBytes(e)
		for i := range b {
			for bit := range 8 {
				x := slices.Clone(b)
				x[i] ^= 1 << bit
				another(t, e, x)
			}
		}
	}
}

// another asks that bytes are not read as an event, but as another one that has these bytes, or as none.
func another(t *testing.T, e api.Event, b []byte) {
	t.Helper()
	got, errno := Decode(b)
	if errno == api.OK && told(got) == told(e) {
		t.Fatalf("%.200v is read as %.99q, too", b, told(e))
	}
	if x, back := Encode(got); errno == api.OK && (back != api.OK || !bytes.Equal(x, b)) {
		t.Fatalf("%.200v is read as %.99q, which is written otherwise", b, told(got))
	}
	same(t, b)
}

// P16.4: what is read as an event, or as a list, has been written so: bytes of events with a few turned.
func TestReadIsWritten(t *testing.T) {
	rnd := rand.New(rand.NewSource(163))
	read := 0
	for range 200000 {
		e := aid.AnyEvent(rnd)
		b := eventBytes(e)
		for range 1 + rnd.Intn(3) {
			b[rnd.Intn(len(b))] = byte(rnd.Intn(1 << (1 + rnd.Intn(8))))
		}
		if got, errno := Decode(b); errno == api.OK {
			read++
			if x, back := Encode(got); !mayBe(got) || back != api.OK || !bytes.Equal(x, b) {
				t.Fatalf("%v is read as %q, which is written as %v, %d", b, told(got), x, back)
			}
		}
		same(t, b)
		sameAll(t, slices.Concat(nums(uint64(rnd.Intn(3))), b), 2)
	}
	if read < 1000 {
		t.Errorf("only %d were events", read)
	}
}

// P16.4: several things written one behind another are read so.
func TestMixture(t *testing.T) {
	list := good()
	one := func(w *pack.Writer, g aid.Chance) func(r *pack.Reader) bool {
		e := list[g.Intn(len(list))]
		Put(w, e)
		return func(r *pack.Reader) bool { return told(Get(r)) == told(e) }
	}
	some := func(w *pack.Writer, g aid.Chance) func(r *pack.Reader) bool {
		at := g.Intn(len(list))
		l := list[at : at+g.Intn(len(list)-at)]
		PutAll(w, l)
		return func(r *pack.Reader) bool { return toldAll(GetAll(r, len(l))) == toldAll(l) }
	}
	if why := coded.InTurn(rand.New(rand.NewSource(164)), 1000, one, some); why != "" {
		t.Error(why)
	}
}

// P16.1 and P16.2: into a writer that is nil nothing is written; of a reader that is nil nothing is read.
func TestNil(t *testing.T) {
	for _, e := range good() {
		Put(nil, e)
	}
	Put(nil, api.Event{})
	PutAll(nil, good())
	PutAll(nil, nil)
	if e := Get(nil); told(e) != told(api.Event{}) {
		t.Errorf("Get of nil: %q", told(e))
	}
	for _, most := range []int{math.MinInt, 0, 5, math.MaxInt} {
		if l := GetAll(nil, most); len(l) != 0 {
			t.Errorf("GetAll of nil: %q", toldAll(l))
		}
	}
}

// P16.1 and P16.2: of a plain reader, which has no bytes.
func TestPlainReader(t *testing.T) {
	var a, b pack.Reader
	if e := Get(&a); told(e) != told(api.Event{}) || a.Err() != api.ErrShort {
		t.Errorf("Get: %q, %d", told(e), a.Err())
	}
	if l := GetAll(&b, 5); len(l) != 0 || b.Err() != api.ErrShort {
		t.Errorf("GetAll: %q, %d", toldAll(l), b.Err())
	}
}

// P16.1 and P16.2: a reader that has an error reads nothing, and its error stays.
func TestReaderWithError(t *testing.T) {
	g := good()
	bodies := [][]byte{nil, eventBytes(g[0]), allBytes(g[:3]), allBytes(nil), eventBytes(edit(of(0, 1))), allBytes([]api.Event{g[1], g[0]}), nums(99), {9}}
	for n := 1; n < api.Errors; n++ {
		errno := api.Errno(n)
		for _, body := range bodies {
			r := pack.New(body)
			r.Fail(errno)
			for range 2 {
				if e := Get(r); told(e) != told(api.Event{}) || r.Err() != errno {
					t.Errorf("error %d, Get of %v: %q, %d", n, body, told(e), r.Err())
				}
				for _, most := range []int{-1, 0, 5} {
					if l := GetAll(r, most); len(l) != 0 || r.Err() != errno {
						t.Errorf("error %d, GetAll of %v: %q, %d", n, body, toldAll(l), r.Err())
					}
				}
			}
			if r.End() != errno || r.Left() != 0 {
				t.Errorf("error %d of %v: %d", n, body, r.Err())
			}
		}
	}
}

// P16.1 and P16.2: behind an error nothing more is read, whatever stands there.
func TestNothingBehindError(t *testing.T) {
	g := good()
	tail := slices.Concat(eventBytes(g[0]), allBytes(g[:2]))
	heads := []struct {
		b    []byte
		want api.Errno
	}{
		{eventBytes(edit(of(1, 1), of(1, 1))), api.ErrForm},
		{eventBytes(with(edit(of(1, 1)), func(e *api.Event) { e.Text = long(61) })), api.ErrLong},
	}
	for _, x := range heads {
		r := pack.New(slices.Concat(x.b, tail))
		if Get(r); r.Err() != x.want || told(Get(r)) != told(api.Event{}) || len(GetAll(r, 9)) != 0 || r.Err() != x.want {
			t.Errorf("behind an event: %d", r.Err())
		}
		r = pack.New(slices.Concat(nums(1), x.b, tail))
		if GetAll(r, 9); r.Err() != x.want || told(Get(r)) != told(api.Event{}) || len(GetAll(r, 9)) != 0 || r.Err() != x.want {
			t.Errorf("behind a list: %d", r.Err())
		}
	}
	r := pack.New(slices.Concat(allBytes(g[:2]), tail))
	if GetAll(r, 1); r.Err() != api.ErrLong || told(Get(r)) != told(api.Event{}) || len(GetAll(r, 9)) != 0 || r.Err() != api.ErrLong {
		t.Errorf("behind a list that is too long: %d", r.Err())
	}
}

// P16.1 to P16.3: what is then written into what came out is not seen anywhere else, nor what is written into the bytes that went in.
func TestOutSharesNothing(t *testing.T) {
	for _, e := range good() {
		b := eventBytes(e)
		kept := slices.Clone(b)
		r := pack.New(slices.Concat(b, b))
		one, two := Get(r), Get(r)
		three, _ := Decode(b)
		four, _ := Decode(b)
		for i, x := range []*api.Event{&one, &two, &three, &four} {
			if told(*x) != told(e) {
				t.Fatalf("event %d was turned into %q", i, told(*x))
			}
			spoil(x)
		}
		if !bytes.Equal(b, kept) {
			t.Errorf("the bytes were turned into %v", b)
		}
		five, _ := Decode(b)
		clear(b)
		if told(five) != told(e) {
			t.Errorf("it goes with the bytes: %q", told(five))
		}
		out, _ := Encode(e)
		clear(out[:cap(out)])
		if told(five) != told(e) || !bytes.Equal(put(e), kept) {
			t.Errorf("what Encode answered is seen in %q", told(e))
		}
	}
}

// P16.2: lists that were read do not share anything with one another, nor do their events, nor the reader.
func TestListsShareNothing(t *testing.T) {
	l := good()
	b := allBytes(l)
	r := pack.New(slices.Concat(b, b, b))
	one, two := GetAll(r, 12), GetAll(r, 12)
	spoilAll(one)
	for i := range two {
		for k := range two {
			if k >= i && told(two[k]) != told(l[k]) {
				t.Fatalf("event %d is seen in event %d: %q", i-1, k, told(two[k]))
			}
		}
		spoil(&two[i])
	}
	if three := GetAll(r, 12); toldAll(three) != toldAll(l) || r.End() != api.OK {
		t.Errorf("%q, %d", toldAll(three), r.Err())
	}
}

// P16.1 to P16.3: what went in is not turned, nor the room behind it; what is then written into it is not seen.
func TestInIsNotTurned(t *testing.T) {
	room := dots(2, 1, 0, 1, 1, 1, 2, 1, 5, 5, 4, 4)
	kept := slices.Clone(room)
	e := edit(of(9, 9))
	e.Kills = room[:4]
	f := gone(of(9, 8))
	f.Kills = room[2:4]
	list := []api.Event{e, f, edit(of(7, 7))}
	was := toldAll(list)
	var w pack.Writer
	Put(&w, e)
	PutAll(&w, list[:2])
	Encode(e)
	Encode(f)
	if toldAll(list) != was || !slices.Equal(room, kept) {
		t.Errorf("what went in was turned into %q, %v", toldAll(list), room)
	}
	bytesOf := eventBytes(edit(of(9, 9), dots(1, 1, 2, 1)...))
	want := slices.Concat(bytesOf, nums(2), bytesOf, eventBytes(gone(of(9, 8), dots(1, 1, 2, 1)...)))
	clear(room)
	clear(list)
	if !bytes.Equal(w.Bytes(), want) {
		t.Errorf("the bytes go with what went in: %v, want %v", w.Bytes(), want)
	}
}

// P16.3: bytes with room behind them are neither turned nor read on.
func TestDecodeRoom(t *testing.T) {
	b := eventBytes(gone(of(1, 2), of(1, 1)))
	room := slices.Concat(b, []byte{1, 2, 3})
	kept := slices.Clone(room)
	if e, errno := Decode(room[:len(b)]); told(e) != told(gone(of(1, 2), of(1, 1))) || errno != api.OK {
		t.Errorf("Decode: %q, %d", told(e), errno)
	}
	if e, errno := Decode(room); told(e) != told(api.Event{}) || errno != api.ErrForm {
		t.Errorf("Decode of more: %q, %d", told(e), errno)
	}
	if !bytes.Equal(room, kept) {
		t.Errorf("the room was turned into %v", room)
	}
}
