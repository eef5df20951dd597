package event

import (
	"math"
	"math/big"
	"math/rand"
	"slices"
	"strconv"
	"strings"
	"testing"

	"epitaph/aid"
	"epitaph/api"
)

const (
	most  = aid.Most
	least = aid.Least
)

// What stands in the tests in short.
var (
	at, row, edit, gone, long  = aid.Dot, aid.Row, aid.Edit, aid.Gone, aid.Long
	few, anyDot                = aid.Few, aid.AnyDot
	anyEvent, anyEvents, kinds = aid.AnyEvent, aid.AnyEvents, aid.Unlike
	mayText, mayBe             = aid.MayText, aid.EventMayBe
	written, writtenAll        = aid.ToldEvent, aid.ToldEvents
	again, againAll            = aid.Again, aid.AgainAll
	spoilDots, spoil, spoilAll = aid.SpoilDots, aid.Spoil, aid.SpoilAll
)

// whole is a dot as one number in whose order the dots stand, of as many bits as it takes, also of a dot that may not be.
func whole(d api.Dot) *big.Int {
	n := new(big.Int).Lsh(big.NewInt(int64(d.Dev)), 64)
	return n.Add(n, new(big.Int).SetUint64(d.N))
}

// wantGood holds Good against what was named, and against the slow telling.
func wantGood(t *testing.T, e api.Event, want bool) {
	t.Helper()
	if got := Good(e); got != want || mayBe(e) != want {
		t.Errorf("Good(%.200q) = %v, slowly told %v, want %v", written(e), got, mayBe(e), want)
	}
}

// P13.1: an event's dot may be, written out at both ends of both parts.
func TestGoodDot(t *testing.T) {
	for _, c := range []struct {
		dev  uint16
		n    uint64
		want bool
	}{
		{0, 0, false},
		{0, 1, false},
		{0, 281474976710655, false},
		{1, 0, false},
		{1, 1, true},
		{1, 2, true},
		{1, 281474976710654, true},
		{1, 281474976710655, true},
		{1, 281474976710656, false},
		{1, 281474976710657, false},
		{1, math.MaxUint64, false},
		{255, 7, true},
		{256, 7, true},
		{65534, 7, true},
		{65535, 0, false},
		{65535, 1, true},
		{65535, 281474976710655, true},
		{65535, 281474976710656, false},
		{65535, math.MaxUint64, false},
	} {
		d := at(c.dev, c.n)
		wantGood(t, edit(d), c.want)
		wantGood(t, gone(d), c.want)
		wantGood(t, edit(d, at(3, 3), at(7, 7)), c.want)
		wantGood(t, gone(d, at(3, 3), at(7, 7)), c.want)
		wantGood(t, edit(d, api.Dot{}), false)
		wantGood(t, gone(d, d), false)
	}
	for bit := range 64 {
		wantGood(t, edit(at(3, 1<<bit)), bit < 48)
		wantGood(t, gone(at(3, 1<<bit)), bit < 48)
		wantGood(t, edit(at(3, 1<<bit|1)), bit < 48)
		wantGood(t, gone(at(1<<(bit%16), 5)), true)
	}
}

// P13.1: Cid is the number of a dot that may be, written out at both ends of both parts.
func TestGoodCid(t *testing.T) {
	for _, c := range []struct {
		cid  uint64
		want bool
	}{
		{0, false},
		{1, false},
		{17, false},
		{281474976710655, false},
		{281474976710656, false},
		{281474976710657, true},
		{281474976710658, true},
		{1<<49 - 1, true},
		{1 << 49, false},
		{1<<49 + 1, true},
		{3<<48 + 17, true},
		{1<<63 - 1, true},
		{1 << 63, false},
		{1<<63 + 1, true},
		{65535<<48 - 1, true},
		{65535 << 48, false},
		{65535<<48 + 1, true},
		{math.MaxUint64 - 1, true},
		{math.MaxUint64, true},
	} {
		for _, e := range []api.Event{edit(at(2, 5)), gone(at(2, 5)), edit(at(1, 1), at(2, 2)), gone(at(65535, most), at(1, 1))} {
			e.Cid = c.cid
			wantGood(t, e, c.want)
		}
	}
	for bit := range 64 {
		for _, e := range []api.Event{edit(at(2, 5)), gone(at(2, 5))} {
			e.Cid = 1 << bit
			wantGood(t, e, false)
			e.Cid = 1<<bit | 1
			wantGood(t, e, bit >= 48)
			e.Cid = 1<<bit | 1<<48
			wantGood(t, e, bit < 48)
		}
	}
}

// P13.1: a contact's number may be the event's own dot, that of one behind it, and that of one that it kills.
func TestGoodCidFree(t *testing.T) {
	for _, cid := range []uint64{2<<48 + 5, 2<<48 + 6, 2<<48 + 4, 1<<48 + 1, 65535<<48 + 9} {
		for _, e := range []api.Event{edit(at(2, 5)), gone(at(2, 5)), edit(at(2, 5), at(1, 1), at(2, 4), at(2, 6)), gone(at(2, 5), at(1, 1), at(2, 4), at(2, 6))} {
			e.Cid = cid
			wantGood(t, e, true)
		}
	}
}

// P13.1: an edit and a deletion, and no other Kind.
func TestGoodKind(t *testing.T) {
	wantGood(t, api.Event{}, false)
	for kind := range 256 {
		for _, e := range []api.Event{edit(at(2, 5)), edit(at(2, 5), at(1, 1))} {
			e.Kind = uint8(kind)
			wantGood(t, e, kind == 1)
			e.Text = ""
			wantGood(t, e, kind == 1)
			e.Field = 0
			wantGood(t, e, kind == 2)
			e.Text = "a"
			wantGood(t, e, false)
		}
	}
	wantGood(t, api.Event{Dot: at(2, 5), Kind: api.EvEdit, Cid: least, Field: api.FiTown, Text: "Rome"}, true)
	wantGood(t, api.Event{Dot: at(2, 5), Kind: api.EvDelete, Cid: least}, true)
}

// P13.1: of an edit Field is a field; a deletion has none.
func TestGoodField(t *testing.T) {
	for f := range 256 {
		for _, s := range []string{"", "a", long(60)} {
			e, x := edit(at(2, 5), at(1, 1)), gone(at(2, 5), at(1, 1))
			e.Field, e.Text = uint8(f), s
			x.Field, x.Text = uint8(f), s
			wantGood(t, e, f >= 1 && f <= 5)
			wantGood(t, x, f == 0 && s == "")
		}
	}
	for _, f := range []uint8{api.FiName, api.FiPhone, api.FiMail, api.FiTown, api.FiNote} {
		wantGood(t, api.Event{Dot: at(1, 1), Kind: 1, Cid: least, Field: f}, true)
		wantGood(t, api.Event{Dot: at(1, 1), Kind: 2, Cid: least, Field: f}, false)
	}
}

// P13.1: of an edit Text may be a value, whatever the field; a deletion has none.
func TestGoodText(t *testing.T) {
	var texts []string
	for c := range 256 {
		by := string([]byte{byte(c)})
		texts = append(texts, by, by+"k", "k"+by, "k"+by+"k", long(59)+by, by+long(59), long(30)+by+long(29), by+long(60))
	}
	for _, n := range []int{0, 1, 2, 59, 60, 61, 62, 120, 255, 256, 257, 316, 65536, 65596, 1 << 20} {
		texts = append(texts, long(n), strings.Repeat(" ", n), strings.Repeat("~", n), strings.Repeat("é", n/2))
	}
	for _, s := range texts {
		for f := uint8(1); f <= 5; f++ {
			e := edit(at(2, 5))
			e.Field, e.Text = f, s
			wantGood(t, e, mayText(s))
		}
		e, x := edit(at(2, 5)), gone(at(2, 5))
		e.Field, e.Text, x.Text = 0, s, s
		wantGood(t, e, false)
		wantGood(t, x, s == "")
	}
}

// P13.1: MaxText and its neighbours, a byte 31 and a byte 127, and what a deletion may not have, written out.
func TestGoodTextKnown(t *testing.T) {
	full := strings.Repeat("x", api.MaxText)
	for _, c := range []struct {
		kind, field uint8
		s           string
		want        bool
	}{
		{1, 1, "", true}, {1, 1, "a", true}, {1, 1, " ", true}, {1, 5, "~", true}, {1, 3, "a\"b\\", true}, {1, 1, full, true}, {1, 1, full + "x", false}, {1, 5, full, true}, {1, 5, full + "x", false}, {1, 1, full[1:] + "\x1f", false}, {1, 1, full[1:] + "\x7f", false},
		{1, 1, "\x1f", false}, {1, 1, "a\x1f", false}, {1, 5, "\x1fa", false}, {1, 1, "\x7f", false}, {1, 5, "a\x7fb", false}, {1, 1, "\x00", false}, {1, 1, "\n", false}, {1, 1, "\x80", false}, {1, 1, "\xff", false}, {1, 1, "Zoë", false},
		{1, 0, "", false}, {1, 0, "a", false}, {1, 6, "", false}, {1, 6, "a", false}, {1, 255, "a", false},
		{2, 0, "", true}, {2, 1, "", false}, {2, 5, "", false}, {2, 6, "", false}, {2, 0, "a", false}, {2, 0, "\x1f", false}, {2, 0, "\x00", false}, {2, 0, full + "x", false}, {2, 1, "a", false}, {2, 6, "\x7f", false},
		{0, 1, "a", false}, {0, 0, "", false}, {3, 1, "a", false}, {3, 0, "", false},
	} {
		e := api.Event{Dot: at(1, 1), Kind: c.kind, Cid: least, Field: c.field, Text: c.s}
		wantGood(t, e, c.want)
		e.Kills = row(3, 4, 5)
		wantGood(t, e, c.want)
	}
}

// P13.1: which Kills an event 2.5 may have, written out.
func TestGoodKills(t *testing.T) {
	for _, c := range []struct {
		kills []api.Dot
		want  bool
	}{
		{nil, true},
		{[]api.Dot{}, true},
		{[]api.Dot{at(1, 1)}, true},
		{[]api.Dot{at(2, 4)}, true},
		{[]api.Dot{at(2, 6)}, true},
		{[]api.Dot{at(1, 5)}, true},
		{[]api.Dot{at(3, 5)}, true},
		{[]api.Dot{at(5, 2)}, true},
		{[]api.Dot{at(65535, most)}, true},
		{[]api.Dot{at(1, 4), at(1, 9)}, true},
		{[]api.Dot{at(1, 9), at(1, 4)}, false},
		{[]api.Dot{at(1, 9), at(2, 4)}, true},
		{[]api.Dot{at(2, 4), at(1, 9)}, false},
		{[]api.Dot{at(1, 4), at(1, 4)}, false},
		{[]api.Dot{at(1, 1), at(1, 2), at(1, 2)}, false},
		{[]api.Dot{at(1, 1), at(1, 1), at(1, 2)}, false},
		{[]api.Dot{at(1, 1), at(1, 2), at(1, 1)}, false},
		{[]api.Dot{at(1, 1), at(1, 3), at(1, 2)}, false},
		{[]api.Dot{at(1, 2), at(1, 1), at(1, 3)}, false},
		{[]api.Dot{at(3, 3), at(2, 2), at(1, 1)}, false},
		{[]api.Dot{at(1, 1), at(2, 1), at(2, 6), at(65535, 1)}, true},
		{[]api.Dot{at(1, most), at(2, 1), at(2, most), at(65535, most)}, true},
		{[]api.Dot{at(255, 1), at(256, 1), at(257, 1)}, true},
		{[]api.Dot{at(1, 255), at(1, 256), at(1, 1<<32-1), at(1, 1<<32)}, true},
		{[]api.Dot{at(1, 256), at(1, 255)}, false},
		{[]api.Dot{at(1, 1<<32), at(1, 1)}, false},
		{[]api.Dot{at(2, 5)}, false},
		{[]api.Dot{at(2, 5), at(2, 6)}, false},
		{[]api.Dot{at(2, 4), at(2, 5), at(2, 6)}, false},
		{[]api.Dot{at(2, 4), at(2, 6), at(2, 7)}, true},
		{[]api.Dot{at(1, 1), at(2, 5)}, false},
		{[]api.Dot{{}}, false},
		{[]api.Dot{at(0, 1)}, false},
		{[]api.Dot{at(1, 0)}, false},
		{[]api.Dot{at(1, most+1)}, false},
		{[]api.Dot{at(1, math.MaxUint64)}, false},
		{[]api.Dot{at(0, 1), at(1, 1)}, false},
		{[]api.Dot{{}, at(1, 1), at(1, 2)}, false},
		{[]api.Dot{at(1, 0), at(1, 1)}, false},
		{[]api.Dot{at(1, 1), at(3, 0)}, false},
		{[]api.Dot{at(1, 1), at(1, most+1)}, false},
		{[]api.Dot{at(1, 1), at(1, most+1), at(2, 1)}, false},
		{[]api.Dot{at(1, 1), at(2, 0), at(2, 1)}, false},
		{[]api.Dot{at(1, most), at(1, most+1)}, false},
		{row(1, 1, 255), true},
		{row(1, 1, 256), true},
		{row(1, 1, 257), false},
		{row(1, 1, 258), false},
		{row(3, 7, 256), true},
		{row(3, 7, 257), false},
		{row(65535, most-255, 256), true},
		{row(65535, most-254, 256), false},
		{row(1, 0, 256), false},
		{row(2, 6, 256), true},
		{row(2, 5, 256), false},
		{row(2, 4, 256), false},
		{row(1, 1, 512), false},
		{row(1, 1, 65536), false},
		{row(1, 1, 65537), false},
	} {
		wantGood(t, edit(at(2, 5), c.kills...), c.want)
		wantGood(t, gone(at(2, 5), c.kills...), c.want)
		bad := edit(at(2, 5), c.kills...)
		bad.Field = 0
		wantGood(t, bad, false)
		bad = gone(at(2, 5), c.kills...)
		bad.Cid = 5
		wantGood(t, bad, false)
	}
}

// P13.1: one fault at any place of lists of any length up to MaxKills is told.
func TestGoodKillsPlaces(t *testing.T) {
	for many := 1; many <= api.MaxKills; many++ {
		kills := make([]api.Dot, many)
		for i := range kills {
			kills[i] = at(uint16(1+i/9), uint64(10+3*i))
		}
		e := gone(at(77, 7), kills...)
		if !Good(e) {
			t.Fatalf("Good of %d Kills is false", many)
		}
		bad := func(why string, place int) {
			t.Helper()
			if Good(e) {
				t.Fatalf("Good of %d Kills with %s at %d is true", many, why, place)
			}
		}
		for place, kept := range kills {
			e.Dot = kept
			bad("the event's own dot", place)
			e.Dot = at(kept.Dev, kept.N+1)
			if !Good(e) {
				t.Fatalf("Good of %d Kills with nearly the event's own dot at %d is false", many, place)
			}
			e.Dot = at(77, 7)
			for _, d := range []api.Dot{at(0, kept.N), at(kept.Dev, 0), at(kept.Dev, most+1), at(kept.Dev, kept.N+1<<48), {}} {
				kills[place] = d
				bad("a dot that may not be", place)
			}
			kills[place] = kept
			if place > 0 {
				ahead := kills[place-1]
				kills[place] = ahead
				bad("the dot ahead of it", place)
				kills[place-1] = kept
				bad("the places changed with the one ahead of it", place)
				kills[place] = kept
				bad("the dot behind it", place-1)
				kills[place-1] = ahead
			}
			if place > 1 {
				kills[place] = kills[0]
				bad("the first dot", place)
				kills[place] = kept
			}
		}
		if !Good(e) {
			t.Fatalf("Good of %d Kills is false, with all as it was", many)
		}
	}
}

// P13.1: a dot that may not be, but rises, is told at the first place, at the last one and in the midst.
func TestGoodKillsRise(t *testing.T) {
	for many := 1; many <= api.MaxKills; many++ {
		inner := make([]api.Dot, many)
		for i := range inner {
			inner[i] = at(uint16(5+i), 5)
		}
		for place := range inner {
			for _, d := range []api.Dot{at(uint16(5+place), 0), at(uint16(5+place), most+1), at(uint16(5+place), math.MaxUint64)} {
				kills := slices.Clone(inner)
				kills[place] = d
				wantQuick(t, edit(at(3, 3), kills...), false, many, place)
			}
		}
		for _, d := range []api.Dot{{}, at(0, 1), at(0, most), at(0, math.MaxUint64)} {
			kills := slices.Clone(inner)
			kills[0] = d
			wantQuick(t, edit(at(3, 3), kills...), false, many, 0)
		}
		wantQuick(t, edit(at(3, 3), inner...), true, many, -1)
	}
}

// wantQuick holds Good against what was named alone, for lists that are many and long.
func wantQuick(t *testing.T, e api.Event, want bool, many, place int) {
	t.Helper()
	if Good(e) != want {
		t.Fatalf("Good of %d Kills, one at %d another one, is %v", many, place, !want)
	}
}

// P13.1: all lists of up to four Kills out of a few dots, with the event's own dot among them.
func TestGoodKillsAll(t *testing.T) {
	dots := []api.Dot{at(1, 1), at(1, 2), at(2, 1), at(2, 2), at(3, 1), at(1, 0), at(1, most+1), at(0, 1)}
	good := 0
	var lists func(kills []api.Dot, left int)
	lists = func(kills []api.Dot, left int) {
		for _, e := range []api.Event{edit(at(2, 1), kills...), gone(at(2, 1), kills...)} {
			want := mayBe(e)
			if want {
				good++
			}
			if Good(e) != want {
				t.Fatalf("Good(%q) = %v", written(e), !want)
			}
		}
		for _, d := range dots {
			if left > 0 {
				lists(append(slices.Clone(kills), d), left-1)
			}
		}
	}
	lists(nil, 4)
	// What of the four dots that may be killed stands there, in its one order.
	if good != 2*16 {
		t.Errorf("%d lists of Kills may be", good)
	}
}

// P13.1: Good of drawn events, held against the chapter's words.
func TestGoodAny(t *testing.T) {
	g := rand.New(rand.NewSource(131))
	good := 0
	for range 200000 {
		e := anyEvent(g)
		want := mayBe(e)
		if want {
			good++
		}
		if Good(e) != want {
			t.Fatalf("Good(%q) = %v", written(e), !want)
		}
	}
	if good < 20000 || good > 180000 {
		t.Errorf("%d drawn events may be", good)
	}
	for _, e := range kinds() {
		wantGood(t, e, mayBe(e))
	}
}

// P13.1, P13.2: of events that are all unlike each is the same as itself, whether its Kills are nil or empty, and as none else; unlike ones with one dot clash.
func TestSame(t *testing.T) {
	list := kinds()
	clashes := 0
	for i, a := range list {
		for j, b := range list {
			clash := i != j && whole(a.Dot).Cmp(whole(b.Dot)) == 0
			if clash {
				clashes++
			}
			for _, x := range []api.Event{a, again(a, false), again(a, true)} {
				for _, y := range []api.Event{b, again(b, false), again(b, true)} {
					if Same(x, y) != (i == j) {
						t.Fatalf("Same(%q, %q) = %v", written(x), written(y), i != j)
					}
					if Clashes(x, y) != clash {
						t.Fatalf("Clashes(%q, %q) = %v", written(x), written(y), !clash)
					}
				}
			}
		}
	}
	if clashes < len(list) || clashes > len(list)*len(list)-len(list) {
		t.Errorf("%d pairs of %d events clash", clashes, len(list))
	}
}

// unlike holds that two events are not the same, and that they clash if they have one dot.
func unlike(t *testing.T, a, b api.Event) {
	t.Helper()
	if Same(a, b) || Same(b, a) {
		t.Fatalf("Same(%q, %q) is true", written(a), written(b))
	}
	if clash := a.Dot.Dev == b.Dot.Dev && a.Dot.N == b.Dot.N; Clashes(a, b) != clash || Clashes(b, a) != clash {
		t.Fatalf("Clashes(%q, %q) is %v", written(a), written(b), !clash)
	}
}

// P13.1, P13.2: an event is not the same as what one bit of a number, or one byte of its text, makes of it, nor as one with a dot more or less among its Kills.
func TestSameTurned(t *testing.T) {
	for _, e := range kinds() {
		for bit := range 64 {
			other := again(e, false)
			other.Cid ^= 1 << bit
			unlike(t, e, other)
			other = again(e, false)
			other.Dot.N ^= 1 << bit
			unlike(t, e, other)
			other = again(e, true)
			other.Dot.Dev ^= 1 << (bit % 16)
			unlike(t, e, other)
			other = again(e, true)
			other.Kind ^= 1 << (bit % 8)
			unlike(t, e, other)
			other = again(e, true)
			other.Field ^= 1 << (bit % 8)
			unlike(t, e, other)
		}
		for place := range e.Text {
			other := again(e, false)
			other.Text = e.Text[:place] + "\x05" + e.Text[place+1:]
			unlike(t, e, other)
		}
		other := again(e, false)
		other.Text += "\x00"
		unlike(t, e, other)
		turnKills(t, e)
	}
}

// turnKills holds Same and Clashes where the Kills alone are unlike.
func turnKills(t *testing.T, e api.Event) {
	t.Helper()
	for _, d := range []api.Dot{{}, at(1, 1), at(65535, most)} {
		other := again(e, false)
		other.Kills = append(other.Kills, d)
		unlike(t, e, other)
		other.Kills = append([]api.Dot{d}, e.Kills...)
		unlike(t, e, other)
	}
	for place := range e.Kills {
		for _, bit := range []int{0, 1, 7, 8, 15, 16, 31, 32, 47, 48, 63} {
			other := again(e, false)
			other.Kills[place].N ^= 1 << bit
			unlike(t, e, other)
			other.Kills[place] = e.Kills[place]
			other.Kills[place].Dev ^= 1 << (bit % 16)
			unlike(t, e, other)
		}
		other := again(e, true)
		other.Kills = slices.Delete(other.Kills, place, place+1)
		unlike(t, e, other)
		if place > 0 && e.Kills[place] != e.Kills[place-1] {
			other = again(e, true)
			other.Kills[place], other.Kills[place-1] = other.Kills[place-1], other.Kills[place]
			unlike(t, e, other)
		}
	}
}

// P13.1, P13.2: Same and Clashes of drawn events, held against what they are written as.
func TestSameAny(t *testing.T) {
	g := rand.New(rand.NewSource(132))
	same, clashing := 0, 0
	for range 100000 {
		a, b := anyEvent(g), anyEvent(g)
		switch g.Intn(3) {
		case 0:
			b = again(a, g.Intn(2) == 0)
		case 1:
			b.Dot = a.Dot
		}
		want := written(a) == written(b)
		clash := !want && a.Dot.Dev == b.Dot.Dev && a.Dot.N == b.Dot.N
		if want {
			same++
		}
		if clash {
			clashing++
		}
		if Same(a, b) != want || Same(b, a) != want {
			t.Fatalf("Same(%q, %q) is not %v", written(a), written(b), want)
		}
		if Clashes(a, b) != clash || Clashes(b, a) != clash {
			t.Fatalf("Clashes(%q, %q) is not %v", written(a), written(b), clash)
		}
	}
	if same < 30000 || clashing < 30000 || same+clashing > 99000 {
		t.Errorf("of the drawn pairs %d are the same, %d clash", same, clashing)
	}
}

// P13.1: events that are unlike in one part alone, written out.
func TestSameKnown(t *testing.T) {
	e := api.Event{Dot: at(2, 5), Kind: 1, Cid: least, Field: 4, Text: "Rome", Kills: []api.Dot{at(1, 1), at(1, 2), at(3, 3)}}
	if !Same(e, e) || Clashes(e, e) || !Same(api.Event{}, api.Event{}) || Clashes(api.Event{}, api.Event{}) {
		t.Error("an event is not the same as itself")
	}
	for _, c := range []struct {
		what  func(e *api.Event)
		clash bool
	}{
		{func(e *api.Event) { e.Dot.Dev = 3 }, false},
		{func(e *api.Event) { e.Dot.N = 6 }, false},
		{func(e *api.Event) { e.Dot = at(5, 2) }, false},
		{func(e *api.Event) { e.Kind = 2 }, true},
		{func(e *api.Event) { e.Cid++ }, true},
		{func(e *api.Event) { e.Field = 5 }, true},
		{func(e *api.Event) { e.Text = "rome" }, true},
		{func(e *api.Event) { e.Text = "" }, true},
		{func(e *api.Event) { e.Kills = e.Kills[:2] }, true},
		{func(e *api.Event) { e.Kills = e.Kills[1:] }, true},
		{func(e *api.Event) { e.Kills = nil }, true},
		{func(e *api.Event) { e.Kills = []api.Dot{} }, true},
		{func(e *api.Event) { e.Kills = []api.Dot{at(1, 1), at(1, 2), at(3, 3), at(3, 4)} }, true},
		{func(e *api.Event) { e.Kills = []api.Dot{at(1, 1), at(1, 2), at(3, 4)} }, true},
		{func(e *api.Event) { e.Kills = []api.Dot{at(1, 1), at(1, 2), at(4, 3)} }, true},
		{func(e *api.Event) { e.Kills = []api.Dot{at(1, 0), at(1, 2), at(3, 3)} }, true},
		{func(e *api.Event) { e.Kills = []api.Dot{at(0, 1), at(1, 2), at(3, 3)} }, true},
		{func(e *api.Event) { e.Kills = []api.Dot{at(1, 1), at(2, 2), at(3, 3)} }, true},
		{func(e *api.Event) { e.Kills = []api.Dot{at(1, 2), at(1, 1), at(3, 3)} }, true},
		{func(e *api.Event) { e.Kind, e.Field, e.Text = 2, 0, "" }, true},
	} {
		other := again(e, false)
		c.what(&other)
		if Same(e, other) || Same(other, e) {
			t.Errorf("Same(%q, %q) is true", written(e), written(other))
		}
		if Clashes(e, other) != c.clash || Clashes(other, e) != c.clash {
			t.Errorf("Clashes(%q, %q) is %v", written(e), written(other), !c.clash)
		}
	}
}

// P13.1: lists are the same, if they are event by event: all lists of up to three out of a few events.
func TestAll(t *testing.T) {
	some := []api.Event{{}, edit(at(2, 5)), edit(at(2, 5), at(1, 1)), gone(at(2, 5)), edit(at(2, 6))}
	lists := [][]api.Event{{}}
	for from, n := 0, 0; n < 3; n++ {
		to := len(lists)
		for _, l := range lists[from:to] {
			for _, e := range some {
				lists = append(lists, append(slices.Clone(l), e))
			}
		}
		from = to
	}
	for i, a := range lists {
		for j, b := range lists {
			other := againAll(b, true)
			if All(a, b) != (i == j) || All(a, other) != (i == j) || All(other, a) != (i == j) {
				t.Fatalf("All(%q, %q) is not %v", writtenAll(a), writtenAll(b), i == j)
			}
		}
	}
	if !All(nil, nil) || !All(nil, []api.Event{}) || !All([]api.Event{}, nil) || All(nil, []api.Event{{}}) || All([]api.Event{{}}, nil) {
		t.Error("All of no events")
	}
}

// P13.1: lists of all kinds of events, one of which is another one at any place, in any part, or is not there, or stands elsewhere.
func TestAllLong(t *testing.T) {
	list := kinds()
	want := func(want bool, place int, what func(l []api.Event) []api.Event) {
		t.Helper()
		l := what(againAll(list, true))
		if All(list, l) != want || All(l, list) != want {
			t.Fatalf("All of two lists, changed at %d, is not %v", place, want)
		}
	}
	one := func(place int, what func(e *api.Event)) {
		t.Helper()
		want(false, place, func(l []api.Event) []api.Event {
			what(&l[place])
			return l
		})
	}
	want(true, -1, func(l []api.Event) []api.Event { return l })
	for place := range list {
		one(place, func(e *api.Event) { e.Dot.Dev++ })
		one(place, func(e *api.Event) { e.Dot.N++ })
		one(place, func(e *api.Event) { e.Kind++ })
		one(place, func(e *api.Event) { e.Cid++ })
		one(place, func(e *api.Event) { e.Field++ })
		one(place, func(e *api.Event) { e.Text += " " })
		one(place, func(e *api.Event) { e.Kills = append(e.Kills, at(9, 9)) })
		if n := len(list[place].Kills); n > 0 {
			one(place, func(e *api.Event) { e.Kills[0].N++ })
			one(place, func(e *api.Event) { e.Kills[n-1].Dev++ })
			one(place, func(e *api.Event) { e.Kills = e.Kills[1:] })
			one(place, func(e *api.Event) { e.Kills = e.Kills[:n-1] })
		}
		want(false, place, func(l []api.Event) []api.Event { return slices.Delete(l, place, place+1) })
		want(false, place, func(l []api.Event) []api.Event { return slices.Insert(l, place, api.Event{Cid: 5}) })
		want(false, place, func(l []api.Event) []api.Event { return l[:place] })
		if place > 0 {
			want(false, place, func(l []api.Event) []api.Event {
				l[place], l[place-1] = l[place-1], l[place]
				return l
			})
		}
	}
}

// P13.1: a copy is the same as what was copied; what is written into either is not seen in the other one.
func TestCopy(t *testing.T) {
	g := rand.New(rand.NewSource(133))
	for _, e := range append(kinds(), anyEvents(g, 5000)...) {
		want := written(e)
		for _, one := range []api.Event{again(e, false), again(e, true)} {
			two := Copy(one)
			three := Copy(two)
			if written(one) != want || written(two) != want || written(three) != want || !Same(one, two) || Good(two) != mayBe(e) {
				t.Fatalf("Copy(%q) = %q, and its copy %q", want, written(two), written(three))
			}
			spoil(&two)
			if written(one) != want || written(three) != want {
				t.Fatalf("what was written into a copy of %q is seen in what was copied, %q, or in its copy, %q", want, written(one), written(three))
			}
			four := Copy(one)
			spoil(&one)
			if written(three) != want || written(four) != want {
				t.Fatalf("what was written into %q is seen in its copies, %q and %q", want, written(three), written(four))
			}
		}
	}
}

// P13.1: the room behind what was copied is left alone, and a copy does not use it.
func TestCopyApart(t *testing.T) {
	room := []api.Dot{at(1, 1), at(1, 2), at(1, 3), at(9, 9), at(9, 10)}
	for many := range len(room) {
		e := edit(at(2, 5), room[:many]...)
		e.Kills = room[:many]
		was := written(e)
		two := Copy(e)
		two.Kills = append(two.Kills, at(7, 7), at(8, 8))
		spoil(&two)
		if written(e) != was || !slices.Equal(room, []api.Dot{at(1, 1), at(1, 2), at(1, 3), at(9, 9), at(9, 10)}) {
			t.Errorf("what was written into the copy of %q is seen behind it: %v", was, room)
		}
	}
}

// slowSort takes the least dot that is left, and of it the first event, again and again.
func slowSort(l []api.Event) []api.Event {
	var list []api.Event
	taken := make([]bool, len(l))
	for {
		next := -1
		for i, e := range l {
			if !taken[i] && (next < 0 || whole(e.Dot).Cmp(whole(l[next].Dot)) < 0) {
				next = i
			}
		}
		if next < 0 {
			return list
		}
		list = append(list, again(l[next], false))
		for i, e := range l {
			taken[i] = taken[i] || e.Dot.Dev == l[next].Dot.Dev && e.Dot.N == l[next].Dot.N
		}
	}
}

// wantSort holds what Sort answers, that what went in is not turned, and that neither is seen in the other one.
func wantSort(t *testing.T, l, want []api.Event) {
	t.Helper()
	was, told := writtenAll(l), writtenAll(want)
	for _, empty := range []bool{false, true} {
		in := againAll(l, empty)
		got := Sort(in)
		twin := Sort(in)
		if writtenAll(got) != told || writtenAll(twin) != told || !All(got, want) {
			t.Fatalf("Sort(%.300q) = %.300q, want %.300q", was, writtenAll(got), told)
		}
		if writtenAll(in) != was {
			t.Fatalf("Sort has turned %.300q into %.300q", was, writtenAll(in))
		}
		if written := writtenAll(Sort(got)); written != told {
			t.Fatalf("Sort of what Sort answered is %.300q, want %.300q", written, told)
		}
		spoilAll(got)
		if writtenAll(in) != was || writtenAll(twin) != told {
			t.Fatalf("what was written into what Sort answered is seen in what went in, %.300q, or in another answer", writtenAll(in))
		}
		got = Sort(in)
		spoilAll(in)
		if writtenAll(got) != told || writtenAll(twin) != told {
			t.Fatalf("what was written into what went in is seen in what Sort answered, %.300q", writtenAll(got))
		}
	}
}

// P13.2: Sort, written out.
func TestSortKnown(t *testing.T) {
	a, b, c, d := edit(at(1, 1)), gone(at(1, 9), at(1, 1)), edit(at(2, 1), at(3, 3)), gone(at(3, 1))
	a2, a3 := edit(at(1, 1), at(9, 9)), gone(at(1, 1))
	c2 := edit(at(2, 1), at(3, 4))
	odd := api.Event{Dot: at(0, 7), Kind: 9, Field: 99, Text: "\x1f", Kills: []api.Dot{at(2, 2), at(2, 2), at(1, 1), {}}}
	for _, x := range []struct{ l, want []api.Event }{
		{nil, nil},
		{[]api.Event{}, nil},
		{[]api.Event{a}, []api.Event{a}},
		{[]api.Event{{}}, []api.Event{{}}},
		{[]api.Event{odd}, []api.Event{odd}},
		{[]api.Event{a, b, c, d}, []api.Event{a, b, c, d}},
		{[]api.Event{d, c, b, a}, []api.Event{a, b, c, d}},
		{[]api.Event{c, a, d, b}, []api.Event{a, b, c, d}},
		{[]api.Event{a, a}, []api.Event{a}},
		{[]api.Event{a, a2}, []api.Event{a}},
		{[]api.Event{a2, a}, []api.Event{a2}},
		{[]api.Event{a3, a, a2}, []api.Event{a3}},
		{[]api.Event{a, a2, a3, a, a2, a3}, []api.Event{a}},
		{[]api.Event{a2, a2, a2, a, a, a}, []api.Event{a2}},
		{[]api.Event{a3, b, a}, []api.Event{a3, b}},
		{[]api.Event{b, a2, a}, []api.Event{a2, b}},
		{[]api.Event{b, a, a2}, []api.Event{a, b}},
		{[]api.Event{c2, a2, c, a}, []api.Event{a2, c2}},
		{[]api.Event{c, d, c2, a, a3}, []api.Event{a, c, d}},
		{[]api.Event{a, b, odd, {}, c}, []api.Event{{}, odd, a, b, c}},
		{[]api.Event{edit(at(1, most+1)), edit(at(1, most)), edit(at(1, 0)), edit(at(0, math.MaxUint64)), edit(at(1, math.MaxUint64))}, []api.Event{edit(at(0, math.MaxUint64)), edit(at(1, 0)), edit(at(1, most)), edit(at(1, most+1)), edit(at(1, math.MaxUint64))}},
		{[]api.Event{gone(at(256, 1)), gone(at(255, 2)), gone(at(65535, 1)), gone(at(1, 1<<32)), gone(at(1, 3))}, []api.Event{gone(at(1, 3)), gone(at(1, 1<<32)), gone(at(255, 2)), gone(at(256, 1)), gone(at(65535, 1))}},
	} {
		wantSort(t, x.l, x.want)
	}
}

// P13.2: Sort of all lists of up to five out of a few events, of one dot and of several, of those that may be and those that may not.
func TestSortAll(t *testing.T) {
	some := []api.Event{edit(at(1, 2)), gone(at(1, 2)), edit(at(1, 2), at(5, 5)), gone(at(1, 3), at(4, 4)), edit(at(2, 1)), {Text: "\x00"}}
	var lists func(l []api.Event, left int)
	lists = func(l []api.Event, left int) {
		was := writtenAll(l)
		if got, want := writtenAll(Sort(l)), writtenAll(slowSort(l)); got != want || writtenAll(l) != was {
			t.Fatalf("Sort(%q) = %q, want %q", was, got, want)
		}
		for _, e := range some {
			if left > 0 {
				lists(append(slices.Clone(l), e), left-1)
			}
		}
	}
	lists(nil, 5)
}

// P13.2: Sort of drawn lists, short and long, held against the least one taken again and again.
func TestSortAny(t *testing.T) {
	g := rand.New(rand.NewSource(134))
	for _, many := range []int{0, 1, 2, 3, 5, 8, 11, 12, 13, 20, 21, 40, 100, 300} {
		for range 20 {
			l := anyEvents(g, many)
			wantSort(t, l, slowSort(l))
		}
	}
	wantSort(t, kinds(), slowSort(kinds()))
	back := kinds()
	slices.Reverse(back)
	wantSort(t, back, slowSort(back))
}

// P13.2: of very many events with few dots the first one of each is left, whatever order they stand in.
func TestSortMany(t *testing.T) {
	const many, dots = 20000, 700
	g := rand.New(rand.NewSource(135))
	l := make([]api.Event, many)
	var want []api.Event
	first := map[api.Dot]int{}
	for i := range l {
		d := at(uint16(1+g.Intn(7)), uint64(1+g.Intn(dots/7)))
		l[i] = edit(d, row(9, uint64(i), i%3)...)
		l[i].Text = strconv.Itoa(i)
		if _, ok := first[d]; !ok {
			first[d] = i
		}
	}
	for dev := uint16(1); dev <= 7; dev++ {
		for n := uint64(1); n <= dots/7; n++ {
			if i, ok := first[at(dev, n)]; ok {
				want = append(want, again(l[i], false))
			}
		}
	}
	if len(want) < dots/2 {
		t.Errorf("%d dots alone were drawn", len(want))
	}
	wantSort(t, l, want)
	one := slices.Repeat([]api.Event{gone(at(3, 3), at(1, 1))}, many)
	one[0] = edit(at(3, 3), at(2, 2))
	wantSort(t, one, []api.Event{edit(at(3, 3), at(2, 2))})
}

// P13.2: Kills that share memory in what went in share none in what Sort answers, and the room behind them is left alone.
func TestSortApart(t *testing.T) {
	kills := []api.Dot{at(1, 1), at(1, 2), at(1, 3), at(9, 9)}
	room := []api.Event{edit(at(3, 1)), edit(at(2, 1)), edit(at(2, 1)), edit(at(1, 7)), edit(at(8, 8))}
	room[0].Kills, room[1].Kills, room[2].Kills, room[3].Kills = kills[:2], kills[:3], kills[:3], kills[1:2]
	l := room[:4]
	was := writtenAll(room)
	got := Sort(l)
	if len(got) != 3 {
		t.Fatalf("Sort of four events of three dots answers %d", len(got))
	}
	for i := range got {
		others := writtenAll(slices.Delete(slices.Clone(got), i, i+1))
		spoil(&got[i])
		if after := writtenAll(slices.Delete(slices.Clone(got), i, i+1)); after != others {
			t.Errorf("what was written into event %d is seen in the others: %q, then %q", i, others, after)
		}
	}
	spoilAll(got)
	if writtenAll(room) != was || !slices.Equal(kills, []api.Dot{at(1, 1), at(1, 2), at(1, 3), at(9, 9)}) {
		t.Errorf("what was written into what Sort answered is seen in what went in: %q, then %q", was, writtenAll(room))
	}
}

// slowDots takes the least dot that is left of all, again and again.
func slowDots(l []api.Event) []api.Dot {
	var all, list []api.Dot
	for _, e := range l {
		all = append(append(all, e.Kills...), e.Dot)
	}
	for last := (*big.Int)(nil); ; {
		var next *big.Int
		var d api.Dot
		for _, a := range all {
			w := whole(a)
			if (last == nil || w.Cmp(last) > 0) && (next == nil || w.Cmp(next) < 0) {
				next, d = w, a
			}
		}
		if next == nil {
			return list
		}
		list, last = append(list, d), next
	}
}

// wantDots holds what Dots answers, that what went in is not turned, and that neither is seen in the other one.
func wantDots(t *testing.T, l []api.Event, want []api.Dot) {
	t.Helper()
	was := writtenAll(l)
	for _, empty := range []bool{false, true} {
		in := againAll(l, empty)
		got := Dots(in...)
		twin := Dots(in...)
		if !slices.Equal(got, want) || !slices.Equal(twin, want) {
			t.Fatalf("Dots(%.300q) = %.300v, want %.300v", was, got, want)
		}
		if writtenAll(in) != was {
			t.Fatalf("Dots has turned %.300q into %.300q", was, writtenAll(in))
		}
		spoilDots(got)
		if writtenAll(in) != was || !slices.Equal(twin, want) {
			t.Fatalf("what was written into what Dots answered is seen in what went in, %.300q, or in another answer", writtenAll(in))
		}
		spoilAll(in)
		if !slices.Equal(twin, want) {
			t.Fatalf("what was written into what went in is seen in what Dots answered, %.300v", twin)
		}
	}
}

// P13.2: Dots, written out.
func TestDotsKnown(t *testing.T) {
	for _, c := range []struct {
		l    []api.Event
		want []api.Dot
	}{
		{nil, nil},
		{[]api.Event{}, nil},
		{[]api.Event{{}}, []api.Dot{{}}},
		{[]api.Event{edit(at(2, 1))}, []api.Dot{at(2, 1)}},
		{[]api.Event{gone(at(2, 1))}, []api.Dot{at(2, 1)}},
		{[]api.Event{edit(at(2, 1), at(1, 4), at(1, 9))}, []api.Dot{at(1, 4), at(1, 9), at(2, 1)}},
		{[]api.Event{edit(at(2, 1), at(1, 9), at(1, 4))}, []api.Dot{at(1, 4), at(1, 9), at(2, 1)}},
		{[]api.Event{gone(at(2, 1), at(1, 4), at(3, 9))}, []api.Dot{at(1, 4), at(2, 1), at(3, 9)}},
		{[]api.Event{gone(at(2, 1), at(2, 2), at(3, 9))}, []api.Dot{at(2, 1), at(2, 2), at(3, 9)}},
		{[]api.Event{edit(at(2, 1), at(1, 4), at(1, 4), at(1, 4))}, []api.Dot{at(1, 4), at(2, 1)}},
		{[]api.Event{edit(at(2, 1), at(2, 1))}, []api.Dot{at(2, 1)}},
		{[]api.Event{edit(at(2, 1), at(1, 1), at(2, 1), at(3, 1))}, []api.Dot{at(1, 1), at(2, 1), at(3, 1)}},
		{[]api.Event{edit(at(1, 1)), edit(at(1, 2)), gone(at(2, 1))}, []api.Dot{at(1, 1), at(1, 2), at(2, 1)}},
		{[]api.Event{gone(at(2, 1)), edit(at(1, 2)), edit(at(1, 1))}, []api.Dot{at(1, 1), at(1, 2), at(2, 1)}},
		{[]api.Event{edit(at(1, 1)), edit(at(1, 1)), gone(at(1, 1))}, []api.Dot{at(1, 1)}},
		{[]api.Event{edit(at(1, 1), at(5, 5)), edit(at(1, 1), at(4, 4)), gone(at(1, 1), at(5, 5))}, []api.Dot{at(1, 1), at(4, 4), at(5, 5)}},
		{[]api.Event{edit(at(1, 1)), edit(at(1, 2), at(1, 1)), gone(at(2, 1), at(1, 2), at(1, 1))}, []api.Dot{at(1, 1), at(1, 2), at(2, 1)}},
		{[]api.Event{gone(at(2, 1), at(1, 1), at(1, 2)), edit(at(1, 2), at(1, 1), at(2, 1)), edit(at(1, 1), at(2, 1))}, []api.Dot{at(1, 1), at(1, 2), at(2, 1)}},
		{[]api.Event{edit(at(3, 1), at(7, 7)), edit(at(3, 2), at(7, 7)), edit(at(3, 3), at(7, 7), at(7, 8))}, []api.Dot{at(3, 1), at(3, 2), at(3, 3), at(7, 7), at(7, 8)}},
		{[]api.Event{edit(at(65535, most), at(65535, 1), at(1, most), at(1, 1))}, []api.Dot{at(1, 1), at(1, most), at(65535, 1), at(65535, most)}},
		{[]api.Event{{Dot: at(1, math.MaxUint64), Kind: 7, Kills: []api.Dot{at(1, most+1), at(0, 5), at(1, 0), {}, at(1, most)}}}, []api.Dot{{}, at(0, 5), at(1, 0), at(1, most), at(1, most+1), at(1, math.MaxUint64)}},
		{[]api.Event{{Kills: []api.Dot{{}, {}}}, {}, {Kills: []api.Dot{at(0, 1)}}}, []api.Dot{{}, at(0, 1)}},
		{[]api.Event{{Dot: at(0, math.MaxUint64)}, {Dot: at(1, 0)}, {Dot: at(65535, math.MaxUint64)}}, []api.Dot{at(0, math.MaxUint64), at(1, 0), at(65535, math.MaxUint64)}},
		{[]api.Event{edit(at(256, 1), at(255, 2), at(1, 256), at(1, 255), at(1, 1<<40))}, []api.Dot{at(1, 255), at(1, 256), at(1, 1<<40), at(255, 2), at(256, 1)}},
		{[]api.Event{gone(at(2, 5), row(1, 1, 300)...)}, append(row(1, 1, 300), at(2, 5))},
		{[]api.Event{gone(at(1, 301), row(1, 1, 300)...), edit(at(1, 302))}, row(1, 1, 302)},
	} {
		wantDots(t, c.l, c.want)
	}
}

// P13.2: Dots of one argument, of several, and of a list, are told alike; of none there are none.
func TestDotsArguments(t *testing.T) {
	a, b, c := edit(at(2, 1), at(1, 9)), gone(at(1, 4), at(2, 1)), edit(at(1, 9))
	if got := Dots(); len(got) != 0 {
		t.Errorf("Dots() = %v", got)
	}
	if got := Dots(a); !slices.Equal(got, []api.Dot{at(1, 9), at(2, 1)}) {
		t.Errorf("Dots of one event = %v", got)
	}
	want := []api.Dot{at(1, 4), at(1, 9), at(2, 1)}
	for _, l := range [][]api.Event{{a, b, c}, {a, c, b}, {b, a, c}, {b, c, a}, {c, a, b}, {c, b, a}} {
		if got := Dots(l[0], l[1], l[2]); !slices.Equal(got, want) {
			t.Errorf("Dots of three events = %v", got)
		}
		wantDots(t, l, want)
	}
}

// P13.2: Dots of all lists of up to three out of a few events with all Kills of up to two dots, the events' own among them.
func TestDotsAll(t *testing.T) {
	dots := []api.Dot{at(1, 1), at(1, 2), at(2, 1), {}}
	var some []api.Event
	for _, d := range dots[1:] {
		some = append(some, edit(d))
		for _, k := range dots {
			some = append(some, gone(d, k))
		}
		some = append(some, edit(d, at(2, 1), at(1, 1)), edit(d, at(1, 1), at(1, 1)))
	}
	var lists func(l []api.Event, left int)
	lists = func(l []api.Event, left int) {
		if got, want := Dots(l...), slowDots(l); !slices.Equal(got, want) {
			t.Fatalf("Dots(%q) = %v, want %v", writtenAll(l), got, want)
		}
		for _, e := range some {
			if left > 0 {
				lists(append(slices.Clone(l), e), left-1)
			}
		}
	}
	lists(nil, 3)
}

// P13.2: Dots of drawn lists, short and long, held against the least one taken again and again.
func TestDotsAny(t *testing.T) {
	g := rand.New(rand.NewSource(136))
	for _, many := range []int{0, 1, 2, 3, 5, 8, 12, 13, 40, 100} {
		for range 20 {
			l := anyEvents(g, many)
			wantDots(t, l, slowDots(l))
		}
	}
	// Very many dots, each event's own one behind those that it kills, in a shuffled order.
	const many = 3000
	l := make([]api.Event, many)
	for i := range l {
		l[i] = edit(at(4, uint64(3*i+3)), at(4, uint64(3*i+2)), at(4, uint64(3*i+1)), at(4, uint64(3*i+2)))
	}
	g.Shuffle(many, func(i, j int) { l[i], l[j] = l[j], l[i] })
	wantDots(t, l, row(4, 1, 3*many))
}

// P13.2: what is written into what Dots answered is not seen in Kills that had room, nor in what shared memory with them.
func TestDotsApart(t *testing.T) {
	room := []api.Dot{at(1, 1), at(1, 2), at(1, 3), at(9, 9), at(9, 10)}
	a, b := edit(at(2, 1)), edit(at(2, 2))
	a.Kills, b.Kills = room[:3], room[:2]
	got := Dots(a, b)
	if want := []api.Dot{at(1, 1), at(1, 2), at(1, 3), at(2, 1), at(2, 2)}; !slices.Equal(got, want) {
		t.Errorf("Dots = %v, want %v", got, want)
	}
	got = append(got, at(7, 7))
	spoilDots(got)
	if !slices.Equal(room, []api.Dot{at(1, 1), at(1, 2), at(1, 3), at(9, 9), at(9, 10)}) {
		t.Errorf("the room behind Kills was changed into %v", room)
	}
}

// P13.2: Kills of each dot among them, of one beside them and of no Kills, written out.
func TestKillsKnown(t *testing.T) {
	e := edit(at(2, 5), at(1, 4), at(1, 9), at(3, 1))
	for _, c := range []struct {
		e    api.Event
		d    api.Dot
		want bool
	}{
		{e, at(1, 4), true},
		{e, at(1, 9), true},
		{e, at(3, 1), true},
		{e, at(2, 5), false},
		{e, at(1, 3), false},
		{e, at(1, 5), false},
		{e, at(1, 8), false},
		{e, at(1, 10), false},
		{e, at(2, 4), false},
		{e, at(2, 9), false},
		{e, at(3, 4), false},
		{e, at(4, 1), false},
		{e, at(3, 2), false},
		{e, at(0, 4), false},
		{e, at(1, 0), false},
		{e, at(257, 4), false},
		{e, at(1, 4+1<<48), false},
		{e, api.Dot{}, false},
		{edit(at(2, 5)), at(2, 5), false},
		{edit(at(2, 5)), at(1, 1), false},
		{edit(at(2, 5)), api.Dot{}, false},
		{gone(at(2, 5)), at(1, 1), false},
		{api.Event{}, api.Dot{}, false},
		{api.Event{Kills: []api.Dot{}}, api.Dot{}, false},
		{api.Event{Kills: []api.Dot{{}}}, api.Dot{}, true},
		{gone(at(2, 5), at(2, 5)), at(2, 5), true},
		{gone(at(2, 5), at(3, 3), at(2, 2), at(1, 1)), at(3, 3), true},
		{gone(at(2, 5), at(3, 3), at(2, 2), at(1, 1)), at(2, 2), true},
		{gone(at(2, 5), at(3, 3), at(2, 2), at(1, 1)), at(1, 1), true},
		{gone(at(2, 5), at(3, 3), at(3, 3), at(1, 1), at(3, 3)), at(1, 1), true},
		{gone(at(2, 5), at(3, 3), at(3, 3), at(1, 1), at(3, 3)), at(2, 2), false},
		{gone(at(2, 5), at(0, 7), at(1, most+1)), at(0, 7), true},
		{gone(at(2, 5), at(0, 7), at(1, most+1)), at(1, most+1), true},
		{gone(at(2, 5), at(0, 7), at(1, most+1)), at(1, most), false},
		{gone(at(2, 5), at(65535, most)), at(65535, most), true},
		{gone(at(2, 5), at(65535, math.MaxUint64)), at(65535, math.MaxUint64), true},
	} {
		if got := Kills(c.e, c.d); got != c.want {
			t.Errorf("Kills(%q, %v) = %v", written(c.e), c.d, got)
		}
	}
}

// P13.2: Kills of each dot at each place of lists of any length, and of all that stand beside them, whatever order the list has.
func TestKillsPlaces(t *testing.T) {
	g := rand.New(rand.NewSource(137))
	for many := 0; many <= api.MaxKills+3; many++ {
		kills := make([]api.Dot, many)
		for i := range kills {
			kills[i] = at(uint16(1+i/9), uint64(10+3*i))
		}
		switch many % 3 {
		case 1:
			slices.Reverse(kills)
		case 2:
			g.Shuffle(many, func(i, j int) { kills[i], kills[j] = kills[j], kills[i] })
		}
		e := edit(at(500, 5), kills...)
		for _, d := range kills {
			if !Kills(e, d) {
				t.Fatalf("Kills of %d dots, %v among them, is false", many, d)
			}
			for _, beside := range []api.Dot{at(d.Dev, d.N+1), at(d.Dev, d.N-1), at(d.Dev+100, d.N), at(0, d.N), at(d.Dev, d.N+1<<48)} {
				if Kills(e, beside) {
					t.Fatalf("Kills of %d dots, %v not among them, is true", many, beside)
				}
			}
		}
		if Kills(e, e.Dot) || Kills(e, api.Dot{}) {
			t.Fatalf("Kills of %d dots is true of the event's own dot, or of an empty one", many)
		}
	}
}

// P13.2: Kills of drawn events and all of a few dots, held against what was marked.
func TestKillsAny(t *testing.T) {
	g := rand.New(rand.NewSource(138))
	for _, e := range append(kinds(), anyEvents(g, 20000)...) {
		marked := map[string]bool{}
		for _, d := range e.Kills {
			marked[whole(d).String()] = true
		}
		for _, d := range append(few(), e.Dot) {
			if want := marked[whole(d).String()]; Kills(e, d) != want {
				t.Fatalf("Kills(%.300q, %v) is not %v", written(e), d, want)
			}
		}
	}
}

// Rule 4: no call changes what it was given, nor what stands in the room behind it.
func TestKept(t *testing.T) {
	for _, e := range kinds() {
		kills := append(slices.Clone(e.Kills), at(8, 88))
		in := e
		in.Kills = kills[:len(e.Kills)]
		list := append(make([]api.Event, 0, 5), gone(at(9, 9)), in, in, api.Event{}, gone(at(8, 8)))[:4]
		was := writtenAll(list[:5])
		Good(in)
		Same(in, again(e, false))
		Same(in, in)
		All(list, list)
		Copy(in)
		Sort(list)
		Dots(in)
		Dots(list...)
		Kills(in, at(8, 88))
		Clashes(in, in)
		Clashes(in, gone(e.Dot))
		if written(in) != written(e) || writtenAll(list[:5]) != was || kills[len(e.Kills)] != at(8, 88) {
			t.Errorf("%q was changed into %q, or what stood behind it", written(e), written(in))
		}
	}
}

// The chapter's example.
func TestExample(t *testing.T) {
	e := api.Event{Dot: at(2, 1), Kind: api.EvEdit, Cid: least, Field: api.FiTown, Text: "Rome", Kills: []api.Dot{at(1, 4), at(1, 9)}}
	if got := Dots(e); !slices.Equal(got, []api.Dot{at(1, 4), at(1, 9), at(2, 1)}) {
		t.Errorf("Dots of an edit 2.1 that kills 1.4 and 1.9 = %v", got)
	}
	if !Good(e) || !Kills(e, at(1, 4)) || !Kills(e, at(1, 9)) || Kills(e, at(2, 1)) {
		t.Errorf("the example's event is not told as it is")
	}
}
