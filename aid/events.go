package aid

import (
	"strconv"
	"strings"

	"epitaph/api"
)

// Least is the least number that a contact may have.
const Least = 1<<48 + 1

// Edit is an edit that may be, if its dot may be and what it kills.
func Edit(d api.Dot, kills ...api.Dot) api.Event {
	return api.Event{Dot: d, Kind: 1, Cid: Least, Field: 4, Text: "Rome", Kills: kills}
}

// Gone is a deletion that may be, if its dot may be and what it kills.
func Gone(d api.Dot, kills ...api.Dot) api.Event {
	return api.Event{Dot: d, Kind: 2, Cid: Least, Kills: kills}
}

// Wrote is an edit of a contact's field, which may be, if all of these may be.
func Wrote(cid uint64, f uint8, d api.Dot, kills ...api.Dot) api.Event {
	return Other(1, cid, f, d, kills...)
}

// Ended is the deletion of a contact, which may be, if all of these may be.
func Ended(cid uint64, d api.Dot, kills ...api.Dot) api.Event {
	return api.Event{Dot: d, Kind: 2, Cid: cid, Kills: kills}
}

// Other is an event of some kind, of a contact and of a field.
func Other(kind uint8, cid uint64, f uint8, d api.Dot, kills ...api.Dot) api.Event {
	return api.Event{Dot: d, Kind: kind, Cid: cid, Field: f, Text: "x", Kills: kills}
}

// Long is a text of some bytes.
func Long(n int) string { return strings.Repeat("k", n) }

// Row is dots of one device, one behind another.
func Row(dev uint16, from uint64, many int) []api.Dot {
	l := make([]api.Dot, many)
	for i := range l {
		l[i] = Dot(dev, from+uint64(i))
	}
	return l
}

// ToldEvent is all that an event has, its text with the length ahead, so that no two unlike events are told alike.
func ToldEvent(e api.Event) string {
	var b strings.Builder
	num := func(n uint64) { b.WriteString(strconv.FormatUint(n, 10) + ";") }
	num(uint64(e.Dot.Dev))
	num(e.Dot.N)
	num(uint64(e.Kind))
	num(e.Cid)
	num(uint64(e.Field))
	num(uint64(len(e.Text)))
	b.WriteString(e.Text)
	num(uint64(len(e.Kills)))
	for _, d := range e.Kills {
		num(uint64(d.Dev))
		num(d.N)
	}
	return b.String()
}

// ToldEvents is all that a list of events has.
func ToldEvents(l []api.Event) string {
	var b strings.Builder
	b.WriteString(strconv.Itoa(len(l)) + ";")
	for _, e := range l {
		b.WriteString(ToldEvent(e))
	}
	return b.String()
}

// Again is the same event, built from other memory, with a nil list where there is nothing, or with an empty one.
func Again(e api.Event, empty bool) api.Event {
	n := api.Event{Dot: e.Dot, Kind: e.Kind, Cid: e.Cid, Field: e.Field, Text: string([]byte(e.Text))}
	if empty {
		n.Kills = make([]api.Dot, 0, len(e.Kills)+3)
	}
	for _, d := range e.Kills {
		n.Kills = append(n.Kills, d)
	}
	return n
}

// AgainAll is the same list, built from other memory.
func AgainAll(l []api.Event, empty bool) []api.Event {
	var list []api.Event
	if empty {
		list = make([]api.Event, 0, len(l)+2)
	}
	for _, e := range l {
		list = append(list, Again(e, empty))
	}
	return list
}

// SpoilDots writes into all dots of a list, and behind it, as far as it has room.
func SpoilDots(l []api.Dot) {
	l = l[:cap(l)]
	for i := range l {
		l[i] = Dot(uint16(88+i), 88)
	}
}

// Spoil writes into all that an event has, and behind it.
func Spoil(e *api.Event) {
	SpoilDots(e.Kills)
	e.Kills = append(e.Kills, Dot(77, 77))
	e.Dot.Dev, e.Dot.N, e.Kind, e.Cid, e.Field, e.Text = e.Dot.Dev+9, e.Dot.N+9, e.Kind+9, e.Cid+9, e.Field+9, e.Text+"spoilt"
}

// SpoilAll writes into all that a list of events has, and behind it.
func SpoilAll(l []api.Event) {
	for i := range l {
		Spoil(&l[i])
	}
	l = l[:cap(l)]
	for i := range l {
		l[i] = Gone(Dot(55, 55), Dot(44, 44))
	}
}

// Few are dots that stand near one another, and at the ends of both parts, those that may be and those that may not.
func Few() []api.Dot {
	return Dots(1, 1, 1, 2, 1, 9, 2, 1, 2, 2, 3, 1, 1, Most, 2, Most, Last, 1, Last, Most,
		0, 0, 0, 1, 0, Most, 1, 0, Last, 0, 1, Above, 2, Above, Last, Above, 0, Huge, 1, Huge, Last, Huge, 256, 1, 257, 1<<32, 257, 1<<32+1)
}

// Chance draws numbers: the tests hand in one that draws the same ones each time.
type Chance interface {
	Intn(n int) int
	Uint64() uint64
}

// AnyDot is one of a few dots, the first ones more often.
func AnyDot(g Chance) api.Dot {
	l := Few()
	return l[g.Intn(3+g.Intn(len(l)-2))]
}

// AnyEvent is an event of drawn parts, all of them from a few, so that pairs are often the same, and events often may be.
func AnyEvent(g Chance) api.Event {
	cids := []uint64{Least, Least, Least, Least + 1, 1<<49 + 1, Huge, 0, 1, Most, 1 << 48}
	texts := []string{"", "", "a", "b", "ab", "~", " ", Long(60), "\x1f", "\x7f", Long(61)}
	e := api.Event{Dot: AnyDot(g), Kind: uint8(1 + g.Intn(2)), Cid: cids[g.Intn(1+g.Intn(len(cids)))]}
	if e.Kind == 1 || g.Intn(8) == 0 {
		e.Field = uint8(1 + g.Intn(5))
		e.Text = texts[g.Intn(2+g.Intn(len(texts)-1))]
	}
	for range g.Intn(4) {
		e.Kills = append(e.Kills, AnyDot(g))
	}
	if g.Intn(3) > 0 {
		e.Kills = Risen(e.Kills)
	}
	switch g.Intn(16) {
	case 0:
		e.Kind = uint8(g.Intn(4))
	case 1:
		e.Field = uint8(g.Intn(256))
	}
	return e
}

// AnyEvents is a list of events of drawn parts.
func AnyEvents(g Chance, many int) []api.Event {
	l := make([]api.Event, many)
	for i := range l {
		l[i] = AnyEvent(g)
	}
	return l
}

// Unlike are events that are unlike one another, those that may be and those that may not: each has its like in one thing less, or in one thing changed.
func Unlike() []api.Event {
	d := Dot(2, 5)
	list := []api.Event{
		{}, {Dot: d}, {Kind: 1}, {Kind: 2}, {Cid: 1}, {Cid: Least}, {Field: 1}, {Text: "a"}, {Text: "\x00"}, {Kills: Dots(0, 0)}, {Kills: Dots(0, 0, 0, 0)}, {Kills: Dots(2, 5)},
	}
	for _, x := range Dots(2, 5, 1, 5, 3, 5, 258, 5, 2, 4, 2, 6, 2, 5+1<<32, 2, 5+1<<48, 0, 5, 2, 0, 0, 0, 5, 2) {
		list = append(list, Edit(x))
	}
	for _, x := range Dots(2, 5, 1, 5, 2, 4, 0, 5, 2, 0) {
		list = append(list, Gone(x))
	}
	list = append(list, unlikeKills(d)...)
	for _, cid := range []uint64{0, 1, Most, 1 << 48, Least + 1, 1<<49 + 1, 1<<63 + 1, Huge} {
		e, f := Edit(d), Gone(d)
		e.Cid, f.Cid = cid, cid
		list = append(list, e, f)
	}
	for _, kind := range []uint8{0, 2, 3, 128, 129, 255} {
		e := Edit(d, Dot(1, 1))
		e.Kind = kind
		list = append(list, e)
	}
	for _, f := range []uint8{0, 1, 2, 3, 5, 6, 255} {
		e := Edit(d, Dot(1, 1))
		e.Field = f
		list = append(list, e)
	}
	for _, s := range []string{"", "R", "Rom", "rome", "Rome ", " Rome", "Rome\x00", "Rome\x1f", "Rome\x7f", "Romé", "Robe", Long(60), Long(61), Long(1000), Long(999) + "x"} {
		e := Edit(d)
		e.Text = s
		list = append(list, e)
	}
	return list
}

// unlikeKills are events of one dot whose Kills are unlike.
func unlikeKills(d api.Dot) []api.Event {
	list := []api.Event{}
	for _, kills := range [][]api.Dot{
		Dots(1, 1), Dots(1, 2), Dots(2, 1), Dots(1, 1, 1, 2), Dots(1, 2, 1, 1), Dots(1, 1, 2, 2), Dots(1, 1, 1, 1), {d}, Dots(0, 0),
		Row(1, 1, 256), Row(1, 2, 256), Row(1, 1, 255), Row(1, 2, 255), Row(1, 1, 257), Row(3, 1, 256),
	} {
		list = append(list, Edit(d, kills...))
	}
	for _, kills := range [][]api.Dot{
		Dots(1, 1), Dots(1, 2), Dots(2, 1), Dots(1, 1, 1, 2), Dots(1, 2, 1, 1),
		Row(1, 1, 256), Row(1, 1, 255), Row(1, 1, 257), Row(1, 1, 600), Row(1, 1, 601),
	} {
		list = append(list, Gone(d, kills...))
	}
	for _, place := range []int{0, 1, 128, 254, 255} {
		for _, k := range Dots(1, 999, 2, uint64(place)+1, 0, 0) {
			kills := Row(1, 1, 256)
			kills[place] = k
			list = append(list, Edit(d, kills...))
		}
	}
	return list
}
