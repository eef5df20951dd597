package aid

import (
	"slices"
	"strings"

	"epitaph/api"
)

// MayBe is told by the words of chapter 7, part by part.
func MayBe(d api.Dot) bool {
	switch {
	case d.Dev == 0, d.N < 1, d.N > 281474976710655:
		return false
	}
	return true
}

// Ahead tells by the words of chapter 7 whether the first one stands ahead of the second one.
func Ahead(a, b api.Dot) bool {
	return a.Dev < b.Dev || a.Dev == b.Dev && a.N < b.N
}

// Rising is the dots of a list that may be, each once, rising.
func Rising(l []api.Dot) []api.Dot {
	var may []api.Dot
	for _, d := range l {
		if MayBe(d) {
			may = append(may, d)
		}
	}
	return Risen(may)
}

// Risen is the dots of a list, also those that may not be, told by taking the least one beyond the one taken ahead, again and again.
func Risen(l []api.Dot) []api.Dot {
	list := []api.Dot{}
	for {
		found := false
		var least api.Dot
		for _, d := range l {
			if len(list) > 0 && !Ahead(list[len(list)-1], d) {
				continue
			}
			if !found || Ahead(d, least) {
				found, least = true, d
			}
		}
		if !found {
			return list
		}
		list = append(list, least)
	}
}

// MayText is told by a list of all bytes that may stand in a value.
func MayText(s string) bool {
	const may = " !\"#$%&'()*+,-./0123456789:;<=>?@ABCDEFGHIJKLMNOPQRSTUVWXYZ[\\]^_`abcdefghijklmnopqrstuvwxyz{|}~"
	for i := range len(s) {
		if !strings.Contains(may, s[i:i+1]) {
			return false
		}
	}
	return len(s) < 61
}

// EventMayBe is told by the words of chapter 13, each dot of the Kills held against all behind it.
func EventMayBe(e api.Event) bool {
	may := MayBe(e.Dot) && e.Cid/(Most+1) > 0 && e.Cid%(Most+1) > 0 && len(e.Kills) < 257
	if e.Kind == 1 {
		may = may && e.Field > 0 && e.Field < 6 && MayText(e.Text)
	} else {
		may = may && e.Kind == 2 && e.Field == 0 && len(e.Text) == 0
	}
	for i, d := range e.Kills {
		may = may && MayBe(d) && d != e.Dot
		for k := i + 1; k < len(e.Kills) && may; k++ {
			may = Ahead(d, e.Kills[k])
		}
	}
	return may
}

// ByDots is of each dot the first event in a list, from the least dot on.
func ByDots(l []api.Event) []api.Event {
	var names []api.Dot
	for _, e := range l {
		names = append(names, e.Dot)
	}
	var list []api.Event
	for _, d := range Risen(names) {
		for _, e := range l {
			if e.Dot == d {
				list = append(list, e)
				break
			}
		}
	}
	return list
}

// Has tells by the words of chapters 6 and 9, run by run, whether a context has a dot.
func Has(c api.Ctx, d api.Dot) bool {
	for _, p := range c {
		for _, r := range p.Runs {
			if p.Dev == d.Dev && MayBe(d) && r.Lo != 0 && r.Lo <= d.N && d.N <= r.Hi && r.Hi <= 281474976710655 {
				return true
			}
		}
	}
	return false
}

// SameDots tells whether two contexts have the same dots: it is enough to ask where a run of one of both begins, and behind where one ends.
func SameDots(a, b api.Ctx) bool {
	for _, p := range slices.Concat(a, b) {
		for _, r := range p.Runs {
			for _, n := range []uint64{1, r.Lo, r.Hi + 1} {
				if d := Dot(p.Dev, n); Has(a, d) != Has(b, d) {
					return false
				}
			}
		}
	}
	return true
}

// InOrder is told by the words of chapters 6 and 9: parts that rise, none empty, with runs that rise and do not touch.
func InOrder(c api.Ctx) bool {
	dev := 0
	for _, p := range c {
		if int(p.Dev) <= dev || len(p.Runs) == 0 {
			return false
		}
		dev = int(p.Dev)
		// The number that must stay free ahead of a run: ahead of the first one it is 0, which no run tells.
		free := uint64(0)
		for _, r := range p.Runs {
			if r.Lo <= free || r.Lo > r.Hi || r.Hi > 281474976710655 {
				return false
			}
			free = r.Hi + 1
		}
	}
	return true
}

// NumBytes are a number's bytes as chapter 3 tells them, by dividing.
func NumBytes(v uint64) []byte {
	var others []byte
	for ; v > 0; v /= 256 {
		others = append([]byte{byte(v % 256)}, others...)
	}
	return append([]byte{byte(len(others))}, others...)
}

// Nums are the bytes of some numbers, one behind another.
func Nums(list ...uint64) []byte {
	var b []byte
	for _, v := range list {
		b = append(b, NumBytes(v)...)
	}
	return b
}

// DotBytes are a dot's bytes, as chapter 15 tells them.
func DotBytes(d api.Dot) []byte {
	return Nums(uint64(d.Dev), d.N)
}

// DotsBytes are how many dots there are, and these as they stand.
func DotsBytes(l []api.Dot) []byte {
	b := Nums(uint64(len(l)))
	for _, d := range l {
		b = append(b, DotBytes(d)...)
	}
	return b
}

// EventBytes are an event's bytes, as chapter 16 tells them, but that its Kills are written as they stand.
func EventBytes(e api.Event) []byte {
	return slices.Concat(DotBytes(e.Dot), []byte{e.Kind}, NumBytes(e.Cid), []byte{e.Field}, NumBytes(uint64(len(e.Text))), []byte(e.Text), DotsBytes(e.Kills))
}

// EventsBytes are how many events there are, and these as they stand.
func EventsBytes(l []api.Event) []byte {
	b := Nums(uint64(len(l)))
	for _, e := range l {
		b = append(b, EventBytes(e)...)
	}
	return b
}

// CtxBytes are how many parts there are, and these as they stand, of each how many runs, and these.
func CtxBytes(c api.Ctx) []byte {
	b := Nums(uint64(len(c)))
	for _, p := range c {
		b = append(b, Nums(uint64(p.Dev), uint64(len(p.Runs)))...)
		for _, r := range p.Runs {
			b = append(b, Nums(r.Lo, r.Hi)...)
		}
	}
	return b
}

// Reader reads as the words of chapters 3, 4, 15 and 16 tell it, number by number, and keeps the first error.
type Reader struct {
	Rest []byte
	Err  api.Errno
}

// Fail keeps an error, if there was none, and lets the bytes go.
func (r *Reader) Fail(e api.Errno) {
	if r.Err == api.OK {
		r.Err = e
	}
	r.Rest = nil
}

// Num reads a count, which is of a wrong form above 8, and so many bytes, of which the first one isn't 0.
func (r *Reader) Num() uint64 {
	if r.Err != api.OK {
		return 0
	}
	if len(r.Rest) == 0 {
		r.Fail(api.ErrShort)
		return 0
	}
	n := int(r.Rest[0])
	if n > 8 || n > 0 && len(r.Rest) > 1 && r.Rest[1] == 0 {
		r.Fail(api.ErrForm)
		return 0
	}
	if len(r.Rest) < 1+n {
		r.Fail(api.ErrShort)
		return 0
	}
	v := uint64(0)
	for _, c := range r.Rest[1 : 1+n] {
		v = v*256 + uint64(c)
	}
	r.Rest = r.Rest[1+n:]
	return v
}

// Byte reads a byte.
func (r *Reader) Byte() byte {
	if len(r.Rest) == 0 {
		r.Fail(api.ErrShort)
		return 0
	}
	c := r.Rest[0]
	r.Rest = r.Rest[1:]
	return c
}

// count reads how many there are, which are too many above most; below 0 it counts as 0.
func (r *Reader) count(most int) uint64 {
	n := r.Num()
	if r.Err == api.OK && (most <= 0 && n > 0 || most > 0 && n > uint64(most)) {
		r.Fail(api.ErrLong)
	}
	return n
}

// Text reads how many bytes a text has, which is refused if it is above most, and these.
func (r *Reader) Text(most int) string {
	n := r.count(most)
	if r.Err == api.OK && n > uint64(len(r.Rest)) {
		r.Fail(api.ErrShort)
	}
	if r.Err != api.OK {
		return ""
	}
	s := string(r.Rest[:n])
	r.Rest = r.Rest[n:]
	return s
}

// Dev reads a device, which is refused as it comes.
func (r *Reader) Dev() uint16 {
	v := r.Num()
	if v > 65535 {
		r.Fail(api.ErrForm)
		return 0
	}
	return uint16(v)
}

// Dot reads a dot.
func (r *Reader) Dot() api.Dot {
	dev := r.Dev()
	n := r.Num()
	if r.Err == api.OK && !MayBe(Dot(dev, n)) {
		r.Fail(api.ErrForm)
	}
	if r.Err != api.OK {
		return api.Dot{}
	}
	return Dot(dev, n)
}

// Dots reads dots that rise, which is asked as it goes.
func (r *Reader) Dots(most int) []api.Dot {
	n := r.count(most)
	var list []api.Dot
	for i := uint64(0); r.Err == api.OK && i < n; i++ {
		d := r.Dot()
		if r.Err == api.OK && i > 0 && !Ahead(list[i-1], d) {
			r.Fail(api.ErrForm)
		}
		list = append(list, d)
	}
	if r.Err != api.OK {
		return nil
	}
	return list
}

// Ctx reads a context, of which is asked at the end whether it is in order.
func (r *Reader) Ctx() api.Ctx {
	n := r.Num()
	var c api.Ctx
	for i := uint64(0); r.Err == api.OK && i < n; i++ {
		p := api.Part{Dev: r.Dev()}
		runs := r.Num()
		for j := uint64(0); r.Err == api.OK && j < runs; j++ {
			lo := r.Num()
			hi := r.Num()
			p.Runs = append(p.Runs, api.Run{Lo: lo, Hi: hi})
		}
		c = append(c, p)
	}
	if r.Err == api.OK && !InOrder(c) {
		r.Fail(api.ErrForm)
	}
	if r.Err != api.OK {
		return nil
	}
	return c
}

// Event reads an event, of which is asked at the end whether it may be.
func (r *Reader) Event() api.Event {
	e := api.Event{Dot: r.Dot()}
	e.Kind = r.Byte()
	e.Cid = r.Num()
	e.Field = r.Byte()
	e.Text = r.Text(60)
	e.Kills = r.Dots(256)
	if r.Err == api.OK && !EventMayBe(e) {
		r.Fail(api.ErrForm)
	}
	if r.Err != api.OK {
		return api.Event{}
	}
	return e
}

// Events reads events, and asks of each, as it goes, whether its dot stands behind the one ahead of it.
func (r *Reader) Events(most int) []api.Event {
	n := r.count(most)
	var list []api.Event
	for i := uint64(0); r.Err == api.OK && i < n; i++ {
		e := r.Event()
		if r.Err == api.OK && i > 0 && !Ahead(list[i-1].Dot, e.Dot) {
			r.Fail(api.ErrForm)
		}
		list = append(list, e)
	}
	if r.Err != api.OK {
		return nil
	}
	return list
}
