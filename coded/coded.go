// Package coded helps the tests of the layers that write things by pack, and read them. No layer uses it.
package coded

import (
	"strconv"

	"epitaph/aid"
	"epitaph/api"
	"epitaph/pack"
)

// Written is what a writer has behind a call.
func Written(put func(w *pack.Writer)) []byte {
	var w pack.Writer
	put(&w)
	return w.Bytes()
}

// Thing writes something that is drawn, and answers what tells whether it is read.
type Thing func(w *pack.Writer, g aid.Chance) func(r *pack.Reader) bool

// Num writes a number of any size.
func Num(w *pack.Writer, g aid.Chance) func(r *pack.Reader) bool {
	v := g.Uint64() >> g.Intn(64)
	w.Num(v)
	return func(r *pack.Reader) bool { return r.Num() == v }
}

// Text writes a short text.
func Text(w *pack.Writer, g aid.Chance) func(r *pack.Reader) bool {
	s := "abcde"[:g.Intn(6)]
	w.Text(s)
	return func(r *pack.Reader) bool { return r.Text(5) == s }
}

// InTurn writes so many rows of drawn things, numbers and texts among them, and tells what is read otherwise: nothing, if all is read as it was written.
func InTurn(g aid.Chance, many int, things ...Thing) string {
	things = append([]Thing{Num, Text}, things...)
	for range many {
		var w pack.Writer
		var reads []func(r *pack.Reader) bool
		for range g.Intn(12) {
			reads = append(reads, things[g.Intn(len(things))](&w, g))
		}
		if why := readInTurn(pack.New(w.Bytes()), reads); why != "" {
			return why
		}
	}
	return ""
}

// readInTurn tells which thing is read otherwise, or whether there is something behind all of them.
func readInTurn(r *pack.Reader, reads []func(r *pack.Reader) bool) string {
	for i, read := range reads {
		if !read(r) || r.Err() != api.OK {
			return "thing " + strconv.Itoa(i) + " is read otherwise: " + strconv.Itoa(int(r.Err()))
		}
	}
	if r.End() != api.OK {
		return "the end: " + strconv.Itoa(int(r.Err()))
	}
	return ""
}
