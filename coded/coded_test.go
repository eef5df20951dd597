package coded

import (
	"bytes"
	"math/rand"
	"testing"

	"epitaph/aid"
	"epitaph/pack"
)

// What a writer has.
func TestWritten(t *testing.T) {
	if b := Written(func(w *pack.Writer) { w.Byte(3); w.Text("a") }); !bytes.Equal(b, []byte{3, 1, 1, 'a'}) {
		t.Error(b)
	}
}

// What is read as it was written is found right, what is not is told.
func TestInTurn(t *testing.T) {
	flag := func(w *pack.Writer, g aid.Chance) func(r *pack.Reader) bool {
		yes := g.Intn(2) == 0
		w.Flag(yes)
		return func(r *pack.Reader) bool { return r.Flag() == yes }
	}
	if why := InTurn(rand.New(rand.NewSource(1)), 200, flag); why != "" {
		t.Error(why)
	}
	other := func(w *pack.Writer, g aid.Chance) func(r *pack.Reader) bool {
		w.Byte(1)
		return func(r *pack.Reader) bool { return r.Byte() == 2 }
	}
	less := func(w *pack.Writer, g aid.Chance) func(r *pack.Reader) bool {
		w.Byte(1)
		return func(r *pack.Reader) bool { return true }
	}
	more := func(w *pack.Writer, g aid.Chance) func(r *pack.Reader) bool {
		return func(r *pack.Reader) bool { return r.Byte() == 0 }
	}
	for i, x := range []Thing{other, less, more} {
		if InTurn(rand.New(rand.NewSource(1)), 200, flag, x) == "" {
			t.Error(i)
		}
	}
}
