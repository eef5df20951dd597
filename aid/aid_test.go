package aid

import (
	"bytes"
	"slices"
	"testing"

	"epitaph/api"
)

// Things written in short are those of api, whatever is lacking at their end.
func TestShort(t *testing.T) {
	if l := Dots(3, 17, Last, Huge, 5); !slices.Equal(l, []api.Dot{{Dev: 3, N: 17}, {Dev: 65535, N: 1<<64 - 1}}) {
		t.Error(l)
	}
	if l := Runs(1, 2, 5, 4, 9); !slices.Equal(l, []api.Run{{Lo: 1, Hi: 2}, {Lo: 5, Hi: 4}}) {
		t.Error(l)
	}
	if p := Part(7, 1, 2); p.Dev != 7 || !slices.Equal(p.Runs, Runs(1, 2)) {
		t.Error(p)
	}
	if s := Told(Dot(0, Huge)); s != "0.18446744073709551615" {
		t.Error(s)
	}
	for _, d := range Never() {
		if MayBe(d) {
			t.Error(Told(d))
		}
	}
}

// A copy is alike till one of both is written into.
func TestCopied(t *testing.T) {
	c := api.Ctx{Part(1, 1, 2), Part(2, 3, 4)}
	other := Copied(c)
	if !Alike(c, other) {
		t.Error(other)
	}
	for _, x := range []api.Ctx{nil, c[:1], {c[1], c[0]}, {Part(1, 1, 2), Part(2, 3, 5)}, {Part(1, 1, 2), Part(3, 3, 4)}, {Part(1, 1, 2), Part(2)}} {
		if Alike(c, x) || Alike(x, c) {
			t.Error(x)
		}
	}
	if other[0].Runs[0].Hi = 9; Alike(c, other) || c[0].Runs[0].Hi != 2 {
		t.Error(c)
	}
}

// All lists are gone over, each once, and none shares its room with another one.
func TestLists(t *testing.T) {
	var all []string
	var kept [][]byte
	Lists([]byte("ab"), 2, func(l []byte) {
		all = append(all, string(l))
		kept = append(kept, l)
	})
	if want := []string{"", "a", "aa", "ab", "b", "ba", "bb"}; !slices.Equal(all, want) {
		t.Error(all)
	}
	for i, l := range kept {
		if string(l) != all[i] {
			t.Error(i, l)
		}
	}
}

// Dots that may be, and how they stand, written out.
func TestWordsOfDots(t *testing.T) {
	good := Dots(1, 1, 1, 2, 1, Most, 2, 1, Last, 1, Last, Most)
	for i, a := range good {
		if !MayBe(a) {
			t.Error(Told(a))
		}
		for k, b := range good {
			if Ahead(a, b) != (i < k) {
				t.Error(Told(a), Told(b))
			}
		}
	}
}

// What contexts have, and which are in order, written out.
func TestWordsOfContexts(t *testing.T) {
	c := api.Ctx{Part(2, 5, 4, 3, 4, 0, 9), Part(0, 1, 1), Part(1, Most, Most, 1, Above), Part(2, 6, 6)}
	for _, d := range Dots(2, 3, 2, 4, 2, 6, 1, Most) {
		if !Has(c, d) {
			t.Error(Told(d))
		}
	}
	for _, d := range Dots(2, 2, 2, 5, 2, 7, 1, 1, 1, Most-1, 1, Above, 0, 1, 3, 3) {
		if Has(c, d) {
			t.Error(Told(d))
		}
	}
	for _, x := range []api.Ctx{nil, {Part(1, 1, 1)}, {Part(1, 1, 1, 3, Most), Part(Last, 2, 2)}} {
		if !InOrder(x) {
			t.Error(x)
		}
	}
	for _, x := range []api.Ctx{c, {Part(0, 1, 1)}, {Part(1)}, {Part(1, 0, 1)}, {Part(1, 2, 1)}, {Part(1, 1, Above)}, {Part(1, 1, 1, 2, 2)},
		{Part(1, 3, 3, 1, 1)}, {Part(2, 1, 1), Part(1, 1, 1)}, {Part(1, 1, 1), Part(1, 3, 3)}, {Part(1, 1, 1), Part(2)}} {
		if InOrder(x) {
			t.Error(x)
		}
	}
}

// Bytes, written out.
func TestBytes(t *testing.T) {
	if b := Nums(0, 1, 258, Huge); !bytes.Equal(b, []byte{0, 1, 1, 2, 1, 2, 8, 255, 255, 255, 255, 255, 255, 255, 255}) {
		t.Error(b)
	}
	if b := DotsBytes(Dots(3, 17, 0, 256)); !bytes.Equal(b, []byte{1, 2, 1, 3, 1, 17, 0, 2, 1, 0}) {
		t.Error(b)
	}
	if b := CtxBytes(api.Ctx{Part(1, 1, 2)}); !bytes.Equal(b, []byte{1, 1, 1, 1, 1, 1, 1, 1, 1, 2}) {
		t.Error(b)
	}
}

// The reader reads what was written, one behind another, and stays at its first error.
func TestReader(t *testing.T) {
	c := api.Ctx{Part(1, 1, 2, 4, 4), Part(2, 2, 2)}
	l := Dots(1, 1, 1, 2, 2, 1)
	r := &Reader{Rest: slices.Concat(Nums(258), DotBytes(l[0]), DotsBytes(l), CtxBytes(c), Nums(0))}
	if r.Num() != 258 || r.Dot() != l[0] || !slices.Equal(r.Dots(3), l) || !Alike(r.Ctx(), c) || r.Num() != 0 || r.Err != api.OK || len(r.Rest) != 0 {
		t.Error(r)
	}
	if r.Num() != 0 || r.Err != api.ErrShort {
		t.Error(r)
	}
	if r.Fail(api.ErrForm); r.Err != api.ErrShort {
		t.Error(r)
	}
}

// Bytes that are wrong, each with its error.
func TestReaderErrors(t *testing.T) {
	num := func(r *Reader) { r.Num() }
	dot := func(r *Reader) { r.Dot() }
	dots := func(r *Reader) { r.Dots(2) }
	ctx := func(r *Reader) { r.Ctx() }
	list := []struct {
		read func(r *Reader)
		b    []byte
		e    api.Errno
	}{
		{num, nil, api.ErrShort}, {num, []byte{9}, api.ErrForm}, {num, []byte{1}, api.ErrShort}, {num, []byte{2, 0}, api.ErrForm},
		{num, []byte{2, 1}, api.ErrShort}, {dot, Nums(Last+1, 1), api.ErrForm}, {dot, Nums(Last + 1), api.ErrForm}, {dot, Nums(0), api.ErrShort},
		{dot, Nums(0, 1), api.ErrForm}, {dots, Nums(3), api.ErrLong}, {dots, Nums(2, 1, 1), api.ErrShort}, {dots, Nums(2, 1, 1, 1, 1), api.ErrForm},
		{ctx, Nums(1, 1, 2, 1, 1), api.ErrShort}, {ctx, Nums(1, 1, 0), api.ErrForm}, {ctx, Nums(2, 2, 1, 1, 1, 1, 1, 1, 1), api.ErrForm},
		{ctx, Nums(1, Last+1), api.ErrForm},
	}
	for _, x := range list {
		r := &Reader{Rest: x.b}
		if x.read(r); r.Err != x.e || len(r.Rest) != 0 {
			t.Errorf("%v: %d, want %d", x.b, r.Err, x.e)
		}
	}
}
