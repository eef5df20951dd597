package pack

import (
	"bytes"
	"math"
	"math/big"
	"math/rand"
	"strings"
	"testing"

	"epitaph/aid"
	"epitaph/api"
)

const maxWord = math.MaxUint64

var numBytes = aid.NumBytes

func textBytes(s string) []byte {
	return append(numBytes(uint64(len(s))), s...)
}

func flagBytes(yes bool) []byte {
	if yes {
		return []byte{1}
	}
	return []byte{0}
}

// numbers are those at both sides of each border between counts of bytes, and some in between.
func numbers() []uint64 {
	list := []uint64{0, 1, 2, 127, 128, 258, maxWord - 1, maxWord, 0x0123456789abcdef}
	for i := 1; i < 8; i++ {
		edge := uint64(1) << (8 * i)
		list = append(list, edge-1, edge, edge+1)
	}
	return list
}

func allBytes() string {
	b := make([]byte, 256)
	for i := range b {
		b[i] = byte(i)
	}
	return string(b)
}

// texts have no byte, one of every value, lengths at both sides of each border that is near, and runes whole and broken.
func texts() []string {
	list := []string{"", "ab", "\x00", "\x00\x00", "\xff\xfe", "Grüße, Zoë", "\xc3", allBytes()}
	for i := range 256 {
		list = append(list, string([]byte{byte(i)}))
	}
	for _, n := range []int{59, 60, 61, 254, 255, 257, 65535, 65536} {
		list = append(list, strings.Repeat("x", n))
	}
	return list
}

func want(t *testing.T, w *Writer, list []byte) {
	t.Helper()
	if got := w.Bytes(); !bytes.Equal(got, list) {
		t.Fatalf("written %.60v (%d), want %.60v (%d)", got, len(got), list, len(list))
	}
}

// P4.1: the chapter's example, written and read.
func TestExample(t *testing.T) {
	w := &Writer{}
	w.Num(258)
	w.Text("ab")
	want(t, w, []byte{2, 1, 2, 1, 2, 0x61, 0x62})
	r := New([]byte{2, 1, 2, 1, 2, 0x61, 0x62})
	if v, s := r.Num(), r.Text(2); v != 258 || s != "ab" || r.End() != api.OK {
		t.Errorf("read %d, %q, %d", v, s, r.Err())
	}
}

// P4.1: each kind of thing by itself, behind nothing.
func TestWriteOne(t *testing.T) {
	for _, v := range numbers() {
		w := &Writer{}
		w.Num(v)
		want(t, w, numBytes(v))
	}
	for c := range 256 {
		w := &Writer{}
		w.Byte(byte(c))
		want(t, w, []byte{byte(c)})
	}
	for _, yes := range []bool{false, true} {
		w := &Writer{}
		w.Flag(yes)
		want(t, w, flagBytes(yes))
	}
	for _, s := range texts() {
		w := &Writer{}
		w.Text(s)
		want(t, w, textBytes(s))
	}
}

// P4.1: each thing stands behind all that the writer had, and Bytes changes nothing.
func TestWriteBehind(t *testing.T) {
	w := &Writer{}
	var list []byte
	step := func(more []byte) {
		t.Helper()
		list = append(list, more...)
		want(t, w, list)
		want(t, w, list)
	}
	step(nil)
	w.Flag(true)
	step([]byte{1})
	w.Text("")
	step([]byte{0})
	w.Num(0)
	step([]byte{0})
	w.Byte(255)
	step([]byte{255})
	w.Text(allBytes())
	step(textBytes(allBytes()))
	w.Flag(false)
	step([]byte{0})
	w.Num(maxWord)
	step([]byte{8, 255, 255, 255, 255, 255, 255, 255, 255})
	w.Byte(0)
	step([]byte{0})
	w.Text("ab")
	step([]byte{1, 2, 'a', 'b'})
}

// Of nil: a writer writes nothing, and has nothing.
func TestNilWriter(t *testing.T) {
	var w *Writer
	for range 2 {
		w.Num(0)
		w.Num(maxWord)
		w.Byte(7)
		w.Flag(true)
		w.Flag(false)
		w.Text("")
		w.Text("ab")
		if got := w.Bytes(); len(got) != 0 {
			t.Errorf("a nil writer has %v", got)
		}
	}
}

// A plain Writer{} has nothing, and writes as any other.
func TestPlainWriter(t *testing.T) {
	w := Writer{}
	want(t, &w, nil)
	w.Num(258)
	w.Text("ab")
	want(t, &w, []byte{2, 1, 2, 1, 2, 'a', 'b'})
	want(t, new(Writer), nil)
}

// P4.1, rule 4: what Bytes told and what the writer has share nothing, whoever writes.
func TestWriterShares(t *testing.T) {
	w := &Writer{}
	var list []byte
	for i := range 300 {
		told := w.Bytes()
		again := w.Bytes()
		fill(told, 0xee)
		if !bytes.Equal(again, list) {
			t.Fatalf("step %d: writing into one answer turned another: %v", i, again)
		}
		want(t, w, list)
		w.Byte(byte(i))
		if !bytes.Equal(again, list) {
			t.Fatalf("step %d: the writer turned what it told: %v", i, again)
		}
		list = append(list, byte(i))
		fill(again, 0xdd)
		want(t, w, list)
	}
}

// fill writes into a list and into the room behind it.
func fill(b []byte, c byte) {
	b = b[:cap(b)]
	for i := range b {
		b[i] = c
	}
}

// Rule 6: two writers know nothing of each other.
func TestTwoWriters(t *testing.T) {
	a, b := &Writer{}, &Writer{}
	for i := range 100 {
		a.Byte(byte(i))
		b.Byte(byte(255 - i))
	}
	for i := range 100 {
		if a.Bytes()[i] != byte(i) || b.Bytes()[i] != byte(255-i) {
			t.Fatal(a.Bytes(), b.Bytes())
		}
	}
}

// reads are all that a reader may be asked to read, each as a call whose answer is told as one kind of thing.
func reads() map[string]func(r *Reader) any {
	return map[string]func(r *Reader) any{
		"Num":            func(r *Reader) any { return r.Num() },
		"Upto 0":         func(r *Reader) any { return r.Upto(0) },
		"Upto greatest":  func(r *Reader) any { return r.Upto(maxWord) },
		"Byte":           func(r *Reader) any { return r.Byte() },
		"Flag":           func(r *Reader) any { return r.Flag() },
		"Text 0":         func(r *Reader) any { return r.Text(0) },
		"Text -1":        func(r *Reader) any { return r.Text(-1) },
		"Text 60":        func(r *Reader) any { return r.Text(60) },
		"Text least":     func(r *Reader) any { return r.Text(math.MinInt) },
		"Text greatest":  func(r *Reader) any { return r.Text(math.MaxInt) },
		"Left, a number": func(r *Reader) any { return uint64(r.Left()) },
	}
}

func isZero(v any) bool {
	switch x := v.(type) {
	case uint64:
		return x == 0
	case byte:
		return x == 0
	case bool:
		return !x
	case string:
		return x == ""
	}
	return false
}

// silent asks a reader for all that there is, twice, and that it tells nothing but the error.
func silent(t *testing.T, r *Reader, want api.Errno) {
	t.Helper()
	for range 2 {
		for name, read := range reads() {
			if got := read(r); !isZero(got) {
				t.Errorf("%s with error %d told %v", name, want, got)
			}
			if e := r.Err(); e != want {
				t.Errorf("behind %s the error is %d, want %d", name, e, want)
			}
		}
		r.Fail(api.OK)
		r.Fail(api.ErrDown)
		r.Fail(api.ErrSum)
		if e, end := r.Err(), r.End(); e != want || end != want || r.Left() != 0 {
			t.Errorf("Err %d, End %d, Left %d, want error %d", e, end, r.Left(), want)
		}
	}
}

// Of a nil reader: ErrArg of Err and End; else nothing.
func TestNilReader(t *testing.T) {
	var r *Reader
	silent(t, r, api.ErrArg)
}

// A plain Reader{} and a reader of nil or of empty bytes are readers of no bytes.
func TestNoBytes(t *testing.T) {
	kinds := map[string]func() *Reader{
		"plain": func() *Reader { return &Reader{} },
		"nil":   func() *Reader { return New(nil) },
		"empty": func() *Reader { return New([]byte{}) },
		"room":  func() *Reader { return New(make([]byte, 0, 10)) },
	}
	for kind, begin := range kinds {
		r := begin()
		if r == nil {
			t.Fatalf("%s: no reader", kind)
		}
		if r.Left() != 0 || r.Err() != api.OK || r.End() != api.OK || r.End() != api.OK || r.Err() != api.OK {
			t.Errorf("%s: Left %d, Err %d", kind, r.Left(), r.Err())
		}
		for name, read := range reads() {
			r := begin()
			if got := read(r); !isZero(got) {
				t.Errorf("%s: %s told %v", kind, name, got)
			}
			if strings.HasPrefix(name, "Left") {
				continue
			}
			if r.Err() != api.ErrShort || r.End() != api.ErrShort {
				t.Errorf("%s: %s: error %d, want %d", kind, name, r.Err(), api.ErrShort)
			}
			silent(t, r, api.ErrShort)
		}
		r.Fail(api.ErrGap)
		silent(t, r, api.ErrGap)
	}
}

// P4.2: numbers at both sides of each border are read, and the bytes behind them stay.
func TestNum(t *testing.T) {
	for _, v := range numbers() {
		r := New(append(numBytes(v), 9, 9))
		if got := r.Num(); got != v || r.Left() != 2 || r.Err() != api.OK {
			t.Errorf("%d was read as %d with %d left, error %d", v, got, r.Left(), r.Err())
		}
	}
}

// P4.2: num.Read's errors are told, each of Num, of Upto and of Text's length, with nothing beside.
func TestWrongNum(t *testing.T) {
	for _, c := range []struct {
		b    []byte
		want api.Errno
	}{
		{nil, api.ErrShort},
		{[]byte{1}, api.ErrShort},
		{[]byte{2, 1}, api.ErrShort},
		{[]byte{8, 1, 1, 1, 1, 1, 1, 1}, api.ErrShort},
		{[]byte{9}, api.ErrForm},
		{[]byte{255, 1, 1, 1}, api.ErrForm},
		{[]byte{1, 0}, api.ErrForm},
		{[]byte{2, 0}, api.ErrForm},
		{[]byte{8, 0, 1, 1, 1, 1, 1, 1, 1}, api.ErrForm},
	} {
		for _, name := range []string{"Num", "Upto 0", "Upto greatest", "Text 0", "Text -1", "Text 60", "Text least", "Text greatest"} {
			r := New(c.b)
			if got := reads()[name](r); !isZero(got) || r.Err() != c.want {
				t.Errorf("%s of %v: %v, error %d, want %d", name, c.b, got, r.Err(), c.want)
			}
			silent(t, r, c.want)
		}
	}
}

// P4.2: a number just at what Upto takes is told, one just above it is ErrForm.
func TestUpto(t *testing.T) {
	for _, v := range numbers() {
		for _, most := range numbers() {
			r := New(append(numBytes(v), 1))
			got := r.Upto(most)
			if v > most {
				if got != 0 || r.Err() != api.ErrForm {
					t.Errorf("Upto(%d) of %d = %d, error %d, want ErrForm", most, v, got, r.Err())
				}
				silent(t, r, api.ErrForm)
			} else if got != v || r.Err() != api.OK || r.Left() != 1 {
				t.Errorf("Upto(%d) of %d = %d, error %d, %d left", most, v, got, r.Err(), r.Left())
			}
		}
	}
}

// P4.2: bytes of every value, and ErrShort behind the last one.
func TestByte(t *testing.T) {
	r := New([]byte(allBytes()))
	for c := range 256 {
		if got := r.Byte(); got != byte(c) || r.Left() != 255-c || r.Err() != api.OK {
			t.Fatalf("byte %d was read as %d with %d left, error %d", c, got, r.Left(), r.Err())
		}
	}
	if got := r.Byte(); got != 0 || r.Err() != api.ErrShort {
		t.Errorf("behind the end: %d, error %d", got, r.Err())
	}
	silent(t, r, api.ErrShort)
}

// P4.2: of all bytes 0 and 1 are flags, the others ErrForm.
func TestFlag(t *testing.T) {
	for c := range 256 {
		r := New([]byte{byte(c), 1})
		got := r.Flag()
		if c > 1 {
			if got || r.Err() != api.ErrForm {
				t.Errorf("flag %d: %v, error %d, want ErrForm", c, got, r.Err())
			}
			silent(t, r, api.ErrForm)
		} else if got != (c == 1) || r.Err() != api.OK || r.Left() != 1 {
			t.Errorf("flag %d: %v, error %d, %d left", c, got, r.Err(), r.Left())
		}
	}
}

// P4.2: a text is told if its length is at most what Text takes, else ErrLong, with most below 0 counting as 0.
func TestTextMost(t *testing.T) {
	mosts := []int{math.MinInt, math.MinInt + 1, -1 << 32, -2, -1, 0, 1, 2, 59, 60, 61, 255, 256, 257, 65535, 65536, 65537, 1 << 32, math.MaxInt - 1, math.MaxInt}
	for _, s := range texts() {
		for _, most := range mosts {
			r := New(append(textBytes(s), 5, 6, 7))
			got := r.Text(most)
			if len(s) > max(most, 0) {
				if got != "" || r.Err() != api.ErrLong {
					t.Errorf("Text(%d) of %d bytes: %d bytes, error %d, want ErrLong", most, len(s), len(got), r.Err())
				}
				silent(t, r, api.ErrLong)
			} else if got != s || r.Err() != api.OK || r.Left() != 3 {
				t.Errorf("Text(%d) of %d bytes: %d bytes, error %d, %d left", most, len(s), len(got), r.Err(), r.Left())
			}
		}
	}
}

// P4.2: lengths far above the bytes that are left, and above all that an int holds: ErrLong goes ahead of ErrShort.
func TestTextFarTooLong(t *testing.T) {
	lengths := []uint64{4, 5, 255, 1 << 31, 1<<32 - 1, 1 << 32, 1<<32 + 3, math.MaxInt - 1, math.MaxInt, math.MaxInt + 1, 1<<63 + 3, maxWord - 1, maxWord}
	for _, n := range lengths {
		for _, most := range []int{math.MinInt, -1, 0, 3, 4, 5, 254, 255, 1<<31 - 1, 1 << 31, 1 << 32, math.MaxInt - 1, math.MaxInt} {
			r := New(append(numBytes(n), "abc"...))
			errno := api.ErrShort
			if most < 0 || n > uint64(most) {
				errno = api.ErrLong
			}
			if got := r.Text(most); got != "" || r.Err() != errno {
				t.Errorf("Text(%d) of length %d: %q, error %d, want %d", most, n, got, r.Err(), errno)
			}
			silent(t, r, errno)
		}
	}
}

// P4.2: a text needs just its bytes: with all of them it is told, with one less it is ErrShort.
func TestTextShort(t *testing.T) {
	for _, s := range []string{"a", "ab", allBytes()} {
		b := textBytes(s)
		r := New(b)
		if got := r.Text(len(s)); got != s || r.End() != api.OK {
			t.Errorf("%q was read as %q, error %d", s, got, r.Err())
		}
		for n := range b {
			r := New(b[:n])
			if got := r.Text(len(s)); got != "" || r.Err() != api.ErrShort {
				t.Errorf("%q cut at %d: %q, error %d", s, n, got, r.Err())
			}
			silent(t, r, api.ErrShort)
		}
	}
}

// P4.2: what was read is read no more, kind behind kind.
func TestReadOneBehindAnother(t *testing.T) {
	r := New([]byte{1, 7, 0, 1, 3, 1, 2, 'h', 'i', 0, 0, 200})
	if v := r.Num(); v != 7 || r.Left() != 10 {
		t.Error("Num", v, r.Left())
	}
	if yes := r.Flag(); yes || r.Left() != 9 {
		t.Error("Flag", yes, r.Left())
	}
	if v := r.Upto(3); v != 3 || r.Left() != 7 {
		t.Error("Upto", v, r.Left())
	}
	if s := r.Text(2); s != "hi" || r.Left() != 3 {
		t.Error("Text", s, r.Left())
	}
	if s := r.Text(0); s != "" || r.Left() != 2 {
		t.Error("Text without a byte", s, r.Left())
	}
	if v := r.Num(); v != 0 || r.Left() != 1 {
		t.Error("Num 0", v, r.Left())
	}
	if c := r.Byte(); c != 200 || r.Left() != 0 {
		t.Error("Byte", c, r.Left())
	}
	if r.Err() != api.OK || r.End() != api.OK {
		t.Error("End", r.Err())
	}
}

// P4.2: with an error of any call the first error stays, whatever follows, though the bytes behind would be right.
func TestFirstErrorStays(t *testing.T) {
	good := []byte{1, 1, 1, 1, 1, 1, 1, 1, 1, 1}
	for _, c := range []struct {
		name string
		b    []byte
		read func(r *Reader) any
		want api.Errno
	}{
		{"Num", []byte{9}, func(r *Reader) any { return r.Num() }, api.ErrForm},
		{"Upto", []byte{1, 6}, func(r *Reader) any { return r.Upto(5) }, api.ErrForm},
		{"Flag", []byte{2}, func(r *Reader) any { return r.Flag() }, api.ErrForm},
		{"Text", []byte{1, 3}, func(r *Reader) any { return r.Text(2) }, api.ErrLong},
		{"Text", []byte{1, 200}, func(r *Reader) any { return r.Text(200) }, api.ErrShort},
		{"Text", []byte{2, 0}, func(r *Reader) any { return r.Text(200) }, api.ErrForm},
		{"End", nil, func(r *Reader) any { r.End(); return byte(0) }, api.ErrForm},
		{"Fail", nil, func(r *Reader) any { r.Fail(api.ErrSpent); return byte(0) }, api.ErrSpent},
	} {
		r := New(append(bytes.Clone(c.b), good...))
		if got := c.read(r); !isZero(got) {
			t.Errorf("%s of %v told %v", c.name, c.b, got)
		}
		silent(t, r, c.want)
	}
}

// P4.2, rule 4: a reader goes by the bytes that it was given, whatever is written there later, and writes nothing itself.
func TestReaderShares(t *testing.T) {
	b := append([]byte{2, 1, 2, 1, 2, 'a', 'b'}, 1, 7)
	kept := bytes.Clone(b)
	r, other := New(b), New(b)
	s := New(b[3:7]).Text(2)
	for _, x := range []*Reader{r, other} {
		if v, s := x.Num(), x.Text(2); v != 258 || s != "ab" {
			t.Errorf("read %d, %q", v, s)
		}
		if !bytes.Equal(b, kept) {
			t.Fatalf("reading changed %v into %v", kept, b)
		}
	}
	fill(b, 0xff)
	if s != "ab" {
		t.Errorf("what was told has turned into %q", s)
	}
	if v, yes := r.Byte(), r.Left(); v != 1 || yes != 1 {
		t.Errorf("what is written into the bytes turned the reader: %d, %d", v, yes)
	}
	if v := other.Num(); v != 7 || other.End() != api.OK {
		t.Errorf("what is written into the bytes, or read elsewhere, turned a reader: %d, %d", v, other.Err())
	}
}

// P4.2: the room behind the bytes that come in is not read.
func TestReaderRoom(t *testing.T) {
	room := []byte{1, 7, 1, 1, 1, 1}
	r := New(room[:1])
	if v := r.Num(); v != 0 || r.Err() != api.ErrShort || r.Left() != 0 {
		t.Errorf("read %d beyond the length, error %d", v, r.Err())
	}
}

// P4.3: Fail with OK is nothing, ahead of an error it is the error, behind one nothing.
func TestFail(t *testing.T) {
	for e := api.ErrArg; e < api.Errors; e++ {
		r := New([]byte{1, 7, 1, 8})
		r.Fail(api.OK)
		if r.Err() != api.OK || r.Left() != 4 || r.Num() != 7 {
			t.Errorf("Fail(OK) told: error %d, %d left", r.Err(), r.Left())
		}
		r.Fail(e)
		if r.Err() != e || r.Left() != 0 {
			t.Errorf("Fail(%d): error %d, %d left", e, r.Err(), r.Left())
		}
		for other := api.OK; other < api.Errors; other++ {
			r.Fail(other)
			if r.Err() != e {
				t.Errorf("Fail(%d) behind %d: error %d", other, e, r.Err())
			}
		}
		silent(t, r, e)
	}
}

// P4.3: Fail behind all bytes is an error too, and whatever is not OK is one.
func TestFailAtEnd(t *testing.T) {
	r := New([]byte{7})
	r.Byte()
	if r.End() != api.OK {
		t.Error("End", r.Err())
	}
	r.Fail(api.ErrThere)
	silent(t, r, api.ErrThere)
	for _, e := range []api.Errno{-1, api.Errors, math.MinInt, math.MaxInt} {
		r := New([]byte{7})
		r.Fail(e)
		silent(t, r, e)
	}
}

// P4.3: Left goes down by what was read, and asking changes nothing.
func TestLeft(t *testing.T) {
	b := make([]byte, 50, 90)
	r := New(b)
	for n := 50; n > 0; n-- {
		if r.Left() != n || r.Left() != n || r.Err() != api.OK {
			t.Fatalf("Left %d, want %d", r.Left(), n)
		}
		r.Byte()
	}
	if r.Left() != 0 || r.Err() != api.OK {
		t.Error("Left", r.Left(), r.Err())
	}
}

// P4.3: End is OK with no byte left, and stays so; with bytes left it is ErrForm, and that stays as any other error.
func TestEnd(t *testing.T) {
	r := New([]byte{1, 7})
	r.Num()
	if r.End() != api.OK || r.End() != api.OK || r.Err() != api.OK {
		t.Error("End with no byte left", r.Err())
	}
	if r.Byte() != 0 || r.Err() != api.ErrShort || r.End() != api.ErrShort {
		t.Error("a byte behind End", r.Err())
	}
	for n := 1; n < 5; n++ {
		r := New(make([]byte, n))
		if r.Err() != api.OK || r.End() != api.ErrForm || r.End() != api.ErrForm || r.Err() != api.ErrForm || r.Left() != 0 {
			t.Errorf("End with %d bytes left: error %d", n, r.Err())
		}
		silent(t, r, api.ErrForm)
	}
	r = New([]byte{9, 9})
	r.Fail(api.ErrMember)
	if r.End() != api.ErrMember {
		t.Error("End behind another error", r.Err())
	}
}

// thing is one of any kind, with its bytes and a way to write it and to read it.
type thing struct {
	list  []byte
	write func(w *Writer)
	read  func(r *Reader) bool
}

func numThing(v uint64) thing {
	return thing{numBytes(v), func(w *Writer) { w.Num(v) }, func(r *Reader) bool { return r.Num() == v }}
}

func uptoThing(v, most uint64) thing {
	return thing{numBytes(v), func(w *Writer) { w.Num(v) }, func(r *Reader) bool { return r.Upto(most) == v }}
}

func byteThing(c byte) thing {
	return thing{[]byte{c}, func(w *Writer) { w.Byte(c) }, func(r *Reader) bool { return r.Byte() == c }}
}

func flagThing(yes bool) thing {
	return thing{flagBytes(yes), func(w *Writer) { w.Flag(yes) }, func(r *Reader) bool { return r.Flag() == yes }}
}

func textThing(s string, most int) thing {
	return thing{textBytes(s), func(w *Writer) { w.Text(s) }, func(r *Reader) bool { return r.Text(most) == s }}
}

func anyThing(g *rand.Rand) thing {
	switch g.Intn(5) {
	case 0:
		return numThing(g.Uint64() >> g.Intn(65))
	case 1:
		v := g.Uint64() >> g.Intn(65)
		return uptoThing(v, v|g.Uint64()>>g.Intn(65))
	case 2:
		return byteThing(byte(g.Intn(256)))
	case 3:
		return flagThing(g.Intn(2) == 1)
	}
	b := make([]byte, g.Intn(10)*g.Intn(10))
	g.Read(b)
	return textThing(string(b), len(b)+g.Intn(3))
}

// P4.4: things of all kinds, in any order, are read as they were written.
func TestWrittenIsRead(t *testing.T) {
	g := rand.New(rand.NewSource(4))
	for range 2000 {
		w := &Writer{}
		var things []thing
		var list []byte
		for range g.Intn(12) {
			x := anyThing(g)
			x.write(w)
			things = append(things, x)
			list = append(list, x.list...)
		}
		want(t, w, list)
		r := New(w.Bytes())
		left := len(list)
		for i, x := range things {
			left -= len(x.list)
			if !x.read(r) || r.Err() != api.OK || r.Left() != left {
				t.Fatalf("thing %d of %v: error %d, %d left, want %d", i, list, r.Err(), r.Left(), left)
			}
		}
		if r.End() != api.OK {
			t.Fatalf("End of %v: %d", list, r.Err())
		}
	}
}

// P4.4: all things with edges, one behind another.
func TestEdgesAreRead(t *testing.T) {
	var things []thing
	for _, v := range numbers() {
		things = append(things, numThing(v), uptoThing(v, v), uptoThing(v, maxWord))
	}
	for _, s := range texts() {
		things = append(things, textThing(s, len(s)), textThing(s, math.MaxInt))
	}
	things = append(things, textThing("", -1), textThing("", math.MinInt), flagThing(true), flagThing(false))
	for c := range 256 {
		things = append(things, byteThing(byte(c)))
	}
	w := &Writer{}
	for _, x := range things {
		x.write(w)
	}
	r := New(w.Bytes())
	for i, x := range things {
		if !x.read(r) || r.Err() != api.OK {
			t.Fatalf("thing %d: error %d", i, r.Err())
		}
	}
	if r.End() != api.OK {
		t.Errorf("End: %d", r.Err())
	}
}

// P4.2, P4.4: what was written, cut at every place, is read up to the cut and short behind it.
func TestCut(t *testing.T) {
	things := []thing{
		numThing(258), textThing("ab", 60), flagThing(true), byteThing(9), uptoThing(maxWord, maxWord), textThing("", 0),
		numThing(0), textThing(strings.Repeat("y", 300), 300), flagThing(false), uptoThing(65536, 65536), byteThing(0),
	}
	w := &Writer{}
	for _, x := range things {
		x.write(w)
	}
	whole := w.Bytes()
	for n := range whole {
		r := New(whole[:n])
		cut(t, r, things, n)
		silent(t, r, api.ErrShort)
	}
}

func cut(t *testing.T, r *Reader, things []thing, n int) {
	t.Helper()
	for i, x := range things {
		if len(x.list) > n {
			x.read(r)
			if r.Err() != api.ErrShort {
				t.Errorf("thing %d with %d bytes: error %d", i, n, r.Err())
			}
			return
		}
		n -= len(x.list)
		if !x.read(r) || r.Err() != api.OK || r.Left() != n {
			t.Errorf("thing %d: error %d, %d left, want %d", i, r.Err(), r.Left(), n)
		}
	}
}

// slow reads as the chapter tells it, by the bytes' places, and with lengths that have no end.
type slow struct {
	b     []byte
	at    int
	errno api.Errno
}

func (s *slow) num() *big.Int {
	nothing := new(big.Int)
	if s.errno != api.OK {
		return nothing
	}
	if s.at == len(s.b) {
		s.errno = api.ErrShort
		return nothing
	}
	n := int(s.b[s.at])
	next := s.at + 1
	switch {
	case n > 8, n > 0 && next < len(s.b) && s.b[next] == 0:
		s.errno = api.ErrForm
		return nothing
	case next+n > len(s.b):
		s.errno = api.ErrShort
		return nothing
	}
	s.at = next + n
	return nothing.SetBytes(s.b[next:s.at])
}

func (s *slow) upto(most uint64) uint64 {
	v := s.num()
	if v.Cmp(new(big.Int).SetUint64(most)) > 0 {
		s.errno = api.ErrForm
		return 0
	}
	return v.Uint64()
}

func (s *slow) byte() byte {
	if s.errno != api.OK {
		return 0
	}
	if s.at == len(s.b) {
		s.errno = api.ErrShort
		return 0
	}
	s.at++
	return s.b[s.at-1]
}

func (s *slow) flag() bool {
	c := s.byte()
	if c > 1 {
		s.errno = api.ErrForm
		return false
	}
	return c == 1
}

func (s *slow) text(most int) string {
	n := s.num()
	if s.errno != api.OK {
		return ""
	}
	if n.Cmp(big.NewInt(int64(most))) > 0 && n.Sign() > 0 {
		s.errno = api.ErrLong
		return ""
	}
	if n.Cmp(big.NewInt(int64(len(s.b)-s.at))) > 0 {
		s.errno = api.ErrShort
		return ""
	}
	from := s.at
	s.at += int(n.Int64())
	return string(s.b[from:s.at])
}

func (s *slow) left() int {
	if s.errno != api.OK {
		return 0
	}
	return len(s.b) - s.at
}

// looseBytes are of a kind that often makes numbers and short texts.
func looseBytes(g *rand.Rand) []byte {
	b := make([]byte, g.Intn(20))
	for i := range b {
		switch g.Intn(4) {
		case 0:
			b[i] = byte(g.Intn(256))
		default:
			b[i] = byte(g.Intn(4))
		}
	}
	return b
}

// bothRead asks both readers the same, and tells whether they answer the same.
func bothRead(g *rand.Rand, r *Reader, s *slow) (string, bool) {
	switch g.Intn(8) {
	case 0:
		return "Num", r.Num() == s.num().Uint64()
	case 1:
		most := g.Uint64() >> (48 + g.Intn(17))
		return "Upto", r.Upto(most) == s.upto(most)
	case 2:
		return "Byte", r.Byte() == s.byte()
	case 3:
		return "Flag", r.Flag() == s.flag()
	case 4:
		most := g.Intn(8) - 2
		return "Text", r.Text(most) == s.text(most)
	case 5:
		return "Text greatest", r.Text(math.MaxInt) == s.text(math.MaxInt)
	case 6:
		e := api.Errno(g.Intn(api.Errors) * (g.Intn(8) / 7))
		r.Fail(e)
		if s.errno == api.OK {
			s.errno = e
		}
		return "Fail", true
	}
	if g.Intn(4) > 0 {
		return "Left", r.Left() == s.left()
	}
	if s.left() > 0 {
		s.errno = api.ErrForm
	}
	return "End", r.End() == s.errno
}

// P4.2, P4.3: any calls in any order, of any bytes, answer as the chapter tells it.
func TestAgainstSlow(t *testing.T) {
	g := rand.New(rand.NewSource(5))
	for range 20000 {
		b := looseBytes(g)
		r, s := New(b), &slow{b: b}
		for range 8 {
			name, same := bothRead(g, r, s)
			if !same || r.Err() != s.errno || r.Left() != s.left() {
				t.Fatalf("%s within %v: error %d, want %d, %d left, want %d", name, b, r.Err(), s.errno, r.Left(), s.left())
			}
		}
	}
}

// P4.1, P4.2: a great many things are written and read in the time that they need: nothing is copied anew with each.
func TestMany(t *testing.T) {
	const many = 300000
	w := &Writer{}
	for i := range uint64(many) {
		w.Num(i)
		w.Text("abc")
	}
	r := New(w.Bytes())
	for i := range uint64(many) {
		if v, s := r.Num(), r.Text(3); v != i || s != "abc" {
			t.Fatalf("thing %d: %d, %q, error %d", i, v, s, r.Err())
		}
	}
	if r.End() != api.OK {
		t.Error("End", r.Err())
	}
}
