package reg

import (
	"math"
	"math/big"
	"math/rand"
	"slices"
	"strconv"
	"strings"
	"testing"

	"epitaph/aid"
	"epitaph/api"
)

const most = api.MaxCount

// at is a dot, in short.
func at(dev uint16, n uint64) api.Dot { return api.Dot{Dev: dev, N: n} }

// of is a value, in short.
func of(dev uint16, n uint64, text string) api.Value { return api.Value{Dot: at(dev, n), Text: text} }

// said is values of one device, with some texts, one behind another.
func said(texts ...string) []api.Value {
	l := make([]api.Value, len(texts))
	for i, s := range texts {
		l[i] = of(3, uint64(i+1), s)
	}
	return l
}

// told is values as text, each text in quotes behind its dot.
func told(l ...api.Value) string {
	var b strings.Builder
	for _, v := range l {
		b.WriteString(strconv.Itoa(int(v.Dot.Dev)) + "." + strconv.FormatUint(v.Dot.N, 10) + " " + strconv.Quote(v.Text) + ", ")
	}
	return strings.TrimSuffix(b.String(), ", ")
}

// whole is a dot as one number in whose order the dots win, of as many bits as it takes, also of a dot that may not be.
func whole(d api.Dot) *big.Int {
	n := new(big.Int).Lsh(new(big.Int).SetUint64(d.N), 16)
	return n.Add(n, big.NewInt(int64(d.Dev)))
}

// ahead tells, byte by byte, whether a text stands ahead of another one.
func ahead(a, b string) bool {
	for i := range len(b) {
		if i == len(a) || a[i] != b[i] {
			return i == len(a) || int(a[i]) < int(b[i])
		}
	}
	return false
}

// slowWinner holds each value against all others, and takes the one that none stands against; -1, if there is none.
func slowWinner(l []api.Value) int {
	for i, v := range l {
		wins := true
		for k, w := range l {
			c := whole(w.Dot).Cmp(whole(v.Dot))
			wins = wins && c <= 0 && (c < 0 || k >= i)
		}
		if wins {
			return i
		}
	}
	return -1
}

// slowTexts takes the first text that is left of all, again and again.
func slowTexts(l []api.Value) []string {
	left := map[string]bool{}
	for _, v := range l {
		left[v.Text] = true
	}
	var list []string
	for len(left) > 0 {
		var next string
		for _, v := range l {
			if left[v.Text] && (!left[next] || ahead(v.Text, next)) {
				next = v.Text
			}
		}
		list = append(list, next)
		delete(left, next)
	}
	return list
}

// slowLine is the line of a field, by the chapter's words.
func slowLine(f uint8, l []api.Value) api.Line {
	i := slowWinner(l)
	if i < 0 {
		return api.Line{}
	}
	line := api.Line{Field: f, Text: l[i].Text}
	for _, s := range slowTexts(l) {
		if s != line.Text {
			line.More = append(line.More, s)
		}
	}
	return line
}

// sameLine tells whether two lines are the same, a nil list as an empty one.
func sameLine(a, b api.Line) bool {
	return a.Field == b.Field && a.Text == b.Text && slices.Equal(a.More, b.More)
}

// roomy is the same values, with others in the room behind them.
func roomy(l []api.Value) []api.Value {
	room := append(slices.Clone(l), of(65535, math.MaxUint64, "behind"), of(0, 0, ""))
	return room[:len(l)]
}

// spoil writes into each place of a list of texts, and behind them.
func spoil(l []string) {
	for i := range l {
		l[i] = "spoilt " + strconv.Itoa(i)
	}
	_ = append(l, "spoilt")
}

// spoilValues writes into each place of a list of values, and behind them.
func spoilValues(l []api.Value) {
	for i := range l {
		l[i] = of(9, uint64(i), "spoilt "+strconv.Itoa(i))
	}
	_ = append(l, of(9, 9, "spoilt"))
}

// want holds all calls against what is asked for, that what went in is not turned, nor what stands behind it, and that nothing is shared.
func want(t *testing.T, l []api.Value, win int, texts []string, line api.Line) {
	t.Helper()
	in := roomy(l)
	was := slices.Clone(in[:len(l)+2])
	v, ok := Winner(in)
	if win < 0 && (ok || v != (api.Value{})) || win >= 0 && (!ok || v != l[win]) {
		t.Fatalf("Winner(%.300s) = %s, %v, want the one at place %d", told(l...), told(v), ok, win)
	}
	gotTexts, twinTexts := Texts(in), Texts(in)
	if !slices.Equal(gotTexts, texts) || !slices.Equal(twinTexts, texts) {
		t.Fatalf("Texts(%.300s) = %.300q, want %.300q", told(l...), gotTexts, texts)
	}
	gotLine, twinLine := Show(line.Field, in), Show(line.Field, in)
	if !sameLine(gotLine, line) || !sameLine(twinLine, line) {
		t.Fatalf("Show(%d, %.300s) = %.300q, want %.300q", line.Field, told(l...), gotLine, line)
	}
	if !slices.Equal(in[:len(l)+2], was) {
		t.Fatalf("%.300s was turned into %.300s, or what stood behind it", told(was...), told(in[:len(l)+2]...))
	}
	spoil(gotTexts)
	spoil(gotLine.More)
	if !slices.Equal(in[:len(l)+2], was) || !slices.Equal(twinTexts, texts) || !sameLine(twinLine, line) {
		t.Fatalf("what was written into what came out is seen in what went in, %.300s, or in another answer", told(in[:len(l)+2]...))
	}
	spoilValues(in)
	if !slices.Equal(twinTexts, texts) || !sameLine(twinLine, line) {
		t.Fatalf("what was written into what went in is seen in what came out, %.300q, %.300q", twinTexts, twinLine)
	}
}

// wantSlow holds all calls against what is told slowly.
func wantSlow(t *testing.T, f uint8, l []api.Value) {
	t.Helper()
	line := slowLine(f, l)
	if len(l) == 0 {
		f = 0
	}
	if line.Field != f {
		t.Fatalf("slowLine(%d, %.300s) is of the field %d", f, told(l...), line.Field)
	}
	want(t, l, slowWinner(l), slowTexts(l), line)
}

// long is a text of some bytes.
func long(n int) string { return strings.Repeat("k", n) }

// few are dots that are unlike in N alone, in Dev alone and in both, and at the ends of both parts, those that may be and those that may not.
func few() []api.Dot {
	return []api.Dot{
		at(1, 1), at(1, 2), at(2, 1), at(2, 2), at(65535, 1), at(1, most), at(65535, most),
		{}, at(0, 1), at(0, 2), at(1, 0), at(65535, 0), at(1, most+1), at(0, math.MaxUint64), at(65535, math.MaxUint64), at(256, 1), at(255, 1), at(1, 1<<32), at(2, 1<<32), at(1, 1<<32+1), at(1, 1<<63),
	}
}

// anyValues is drawn values, all of a few dots and texts, so that likes come often.
func anyValues(g *rand.Rand, many int) []api.Value {
	dots, texts := few(), []string{"a", "", "b", "ab", "aa", "\x00", "a\x00", "~", "\x7f", "\x80", "\xff", "é", long(60), long(61), "A", " "}
	d, s := 1+g.Intn(len(dots)), 1+g.Intn(len(texts))
	l := make([]api.Value, many)
	for i := range l {
		l[i] = api.Value{Dot: dots[g.Intn(d)], Text: texts[g.Intn(s)]}
	}
	return l
}

// The chapter's example.
func TestExample(t *testing.T) {
	l := []api.Value{of(1, 2, "a"), of(2, 2, "b"), of(1, 1, "a")}
	want(t, l, 1, []string{"a", "b"}, api.Line{Field: api.FiName, Text: "b", More: []string{"a"}})
}

// P14.1: of no values there is no winner, whatever stands behind them.
func TestWinnerNone(t *testing.T) {
	for i, l := range [][]api.Value{nil, {}, make([]api.Value, 0, 4), said("a", "b")[:0], said("a", "b")[1:1]} {
		if v, ok := Winner(l); ok || v != (api.Value{}) {
			t.Errorf("Winner of list %d of no values = %s, %v", i, told(v), ok)
		}
	}
}

// P14.1: one value is the winner, whatever its dot and its text.
func TestWinnerOne(t *testing.T) {
	for _, d := range few() {
		for _, s := range []string{"", "a", "\x00", "\xff", long(61)} {
			v := api.Value{Dot: d, Text: s}
			if got, ok := Winner([]api.Value{v}); !ok || got != v {
				t.Errorf("Winner of %s alone = %s, %v", told(v), told(got), ok)
			}
		}
	}
}

// P14.1: Winner, written out.
func TestWinnerKnown(t *testing.T) {
	for _, c := range []struct {
		l    []api.Value
		want int
	}{
		// Unlike in N alone.
		{[]api.Value{of(1, 1, "a"), of(1, 2, "b")}, 1},
		{[]api.Value{of(1, 2, "b"), of(1, 1, "a")}, 0},
		{[]api.Value{of(1, 1, "b"), of(1, 2, "a")}, 1},
		{[]api.Value{of(7, 9, "a"), of(7, 10, "a"), of(7, 8, "a")}, 1},
		{[]api.Value{of(7, 256, ""), of(7, 255, "z"), of(7, 1, "zz")}, 0},
		{[]api.Value{of(1, most-1, "a"), of(1, most, "b"), of(1, 1, "c")}, 1},
		// Unlike in Dev alone.
		{[]api.Value{of(1, 5, "a"), of(2, 5, "b")}, 1},
		{[]api.Value{of(2, 5, "b"), of(1, 5, "a")}, 0},
		{[]api.Value{of(2, 5, "a"), of(1, 5, "b")}, 0},
		{[]api.Value{of(9, 5, "a"), of(10, 5, "b"), of(8, 5, "c")}, 1},
		{[]api.Value{of(255, 5, "a"), of(256, 5, "b"), of(257, 5, "c")}, 2},
		{[]api.Value{of(65535, most, "a"), of(65534, most, "b"), of(1, most, "c")}, 0},
		// Unlike in both.
		{[]api.Value{of(1, 1, "a"), of(2, 2, "b")}, 1},
		{[]api.Value{of(2, 2, "b"), of(1, 1, "a")}, 0},
		// The greatest N at a lesser Dev.
		{[]api.Value{of(1, 2, "a"), of(2, 1, "b")}, 0},
		{[]api.Value{of(2, 1, "b"), of(1, 2, "a")}, 1},
		{[]api.Value{of(65535, most-1, "a"), of(1, most, "b")}, 1},
		{[]api.Value{of(1, most, "b"), of(65535, most-1, "a")}, 0},
		{[]api.Value{of(9, 1, "a"), of(5, 2, "b"), of(1, 3, "c")}, 2},
		{[]api.Value{of(1, 3, "c"), of(5, 2, "b"), of(9, 1, "a")}, 0},
		// Several of the greatest N, with one of a greater Dev beside them whose N is less.
		{[]api.Value{of(3, 7, "a"), of(9, 6, "b"), of(4, 7, "c"), of(1, 7, "d")}, 2},
		{[]api.Value{of(9, 6, "b"), of(4, 7, "c"), of(1, 7, "d"), of(3, 7, "a")}, 1},
		// One dot twice, and many times.
		{[]api.Value{of(1, 1, "a"), of(1, 1, "a")}, 0},
		{[]api.Value{of(1, 1, "a"), of(1, 1, "b")}, 0},
		{[]api.Value{of(1, 1, "b"), of(1, 1, "a")}, 0},
		{[]api.Value{of(1, 1, ""), of(1, 1, "a")}, 0},
		{[]api.Value{of(1, 1, "a"), of(1, 1, "")}, 0},
		{[]api.Value{of(1, 1, "c"), of(1, 1, "a"), of(1, 1, "b"), of(1, 1, "c")}, 0},
		{[]api.Value{of(1, 1, "z"), of(2, 1, "c"), of(2, 1, "a"), of(1, 1, "b"), of(2, 1, "d")}, 1},
		{[]api.Value{of(2, 1, "z"), of(2, 2, "a"), of(2, 1, "b"), of(2, 2, "z"), of(2, 2, "")}, 1},
		// Dots that may not be.
		{[]api.Value{{}, {}}, 0},
		{[]api.Value{{}, {Text: "a"}}, 0},
		{[]api.Value{{}, of(0, 1, "a")}, 1},
		{[]api.Value{of(1, 0, "a"), {}}, 0},
		{[]api.Value{{}, of(1, 0, "a")}, 1},
		{[]api.Value{of(65535, 0, "a"), of(0, 1, "b")}, 1},
		{[]api.Value{of(0, 5, "a"), of(1, 4, "b")}, 0},
		{[]api.Value{of(0, 5, "a"), of(1, 5, "b")}, 1},
		{[]api.Value{of(1, most, "a"), of(1, most+1, "b")}, 1},
		{[]api.Value{of(2, most, "a"), of(1, most+1, "b")}, 1},
		{[]api.Value{of(1, math.MaxUint64, "a"), of(65535, math.MaxUint64-1, "b")}, 0},
		{[]api.Value{of(1, 1<<63, "a"), of(2, 1<<63-1, "b")}, 0},
		{[]api.Value{of(1, 1<<48, "a"), of(1, 1, "b")}, 0},
		{[]api.Value{of(1, 1, "b"), of(1, 1<<48, "a")}, 1},
		{[]api.Value{of(0, math.MaxUint64, "a"), of(0, math.MaxUint64, "b"), of(65535, most, "c")}, 0},
	} {
		if got, ok := Winner(c.l); !ok || got != c.l[c.want] {
			t.Errorf("Winner(%s) = %s, %v, want the one at place %d", told(c.l...), told(got), ok, c.want)
		}
		if slow := slowWinner(c.l); slow != c.want && c.l[slow] != c.l[c.want] {
			t.Errorf("slowWinner(%s) = %d, want %d", told(c.l...), slow, c.want)
		}
	}
}

// P14.1: the winner stands at each place of lists of each length, the others behind it in N, in Dev, or in both.
func TestWinnerPlaces(t *testing.T) {
	for many := 1; many <= 40; many++ {
		for place := range many {
			for way := range 4 {
				l := make([]api.Value, many)
				for i := range l {
					switch s := strconv.Itoa(i); way {
					case 0:
						l[i] = of(77, uint64(1000-(i*7)%41), s)
					case 1:
						l[i] = of(uint16(1+(i*7)%41), 2000, s)
					case 2:
						l[i] = of(65535, uint64(1+(i*7)%41), s)
					case 3:
						l[i] = of(5, 6, s)
					}
				}
				l[place].Dot = at(77, 2000)
				if got, ok := Winner(l); !ok || got != l[place] {
					t.Fatalf("Winner of %d values, way %d, is %s, not that at place %d", many, way, told(got), place)
				}
			}
		}
	}
}

// P14.1: of values of one dot the first one is the winner, at each place, with others of lesser dots ahead, between and behind.
func TestWinnerOneDot(t *testing.T) {
	for many := 1; many <= 12; many++ {
		for likes := range 1 << many {
			l := make([]api.Value, many)
			first := -1
			for i := range l {
				l[i] = of(uint16(1+i%3), uint64(4+i%2), strconv.Itoa((many-i)%7))
				if likes>>i&1 == 1 {
					l[i].Dot = at(2, 6)
					if first < 0 {
						first = i
					}
				}
			}
			if first < 0 {
				continue
			}
			if got, ok := Winner(l); !ok || got != l[first] {
				t.Fatalf("Winner(%s) = %s, %v, want the one at place %d", told(l...), told(got), ok, first)
			}
		}
	}
}

// P14.1: each bit of N counts for more than all bits below it and than all of Dev, each bit of Dev for more than all bits below it.
func TestWinnerBits(t *testing.T) {
	pair := func(more, less api.Dot) {
		t.Helper()
		a, b := api.Value{Dot: more, Text: "a"}, api.Value{Dot: less, Text: "b"}
		for _, l := range [][]api.Value{{a, b}, {b, a}, {b, a, b}, {b, b, a}} {
			if got, ok := Winner(l); !ok || got != a {
				t.Errorf("Winner(%s) = %s, %v", told(l...), told(got), ok)
			}
		}
	}
	for bit := range 64 {
		n := uint64(1) << bit
		for _, dev := range []uint16{0, 1, 2, 256, 32768, 65534, 65535} {
			pair(at(dev, n), at(65535, n-1))
			pair(at(dev, n), at(dev, n-1))
			pair(at(0, n), at(dev, n-1))
			pair(at(dev, math.MaxUint64), at(65535, math.MaxUint64^n))
		}
	}
	for bit := range 16 {
		dev := uint16(1) << bit
		for _, n := range []uint64{0, 1, 2, 1 << 32, most, most + 1, math.MaxUint64} {
			pair(at(dev, n), at(dev-1, n))
			pair(at(65535, n), at(65535^dev, n))
		}
	}
}

// P14.1: Texts, written out.
func TestTextsKnown(t *testing.T) {
	for _, c := range []struct{ l, want []string }{
		{nil, nil},
		{[]string{}, nil},
		{[]string{""}, []string{""}},
		{[]string{"a"}, []string{"a"}},
		{[]string{"\xff"}, []string{"\xff"}},
		{[]string{"a", "b", "c"}, []string{"a", "b", "c"}},
		{[]string{"c", "b", "a"}, []string{"a", "b", "c"}},
		{[]string{"b", "c", "a"}, []string{"a", "b", "c"}},
		{[]string{"a", "a"}, []string{"a"}},
		{[]string{"", ""}, []string{""}},
		{[]string{"", "a", ""}, []string{"", "a"}},
		{[]string{"a", ""}, []string{"", "a"}},
		{[]string{"a", "b", "a"}, []string{"a", "b"}},
		{[]string{"b", "a", "b"}, []string{"a", "b"}},
		{[]string{"b", "b", "a", "a"}, []string{"a", "b"}},
		{[]string{"a", "b", "b", "c", "c", "c", "a"}, []string{"a", "b", "c"}},
		{[]string{"x", "x", "x", "x", "x", "x", "x", "x", "x", "x", "x", "x", "x", "x", "x"}, []string{"x"}},
		{[]string{"x", "x", "x", "x", "x", "x", "", "x", "x", "x", "x", "x", "x", "x", "x"}, []string{"", "x"}},
		{[]string{"x", "x", "x", "x", "x", "x", "z", "x", "x", "x", "x", "x", "x", "x", "x"}, []string{"x", "z"}},
		// One is the beginning of another one.
		{[]string{"ab", "a"}, []string{"a", "ab"}},
		{[]string{"a", "ab"}, []string{"a", "ab"}},
		{[]string{"abc", "ab", "a", ""}, []string{"", "a", "ab", "abc"}},
		{[]string{"b", "ab", "a", "abc", "ac"}, []string{"a", "ab", "abc", "ac", "b"}},
		{[]string{"a\x00", "a", "\x00", ""}, []string{"", "\x00", "a", "a\x00"}},
		{[]string{"aa", "a", "aaa", "aa", "a"}, []string{"a", "aa", "aaa"}},
		{[]string{long(61), long(60), long(59), long(60)}, []string{long(59), long(60), long(61)}},
		{[]string{long(1000) + "b", long(1000) + "a", long(1000), long(1001)}, []string{long(1000), long(1000) + "a", long(1000) + "b", long(1001)}},
		// Byte by byte: no case, no length, no number, no letter counts.
		{[]string{"a", "B", "b", "A"}, []string{"A", "B", "a", "b"}},
		{[]string{"10", "9", "1", "2"}, []string{"1", "10", "2", "9"}},
		{[]string{"b", "aaaa"}, []string{"aaaa", "b"}},
		{[]string{"_", "Z", "a", "0", " ", "~"}, []string{" ", "0", "Z", "_", "a", "~"}},
		{[]string{" a", "a", "a ", "A a"}, []string{" a", "A a", "a", "a "}},
		// Bytes above 127.
		{[]string{"\x80", "\x7f"}, []string{"\x7f", "\x80"}},
		{[]string{"\xff", "\x00", "\x80", "\x7f", "a"}, []string{"\x00", "a", "\x7f", "\x80", "\xff"}},
		{[]string{"é", "e", "f", "z"}, []string{"e", "f", "z", "é"}},
		{[]string{"e\u0301", "\u00e9", "e"}, []string{"e", "e\u0301", "\u00e9"}},
		{[]string{"\xf0\x9f\x92\x80", "\xef\xbf\xbd", "\xff", "\xc3", "\xc3\xa9"}, []string{"\xc3", "\xc3\xa9", "\xef\xbf\xbd", "\xf0\x9f\x92\x80", "\xff"}},
		{[]string{"\xfe", "\xff", "\xef\xbf\xbd", "\xfe", "\xef\xbf\xbd"}, []string{"\xef\xbf\xbd", "\xfe", "\xff"}},
		{[]string{"a\xff", "a", "b", "a\x80"}, []string{"a", "a\x80", "a\xff", "b"}},
	} {
		l := said(c.l...)
		if got, slow := Texts(l), slowTexts(l); !slices.Equal(got, c.want) || !slices.Equal(slow, c.want) {
			t.Errorf("Texts of %q = %q, slowly told %q, want %q", c.l, got, slow, c.want)
		}
		wantSlow(t, 2, l)
	}
}

// P14.1: the dots play no part in what Texts answers.
func TestTextsDots(t *testing.T) {
	texts := []string{"c", "a", "b", "a", ""}
	for _, a := range few() {
		for _, b := range few() {
			l := make([]api.Value, len(texts))
			for i, s := range texts {
				l[i] = api.Value{Dot: a, Text: s}
				if i%2 == 1 {
					l[i].Dot = b
				}
			}
			if got := Texts(l); !slices.Equal(got, []string{"", "a", "b", "c"}) {
				t.Fatalf("Texts(%s) = %q", told(l...), got)
			}
		}
	}
}

// P14.1: all texts of up to three bytes out of a few, shuffled, each some times, rise and come once.
func TestTextsAll(t *testing.T) {
	bytes := []string{"\x00", "\x01", " ", "A", "a", "b", "\x7f", "\x80", "\xc3", "\xff"}
	rise := []string{""}
	for _, a := range bytes {
		rise = append(rise, a)
		for _, b := range bytes {
			rise = append(rise, a+b)
			for _, c := range bytes {
				rise = append(rise, a+b+c)
			}
		}
	}
	for i := range rise {
		if i > 0 && !ahead(rise[i-1], rise[i]) {
			t.Fatalf("%q does not stand ahead of %q", rise[i-1], rise[i])
		}
	}
	g := rand.New(rand.NewSource(141))
	for many := 1; many < 5; many++ {
		l := said(slices.Repeat(rise, many)...)
		g.Shuffle(len(l), func(i, k int) { l[i], l[k] = l[k], l[i] })
		if got := Texts(l); !slices.Equal(got, rise) {
			t.Errorf("Texts of %d texts, each %d times, are %d", len(rise), many, len(got))
		}
	}
}

// P14.1: each byte stands where it does among all others, alone and behind others.
func TestTextsBytes(t *testing.T) {
	for _, before := range []string{"", "a", "\xff", long(59)} {
		for _, behind := range []string{"", "z", "\x00"} {
			var rise, fall []string
			for b := range 256 {
				s := before + string([]byte{byte(b)}) + behind
				rise = append(rise, s)
				fall = append([]string{s}, fall...)
			}
			for _, l := range [][]string{rise, fall} {
				if got := Texts(said(l...)); !slices.Equal(got, rise) {
					t.Errorf("Texts of all bytes behind %q and ahead of %q = %q", before, behind, got)
				}
			}
		}
	}
}

// P14.2: of no values, with each field, Show is an empty line, of the field 0.
func TestShowNone(t *testing.T) {
	for f := range 256 {
		for _, l := range [][]api.Value{nil, {}, make([]api.Value, 0, 4), said("a", "b")[:0]} {
			if got := Show(uint8(f), l); got.Field != 0 || got.Text != "" || len(got.More) != 0 {
				t.Errorf("Show(%d) of no values = %q", f, got)
			}
		}
	}
}

// P14.2: the line is of the field that was asked for, also of one that is none.
func TestShowField(t *testing.T) {
	for f := range 256 {
		for _, l := range [][]api.Value{said(""), said("a"), said("a", "b"), said("b", "a", "c", "a"), {{}, {}}} {
			if got := Show(uint8(f), l); got.Field != uint8(f) {
				t.Errorf("Show(%d, %s) is of the field %d", f, told(l...), got.Field)
			}
			wantSlow(t, uint8(f), l)
		}
	}
}

// P14.2: Show, written out.
func TestShowKnown(t *testing.T) {
	for _, c := range []struct {
		f    uint8
		l    []api.Value
		text string
		more []string
	}{
		// One value.
		{1, []api.Value{of(1, 1, "a")}, "a", nil},
		{2, []api.Value{of(1, 1, "")}, "", nil},
		{3, []api.Value{{}}, "", nil},
		{4, []api.Value{of(0, math.MaxUint64, "\xff")}, "\xff", nil},
		// One text alone.
		{1, []api.Value{of(1, 1, "a"), of(2, 1, "a")}, "a", nil},
		{2, []api.Value{of(2, 1, "a"), of(1, 1, "a"), of(1, 2, "a"), of(1, 1, "a")}, "a", nil},
		{5, []api.Value{of(1, 1, ""), of(2, 2, ""), of(3, 1, "")}, "", nil},
		// One more.
		{1, []api.Value{of(1, 1, "a"), of(2, 1, "b")}, "b", []string{"a"}},
		{1, []api.Value{of(2, 1, "b"), of(1, 1, "a")}, "b", []string{"a"}},
		{1, []api.Value{of(1, 1, "b"), of(2, 1, "a")}, "a", []string{"b"}},
		{1, []api.Value{of(1, 2, "a"), of(2, 1, "b")}, "a", []string{"b"}},
		{1, []api.Value{of(1, 1, "a"), of(2, 1, "")}, "", []string{"a"}},
		{1, []api.Value{of(1, 1, ""), of(2, 1, "a")}, "a", []string{""}},
		{1, []api.Value{of(1, 1, "a"), of(2, 1, "ab")}, "ab", []string{"a"}},
		{1, []api.Value{of(1, 1, "ab"), of(2, 1, "a")}, "a", []string{"ab"}},
		{1, []api.Value{of(1, 1, "x"), of(1, 1, "y")}, "x", []string{"y"}},
		{1, []api.Value{of(1, 1, "y"), of(1, 1, "x")}, "y", []string{"x"}},
		// The winner's text at several places.
		{4, []api.Value{of(1, 1, "a"), of(1, 3, "a"), of(1, 2, "a"), of(2, 1, "b")}, "a", []string{"b"}},
		{4, []api.Value{of(1, 1, "a"), of(2, 1, "b"), of(1, 2, "b"), of(1, 3, "a")}, "a", []string{"b"}},
		{4, []api.Value{of(1, 3, "a"), of(2, 1, "b"), of(1, 2, "c"), of(9, 1, "a")}, "a", []string{"b", "c"}},
		{4, []api.Value{of(1, 1, "m"), of(2, 1, "z"), of(1, 3, "m"), of(2, 2, "a"), of(1, 1, "m")}, "m", []string{"a", "z"}},
		{4, []api.Value{of(1, 9, "m"), of(1, 9, "a"), of(1, 9, "m"), of(1, 9, "z"), of(1, 9, "m")}, "m", []string{"a", "z"}},
		{4, []api.Value{of(1, 1, ""), of(2, 9, ""), of(1, 3, "b"), of(2, 2, "")}, "", []string{"b"}},
		// Another text at several places.
		{5, []api.Value{of(1, 1, "a"), of(2, 1, "a"), of(3, 1, "b"), of(2, 1, "a")}, "b", []string{"a"}},
		{5, []api.Value{of(1, 1, "a"), of(3, 1, "b"), of(2, 1, "c"), of(1, 1, "c"), of(1, 1, "a")}, "b", []string{"a", "c"}},
		// Many more, that of the winner first, in the midst and last among all texts.
		{2, []api.Value{of(1, 9, "a"), of(1, 1, "d"), of(1, 2, "b"), of(1, 3, "e"), of(1, 4, "c")}, "a", []string{"b", "c", "d", "e"}},
		{2, []api.Value{of(1, 1, "d"), of(1, 2, "b"), of(1, 9, "c"), of(1, 3, "e"), of(1, 4, "a")}, "c", []string{"a", "b", "d", "e"}},
		{2, []api.Value{of(1, 1, "d"), of(1, 2, "b"), of(1, 3, "c"), of(1, 4, "a"), of(1, 9, "e")}, "e", []string{"a", "b", "c", "d"}},
		{2, []api.Value{of(1, 1, "d"), of(1, 2, ""), of(1, 3, "\xff"), of(1, 4, "d "), of(1, 9, "D")}, "D", []string{"", "d", "d ", "\xff"}},
		// A field that is none.
		{0, []api.Value{of(1, 1, "a"), of(2, 1, "b")}, "b", []string{"a"}},
		{6, []api.Value{of(1, 1, "a"), of(2, 1, "b")}, "b", []string{"a"}},
		{255, []api.Value{of(1, 1, "a"), of(2, 1, "b")}, "b", []string{"a"}},
		{0, []api.Value{of(1, 1, "a")}, "a", nil},
		{255, []api.Value{{}}, "", nil},
		// Dots that may not be.
		{3, []api.Value{of(1, most+1, "a"), of(2, most, "b"), {}}, "a", []string{"", "b"}},
		{3, []api.Value{of(0, 2, "a"), of(2, 1, "b"), of(9, 0, "c")}, "a", []string{"b", "c"}},
	} {
		line := api.Line{Field: c.f, Text: c.text, More: c.more}
		if slow := slowLine(c.f, c.l); !sameLine(slow, line) {
			t.Errorf("slowLine(%d, %s) = %q, want %q", c.f, told(c.l...), slow, line)
		}
		want(t, c.l, slowWinner(c.l), slowTexts(c.l), line)
	}
}

// P14.2: the winner's text at each place among others, at one place more, and at all, is never among More.
func TestShowPlaces(t *testing.T) {
	for many := 1; many <= 9; many++ {
		for win := range many {
			for again := range many {
				for rank := range many + 1 {
					l := make([]api.Value, many)
					for i := range l {
						l[i] = of(2, uint64(1+i), string(rune('a'+2*i)))
					}
					l[win] = of(1, 100, string(rune('a'+2*rank-1)))
					l[again].Text = l[win].Text
					wantSlow(t, api.FiMail, l)
				}
			}
		}
		l := said(slices.Repeat([]string{"a"}, many)...)
		want(t, l, many-1, []string{"a"}, api.Line{Field: 1, Text: "a"})
	}
}

// P14.2: each text is shown, or stands beside the one that is shown, just once, and nothing else is told.
func TestShowOnce(t *testing.T) {
	g := rand.New(rand.NewSource(142))
	for range 20000 {
		l := anyValues(g, 1+g.Intn(12))
		line := Show(3, l)
		shown := map[string]int{line.Text: 1}
		for _, s := range line.More {
			shown[s]++
		}
		for _, v := range l {
			if shown[v.Text] != 1 {
				t.Fatalf("Show(3, %s) = %q: %q is told %d times", told(l...), line, v.Text, shown[v.Text])
			}
		}
		for _, v := range l {
			delete(shown, v.Text)
		}
		if len(shown) > 0 {
			t.Fatalf("Show(3, %s) = %q: %v is told beside", told(l...), line, shown)
		}
	}
}

// P14.1, P14.2: all lists of up to four values out of a few, of like and unlike dots and texts.
func TestSmallLists(t *testing.T) {
	var some []api.Value
	for _, d := range []api.Dot{at(1, 2), at(2, 1), at(2, 2), {}} {
		for _, s := range []string{"", "a", "ab"} {
			some = append(some, api.Value{Dot: d, Text: s})
		}
	}
	var lists func(l []api.Value, left int)
	lists = func(l []api.Value, left int) {
		wantSlow(t, uint8(1+len(l)), l)
		for _, v := range some {
			if left > 0 {
				lists(append(slices.Clone(l), v), left-1)
			}
		}
	}
	lists(nil, 4)
}

// P14.1, P14.2: drawn lists, short and long.
func TestAnyLists(t *testing.T) {
	g := rand.New(rand.NewSource(143))
	for _, many := range []int{0, 1, 2, 3, 5, 8, 11, 12, 13, 25, 50, 51, 100} {
		for range 60 {
			wantSlow(t, uint8(g.Intn(256)), anyValues(g, many))
		}
	}
}

// P14.3: values with unlike dots show the same line, in whichever order they stand, written out.
func TestOrderKnown(t *testing.T) {
	for _, c := range []struct {
		l    []api.Value
		line api.Line
	}{
		{[]api.Value{of(1, 1, "a"), of(1, 2, "b")}, api.Line{Field: 1, Text: "b", More: []string{"a"}}},
		{[]api.Value{of(1, 1, "a"), of(2, 1, "b")}, api.Line{Field: 1, Text: "b", More: []string{"a"}}},
		{[]api.Value{of(1, 2, "a"), of(2, 1, "b")}, api.Line{Field: 1, Text: "a", More: []string{"b"}}},
		{[]api.Value{of(1, 2, "a"), of(2, 2, "b"), of(1, 1, "a")}, api.Line{Field: 1, Text: "b", More: []string{"a"}}},
		{[]api.Value{of(1, 1, "c"), of(2, 1, "b"), of(3, 1, "a"), of(1, 2, "b")}, api.Line{Field: 2, Text: "b", More: []string{"a", "c"}}},
		{[]api.Value{of(1, 3, "x"), of(2, 3, "x"), of(9, 2, "y"), of(3, 1, "")}, api.Line{Field: 3, Text: "x", More: []string{"", "y"}}},
		{[]api.Value{of(0, 1, "a"), of(1, 0, "b"), {}, of(0, most+1, "c"), of(1, most, "d")}, api.Line{Field: 4, Text: "c", More: []string{"", "a", "b", "d"}}},
		{[]api.Value{of(5, 5, "e"), of(4, 5, "d"), of(3, 5, "c"), of(2, 5, "b"), of(1, 5, "a"), of(1, 6, "c")}, api.Line{Field: 5, Text: "c", More: []string{"a", "b", "d", "e"}}},
	} {
		for _, l := range aid.Orders(c.l) {
			if got := Show(c.line.Field, l); !sameLine(got, c.line) {
				t.Fatalf("Show(%d, %s) = %q, want %q", c.line.Field, told(l...), got, c.line)
			}
		}
	}
}

// P14.3: drawn values with unlike dots, in all orders: the winner and the texts are the same, too.
func TestOrderAny(t *testing.T) {
	g := rand.New(rand.NewSource(144))
	dots := few()
	for range 400 {
		l := anyValues(g, g.Intn(7))
		g.Shuffle(len(dots), func(i, k int) { dots[i], dots[k] = dots[k], dots[i] })
		for i := range l {
			l[i].Dot = dots[i]
		}
		f := uint8(g.Intn(256))
		line, texts := Show(f, l), Texts(l)
		v, ok := Winner(l)
		for _, m := range aid.Orders(l) {
			if got := Show(f, m); !sameLine(got, line) {
				t.Fatalf("Show(%d, %s) = %q, of another order it is %q", f, told(m...), got, line)
			}
			if got, is := Winner(m); got != v || is != ok || !slices.Equal(Texts(m), texts) {
				t.Fatalf("Winner(%s) = %s, %v, or the texts, are not those of another order, %s, %v", told(m...), told(got), is, told(v), ok)
			}
		}
	}
}

// P14.3: many values with unlike dots, turned round and shuffled.
func TestOrderMany(t *testing.T) {
	g := rand.New(rand.NewSource(145))
	for _, many := range []int{10, 100, 1000} {
		l := make([]api.Value, many)
		for i := range l {
			l[i] = of(uint16(1+i%7), uint64(1+i/7), strconv.Itoa(g.Intn(many)))
		}
		line := Show(4, l)
		if last := slowWinner(l); line.Text != l[last].Text {
			t.Errorf("Show of %d values shows %q, not %q", many, line.Text, l[last].Text)
		}
		slices.Reverse(l)
		for range 20 {
			if got := Show(4, l); !sameLine(got, line) {
				t.Errorf("Show of %d values = %.300q, of another order it is %.300q", many, got, line)
			}
			g.Shuffle(many, func(i, k int) { l[i], l[k] = l[k], l[i] })
		}
	}
}

// P14.1, P14.2: very many values, of one text, of few, and of as many as there are values.
func TestVeryMany(t *testing.T) {
	const many = 200000
	g := rand.New(rand.NewSource(146))
	for _, texts := range []int{1, 2, 1000, many} {
		l := make([]api.Value, many)
		for i := range l {
			s := strconv.Itoa(i % texts)
			l[i] = of(uint16(1+i%65535), uint64(1+i), strings.Repeat("0", 6-len(s))+s)
		}
		last := l[many-1]
		g.Shuffle(many, func(i, k int) { l[i], l[k] = l[k], l[i] })
		if v, ok := Winner(l); !ok || v != last {
			t.Errorf("Winner of %d values = %s, %v, want %s", many, told(v), ok, told(last))
		}
		got := Texts(l)
		if len(got) != texts || got[0] != "000000" || !slices.IsSortedFunc(got, strings.Compare) {
			t.Errorf("Texts of %d texts are %d, or do not rise", texts, len(got))
		}
		line := Show(1, l)
		if i := slices.Index(got, last.Text); line.Text != last.Text || !slices.Equal(line.More, slices.Delete(got, i, i+1)) {
			t.Errorf("Show of %d texts shows %q, and %d more", texts, line.Text, len(line.More))
		}
	}
}

// Rule 4: lists that share memory share none with what comes out, and two answers share none.
func TestApart(t *testing.T) {
	room := []api.Value{of(1, 1, "c"), of(2, 1, "a"), of(1, 2, "b"), of(9, 9, "z"), of(9, 8, "y")}
	was := slices.Clone(room)
	a, b := Show(1, room[:3]), Show(2, room[1:3])
	c, d := Texts(room[:3]), Texts(room[1:3])
	a.More, c = append(a.More, "x"), append(c, "x")
	spoil(a.More)
	spoil(c)
	if !slices.Equal(room, was) {
		t.Errorf("%s was turned into %s", told(was...), told(room...))
	}
	if !sameLine(b, api.Line{Field: 2, Text: "b", More: []string{"a"}}) || !slices.Equal(d, []string{"a", "b"}) {
		t.Errorf("what was written into one answer is seen in another one: %q, %q", b, d)
	}
	v, _ := Winner(room)
	v.Text, v.Dot.N = "spoilt", 0
	if !slices.Equal(room, was) {
		t.Errorf("what was written into the winner is seen in %s", told(room...))
	}
}
