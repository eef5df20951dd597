package card

import (
	"bytes"
	"math"
	"math/rand"
	"slices"
	"strconv"
	"strings"
	"testing"

	"epitaph/aid"
	"epitaph/api"
)

const (
	most  = api.MaxCount
	least = 1<<48 + 1
)

// of is a line, in short.
func of(f uint8, text string, more ...string) api.Line {
	return api.Line{Field: f, Text: text, More: more}
}

// with is a card of a number that may be.
func with(lines ...api.Line) api.Card {
	return api.Card{Cid: least, Lines: lines}
}

// long is a text of some bytes.
func long(n int) string { return strings.Repeat("k", n) }

// mayMore holds each text against all behind it, and against the line's own.
func mayMore(l api.Line) bool {
	for i, s := range l.More {
		if s == l.Text || !aid.MayText(s) {
			return false
		}
		for _, behind := range l.More[i+1:] {
			if bytes.Compare([]byte(s), []byte(behind)) >= 0 {
				return false
			}
		}
	}
	return true
}

// mayBe is told by the chapter's words, each line held against all behind it.
func mayBe(c api.Card) bool {
	dev, n := c.Cid/(most+1), c.Cid%(most+1)
	may := dev > 0 && n > 0 && len(c.Lines) > 0
	for i, l := range c.Lines {
		may = may && l.Field > 0 && l.Field < 6 && aid.MayText(l.Text) && mayMore(l)
		for _, behind := range c.Lines[i+1:] {
			may = may && l.Field < behind.Field
		}
	}
	return may
}

// written is all that a card has, each text with its length ahead, so that no two unlike cards are written alike.
func written(c api.Card) string {
	var b strings.Builder
	num := func(n uint64) { b.WriteString(strconv.FormatUint(n, 10) + ";") }
	text := func(s string) {
		num(uint64(len(s)))
		b.WriteString(s)
	}
	num(c.Cid)
	num(uint64(len(c.Lines)))
	for _, l := range c.Lines {
		num(uint64(l.Field))
		text(l.Text)
		num(uint64(len(l.More)))
		for _, s := range l.More {
			text(s)
		}
	}
	return b.String()
}

// writtenAll is all that a list of cards has.
func writtenAll(l []api.Card) string {
	s := strconv.Itoa(len(l)) + ";"
	for _, c := range l {
		s += written(c)
	}
	return s
}

// anyCard is a card of drawn parts, all of them from a few, so that pairs are often the same, and cards often may be.
func anyCard(g *rand.Rand) api.Card {
	cids := []uint64{0, 1, most, 1 << 48, least, least + 1, least, math.MaxUint64}
	texts := []string{"", "", "a", "b", "ab", "~", " ", "\x1f", long(60), long(61)}
	c := api.Card{Cid: cids[g.Intn(len(cids))]}
	f := uint8(0)
	for range g.Intn(4) {
		if f += uint8(g.Intn(3)); g.Intn(8) == 0 {
			f = uint8(g.Intn(256))
		}
		l := of(f, texts[g.Intn(2+g.Intn(9))])
		for range g.Intn(4) {
			l.More = append(l.More, texts[g.Intn(2+g.Intn(9))])
		}
		if g.Intn(3) > 0 {
			slices.Sort(l.More)
			l.More = slices.Compact(l.More)
		}
		c.Lines = append(c.Lines, l)
	}
	return c
}

// kinds are cards that are unlike one another, those that may be and those that may not: each has its like in one thing less, or in one thing changed.
func kinds() []api.Card {
	list := []api.Card{
		{}, {Cid: 1}, {Cid: most}, {Cid: 1 << 48}, {Cid: least}, {Cid: least + 1}, {Cid: 1<<49 + 1}, {Cid: 1<<63 + 1}, {Cid: math.MaxUint64},
		{Lines: []api.Line{of(1, "a")}}, {Cid: least + 1, Lines: []api.Line{of(1, "a")}}, {Cid: math.MaxUint64, Lines: []api.Line{of(1, "a")}},
	}
	for _, lines := range [][]api.Line{
		{{}}, {{}, {}}, {of(1, "")}, {of(1, ""), {}}, {{}, of(1, "")}, {of(1, ""), of(1, "")},
		{of(1, "a")}, {of(1, "b")}, {of(1, "A")}, {of(1, "ab")}, {of(1, "a ")}, {of(1, "a\x00")}, {of(2, "a")}, {of(5, "a")}, {of(6, "a")}, {of(255, "a")}, {of(0, "a")},
		{of(1, "a", "")}, {of(1, "", "a")}, {of(1, "a", "a")}, {of(1, "a", "b")}, {of(1, "a", "c")}, {of(1, "a", "b", "c")}, {of(1, "a", "b", "d")}, {of(1, "a", "c", "b")},
		{of(1, "a", "bc")}, {of(1, "ab", "c")}, {of(1, "abc")}, {of(1, "", "abc")}, {of(1, "a", "b", "c", "d")}, {of(1, "a", "x", "c", "d")}, {of(1, "a", "b", "x", "d")}, {of(1, "a", "b", "c", "x")},
		{of(1, "a", "b", "c", "")}, {of(1, "a", "", "b", "c")}, {of(1, "x", "b", "c", "d")}, {of(3, "a", "b", "c", "d")},
		{of(1, "a"), of(2, "b")}, {of(1, "a"), of(2, "x")}, {of(1, "x"), of(2, "b")}, {of(1, "a"), of(3, "b")}, {of(2, "a"), of(2, "b")}, {of(2, "b"), of(1, "a")}, {of(1, "b"), of(2, "a")}, {of(1, "a", "b"), of(2, "")}, {of(1, "a"), of(2, "", "b")}, {of(1, "a", ""), of(2, "b")}, {of(1, "a"), of(2, "b", "")},
		{of(1, "a", "m"), of(2, "b", "n"), of(3, "c", "o")}, {of(1, "a"), of(2, "b", "n"), of(3, "c", "o")}, {of(1, "a", "m"), of(2, "b"), of(3, "c", "o")}, {of(1, "a", "m"), of(2, "b", "n"), of(3, "c")},
		{of(1, "x", "m"), of(2, "b", "n"), of(3, "c", "o")}, {of(1, "a", "m"), of(2, "x", "n"), of(3, "c", "o")}, {of(1, "a", "m"), of(2, "b", "n"), of(3, "x", "o")},
		{of(1, "a", "x"), of(2, "b", "n"), of(3, "c", "o")}, {of(1, "a", "m"), of(2, "b", "x"), of(3, "c", "o")}, {of(1, "a", "m"), of(2, "b", "n"), of(3, "c", "x")},
		{of(0, "a", "m"), of(2, "b", "n"), of(3, "c", "o")}, {of(1, "a", "m"), of(0, "b", "n"), of(3, "c", "o")}, {of(1, "a", "m"), of(2, "b", "n"), of(0, "c", "o")}, {of(1, "a", "m"), of(2, "b", "n"), of(4, "c", "o")},
		{of(1, "a", "m"), of(2, "b", "n"), of(3, "c", "o"), of(4, "")}, {of(1, "a", "m"), of(2, "b", "n")}, {of(2, "b", "n"), of(3, "c", "o")},
		{of(1, "1"), of(2, "2"), of(3, "3"), of(4, "4"), of(5, "5")}, {of(1, "1"), of(2, "2"), of(3, "3"), of(4, "4"), of(5, "6")}, {of(1, "\xff", "\x00", "\x1f", "\x7f", "é")}, {of(1, long(60))}, {of(1, long(61))}, {of(1, "a", long(61))}, {of(1, "a", long(1000))}, {of(1, "a", long(999)+"x")},
	} {
		list = append(list, with(lines...))
	}
	// More lines than there are fields, the last ones of which alone are unlike.
	empty := slices.Repeat([]api.Line{of(1, "")}, 20)
	for _, n := range []int{5, 6, 7, 20} {
		list = append(list, with(empty[:n]...))
		for _, l := range []api.Line{of(1, "a"), of(9, ""), of(9, "a"), of(9, "a", "b"), of(9, "", "a")} {
			list = append(list, with(append(slices.Clone(empty[:n]), l)...))
		}
	}
	return list
}

// again is the same card, built from other memory, with nil lists where there is nothing, or with empty ones.
func again(c api.Card, empty bool) api.Card {
	n := api.Card{Cid: c.Cid}
	if empty {
		n.Lines = []api.Line{}
	}
	for _, l := range c.Lines {
		m := api.Line{Field: l.Field, Text: strings.Clone(l.Text)}
		if empty {
			m.More = make([]string, 0, 3)
		}
		for _, s := range l.More {
			m.More = append(m.More, string([]byte(s)))
		}
		n.Lines = append(n.Lines, m)
	}
	return n
}

// wantGood holds Good against what was named, and against the slow telling.
func wantGood(t *testing.T, c api.Card, want bool) {
	t.Helper()
	if got := Good(c); got != want || mayBe(c) != want {
		t.Errorf("Good(%.200q) = %v, slowly told %v, want %v", written(c), got, mayBe(c), want)
	}
}

// P12.1: a card's Cid is the number of a dot that may be, written out at both ends of both parts.
func TestGoodCid(t *testing.T) {
	for _, c := range []struct {
		cid  uint64
		want bool
	}{
		{0, false},
		{1, false},
		{17, false},
		{281474976710655, false},
		{281474976710656, false},
		{281474976710657, true},
		{281474976710658, true},
		{1<<49 - 1, true},
		{1 << 49, false},
		{1<<49 + 1, true},
		{3<<48 + 17, true},
		{1<<63 - 1, true},
		{1 << 63, false},
		{1<<63 + 1, true},
		{65535<<48 - 1, true},
		{65535 << 48, false},
		{65535<<48 + 1, true},
		{math.MaxUint64 - 1, true},
		{math.MaxUint64, true},
	} {
		wantGood(t, api.Card{Cid: c.cid, Lines: []api.Line{of(1, "Ann")}}, c.want)
		wantGood(t, api.Card{Cid: c.cid, Lines: []api.Line{of(1, ""), of(3, "a@b", "", "c")}}, c.want)
		wantGood(t, api.Card{Cid: c.cid}, false)
		wantGood(t, api.Card{Cid: c.cid, Lines: []api.Line{of(6, "Ann")}}, false)
	}
	for bit := range 64 {
		wantGood(t, api.Card{Cid: 1 << bit, Lines: []api.Line{of(1, "a")}}, false)
		wantGood(t, api.Card{Cid: 1<<bit | 1, Lines: []api.Line{of(1, "a")}}, bit >= 48)
		wantGood(t, api.Card{Cid: 1<<bit | 1<<48, Lines: []api.Line{of(1, "a")}}, bit < 48)
	}
}

// P12.1: a card has one line at least, and fields that are fields.
func TestGoodFields(t *testing.T) {
	wantGood(t, api.Card{}, false)
	wantGood(t, with(), false)
	wantGood(t, api.Card{Cid: least, Lines: []api.Line{}}, false)
	wantGood(t, api.Card{Cid: least, Lines: make([]api.Line, 0, 5)}, false)
	wantGood(t, with(api.Line{}), false)
	for f := range 256 {
		field := f >= 1 && f <= 5
		wantGood(t, with(of(uint8(f), "a")), field)
		wantGood(t, with(of(uint8(f), "")), field)
		wantGood(t, with(of(1, "a"), of(uint8(f), "b")), field && f > 1)
		wantGood(t, with(of(uint8(f), "a"), of(5, "b")), field && f < 5)
		wantGood(t, with(of(1, "a"), of(uint8(f), "b"), of(5, "c")), f > 1 && f < 5)
		wantGood(t, with(of(1, "1"), of(2, "2"), of(3, "3"), of(4, "4"), of(uint8(f), "5")), f == 5)
		wantGood(t, with(of(1, "1"), of(2, "2"), of(3, "3"), of(4, "4"), of(5, "5"), of(uint8(f), "6")), false)
	}
	wantGood(t, with(of(api.FiName, "1"), of(api.FiPhone, "2"), of(api.FiMail, "3"), of(api.FiTown, "4"), of(api.FiNote, "5")), true)
	wantGood(t, with(of(1, ""), of(2, ""), of(3, ""), of(4, ""), of(5, "")), true)
	wantGood(t, with(of(1, "a"), of(2, "a"), of(5, "a")), true)
}

// P12.1: lines rise by their fields: rows of up to five lines, each of any field at and round the edges.
func TestGoodRows(t *testing.T) {
	fields := []uint8{0, 1, 2, 3, 4, 5, 6, 255}
	good := 0
	var rows func(lines []api.Line, left int)
	rows = func(lines []api.Line, left int) {
		c := with(lines...)
		want := mayBe(c)
		if want {
			good++
		}
		if Good(c) != want {
			t.Fatalf("Good(%q) = %v", written(c), !want)
		}
		for _, f := range fields {
			if left > 0 {
				rows(append(slices.Clone(lines), of(f, "a")), left-1)
			}
		}
	}
	rows(nil, 5)
	// Each choice of fields but none, in its one order.
	if good != 31 {
		t.Errorf("%d rows of fields may be", good)
	}
}

// P12.1: each Text, and each of More, may be a value, on whichever line it stands.
func TestGoodTexts(t *testing.T) {
	var texts []string
	for c := range 256 {
		by := string([]byte{byte(c)})
		texts = append(texts, by, by+"k", "k"+by, "k"+by+"k", long(59)+by, by+long(59), long(30)+by+long(29))
	}
	for _, n := range []int{0, 1, 2, 59, 60, 61, 62, 120, 255, 256, 257, 316, 65536, 65596, 1 << 20} {
		texts = append(texts, long(n), strings.Repeat(" ", n), strings.Repeat("~", n), strings.Repeat("é", n/2))
	}
	for _, s := range texts {
		may := aid.MayText(s)
		wantGood(t, with(of(1, s)), may)
		for at := range 4 {
			// What stands round the text keeps it from being like another one, or out of its order.
			c := with(of(1, "!!", "#"), of(2, "!!", "$"), of(4, "!!", "%"), of(5, "!!", "&"))
			l := &c.Lines[at]
			l.Text = s
			wantGood(t, c, may && s != l.More[0])
			l.Text, l.More = "!!", []string{s}
			wantGood(t, c, may)
			l.More = []string{"", s}
			wantGood(t, c, may && s != "")
			if s != "" {
				l.More = []string{s, s + "~"}
				wantGood(t, c, aid.MayText(s+"~"))
			}
		}
	}
}

// P12.1: MaxText and its neighbours, a byte 31 and a byte 127, written out.
func TestGoodTextKnown(t *testing.T) {
	full := strings.Repeat("x", api.MaxText)
	for _, c := range []struct {
		s    string
		want bool
	}{
		{"", true}, {"a", true}, {" ", true}, {"~", true}, {full, true}, {full + "x", false}, {full[1:] + "\x1f", false}, {full[1:] + "\x7f", false},
		{"\x1f", false}, {"a\x1f", false}, {"\x1fa", false}, {"\x7f", false}, {"a\x7fb", false}, {"\x00", false}, {"\n", false}, {"\x80", false}, {"\xff", false}, {"Zoë", false},
	} {
		wantGood(t, with(of(1, c.s)), c.want)
		wantGood(t, with(of(1, "Ann", c.s)), c.want)
		wantGood(t, with(of(1, "Ann"), of(5, c.s)), c.want)
		wantGood(t, with(of(1, "Ann"), of(5, "Ann", c.s)), c.want)
		wantGood(t, with(of(1, c.s), of(5, "Ann")), c.want)
		wantGood(t, with(of(1, "Ann", c.s), of(5, "Ann")), c.want)
	}
}

// P12.1: More rises, byte by byte, each once, and has not Text, written out.
func TestGoodMore(t *testing.T) {
	for _, c := range []struct {
		l    api.Line
		want bool
	}{
		{api.Line{Field: 1, Text: "a", More: nil}, true},
		{api.Line{Field: 1, Text: "a", More: []string{}}, true},
		{of(1, "a", ""), true},
		{of(1, "", ""), false},
		{of(1, "", "a"), true},
		{of(1, "", "", "a"), false},
		{of(1, "", "a", ""), false},
		{of(1, "a", "", "b"), true},
		{of(1, "a", "b", ""), false},
		{of(1, "a", "", ""), false},
		{of(1, "a", "a"), false},
		{of(1, "a", "b"), true},
		{of(1, "b", "a"), true},
		{of(1, "b", "a", "c"), true},
		{of(1, "b", "c", "a"), false},
		{of(1, "x", "b", "b"), false},
		{of(1, "x", "a", "b", "b"), false},
		{of(1, "x", "a", "b", "a"), false},
		{of(1, "x", "a", "c", "b"), false},
		{of(1, "x", "b", "a", "c"), false},
		{of(1, "x", "a", "b", "c"), true},
		{of(1, "a", "a", "b", "c"), false},
		{of(1, "b", "a", "b", "c"), false},
		{of(1, "c", "a", "b", "c"), false},
		{of(1, "x", "a", "ab", "abc"), true},
		{of(1, "x", "ab", "a"), false},
		{of(1, "x", "a", "a "), true},
		{of(1, "x", "a ", "a"), false},
		{of(1, "a", "a "), true},
		{of(1, "a ", "a"), true},
		{of(1, "ab", "a", "abc"), true},
		{of(1, "ab", "a", "ab", "abc"), false},
		{of(1, "x", "B", "a"), true},
		{of(1, "x", "a", "B"), false},
		{of(1, "x", "A", "a"), true},
		{of(1, "a", "A"), true},
		{of(1, "x", "a", "A"), false},
		{of(1, "x", "10", "9"), true},
		{of(1, "x", "9", "10"), false},
		{of(1, "x", " ", "!", "~"), true},
		{of(1, "x", "~", " "), false},
		{of(1, "x", "a", "b\x1f"), false},
		{of(1, "x", "\x1f", "b"), false},
		{of(1, "x", "a", "~\x7f"), false},
		{of(1, "x", "a", "\x7f", "b"), false},
		{of(1, "x", long(60), "l"), true},
		{of(1, "x", long(61), "l"), false},
		{of(1, "x", long(59), long(60)), true},
		{of(1, "x", long(60), long(61)), false},
		{of(1, long(60), long(59)), true},
		{of(1, long(60), long(60)), false},
	} {
		wantGood(t, with(c.l), c.want)
		// The same, on a line among others, on the first one, and on the last one.
		wantGood(t, with(of(1, "a", "b"), api.Line{Field: 3, Text: c.l.Text, More: c.l.More}, of(5, "a", "b")), c.want)
		wantGood(t, with(c.l, of(4, ""), of(5, "z", "y")), c.want)
		wantGood(t, with(of(1, ""), of(2, "z", "y"), api.Line{Field: 5, Text: c.l.Text, More: c.l.More}), c.want)
	}
	// What stands on one line plays no part on another one.
	wantGood(t, with(of(1, "a", "b", "c"), of(2, "b", "a", "c"), of(3, "c", "a", "b"), of(4, "a", "b", "c"), of(5, "a", "b", "c")), true)
}

// P12.1: all Texts, and all lists of up to four texts behind them, out of a few.
func TestGoodMoreAll(t *testing.T) {
	few := []string{"", "a", "aa", "ab", "b", "B", "\x1f"}
	good := 0
	var lists func(more []string, left int)
	lists = func(more []string, left int) {
		for _, s := range few {
			for _, c := range []api.Card{with(of(2, s, more...)), with(of(1, "a"), of(2, s, more...)), with(of(2, s, more...), of(3, "a"))} {
				want := mayBe(c)
				if want {
					good++
				}
				if Good(c) != want {
					t.Fatalf("Good(%q) = %v", written(c), !want)
				}
			}
			if left > 0 {
				lists(append(slices.Clone(more), s), left-1)
			}
		}
	}
	lists(nil, 4)
	// Each Text of six, and what of the other five stands behind it, four of them at most, in its one order.
	if want := 3 * 6 * (1 + 5 + 10 + 10 + 5); good != want {
		t.Errorf("%d cards may be, want %d", good, want)
	}
}

// P12.1: one fault at any place of a long More is told.
func TestGoodLongMore(t *testing.T) {
	const many = 3000
	more := make([]string, many)
	for i := range more {
		more[i] = strconv.Itoa(100000 + i)
	}
	c := with(of(1, "a"), of(4, "b", more...), of(5, "c"))
	wantGoodLong := func(want bool, why string, at int) {
		t.Helper()
		if Good(c) != want {
			t.Errorf("Good of a long More with %s at %d is %v", why, at, !want)
		}
	}
	wantGoodLong(true, "nothing", 0)
	l := &c.Lines[1]
	for _, at := range []int{0, 1, 2, many / 2, many - 2, many - 1} {
		kept := l.More[at]
		l.More[at] = kept + "\x1f"
		wantGoodLong(false, "a byte 31", at)
		l.More[at] = kept + long(60)
		wantGoodLong(false, "too long a text", at)
		l.More[at] = more[(at+1)%many]
		wantGoodLong(false, "the next text", at)
		l.More[at] = kept
		l.Text = kept
		wantGoodLong(false, "Text", at)
		l.Text = kept + " "
		wantGoodLong(true, "nearly Text", at)
		l.Text = "b"
	}
	c.Lines = slices.Repeat([]api.Line{of(1, "a")}, many)
	wantGoodLong(false, "many lines", 0)
}

// P12.1: Good of drawn cards, held against the chapter's words.
func TestGoodAny(t *testing.T) {
	g := rand.New(rand.NewSource(121))
	good := 0
	for range 100000 {
		c := anyCard(g)
		want := mayBe(c)
		if want {
			good++
		}
		if Good(c) != want {
			t.Fatalf("Good(%q) = %v", written(c), !want)
		}
	}
	if good < 5000 || good > 95000 {
		t.Errorf("%d drawn cards may be", good)
	}
	for _, c := range kinds() {
		wantGood(t, c, mayBe(c))
	}
}

// P12.1: of cards that are all unlike each is the same as itself, whether its lists are nil or empty, and as none else.
func TestSame(t *testing.T) {
	list := kinds()
	for i, a := range list {
		for j, b := range list {
			for _, x := range []api.Card{a, again(a, false), again(a, true)} {
				for _, y := range []api.Card{b, again(b, false), again(b, true)} {
					if got := Same(x, y); got != (i == j) {
						t.Fatalf("Same(%q, %q) = %v", written(x), written(y), got)
					}
				}
			}
		}
	}
}

// P12.1: a card is not the same as what one bit of its Cid, or of a Field, or one byte of a text makes of it.
func TestSameTurned(t *testing.T) {
	for _, c := range kinds() {
		unlike := func(other api.Card) {
			t.Helper()
			if Same(c, other) || Same(other, c) {
				t.Fatalf("Same(%q, %q) is true", written(c), written(other))
			}
		}
		for bit := range 64 {
			other := again(c, false)
			other.Cid ^= 1 << bit
			unlike(other)
		}
		for i, l := range c.Lines {
			for bit := range 8 {
				other := again(c, false)
				other.Lines[i].Field ^= 1 << bit
				unlike(other)
			}
			for at := range l.Text {
				other := again(c, false)
				other.Lines[i].Text = l.Text[:at] + "\x05" + l.Text[at+1:]
				unlike(other)
			}
			for k, s := range l.More {
				for at := range s {
					other := again(c, false)
					other.Lines[i].More[k] = s[:at] + "\x05" + s[at+1:]
					unlike(other)
				}
				other := again(c, true)
				other.Lines[i].More[k] += " "
				unlike(other)
				other = again(c, true)
				other.Lines[i].More = slices.Delete(other.Lines[i].More, k, k+1)
				unlike(other)
			}
			other := again(c, false)
			other.Lines = slices.Delete(other.Lines, i, i+1)
			unlike(other)
		}
	}
}

// P12.1: Same of drawn cards, held against what they are written as.
func TestSameAny(t *testing.T) {
	g := rand.New(rand.NewSource(122))
	same := 0
	for range 100000 {
		a, b := anyCard(g), anyCard(g)
		if g.Intn(2) == 0 {
			b = again(a, g.Intn(2) == 0)
		}
		want := written(a) == written(b)
		if want {
			same++
		}
		if Same(a, b) != want || Same(b, a) != want {
			t.Fatalf("Same(%q, %q) is not %v", written(a), written(b), want)
		}
	}
	if same < 50000 || same > 99000 {
		t.Errorf("%d drawn pairs are the same", same)
	}
}

// P12.1: lists are the same, if they are card by card: all lists of up to three out of a few cards.
func TestAll(t *testing.T) {
	few := []api.Card{{}, with(of(1, "a")), with(of(1, "a", "b")), {Cid: least + 1, Lines: []api.Line{of(1, "a")}}}
	lists := [][]api.Card{{}}
	for from, n := 0, 0; n < 3; n++ {
		to := len(lists)
		for _, l := range lists[from:to] {
			for _, c := range few {
				lists = append(lists, append(slices.Clone(l), c))
			}
		}
		from = to
	}
	for i, a := range lists {
		for j, b := range lists {
			other := make([]api.Card, 0, 9)
			for _, c := range b {
				other = append(other, again(c, true))
			}
			if All(a, b) != (i == j) || All(a, other) != (i == j) || All(other, a) != (i == j) {
				t.Fatalf("All(%q, %q) is not %v", writtenAll(a), writtenAll(b), i == j)
			}
		}
	}
	if !All(nil, nil) || !All(nil, []api.Card{}) || !All([]api.Card{}, nil) || All(nil, []api.Card{{}}) || All([]api.Card{{}}, nil) {
		t.Error("All of no cards")
	}
}

// P12.1: lists of all kinds of cards, one of which is another one at any place, or is not there, or stands elsewhere.
func TestAllLong(t *testing.T) {
	list := kinds()
	with := func(what func(l []api.Card) []api.Card) []api.Card {
		l := make([]api.Card, 0, len(list)+1)
		for _, c := range list {
			l = append(l, again(c, true))
		}
		return what(l)
	}
	want := func(l []api.Card, want bool, at int) {
		t.Helper()
		if All(list, l) != want || All(l, list) != want {
			t.Fatalf("All of two lists, changed at %d, is not %v", at, want)
		}
	}
	want(with(func(l []api.Card) []api.Card { return l }), true, -1)
	for at := range list {
		want(with(func(l []api.Card) []api.Card { l[at].Cid++; return l }), false, at)
		want(with(func(l []api.Card) []api.Card { l[at].Lines = append(l[at].Lines, of(1, "")); return l }), false, at)
		want(with(func(l []api.Card) []api.Card { return slices.Delete(l, at, at+1) }), false, at)
		want(with(func(l []api.Card) []api.Card { return slices.Insert(l, at, api.Card{Cid: 5}) }), false, at)
		want(with(func(l []api.Card) []api.Card { return append(l[:at], l[at:]...) }), true, at)
		want(with(func(l []api.Card) []api.Card { return l[:at] }), false, at)
		if at > 0 {
			want(with(func(l []api.Card) []api.Card { l[at], l[at-1] = l[at-1], l[at]; return l }), false, at)
		}
	}
}

// spoil writes into all that a card has, and behind it, as far as its lists have room.
func spoil(c *api.Card) {
	c.Cid += 7
	for i := range c.Lines {
		l := &c.Lines[i]
		for k := range l.More {
			l.More[k] += "spoilt"
		}
		if len(l.More) > 0 {
			l.More[0], l.More[len(l.More)-1] = "first", "last"
		}
		l.More = append(l.More, "behind")
		l.More = l.More[:cap(l.More)]
		for k := range l.More {
			l.More[k] += "spoilt"
		}
		l.Field, l.Text = l.Field+9, l.Text+"spoilt"
		l.More = append(l.More, "behind")
	}
	c.Lines = append(c.Lines, of(77, "behind", "it"))
	c.Lines = c.Lines[:cap(c.Lines)]
	for i := range c.Lines {
		c.Lines[i] = of(88, "spoilt")
	}
	c.Lines = append(c.Lines, of(99, "behind"))
}

// P12.1: a copy is the same as what was copied; what is written into either is not seen in the other one.
func TestCopy(t *testing.T) {
	g := rand.New(rand.NewSource(123))
	list := kinds()
	for range 5000 {
		list = append(list, anyCard(g))
	}
	for _, c := range list {
		want := written(c)
		for _, one := range []api.Card{again(c, false), again(c, true)} {
			two := Copy(one)
			three := Copy(two)
			if written(one) != want || written(two) != want || written(three) != want || !Same(one, two) || Good(two) != mayBe(c) {
				t.Fatalf("Copy(%q) = %q, and its copy %q", want, written(two), written(three))
			}
			spoil(&two)
			if written(one) != want || written(three) != want {
				t.Fatalf("what was written into a copy of %q is seen in what was copied, %q, or in its copy, %q", want, written(one), written(three))
			}
			four := Copy(one)
			spoil(&one)
			if written(three) != want || written(four) != want {
				t.Fatalf("what was written into %q is seen in its copies, %q and %q", want, written(three), written(four))
			}
		}
	}
}

// P12.1: lists that share memory in what was copied share none in the copy, and the room behind them is left alone.
func TestCopyApart(t *testing.T) {
	row := []string{"a", "b", "c", "d", "kept"}
	room := []api.Line{{Field: 1, Text: "n", More: row[:2]}, {Field: 2, Text: "p", More: row[:4]}, {Field: 2, Text: "p", More: row[:4]}, {Field: 4, Text: "o", More: row[1:3]}, of(5, "kept", "kept")}
	c := api.Card{Cid: least, Lines: room[:4]}
	was, wasRow := written(c), slices.Clone(row)
	two := Copy(c)
	for i := range two.Lines {
		before := written(api.Card{Lines: slices.Delete(slices.Clone(two.Lines), i, i+1)})
		l := &two.Lines[i]
		l.Text = "x"
		for k := range l.More {
			l.More[k] = "x"
		}
		for range 5 {
			l.More = append(l.More, "y")
		}
		if after := written(api.Card{Lines: slices.Delete(slices.Clone(two.Lines), i, i+1)}); after != before {
			t.Errorf("what was written into line %d of a copy is seen in the others: %q, then %q", i, before, after)
		}
	}
	two.Lines = append(two.Lines, of(9, "y"))
	if written(c) != was || !slices.Equal(row, wasRow) || written(with(room[4])) != written(with(of(5, "kept", "kept"))) {
		t.Errorf("a copy has changed %q into %q", was, written(c))
	}
}

// wantLine holds that a line is found, or not.
func wantLine(t *testing.T, c api.Card, f uint8, want api.Line, ok bool) {
	t.Helper()
	got, gotOK := Line(c, f)
	if written(with(got)) != written(with(want)) || gotOK != ok {
		t.Errorf("Line(%q, %d) = %q, %v, want %q, %v", written(c), f, written(with(got)), gotOK, written(with(want)), ok)
	}
}

// P12.2: Line of a field that no line has, that one has, and that two have.
func TestLine(t *testing.T) {
	none := api.Line{}
	c := with(of(1, "Ann", "An", "Anne"), of(3, ""), of(5, "x", ""))
	wantLine(t, c, 0, none, false)
	wantLine(t, c, 1, of(1, "Ann", "An", "Anne"), true)
	wantLine(t, c, 2, none, false)
	wantLine(t, c, 3, of(3, ""), true)
	wantLine(t, c, 4, none, false)
	wantLine(t, c, 5, of(5, "x", ""), true)
	for f := 6; f < 256; f++ {
		wantLine(t, c, uint8(f), none, false)
	}
	for f := range 256 {
		wantLine(t, api.Card{}, uint8(f), none, false)
		wantLine(t, with(), uint8(f), none, false)
		// Fields that are none, too, and the first one of two.
		wantLine(t, with(of(uint8(f), "a", "b")), uint8(f), of(uint8(f), "a", "b"), true)
		wantLine(t, with(of(uint8(f), "a", "b")), uint8(f)+1, none, false)
		wantLine(t, with(of(uint8(f), "a", "b")), uint8(f)-1, none, false)
		wantLine(t, with(of(uint8(f)+1, "z"), of(uint8(f), "a"), of(uint8(f), "b", "c")), uint8(f), of(uint8(f), "a"), true)
		wantLine(t, with(of(uint8(f), "", "y"), of(uint8(f)+1, "z"), of(uint8(f), "a", "b")), uint8(f), of(uint8(f), "", "y"), true)
	}
	wantLine(t, with(of(2, ""), of(2, "a"), of(2, "b")), 2, of(2, ""), true)
	wantLine(t, with(of(2, "b", "c"), of(2, "a")), 2, of(2, "b", "c"), true)
	wantLine(t, with(of(5, "5"), of(4, "4"), of(3, "3"), of(4, "44")), 4, of(4, "4"), true)
	wantLine(t, api.Card{Cid: 0, Lines: []api.Line{of(1, "\x1f", "\x7f", "\x7f")}}, 1, of(1, "\x1f", "\x7f", "\x7f"), true)
	wantLine(t, api.Card{Lines: []api.Line{{}}}, 0, none, true)
}

// P12.2: Line, Title and Odds of all kinds of cards, held against lines that were sorted out one by one.
func TestPartsAny(t *testing.T) {
	g := rand.New(rand.NewSource(124))
	list := kinds()
	for range 3000 {
		list = append(list, anyCard(g))
	}
	for _, c := range list {
		title, odds := "", 0
		byField := map[uint8]api.Line{}
		for i := range c.Lines {
			// From the last one on, so that the first one stays.
			l := c.Lines[len(c.Lines)-1-i]
			byField[l.Field] = l
			if len(l.Text) > 0 {
				title = l.Text
			}
			odds += min(len(l.More), 1)
		}
		for f := range 256 {
			l, ok := byField[uint8(f)]
			wantLine(t, c, uint8(f), l, ok)
		}
		if got := Title(c); got != title {
			t.Errorf("Title(%q) = %q, want %q", written(c), got, title)
		}
		if got := Odds(c); got != odds {
			t.Errorf("Odds(%q) = %d, want %d", written(c), got, odds)
		}
	}
}

// P12.2: what is written into what Line answered is not seen in the card, and the other way round.
func TestLineApart(t *testing.T) {
	c := with(of(1, "Ann", "A", "B"), of(2, "1", "2"), of(2, "3", "4"), of(7, "5", "6"))
	row := append(make([]string, 0, 4), "m", "n", "kept")
	c.Lines[1].More = row[:2]
	was := written(c)
	for _, l := range slices.Clone(c.Lines) {
		got, _ := Line(c, l.Field)
		twin, _ := Line(c, l.Field)
		want := written(with(twin))
		holder := with(got)
		spoil(&holder)
		got.More = append(got.More, "behind")
		if written(c) != was || row[2] != "kept" || written(with(twin)) != want {
			t.Errorf("what was written into the line of %d is seen in its card, or in another answer: %q", l.Field, written(c))
		}
		other := Copy(c)
		twin, _ = Line(other, l.Field)
		spoil(&other)
		if written(with(twin)) != want {
			t.Errorf("what was written into a card is seen in its line of %d: %q", l.Field, written(with(twin)))
		}
	}
}

// P12.2: Title is the first Text that is not empty.
func TestTitle(t *testing.T) {
	for _, c := range []struct {
		lines []api.Line
		want  string
	}{
		{nil, ""},
		{[]api.Line{}, ""},
		{[]api.Line{{}}, ""},
		{[]api.Line{of(1, "")}, ""},
		{[]api.Line{of(1, ""), of(2, ""), of(5, "")}, ""},
		{[]api.Line{of(1, "", "Ann")}, ""},
		{[]api.Line{of(1, "", "Ann"), of(2, "", "1", "2")}, ""},
		{[]api.Line{of(1, "", "Ann"), of(3, "a")}, "a"},
		{[]api.Line{of(1, ""), of(3, "a")}, "a"},
		{[]api.Line{of(1, ""), of(2, ""), of(3, ""), of(4, ""), of(5, "note")}, "note"},
		{[]api.Line{of(1, ""), of(2, "1"), of(3, "")}, "1"},
		{[]api.Line{of(1, "Ann")}, "Ann"},
		{[]api.Line{of(1, "Ann", "", "A")}, "Ann"},
		{[]api.Line{of(1, "Ann"), of(2, "1")}, "Ann"},
		{[]api.Line{of(1, "Ann"), of(2, "")}, "Ann"},
		{[]api.Line{of(2, "1"), of(4, "Rome")}, "1"},
		{[]api.Line{of(5, "b"), of(1, "a")}, "b"},
		{[]api.Line{of(1, "b"), of(1, "a")}, "b"},
		{[]api.Line{of(1, ""), of(1, "a")}, "a"},
		{[]api.Line{of(0, "x"), of(1, "a")}, "x"},
		{[]api.Line{of(255, "y"), of(1, "a")}, "y"},
		{[]api.Line{of(1, " "), of(2, "a")}, " "},
		{[]api.Line{of(1, "\x00"), of(2, "a")}, "\x00"},
		{[]api.Line{of(1, "\xff\x1f"), of(2, "a")}, "\xff\x1f"},
		{[]api.Line{of(1, ""), of(2, long(61))}, long(61)},
		{append(slices.Repeat([]api.Line{of(1, "")}, 300), of(2, "a")), "a"},
	} {
		for _, cid := range []uint64{0, 1, least, math.MaxUint64} {
			card := api.Card{Cid: cid, Lines: c.lines}
			if got := Title(card); got != c.want {
				t.Errorf("Title(%q) = %q, want %q", written(card), got, c.want)
			}
		}
	}
}

// P12.2: Odds is of how many lines More is not empty.
func TestOdds(t *testing.T) {
	for _, c := range []struct {
		lines []api.Line
		want  int
	}{
		{nil, 0},
		{[]api.Line{}, 0},
		{[]api.Line{{}}, 0},
		{[]api.Line{of(1, "a")}, 0},
		{[]api.Line{{Field: 1, Text: "a", More: []string{}}}, 0},
		{[]api.Line{{Field: 1, Text: "a", More: make([]string, 0, 4)}, of(2, "b"), of(3, "")}, 0},
		{[]api.Line{of(1, "a", "b")}, 1},
		{[]api.Line{of(1, "a", "")}, 1},
		{[]api.Line{of(1, "", "a")}, 1},
		{[]api.Line{of(1, "a", "b", "c", "d")}, 1},
		{[]api.Line{of(1, "a", "b"), of(2, "c")}, 1},
		{[]api.Line{of(1, "a"), of(2, "c", "d")}, 1},
		{[]api.Line{of(1, "a", "b"), of(2, "c"), of(3, "d", "e")}, 2},
		{[]api.Line{of(1, "a", "b"), of(2, "c", "d", "e"), of(5, "", "")}, 3},
		{[]api.Line{of(1, "a", "a"), of(1, "a", "a"), of(0, "", "\x1f"), of(255, "z", "y", "x")}, 4},
		{[]api.Line{of(1, "1", "1"), of(2, "2", "2"), of(3, "3", "3"), of(4, "4", "4"), of(5, "5", "5")}, 5},
		{slices.Repeat([]api.Line{of(1, "a", "b"), of(2, "a")}, 70000), 70000},
	} {
		for _, cid := range []uint64{0, least} {
			if got := Odds(api.Card{Cid: cid, Lines: c.lines}); got != c.want {
				t.Errorf("Odds of %d lines = %d, want %d", len(c.lines), got, c.want)
			}
		}
	}
}

// Rule 4: no call changes what it was given, nor what stands in the room behind it.
func TestKept(t *testing.T) {
	for _, c := range kinds() {
		room := append(again(c, true).Lines, of(8, "kept", "kept"))
		for i := range room {
			room[i].More = append(room[i].More, "kept")[:len(room[i].More)]
		}
		card := api.Card{Cid: c.Cid, Lines: room[:len(room)-1]}
		list := append(make([]api.Card, 0, 4), card, card, api.Card{Cid: 8})
		Good(card)
		Same(card, again(c, false))
		All(list[:2], list[:2])
		Copy(card)
		Title(card)
		Odds(card)
		for f := range 8 {
			Line(card, uint8(f))
		}
		if written(card) != written(c) || writtenAll(list) != writtenAll([]api.Card{c, c, {Cid: 8}}) || written(with(room[len(room)-1])) != written(with(of(8, "kept", "kept"))) {
			t.Errorf("%q was changed into %q", written(c), written(card))
		}
		for _, l := range room {
			if behind := l.More[:len(l.More)+1]; behind[len(l.More)] != "kept" {
				t.Errorf("the room behind a More of %q was changed into %q", written(c), behind)
			}
		}
	}
}

// The chapter's example.
func TestExample(t *testing.T) {
	if got := Title(with(of(api.FiName, ""), of(api.FiMail, "a"))); got != "a" {
		t.Errorf("Title of the lines name \"\" and mail \"a\" = %q", got)
	}
}
