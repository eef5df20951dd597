package dot

import (
	"cmp"
	"math"
	"math/big"
	"math/rand"
	"regexp"
	"slices"
	"strings"
	"testing"

	"epitaph/api"
	"epitaph/shift"
)

const (
	most  = api.MaxCount
	above = api.MaxCount + 1
	huge  = math.MaxUint64
)

// of is a dot, in short.
func of(dev uint16, n uint64) api.Dot {
	return api.Dot{Dev: dev, N: n}
}

// edges are dots at all edges of both parts, those that may be and those that may not.
func edges() []api.Dot {
	var list []api.Dot
	for _, dev := range []uint16{0, 1, 2, 3, 255, 256, 1 << 15, api.MaxDev - 1, api.MaxDev} {
		for _, n := range []uint64{0, 1, 2, 9, 10, 17, 1 << 16, 1 << 32, most - 1, most, above, above + 1, 1 << 63, huge - 1, huge} {
			list = append(list, of(dev, n))
		}
	}
	return list
}

// anyDots are dots whose parts are drawn, of each count of bits.
func anyDots(g *rand.Rand, many int) []api.Dot {
	list := make([]api.Dot, many)
	for i := range list {
		list[i] = of(uint16(g.Uint32()>>(16+g.Intn(16))), g.Uint64()>>g.Intn(64))
	}
	return list
}

// mayBe is told by the chapter's words, part by part.
func mayBe(d api.Dot) bool {
	switch {
	case d.Dev == 0, d.N < 1, d.N > 281474976710655:
		return false
	}
	return true
}

// place is a number without an end to its bits, in which the devices stand above all that N can be.
func place(d api.Dot) *big.Int {
	p := new(big.Int).Lsh(big.NewInt(int64(d.Dev)), 64)
	return p.Add(p, new(big.Int).SetUint64(d.N))
}

// written is a dot's text, its digits told by numbers without an end.
func written(d api.Dot) string {
	return big.NewInt(int64(d.Dev)).String() + "." + new(big.Int).SetUint64(d.N).String()
}

var form = regexp.MustCompile(`\A(0|[1-9][0-9]*)\.(0|[1-9][0-9]*)\z`)

// readOf reads a text by its form, and its digits without an end.
func readOf(s string) (api.Dot, bool) {
	parts := form.FindStringSubmatch(s)
	if parts == nil {
		return api.Dot{}, false
	}
	dev, _ := new(big.Int).SetString(parts[1], 10)
	n, _ := new(big.Int).SetString(parts[2], 10)
	if dev.Cmp(big.NewInt(1)) < 0 || dev.Cmp(big.NewInt(65535)) > 0 || n.Cmp(big.NewInt(1)) < 0 || n.Cmp(big.NewInt(281474976710655)) > 0 {
		return api.Dot{}, false
	}
	return of(uint16(dev.Uint64()), n.Uint64()), true
}

// P7.2, P7.3: the chapter's example.
func TestExample(t *testing.T) {
	if got := Text(of(3, 17)); got != "3.17" {
		t.Errorf("Text of 3 and 17 = %q", got)
	}
	got := Sort([]api.Dot{of(2, 1), of(1, 9), of(2, 1)})
	if want := []api.Dot{of(1, 9), of(2, 1)}; !slices.Equal(got, want) {
		t.Errorf("Sort of 2.1, 1.9, 2.1 = %v", got)
	}
}

// P7.1: Good at both ends of both parts, written out.
func TestGoodKnown(t *testing.T) {
	for _, c := range []struct {
		d    api.Dot
		want bool
	}{
		{of(0, 0), false},
		{of(0, 1), false},
		{of(0, most), false},
		{of(0, above), false},
		{of(0, huge), false},
		{of(1, 0), false},
		{of(1, 1), true},
		{of(1, 2), true},
		{of(1, most-1), true},
		{of(1, most), true},
		{of(1, above), false},
		{of(1, above+1), false},
		{of(1, huge), false},
		{of(3, 17), true},
		{of(65534, 17), true},
		{of(65535, 0), false},
		{of(65535, 1), true},
		{of(65535, most), true},
		{of(65535, above), false},
		{of(65535, huge), false},
	} {
		if got := Good(c.d); got != c.want {
			t.Errorf("Good(%v) = %v", c.d, got)
		}
	}
}

// P7.1: Good of dots of all kinds, held against the chapter's words.
func TestGood(t *testing.T) {
	g := rand.New(rand.NewSource(1))
	for _, d := range append(edges(), anyDots(g, 20000)...) {
		if got := Good(d); got != mayBe(d) {
			t.Errorf("Good(%v) = %v", d, got)
		}
	}
	for dev := range 1 << 16 {
		if got := Good(of(uint16(dev), 1)); got != (dev > 0) {
			t.Errorf("Good(%d.1) = %v", dev, got)
		}
	}
}

// P7.1: Cmp of pairs that are unlike in one part or in both, in both orders, written out.
func TestCmpKnown(t *testing.T) {
	for _, c := range []struct {
		a, b api.Dot
		want int
	}{
		{of(0, 0), of(0, 0), 0},
		{of(3, 17), of(3, 17), 0},
		{of(65535, huge), of(65535, huge), 0},
		{of(0, 0), of(0, 1), -1},
		{of(0, 0), of(1, 0), -1},
		{of(0, huge), of(1, 0), -1},
		{of(1, 1), of(1, 2), -1},
		{of(1, 2), of(2, 1), -1},
		{of(1, 2), of(2, 2), -1},
		{of(1, 1), of(2, 2), -1},
		{of(1, most), of(2, 1), -1},
		{of(1, most), of(1, above), -1},
		{of(1, 1), of(1, above+1), -1},
		{of(1, 1), of(1, huge), -1},
		{of(1, 1<<63-1), of(1, 1<<63), -1},
		{of(255, 9), of(256, 1), -1},
		{of(0, huge), of(65535, huge), -1},
		{of(32767, 1), of(32768, 1), -1},
		{of(1, 1), of(65535, 1), -1},
		{of(65534, huge), of(65535, 0), -1},
		{of(9, 1), of(10, 1), -1},
		{of(1, 9), of(1, 10), -1},
	} {
		if got := Cmp(c.a, c.b); got != c.want {
			t.Errorf("Cmp(%v, %v) = %d", c.a, c.b, got)
		}
		if got := Cmp(c.b, c.a); got != -c.want {
			t.Errorf("Cmp(%v, %v) = %d", c.b, c.a, got)
		}
	}
}

// P7.1: Cmp of all pairs, held against numbers in which Dev stands above N.
func TestCmp(t *testing.T) {
	g := rand.New(rand.NewSource(2))
	list := append(edges(), anyDots(g, 300)...)
	for _, a := range list {
		for _, b := range list {
			if got, want := Cmp(a, b), place(a).Cmp(place(b)); got != want {
				t.Fatalf("Cmp(%v, %v) = %d, want %d", a, b, got, want)
			}
		}
	}
}

// P7.1: Pack at all edges, written out: what N has above MaxCount goes away, and Dev stays.
func TestPackKnown(t *testing.T) {
	for _, c := range []struct {
		d    api.Dot
		want uint64
	}{
		{of(0, 0), 0},
		{of(0, 1), 1},
		{of(0, most), 1<<48 - 1},
		{of(0, above), 0},
		{of(0, huge), 1<<48 - 1},
		{of(1, 0), 1 << 48},
		{of(1, 1), 1<<48 + 1},
		{of(1, most), 1<<49 - 1},
		{of(1, above), 1 << 48},
		{of(1, above+1), 1<<48 + 1},
		{of(1, 2*above), 1 << 48},
		{of(1, huge), 1<<49 - 1},
		{of(3, 17), 3*(1<<48) + 17},
		{of(0x1234, 0x56789abcdef0), 0x123456789abcdef0},
		{of(65535, 0), 65535 << 48},
		{of(65535, 1), 65535<<48 + 1},
		{of(65535, most), huge},
		{of(65535, above), 65535 << 48},
		{of(65535, huge), huge},
	} {
		if got := Pack(c.d); got != c.want {
			t.Errorf("Pack(%v) = %#x, want %#x", c.d, got, c.want)
		}
	}
}

// P7.1: Pack of dots of all kinds is shift.Pack of both parts.
func TestPack(t *testing.T) {
	g := rand.New(rand.NewSource(3))
	for _, d := range append(edges(), anyDots(g, 20000)...) {
		want := uint64(d.Dev)*(1<<48) + d.N%(1<<48)
		if got := Pack(d); got != want || got != shift.Pack(d.Dev, d.N) {
			t.Errorf("Pack(%v) = %#x, want %#x", d, got, want)
		}
	}
}

// P7.1: Unpack of 0, without a Dev, without an N, at all edges, and of the greatest number, written out.
func TestUnpackKnown(t *testing.T) {
	for _, c := range []struct {
		v    uint64
		want api.Dot
		ok   bool
	}{
		{0, of(0, 0), false},
		{1, of(0, 0), false},
		{17, of(0, 0), false},
		{1<<48 - 1, of(0, 0), false},
		{1 << 48, of(0, 0), false},
		{1<<48 + 1, of(1, 1), true},
		{1<<48 + 2, of(1, 2), true},
		{1<<49 - 1, of(1, most), true},
		{1 << 49, of(0, 0), false},
		{3*(1<<48) + 17, of(3, 17), true},
		{0x123456789abcdef0, of(0x1234, 0x56789abcdef0), true},
		{1 << 63, of(0, 0), false},
		{1<<63 + 1, of(32768, 1), true},
		{65535 << 48, of(0, 0), false},
		{65535<<48 + 1, of(65535, 1), true},
		{huge - 1, of(65535, most-1), true},
		{huge, of(65535, most), true},
	} {
		if got, ok := Unpack(c.v); got != c.want || ok != c.ok {
			t.Errorf("Unpack(%#x) = %v, %v", c.v, got, ok)
		}
	}
}

// P7.1: Unpack of numbers of all kinds, held against what dividing tells; Pack of what it tells is the number.
func TestUnpack(t *testing.T) {
	g := rand.New(rand.NewSource(4))
	var nums []uint64
	for _, d := range append(edges(), anyDots(g, 20000)...) {
		nums = append(nums, uint64(d.Dev)*(1<<48)+d.N%(1<<48), d.N)
	}
	for _, v := range nums {
		want := of(uint16(v/(1<<48)), v%(1<<48))
		ok := mayBe(want)
		if !ok {
			want = api.Dot{}
		}
		if got, gotOK := Unpack(v); got != want || gotOK != ok {
			t.Errorf("Unpack(%#x) = %v, %v, want %v, %v", v, got, gotOK, want, ok)
		}
		if ok && Pack(want) != v {
			t.Errorf("Pack(%v) = %#x, want %#x", want, Pack(want), v)
		}
	}
}

// P7.1, P7.4: what Unpack tells of a dot's number is that dot, if it may be, and nothing of one that lacks a Dev or an N.
func TestPackUnpack(t *testing.T) {
	g := rand.New(rand.NewSource(5))
	for _, d := range append(edges(), anyDots(g, 20000)...) {
		got, ok := Unpack(Pack(d))
		if mayBe(d) && (got != d || !ok) {
			t.Errorf("Unpack(Pack(%v)) = %v, %v", d, got, ok)
		}
		if (d.Dev == 0 || d.N%(1<<48) == 0) && (got != api.Dot{} || ok) {
			t.Errorf("Unpack(Pack(%v)) = %v, %v", d, got, ok)
		}
	}
}

// P7.4: the numbers of dots that may be stand in the order of the dots; no two have one.
func TestPackOrder(t *testing.T) {
	g := rand.New(rand.NewSource(6))
	list := slices.DeleteFunc(append(edges(), anyDots(g, 500)...), func(d api.Dot) bool { return !mayBe(d) })
	for _, a := range list {
		for _, b := range list {
			want := place(a).Cmp(place(b))
			if got := cmp.Compare(Pack(a), Pack(b)); got != want || Cmp(a, b) != want {
				t.Fatalf("Pack(%v) = %#x, Pack(%v) = %#x, Cmp = %d, want %d", a, Pack(a), b, Pack(b), Cmp(a, b), want)
			}
		}
	}
}

// P7.2: Text at all edges, written out, also of dots that may not be; Parse of it is the dot, if it may be.
func TestTextKnown(t *testing.T) {
	for _, c := range []struct {
		d    api.Dot
		want string
	}{
		{of(0, 0), "0.0"},
		{of(0, 1), "0.1"},
		{of(0, most), "0.281474976710655"},
		{of(0, above), "0.281474976710656"},
		{of(0, huge), "0.18446744073709551615"},
		{of(1, 0), "1.0"},
		{of(1, 1), "1.1"},
		{of(1, most), "1.281474976710655"},
		{of(1, above), "1.281474976710656"},
		{of(1, huge), "1.18446744073709551615"},
		{of(1, 1<<63), "1.9223372036854775808"},
		{of(10, 100), "10.100"},
		{of(9, 9), "9.9"},
		{of(3, 17), "3.17"},
		{of(32768, 5), "32768.5"},
		{of(65535, 0), "65535.0"},
		{of(65535, 1), "65535.1"},
		{of(65535, most), "65535.281474976710655"},
		{of(65535, above), "65535.281474976710656"},
		{of(65535, huge), "65535.18446744073709551615"},
	} {
		if got := Text(c.d); got != c.want {
			t.Errorf("Text(%v) = %q, want %q", c.d, got, c.want)
		}
		wantParse(t, c.want, c.d)
	}
}

// P7.2: Text of dots of all kinds, and what Parse makes of it.
func TestText(t *testing.T) {
	g := rand.New(rand.NewSource(7))
	for _, d := range append(edges(), anyDots(g, 20000)...) {
		s := Text(d)
		if want := written(d); s != want {
			t.Errorf("Text(%v) = %q, want %q", d, s, want)
		}
		wantParse(t, s, d)
	}
}

// wantParse holds that a text is read as a dot, if it may be, and as none else.
func wantParse(t *testing.T, s string, d api.Dot) {
	t.Helper()
	ok := mayBe(d)
	if !ok {
		d = api.Dot{}
	}
	if got, gotOK := Parse(s); got != d || gotOK != ok {
		t.Errorf("Parse(%q) = %v, %v, want %v, %v", s, got, gotOK, d, ok)
	}
}

// wantRead holds Parse against the slow reading.
func wantRead(t *testing.T, s string) {
	t.Helper()
	want, ok := readOf(s)
	if got, gotOK := Parse(s); got != want || gotOK != ok {
		t.Errorf("Parse(%q) = %v, %v, want %v, %v", s, got, gotOK, want, ok)
	}
}

// P7.2: the greatest parts that a dot takes, and all shorter ones, are read.
func TestParseKnown(t *testing.T) {
	for _, c := range []struct {
		s string
		d api.Dot
	}{
		{"3.17", of(3, 17)},
		{"1.1", of(1, 1)},
		{"1.9", of(1, 9)},
		{"1.10", of(1, 10)},
		{"10.1", of(10, 1)},
		{"65535.1", of(65535, 1)},
		{"65534.1", of(65534, 1)},
		{"1.281474976710655", of(1, most)},
		{"1.281474976710654", of(1, most-1)},
		{"65535.281474976710655", of(65535, most)},
	} {
		if got, ok := Parse(c.s); got != c.d || !ok {
			t.Errorf("Parse(%q) = %v, %v", c.s, got, ok)
		}
	}
}

// wrong are texts that are no dot's: without a point, with too many, with noughts ahead, with parts that are empty or too great, with what is no digit.
func wrong() []string {
	list := []string{"", ".", "..", "3", "17", "0", "317", "3.", ".17", ".3.17", "3.17.", "3..17", "3.1.7", "1.2.3", "...",
		"03.17", "003.17", "3.017", "3.0017", "03.017", "00.1", "0.1", "0.01", "1.0", "1.00", "0.0", "00.00", "3.0", "0.17", "01.1", "1.01",
		"+3.17", "3.+17", "-3.17", "3.-17", "+3.+17", "-1.1", "1.-1", "+.1", "1.+", "-.-", "3+.17", "3.17+",
		" 3.17", "3.17 ", "3 .17", "3. 17", "3.1 7", "\t3.17", "3.17\n", "3.17\r\n", "3\n.17", "\x003.17", "3.17\x00", "3\x00.17",
		"3,17", "3:17", "3/17", "3;17", "3-17", "3 17", "3.a", "a.3", "a.b", "3.1a", "3a.17", "x3.17",
		"0x3.17", "3.0x11", "0b11.1", "0o3.1", "1_0.1", "1.1_0", "1.1e1", "1e1.1", "1.1E1", "1.f", "1.F", "f.1",
		"\xff3.17", "3\x80.17", "3.17\x80", "3.\x8017", "3\xb717", "3\u00b717", "\u0663.17", "3.\u0661\u0667", "\uff13.17", "3\uff0e17", "3\u3002 17", "3\u202417", "\ufeff3.17",
		"65536.1", "65537.1", "65545.1", "70000.1", "99999.1", "131073.1", "100000.1", "655350.1", "4294967297.1", "4294967299.17", "18446744073709551617.1", "18446744073709551619.17",
		"1.281474976710656", "1.281474976710657", "1.281474976710660", "1.999999999999999", "1.1000000000000000", "1.2814749767106550",
		"1.18446744073709551615", "1.18446744073709551616", "1.18446744073709551617", "3.18446744073709551633", "1.36893488147419103233", "1.340282366920938463463374607431768211457",
		"0.281474976710655", "65536.281474976710656", "65535.281474976710656", "65536.281474976710655",
		"3.17\u0000", "NaN.1", "1.Inf", "Inf", "3.17e0", "3.17.0", "0.3.17", "{3 17}", "3.17f"}
	for _, many := range []int{20, 21, 40, 1000, 100000} {
		ones, noughts := strings.Repeat("1", many), strings.Repeat("0", many)
		list = append(list, ones+".1", "1."+ones, ones+"."+ones, ones, noughts+"3.17", "3."+noughts+"17", noughts+"."+noughts, "3.17"+noughts, "3"+noughts+".17", strings.Repeat(".", many))
	}
	return list
}

// P7.2: texts that are no dot's are read as none.
func TestParseWrong(t *testing.T) {
	for _, s := range wrong() {
		if got, ok := Parse(s); got != (api.Dot{}) || ok {
			t.Errorf("Parse(%.60q) = %v, %v", s, got, ok)
		}
	}
}

// P7.2: all short texts of digits, points and bytes that are neither.
func TestParseShort(t *testing.T) {
	signs := "0159.+- _a\xff"
	texts := []string{""}
	for range 6 {
		var longer []string
		for _, s := range texts {
			wantRead(t, s)
			for i := range len(signs) {
				longer = append(longer, s+signs[i:i+1])
			}
		}
		texts = longer
	}
}

// P7.2: texts of dots with each byte put in at, or in place of, or taken from each place.
func TestParseTurned(t *testing.T) {
	for _, d := range []api.Dot{of(3, 17), of(1, 1), of(10, 100), of(65535, most), of(65535, above), of(0, 5), of(5, 0), of(1, huge)} {
		s := written(d)
		for i := range len(s) + 1 {
			for c := range 256 {
				sign := string([]byte{byte(c)})
				wantRead(t, s[:i]+sign+s[i:])
				if i < len(s) {
					wantRead(t, s[:i]+sign+s[i+1:])
				}
			}
			wantRead(t, s[:i])
			wantRead(t, s[i:])
			if i < len(s) {
				wantRead(t, s[:i]+s[i+1:])
			}
		}
	}
}

// P7.2: parts round the greatest that a dot takes, and what they come to once they go round.
func TestParseLimits(t *testing.T) {
	var parts []string
	for _, bits := range []uint{0, 15, 16, 17, 32, 47, 48, 49, 63, 64, 65, 128} {
		p := new(big.Int).Lsh(big.NewInt(1), bits)
		for i := range 7 {
			parts = append(parts, new(big.Int).Add(p, big.NewInt(int64(i-3))).String())
		}
	}
	for _, a := range parts {
		for _, b := range parts {
			wantRead(t, a+"."+b)
			wantRead(t, a+b)
		}
	}
}

// sortSlowly puts each dot ahead of the first one that it stands ahead of.
func sortSlowly(l []api.Dot) []api.Dot {
	var list []api.Dot
	for _, d := range l {
		at, there := 0, false
		for i, other := range list {
			switch place(other).Cmp(place(d)) {
			case -1:
				at = i + 1
			case 0:
				there = true
			}
		}
		if !there {
			list = slices.Insert(list, at, d)
		}
	}
	return list
}

// wantList holds Sort and Rising of a list, and Has of what is in it, against the slow ways.
func wantList(t *testing.T, l []api.Dot) {
	t.Helper()
	want := sortSlowly(l)
	if got := Sort(l); !slices.Equal(got, want) {
		t.Fatalf("Sort(%v) = %v, want %v", l, got, want)
	}
	if got := Rising(l); got != slices.Equal(l, want) {
		t.Fatalf("Rising(%v) = %v", l, got)
	}
	if !Rising(want) {
		t.Fatalf("Rising(%v) = false", want)
	}
	for _, d := range l {
		if !Has(l, d) || !Has(want, d) {
			t.Fatalf("Has(%v, %v) = false", l, d)
		}
	}
}

// listsOf are all lists of so many dots at the most out of a few.
func listsOf(few []api.Dot, atMost int) [][]api.Dot {
	lists := [][]api.Dot{nil}
	from := 0
	for range atMost {
		upto := len(lists)
		for _, l := range lists[from:upto] {
			for _, d := range few {
				lists = append(lists, append(slices.Clone(l), d))
			}
		}
		from = upto
	}
	return lists
}

// P7.3: Sort and Rising of lists written out.
func TestSortKnown(t *testing.T) {
	a, b, c, d := of(1, 9), of(2, 1), of(2, 2), of(65535, most)
	for _, x := range []struct {
		l, want []api.Dot
		rising  bool
	}{
		{nil, nil, true},
		{[]api.Dot{}, nil, true},
		{make([]api.Dot, 0, 9), nil, true},
		{[]api.Dot{a}, []api.Dot{a}, true},
		{[]api.Dot{{}}, []api.Dot{{}}, true},
		{[]api.Dot{a, a}, []api.Dot{a}, false},
		{[]api.Dot{a, a, a, a, a}, []api.Dot{a}, false},
		{[]api.Dot{a, b}, []api.Dot{a, b}, true},
		{[]api.Dot{b, a}, []api.Dot{a, b}, false},
		{[]api.Dot{b, a, b}, []api.Dot{a, b}, false},
		{[]api.Dot{a, b, b}, []api.Dot{a, b}, false},
		{[]api.Dot{a, a, b}, []api.Dot{a, b}, false},
		{[]api.Dot{a, b, c, d}, []api.Dot{a, b, c, d}, true},
		{[]api.Dot{d, c, b, a}, []api.Dot{a, b, c, d}, false},
		{[]api.Dot{d, c, b, a, a, b, c, d}, []api.Dot{a, b, c, d}, false},
		{[]api.Dot{a, b, c, d, a}, []api.Dot{a, b, c, d}, false},
		{[]api.Dot{a, c, b, d}, []api.Dot{a, b, c, d}, false},
		{[]api.Dot{of(0, huge), of(1, 0), of(1, above), of(1, huge)}, []api.Dot{of(0, huge), of(1, 0), of(1, above), of(1, huge)}, true},
		{[]api.Dot{of(1, huge), of(1, above), of(1, 0), of(0, huge), of(1, 1)}, []api.Dot{of(0, huge), of(1, 0), of(1, 1), of(1, above), of(1, huge)}, false},
		{[]api.Dot{of(1, above+1), of(1, 1)}, []api.Dot{of(1, 1), of(1, above+1)}, false},
		{[]api.Dot{{}, a, {}}, []api.Dot{{}, a}, false},
	} {
		if got := Sort(x.l); !slices.Equal(got, x.want) {
			t.Errorf("Sort(%v) = %v, want %v", x.l, got, x.want)
		}
		if got := Rising(x.l); got != x.rising {
			t.Errorf("Rising(%v) = %v", x.l, got)
		}
	}
}

// P7.3: all short lists of a few dots that are unlike in either part, some of which may not be.
func TestSortShort(t *testing.T) {
	for _, few := range [][]api.Dot{
		{of(1, 1), of(1, 2), of(2, 1), of(2, 2), of(3, 1)},
		{of(0, 0), of(0, huge), of(1, 0), of(1, above), of(65535, most)},
		{of(1, most), of(1, above), of(1, above+1), of(2, 1), of(1, huge)},
	} {
		for _, l := range listsOf(few, 5) {
			wantList(t, l)
		}
	}
}

// P7.3: longer lists, drawn from few dots and from many.
func TestSortLong(t *testing.T) {
	g := rand.New(rand.NewSource(8))
	for range 600 {
		from := append(edges()[:1+g.Intn(30)], anyDots(g, 1+g.Intn(30))...)
		l := make([]api.Dot, g.Intn(80))
		for i := range l {
			l[i] = from[g.Intn(len(from))]
		}
		wantList(t, l)
		sorted := sortSlowly(l)
		slices.Reverse(sorted)
		wantList(t, sorted)
	}
}

// P7.3: Has of each edge, in lists in any order that have it and that have it not.
func TestHas(t *testing.T) {
	all := edges()
	g := rand.New(rand.NewSource(9))
	g.Shuffle(len(all), func(i, j int) { all[i], all[j] = all[j], all[i] })
	for i, d := range all {
		without := slices.Delete(slices.Clone(all), i, i+1)
		for _, c := range []struct {
			l    []api.Dot
			want bool
		}{
			{nil, false},
			{[]api.Dot{}, false},
			{make([]api.Dot, 0, 4), false},
			{[]api.Dot{d}, true},
			{[]api.Dot{d, d, d}, true},
			{all, true},
			{without, false},
			{Sort(all), true},
			{Sort(without), false},
			{append([]api.Dot{d}, without...), true},
			{append(slices.Clone(without), d), true},
			{[]api.Dot{of(d.Dev^1, d.N)}, false},
			{[]api.Dot{of(d.Dev^1<<15, d.N)}, false},
			{[]api.Dot{of(d.Dev, d.N^1)}, false},
			{[]api.Dot{of(d.Dev, d.N^1<<47)}, false},
			{[]api.Dot{of(d.Dev, d.N^1<<48)}, false},
			{[]api.Dot{of(d.Dev, d.N^1<<63)}, false},
			{[]api.Dot{of(d.Dev^1, d.N), of(d.Dev, d.N^1)}, false},
		} {
			if got := Has(c.l, d); got != c.want {
				t.Errorf("Has(%v, %v) = %v", c.l, d, got)
			}
		}
	}
}

// P7.3: Has of all dots of a row in each of its short lists.
func TestHasShort(t *testing.T) {
	few := []api.Dot{of(0, 0), of(1, 1), of(1, 2), of(2, 1), of(2, above+1)}
	for _, l := range listsOf(few, 4) {
		for _, d := range few {
			want := false
			for _, other := range l {
				want = want || other.Dev == d.Dev && other.N == d.N
			}
			if got := Has(l, d); got != want {
				t.Errorf("Has(%v, %v) = %v", l, d, got)
			}
		}
	}
}

// sameSlowly holds two lists against each other part by part.
func sameSlowly(a, b []api.Dot) bool {
	for i := range max(len(a), len(b)) {
		if i >= len(a) || i >= len(b) || a[i].Dev != b[i].Dev || a[i].N != b[i].N {
			return false
		}
	}
	return true
}

// P7.3: Same of all pairs of short lists, also those that have the same dots in another order or more than once.
func TestSame(t *testing.T) {
	lists := listsOf([]api.Dot{of(0, 0), of(1, 1), of(1, 2), of(2, 1), of(1, above+1)}, 3)
	lists = append(lists, []api.Dot{}, make([]api.Dot, 0, 3), make([]api.Dot, 2, 9))
	for _, a := range lists {
		for _, b := range lists {
			if got := Same(a, b); got != sameSlowly(a, b) {
				t.Errorf("Same(%v, %v) = %v", a, b, got)
			}
		}
	}
}

// P7.3: Same of long lists that are unlike in one part of one dot alone, or in their length alone.
func TestSameLong(t *testing.T) {
	all := edges()
	if !Same(all, slices.Clone(all)) {
		t.Error("Same of a list and its like = false")
	}
	for i := range all {
		for _, turn := range []api.Dot{of(1, 0), of(1<<15, 0), of(0, 1), of(0, 1<<47), of(0, 1<<48), of(0, 1<<63)} {
			other := slices.Clone(all)
			other[i].Dev ^= turn.Dev
			other[i].N ^= turn.N
			if Same(all, other) || Same(other, all) {
				t.Errorf("Same = true, though %v is %v", all[i], other[i])
			}
		}
		if short := all[:i]; Same(all, short) || Same(short, all) || !Same(short, slices.Clone(short)) {
			t.Errorf("Same of a list and its first %d dots", i)
		}
	}
}

// P7.3, rule 4: what comes in is not changed, the room behind it neither, and what is written into lists that went in or came out turns nothing.
func TestSortShares(t *testing.T) {
	for _, l := range listsOf([]api.Dot{of(1, 1), of(1, 2), of(2, 1), of(0, above)}, 4) {
		room := append(slices.Clone(l), of(7, 7), of(6, 6))
		kept := slices.Clone(room)
		want := sortSlowly(l)
		first, second := Sort(room[:len(l)]), Sort(room[:len(l)])
		scrawl(first)
		if !slices.Equal(room, kept) {
			t.Fatalf("Sort changed %v into %v", kept, room)
		}
		if !slices.Equal(second, want) {
			t.Fatalf("what is written into an answer of Sort(%v) turned another one", l)
		}
		scrawl(room)
		if !slices.Equal(second, want) {
			t.Fatalf("what is written into %v turned the answer into %v", l, second)
		}
	}
}

// scrawl writes into all of a list, the room behind it, too.
func scrawl(l []api.Dot) {
	l = l[:cap(l)]
	for i := range l {
		l[i] = of(99, 99)
	}
}

// P7.3, rule 4: those that only look at lists change nothing.
func TestLooksKeep(t *testing.T) {
	for _, l := range listsOf([]api.Dot{of(1, 1), of(1, 2), of(2, 1), of(0, above)}, 4) {
		room := append(slices.Clone(l), of(7, 7), of(6, 6))
		kept := slices.Clone(room)
		x := room[:len(l)]
		Rising(x)
		Has(x, of(2, 1))
		Has(x, of(9, 9))
		Same(x, room)
		Same(x, slices.Clone(x))
		if !slices.Equal(room, kept) {
			t.Fatalf("%v was changed into %v", kept, room)
		}
	}
}

// P7.3: very many dots, in any order, each twice.
func TestVeryMany(t *testing.T) {
	const many = 200000
	want := make([]api.Dot, many)
	for i := range want {
		want[i] = of(uint16(i/1000+1), uint64(i%1000+1))
	}
	l := slices.Concat(want, want)
	g := rand.New(rand.NewSource(10))
	g.Shuffle(len(l), func(i, j int) { l[i], l[j] = l[j], l[i] })
	got := Sort(l)
	if !Same(got, want) || !slices.Equal(got, want) || !Rising(got) || Rising(l) {
		t.Fatalf("Sort of %d dots tells %d", len(l), len(got))
	}
	if !Has(l, of(1, 1)) || !Has(l, of(200, 1000)) || Has(l, of(200, 1001)) || Has(l, of(201, 1)) {
		t.Error("Has of very many")
	}
	got[many-1] = got[many-2]
	if Rising(got) || Same(got, want) {
		t.Error("Rising or Same of very many does not look at the last dot")
	}
}
