package field

import (
	"math/rand"
	"strings"
	"testing"

	"epitaph/api"
)

const (
	q = "\""
	b = "\\"
)

func wantOf(t *testing.T, s string, f uint8, ok bool) {
	t.Helper()
	if gotF, gotOK := Of(s); gotF != f || gotOK != ok {
		t.Fatalf("Of(%q) = %d, %v, want %d, %v", s, gotF, gotOK, f, ok)
	}
}

func wantUnquote(t *testing.T, s, text, rest string, ok bool) {
	t.Helper()
	if gotText, gotRest, gotOK := Unquote(s); gotText != text || gotRest != rest || gotOK != ok {
		t.Fatalf("Unquote(%q) = %q, %q, %v, want %q, %q, %v", s, gotText, gotRest, gotOK, text, rest, ok)
	}
}

func wantNoUnquote(t *testing.T, s string) {
	t.Helper()
	wantUnquote(t, s, "", "", false)
}

// slowText tells what P11.1 says of a text, by a list of all bytes that may stand there.
func slowText(s string) bool {
	const may = " !\"#$%&'()*+,-./0123456789:;<=>?@ABCDEFGHIJKLMNOPQRSTUVWXYZ[\\]^_`abcdefghijklmnopqrstuvwxyz{|}~"
	n := 0
	for n < len(s) && strings.IndexByte(may, s[n]) >= 0 {
		n++
	}
	return n == len(s) && n < 61
}

// slowQuote puts a text into quotes by two replacements.
func slowQuote(s string) string {
	return q + strings.ReplaceAll(strings.ReplaceAll(s, b, b+b), q, b+q) + q
}

// slowUnquote tries each beginning of a text, and whether it is a quoted one of what it may stand for.
func slowUnquote(s string) (string, string, bool) {
	for n := 2; n <= len(s); n++ {
		if s[n-1] != '"' || s[0] != '"' {
			continue
		}
		in := s[1 : n-1]
		in = strings.ReplaceAll(in, b+b, "\x00")
		in = strings.ReplaceAll(in, b+q, q)
		in = strings.ReplaceAll(in, "\x00", b)
		if slowText(in) && slowQuote(in) == s[:n] {
			return in, s[n:], true
		}
	}
	return "", "", false
}

var tails = []string{
	"", q, b, q + q, b + q, q + b, b + b, "x", " x", "\n", "\x00", "\xff", "\x1f\x7f",
	`"name"`, `""`, `"a\"b" and x`, `\"`, "héllo", strings.Repeat(q, 70), strings.Repeat(b, 71), strings.Repeat("z", 200),
}

// P11.1: a number is a field's from 1 to Fields, and has a name then, and no other number has one.
func TestGoodName(t *testing.T) {
	names := []string{"", "name", "phone", "mail", "town", "note"}
	for f := range 256 {
		good, name := f >= 1 && f <= 5, ""
		if good {
			name = names[f]
		}
		if got := Good(uint8(f)); got != good {
			t.Fatalf("Good(%d) = %v", f, got)
		}
		if got := Name(uint8(f)); got != name {
			t.Fatalf("Name(%d) = %q, want %q", f, got, name)
		}
	}
	if len(names) != api.Fields+1 {
		t.Fatalf("Fields is %d", api.Fields)
	}
}

// P11.1: the fields of api have the names that the chapter tells.
func TestNameOfApi(t *testing.T) {
	for _, c := range []struct {
		f    uint8
		name string
	}{{api.FiName, "name"}, {api.FiPhone, "phone"}, {api.FiMail, "mail"}, {api.FiTown, "town"}, {api.FiNote, "note"}} {
		if got := Name(c.f); got != c.name {
			t.Fatalf("Name(%d) = %q, want %q", c.f, got, c.name)
		}
		wantOf(t, c.name, c.f, true)
	}
}

// P11.1: Of is the field whose name a text is, and no field's beside.
func TestOf(t *testing.T) {
	wantOf(t, "name", 1, true)
	wantOf(t, "phone", 2, true)
	wantOf(t, "mail", 3, true)
	wantOf(t, "town", 4, true)
	wantOf(t, "note", 5, true)
	for _, s := range []string{
		"", " ", "n", "0", "1", "field", "Name", "NAME", "namenames", "fax", "\x00", "\xff", "name\x00", "name ", " name", "\"name\"",
		"namephone", "phonemail", "nоte", strings.Repeat("name", 1000),
	} {
		wantOf(t, s, 0, false)
	}
}

// P11.1: a name that is changed at one place, or stands twice, is no field's.
func TestOfNearNames(t *testing.T) {
	names := []string{"name", "phone", "mail", "town", "note"}
	is := map[string]bool{}
	for _, name := range names {
		is[name] = true
	}
	for _, name := range names {
		for _, other := range names {
			wantOf(t, name+other, 0, false)
		}
		wantOf(t, strings.ToUpper(name), 0, false)
		for i := range name {
			wantOf(t, name[:i]+name[i+1:], 0, false)
			wantOf(t, name[:i], 0, false)
			wantOf(t, name[:i]+strings.ToUpper(name[i:i+1])+name[i+1:], 0, false)
		}
		for c := range 256 {
			by := string([]byte{byte(c)})
			for i := range len(name) + 1 {
				wantOf(t, name[:i]+by+name[i:], 0, false)
			}
			for i := range name {
				if s := name[:i] + by + name[i+1:]; !is[s] {
					wantOf(t, s, 0, false)
				}
			}
		}
	}
}

// P11.1: a value has at most MaxText bytes.
func TestTextLength(t *testing.T) {
	for n := range 200 {
		for _, by := range []string{" ", "a", "~", q, b} {
			if got := Text(strings.Repeat(by, n)); got != (n <= 60) {
				t.Fatalf("Text of %d bytes %q = %v", n, by, got)
			}
		}
	}
	for _, n := range []int{255, 256, 257, 65535, 65536, 65596, 1 << 20} {
		if Text(strings.Repeat("a", n)) {
			t.Fatalf("Text of %d bytes", n)
		}
	}
	if !Text("") || !Text(strings.Repeat("x", api.MaxText)) || Text(strings.Repeat("x", api.MaxText+1)) {
		t.Fatal("Text at MaxText")
	}
}

// P11.1: each byte of a value is from 32 to 126, wherever it stands; length is counted in bytes.
func TestTextBytes(t *testing.T) {
	for c := range 256 {
		by := string([]byte{byte(c)})
		want := c >= 32 && c <= 126
		for _, n := range []int{1, 2, 3, 7, 59, 60} {
			for at := range n {
				s := strings.Repeat("k", at) + by + strings.Repeat("k", n-at-1)
				if got := Text(s); got != want {
					t.Fatalf("Text(%q) = %v, want %v", s, got, want)
				}
			}
		}
	}
	for _, s := range []string{"Zoë", "\u00a0", "a\tb", "a\nb", "a\r", "\x00", "日本", "\x7f", "\x80", "a\xff"} {
		if Text(s) {
			t.Fatalf("Text(%q)", s)
		}
	}
	for _, s := range []string{"Anna Zoe", "+49 (30) 1234-5", "a@b.example", "~!\"#$%&'()*+,-./:;<=>?@[\\]^_`{|}"} {
		if !Text(s) {
			t.Fatalf("Text(%q) is false", s)
		}
	}
}

// P11.2: Quote puts a byte 92 ahead of each byte 34 and 92, whatever else stands there.
func TestQuote(t *testing.T) {
	for _, c := range []struct{ s, want string }{
		{"", `""`},
		{"a", `"a"`},
		{"Anna", `"Anna"`},
		{`"`, `"\""`},
		{`\`, `"\\"`},
		{`"\`, `"\"\\"`},
		{`\"`, `"\\\""`},
		{`""`, `"\"\""`},
		{`\\`, `"\\\\"`},
		{`"a`, `"\"a"`},
		{`a"`, `"a\""`},
		{`\a`, `"\\a"`},
		{`a\`, `"a\\"`},
		{`a"b`, `"a\"b"`},
		{`a\nb`, `"a\\nb"`},
		{"a\nb\t", "\"a\nb\t\""},
		{"\x00\x1f\x7f\x80\xff", "\"\x00\x1f\x7f\x80\xff\""},
		{"é", "\"é\""},
		{"'", `"'"`},
	} {
		if got := Quote(c.s); got != c.want {
			t.Fatalf("Quote(%q) = %q, want %q", c.s, got, c.want)
		}
	}
}

// P11.2: Quote takes each byte, and texts that are longer than a value may be.
func TestQuoteAnyText(t *testing.T) {
	for c := range 256 {
		by := string([]byte{byte(c)})
		for _, s := range []string{by, "x" + by, by + "x", by + by, "x" + by + "y"} {
			if got := Quote(s); got != slowQuote(s) {
				t.Fatalf("Quote(%q) = %q", s, got)
			}
		}
	}
	for _, n := range []int{59, 60, 61, 62, 120, 121, 122, 123, 1000, 100000} {
		for _, part := range []string{"a", q, b, b + q + "x", "\xff"} {
			s := strings.Repeat(part, n)
			if got := Quote(s); got != slowQuote(s) {
				t.Fatalf("Quote of %d times %q", n, part)
			}
		}
	}
}

// P11.2: Unquote tells the text and what stands behind.
func TestUnquote(t *testing.T) {
	for _, c := range []struct{ s, text, rest string }{
		{`""`, "", ""},
		{`"a"`, "a", ""},
		{`"a"x`, "a", "x"},
		{`""""`, "", `""`},
		{`"""`, "", `"`},
		{`""\`, "", `\`},
		{`"a" "b"`, "a", ` "b"`},
		{`"a""b"`, "a", `"b"`},
		{`"\""`, `"`, ""},
		{`"\\"`, `\`, ""},
		{`"\\""`, `\`, `"`},
		{`"\\\""`, `\"`, ""},
		{`"\"\\"`, `"\`, ""},
		{`"\\\\"x"`, `\\`, `x"`},
		{`"\"a\"" and`, `"a"`, " and"},
		{"\" ~\"\x00\xff\n", " ~", "\x00\xff\n"},
	} {
		wantUnquote(t, c.s, c.text, c.rest, true)
	}
}

// P11.2: what begins with no quoted value is refused.
func TestUnquoteNot(t *testing.T) {
	for _, s := range []string{
		"", "a", " ", b, "\x00", "\xff", "'a'", ` "a"`, `a"b"`, `\"a"`, "!\"\"", "#\"\"", "\xa2\"\"",
		q, `"a`, `"abc def`, `"a\"`, `"\"`, `"a\`, `"\`, `"a\\`, `"a\\\"`,
		`"\a"`, `"\n"`, `"\0"`, `"\ "`, `"a\bc"`, "\"\\\x00\"", "\"\\\xff\"", `"\!"`, `"\#"`, `"\["`, `"\]"`, `"a\x" and "b"`,
		"\"\x1f\"", "\"\x7f\"", "\"\x80\"", "\"\xff\"", "\"a\n\"", "\"\nb\"", "\"é\"", "\"\x00\"",
	} {
		wantNoUnquote(t, s)
	}
	for c := range 256 {
		by := string([]byte{byte(c)})
		if by != q {
			wantNoUnquote(t, by)
			wantNoUnquote(t, by+q)
			wantNoUnquote(t, by+q+q)
			wantNoUnquote(t, by+`"a"`)
		}
		if by != q && by != b {
			wantNoUnquote(t, q+b+by+q)
			wantNoUnquote(t, q+"a"+b+by+"c"+q+"x")
		}
	}
}

// P11.2: a value in quotes has at most MaxText bytes, those that Quote put there not counted.
func TestUnquoteLength(t *testing.T) {
	for _, part := range []string{"a", q, b, " ", "~", q + b, b + "x", "ab" + q} {
		full := strings.Repeat(part, 61)
		for _, n := range []int{0, 1, 58, 59, 60, 61} {
			s := full[:n]
			for _, tail := range tails {
				if n <= api.MaxText {
					wantUnquote(t, slowQuote(s)+tail, s, tail, true)
				} else {
					wantNoUnquote(t, slowQuote(s)+tail)
				}
			}
		}
	}
	for _, n := range []int{61, 62, 119, 120, 121, 122, 256, 65536 + 3, 1 << 20} {
		for _, part := range []string{"a", q, b} {
			quoted := slowQuote(strings.Repeat(part, n))
			wantNoUnquote(t, quoted)
			wantNoUnquote(t, quoted[:len(quoted)-1])
		}
	}
}

// P11.2: a value in quotes has no byte below 32 and none above 126, wherever it stands.
func TestUnquoteBytes(t *testing.T) {
	for c := range 256 {
		by := string([]byte{byte(c)})
		for _, s := range []string{by, by + "z", "z" + by, "z" + by + "z", strings.Repeat("z", 59) + by} {
			if c >= 32 && c <= 126 {
				wantUnquote(t, slowQuote(s)+"x", s, "x", true)
			} else {
				wantNoUnquote(t, slowQuote(s)+"x")
			}
		}
	}
}

// P11.2: all short texts of bytes that matter are unquoted as a search through their beginnings tells.
func TestUnquoteAllShort(t *testing.T) {
	letters := "\"\\a\x1f\xff"
	var go1 func(s string, left int)
	go1 = func(s string, left int) {
		text, rest, ok := slowUnquote(s)
		wantUnquote(t, s, text, rest, ok)
		if got := Quote(s); got != slowQuote(s) {
			t.Fatalf("Quote(%q) = %q", s, got)
		}
		for i := 0; left > 0 && i < len(letters); i++ {
			go1(s+letters[i:i+1], left-1)
		}
	}
	go1("", 6)
	go1(q, 6)
}

// P11.2: what is unquoted stood there quoted, and all that is refused begins with no quoted value.
func TestUnquoteStoodThere(t *testing.T) {
	r := rand.New(rand.NewSource(11))
	letters := "\"\"\"\\\\\\ab ~\x1f\x7f"
	told := 0
	for range 60000 {
		by := []byte{}
		few := r.Intn(len(letters)-1) + 1
		for range r.Intn(140) {
			by = append(by, letters[r.Intn(few)])
		}
		s := string(by)
		if r.Intn(3) > 0 {
			s = q + s
		}
		text, rest, ok := Unquote(s)
		wantText, wantRest, wantOK := slowUnquote(s)
		if text != wantText || rest != wantRest || ok != wantOK {
			t.Fatalf("Unquote(%q) = %q, %q, %v", s, text, rest, ok)
		}
		if ok {
			told++
			if Quote(text)+rest != s || !Text(text) {
				t.Fatalf("Unquote(%q) = %q, %q, which did not stand there", s, text, rest)
			}
		}
	}
	if told < 5000 {
		t.Fatalf("only %d were unquoted", told)
	}
}

// P11.3: what is quoted is unquoted, whatever stands behind it.
func TestRoundTrip(t *testing.T) {
	r := rand.New(rand.NewSource(113))
	for i := range 40000 {
		by := make([]byte, i%61)
		for j := range by {
			switch r.Intn(4) {
			case 0:
				by[j] = '"'
			case 1:
				by[j] = '\\'
			default:
				by[j] = byte(32 + r.Intn(95))
			}
		}
		tail := make([]byte, r.Intn(8))
		for j := range tail {
			tail[j] = byte(r.Intn(256))
		}
		s := string(by)
		wantUnquote(t, Quote(s)+string(tail), s, string(tail), true)
		for _, other := range tails {
			wantUnquote(t, Quote(s)+other, s, other, true)
		}
		wantUnquote(t, Quote(s)+Quote(string(tail)), s, Quote(string(tail)), true)
	}
	long := strings.Repeat("\xff", 1<<20)
	wantUnquote(t, Quote("Anna")+long, "Anna", long, true)
}

// The chapter's example.
func TestExample(t *testing.T) {
	quoted := string([]byte{34, 'a', 92, 34, 'b', 34})
	if got := Quote(`a"b`); got != quoted {
		t.Fatalf("Quote = %q", got)
	}
	wantUnquote(t, quoted+"x", `a"b`, "x", true)
}
