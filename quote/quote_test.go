package quote_test

import (
	"regexp"
	"strconv"
	"strings"
	"testing"

	"syntagma/api"
	"syntagma/quote"
)

// aWriting is how the chapter says that a writing begins a text; its backslashes are read by strconv, which knows all of them.
var aWriting = regexp.MustCompile(`^"(?:[ !#-\[\]-~]|\\["\\nt]|\\x[0-9a-f][0-9a-f])*"`)

// wanted is what the chapter asks of Take(s).
func wanted(s string) (string, int, api.Errno) {
	w := aWriting.FindString(s)
	if w == "" {
		return "", 0, api.ErrText
	}
	text, err := strconv.Unquote(w)
	if err != nil {
		panic(err)
	}
	if len(text) > api.MaxStr {
		return "", 0, api.ErrLong
	}
	return text, len(w), api.OK
}

// wantedByte is how the chapter says that a byte is written.
func wantedByte(c int) string {
	switch {
	case c == '"':
		return `\"`
	case c == '\\':
		return `\\`
	case c == 10:
		return `\n`
	case c == 9:
		return `\t`
	case 32 <= c && c <= 126:
		return string([]byte{byte(c)})
	case c < 16:
		return `\x0` + strconv.FormatInt(int64(c), 16)
	}
	return `\x` + strconv.FormatInt(int64(c), 16)
}

// short bounds how much of a text is told where a test fails.
func short(s string) string {
	if len(s) > 60 {
		return strconv.Quote(s[:60]) + ".. of " + strconv.Itoa(len(s)) + " bytes"
	}
	return strconv.Quote(s)
}

func wantTake(t *testing.T, s, text string, long int, e api.Errno) {
	t.Helper()
	if x, n, f := quote.Take(s); x != text || n != long || f != e {
		t.Errorf("Take(%s): %s, %d, %d, want %s, %d, %d", short(s), short(x), n, int(f), short(text), long, int(e))
	}
}

func wantParse(t *testing.T, s, text string, e api.Errno) {
	t.Helper()
	if x, f := quote.Parse(s); x != text || f != e {
		t.Errorf("Parse(%s): %s, %d, want %s, %d", short(s), short(x), int(f), short(text), int(e))
	}
}

// wantBoth holds Take and Parse against what the chapter asks.
func wantBoth(t *testing.T, s string) {
	t.Helper()
	text, long, e := wanted(s)
	wantTake(t, s, text, long, e)
	if e == api.OK && long < len(s) {
		text, e = "", api.ErrText
	}
	wantParse(t, s, text, e)
}

func wantPrint(t *testing.T, s, want string) {
	t.Helper()
	if w := quote.Print(s); w != want {
		t.Errorf("Print(%s): %s, want %s", short(s), short(w), short(want))
	}
}

// 2.1, texts as the chapter's words have them.
func TestPrint(t *testing.T) {
	for _, c := range []struct{ s, w string }{
		{"", `""`},
		{"a\"\n", `"a\"\n"`},
		{"abc XYZ 019", `"abc XYZ 019"`},
		{` !#$%&'()*+,-./:;<=>?@[]^_{|}~` + "`", `" !#$%&'()*+,-./:;<=>?@[]^_{|}~` + "`" + `"`},
		{`"`, `"\""`},
		{`""`, `"\"\""`},
		{`\`, `"\\"`},
		{`\n`, `"\\n"`},
		{`\x41`, `"\\x41"`},
		{"\t\n", `"\t\n"`},
		{"\r\n", `"\x0d\n"`},
		{"\x00\a\b\v\f", `"\x00\x07\x08\x0b\x0c"`},
		{"\x1f\x20\x7e\x7f\x80", `"\x1f ~\x7f\x80"`},
		{"\xab\xcd\xef\xff", `"\xab\xcd\xef\xff"`},
		{"\u00e9\u20ac\U0001f600", `"\xc3\xa9\xe2\x82\xac\xf0\x9f\x98\x80"`},
		{"\x0aa", `"\na"`},
		{"\x00a", `"\x00a"`},
	} {
		wantPrint(t, c.s, c.w)
	}
}

// 2.1, each byte, alone and among others.
func TestPrintEachByte(t *testing.T) {
	all, written := "", ""
	for c := range 256 {
		s, w := string([]byte{byte(c)}), wantedByte(c)
		wantPrint(t, s, `"`+w+`"`)
		wantPrint(t, "a"+s+s+"f", `"a`+w+w+`f"`)
		all, written = all+s, written+w
	}
	wantPrint(t, all, `"`+written+`"`)
}

// 2.1 has no bound.
func TestPrintLong(t *testing.T) {
	for _, n := range []int{api.MaxStr, api.MaxStr + 1, api.MaxCut, api.MaxCut + 1, 100000} {
		wantPrint(t, strings.Repeat("a", n), `"`+strings.Repeat("a", n)+`"`)
		wantPrint(t, strings.Repeat("\xff", n), `"`+strings.Repeat(`\xff`, n)+`"`)
	}
}

// 2.2, writings, with nothing behind and with something.
func TestTake(t *testing.T) {
	for _, c := range []struct{ w, text string }{
		{`""`, ""},
		{`"a"`, "a"},
		{`"a\"\n"`, "a\"\n"},
		{`"\\"`, `\`},
		{`"\\\""`, `\"`},
		{`"\\n"`, `\n`},
		{`"\t"`, "\t"},
		{`"\n"`, "\n"},
		{`"\x00"`, "\x00"},
		{`"\xff"`, "\xff"},
		{`"\x09\x0a"`, "\t\n"},
		{`"\x41\x7a\x20\x22\x5c"`, `Az "\`},
		{`"\x411"`, "A1"},
		{`"\x4a\x4f"`, "JO"},
		{`"'/\"'"`, `'/"'`},
		{`" ~!#[]"`, " ~!#[]"},
	} {
		wantParse(t, c.w, c.text, api.OK)
		for _, behind := range []string{"", "a", `"`, `""`, `\`, " ", "\n", "\x00", "\xff", c.w, strings.Repeat("b", 5000)} {
			wantTake(t, c.w+behind, c.text, len(c.w), api.OK)
			if behind != "" {
				wantParse(t, c.w+behind, "", api.ErrText)
			}
		}
	}
}

// 2.2, texts that begin with no writing.
func TestTakeRefuses(t *testing.T) {
	for _, s := range []string{
		"", "a", `a"b"`, ` ""`, `'a'`, "`a`", `\"a"`, `\x22a"`, "\u201ca\u201d", "\x00", "\xff",
		// It ends too early.
		`"`, `"a`, `"a\`, `"a\"`, `"\\\"`, `"\\\`, `"\n`, `"\x`, `"\x4`, `"\x41`, `"\x"`, `"\x4"`, `"\x4"a`, `"\`, `"\x4\"`,
		// Bytes that must be written, not stand.
		"\"\n\"", "\"\t\"", "\"\r\"", "\"\x00\"", "\"\x1f\"", "\"\x7f\"", "\"\x80\"", "\"\xff\"", "\"\u00e9\"", "\"a\nb\"", "\"\\\n\"",
		// Writings of one byte that there are not.
		`"\a"`, `"\r"`, `"\0"`, `"\012"`, `"\u0041"`, `"\'"`, `"\N"`, `"\T"`, `"\X41"`, `"\ "`, `"\/"`, `"\x"`,
		// Digits of base 16 that may not be.
		`"\x4A"`, `"\xA4"`, `"\xFF"`, `"\xg0"`, `"\x0g"`, `"\x 1"`, `"\x1 "`, `"\x-1"`, `"\x+1"`, `"\x/0"`, `"\x0:"`, "\"\\x`0\"", `"\x0@"`, "\"\\x0\x00\"", `"\x~1"`,
	} {
		wantTake(t, s, "", 0, api.ErrText)
		wantParse(t, s, "", api.ErrText)
	}
}

// 2.2, each byte: as itself, behind a backslash, and as either digit.
func TestTakeEachByte(t *testing.T) {
	for c := range 256 {
		b := string([]byte{byte(c)})
		for _, s := range []string{b, b + `a"`, `"` + b + `"`, `"` + b, `"a` + b + `b"c`, `"\` + b + `"`, `"\` + b + `41"`, `"\x` + b + `1"`, `"\x1` + b + `"`} {
			wantBoth(t, s)
		}
		wantTake(t, `"`+wantedByte(c)+`"`, b, 2+len(wantedByte(c)), api.OK)
	}
	for a := range 256 {
		for b := range 256 {
			wantBoth(t, `"\x`+string([]byte{byte(a), byte(b)})+`"`)
		}
	}
}

// 2.2, all texts of a few bytes that make and break a writing.
func TestTakeShortTexts(t *testing.T) {
	texts := []string{""}
	for from, long := 0, 0; long <= 6; long++ {
		to := len(texts)
		for _, s := range texts[from:to] {
			wantBoth(t, s)
			wantBoth(t, `"`+s)
			if long == 6 {
				continue
			}
			for _, b := range []string{`"`, `\`, "x", "n", "a", "4", "F", "\n"} {
				texts = append(texts, s+b)
			}
		}
		from = to
	}
}

// 2.2, texts of MaxStr bytes and of one more: it is the text's bytes that are told, not those of the writing.
func TestTakeLong(t *testing.T) {
	for _, w := range []string{"a", " ", `\"`, `\\`, `\n`, `\t`, `\x00`, `\xff`, `\x41`} {
		most := `"` + strings.Repeat(w, api.MaxStr) + `"`
		one, _, _ := wanted(`"` + w + `"`)
		text := strings.Repeat(one, api.MaxStr)
		for _, behind := range []string{"", "a", `"`, most} {
			wantTake(t, most+behind, text, len(most), api.OK)
		}
		wantParse(t, most, text, api.OK)
		wantParse(t, most+"a", "", api.ErrText)
		for _, n := range []int{api.MaxStr + 1, api.MaxStr + 2, 2 * api.MaxStr, api.MaxCut + 1, 100000} {
			s := `"` + strings.Repeat(w, n) + `"`
			wantTake(t, s, "", 0, api.ErrLong)
			wantTake(t, s+"a", "", 0, api.ErrLong)
			wantParse(t, s, "", api.ErrLong)
		}
	}
}

// 2.2, ErrText is ahead of ErrLong in Take; what stands behind is told after both in Parse.
func TestWhichErrorIsAhead(t *testing.T) {
	long := `"` + strings.Repeat("a", api.MaxStr+1)
	for _, s := range []string{long, long + `\`, long + `\"`, long + "\n" + `"`, long + `\q"`, long + `\x4`, long + `\xAA"`, long + "\xff\"", `a` + long + `"`} {
		wantTake(t, s, "", 0, api.ErrText)
		wantParse(t, s, "", api.ErrText)
	}
	for _, behind := range []string{"a", `"`, "\n", long, long + `"`} {
		wantTake(t, long+`"`+behind, "", 0, api.ErrLong)
		wantParse(t, long+`"`+behind, "", api.ErrLong)
	}
}

// 2.3, shorter texts, one of MaxCut bytes, longer ones.
func TestCut(t *testing.T) {
	var mixed []byte
	for i := range 3 * api.MaxCut {
		mixed = append(mixed, byte(i*7+i/256))
	}
	for _, s := range []string{strings.Repeat("a", 3*api.MaxCut), strings.Repeat("\u20ac", api.MaxCut), strings.Repeat("\x00", 3*api.MaxCut), strings.Repeat(`\"`, 2*api.MaxCut), string(mixed)} {
		for _, n := range []int{0, 1, 2, api.MaxStr, api.MaxStr + 1, api.MaxCut - 1, api.MaxCut, api.MaxCut + 1, api.MaxCut + 2, 2 * api.MaxCut, len(s)} {
			want := s[:n]
			if n > 1000 {
				want = s[:1000]
			}
			if c := quote.Cut(s[:n]); c != want {
				t.Errorf("Cut(%s): %s, want %s", short(s[:n]), short(c), short(want))
			}
		}
	}
}

// 2.4, of a text: its writing is read as it, by Parse, and by Take with anything behind.
func wantReadAgain(t *testing.T, s string) {
	t.Helper()
	w := quote.Print(s)
	wantParse(t, w, s, api.OK)
	wantTake(t, w, s, len(w), api.OK)
	wantTake(t, w+`a"\`, s, len(w), api.OK)
}

// 2.4, texts of no byte, of one, and of two.
func TestWrittenIsRead(t *testing.T) {
	wantReadAgain(t, "")
	for a := range 256 {
		wantReadAgain(t, string([]byte{byte(a)}))
		for b := range 256 {
			wantReadAgain(t, string([]byte{byte(a), byte(b)}))
		}
	}
}

// 2.4, texts of up to MaxStr bytes, and of one more, which is written, and refused.
func TestWrittenIsReadLong(t *testing.T) {
	for step := range 256 {
		var s []byte
		for i := range api.MaxStr + 1 {
			s = append(s, byte(i*step+i*i/7+step))
		}
		for _, n := range []int{3, 17, 100, api.MaxStr - 1, api.MaxStr} {
			wantReadAgain(t, string(s[:n]))
		}
		w := quote.Print(string(s))
		wantTake(t, w, "", 0, api.ErrLong)
		wantParse(t, w, "", api.ErrLong)
		// Each beginning of a writing ends too early, however long its text.
		for _, n := range []int{0, 1, 2, len(w) / 2, len(w) - 2, len(w) - 1} {
			wantTake(t, w[:n], "", 0, api.ErrText)
		}
	}
}
