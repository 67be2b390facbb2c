package name_test

import (
	"regexp"
	"slices"
	"strconv"
	"strings"
	"testing"

	"syntagma/api"
	"syntagma/name"
)

// chapterKeywords is the chapter's list, in its order.
const chapterKeywords = "fun let rec in if then else case of end true false check ask top bot int bool string mu"

// How the chapter says that a word, or a tag, begins a text; how long one is, and which are none, is told by the functions below.
var (
	aWord  = regexp.MustCompile(`^[a-z_][a-zA-Z0-9_]*`)
	aTag   = regexp.MustCompile(`^[A-Z][a-zA-Z0-9_]*`)
	either = regexp.MustCompile(`^[a-zA-Z_][a-zA-Z0-9_]*`)
)

func wantedKeyword(s string) bool {
	return slices.Contains(strings.Fields(chapterKeywords), s)
}

func wantedName(s string) bool {
	return s != "" && aWord.FindString(s) == s && len(s) <= 20 && !wantedKeyword(s)
}

func wantedTag(s string) bool {
	return s != "" && aTag.FindString(s) == s && len(s) <= 20
}

// wantedFresh is what the chapter asks of Fresh(s, used ..), without a map.
func wantedFresh(s string, used []string) string {
	if !slices.Contains(used, s) {
		return s
	}
	begin := s
	if len(s) > 16 {
		begin = s[:16]
	}
	for n := 1; ; n++ {
		if f := begin + strconv.Itoa(n); !slices.Contains(used, f) {
			return f
		}
	}
}

// short bounds how much of a text is told where a test fails.
func short(s string) string {
	if len(s) > 60 {
		return strconv.Quote(s[:60]) + ".. of " + strconv.Itoa(len(s)) + " bytes"
	}
	return strconv.Quote(s)
}

func wantWord(t *testing.T, s string, want int) {
	t.Helper()
	if n := name.Word(s); n != want {
		t.Errorf("Word(%s): %d, want %d", short(s), n, want)
	}
}

func wantTruth(t *testing.T, what, s string, got, want bool) {
	t.Helper()
	if got != want {
		t.Errorf("%s(%s): %t, want %t", what, short(s), got, want)
	}
}

// wantKind holds Keyword, Name and Tag of s against what is told of it.
func wantKind(t *testing.T, s string, isKeyword, isName, isTag bool) {
	t.Helper()
	wantTruth(t, "Keyword", s, name.Keyword(s), isKeyword)
	wantTruth(t, "Name", s, name.Name(s), isName)
	wantTruth(t, "Tag", s, name.Tag(s), isTag)
}

// wantAll holds Word, Keyword, Name and Tag of s against the chapter's words, and against 3.3.
func wantAll(t *testing.T, s string) {
	t.Helper()
	wantWord(t, s, len(either.FindString(s)))
	wantKind(t, s, wantedKeyword(s), wantedName(s), wantedTag(s))
	kinds := 0
	for _, is := range []bool{name.Keyword(s), name.Name(s), name.Tag(s)} {
		if is {
			kinds++
		}
	}
	if kinds > 1 {
		t.Errorf("%s is of %d kinds, want one at most", short(s), kinds)
	}
}

func wantFresh(t *testing.T, s string, used []string, want string) {
	t.Helper()
	f := name.Fresh(s, used...)
	if f != want {
		t.Errorf("Fresh(%s) of %d that are used: %s, want %s", short(s), len(used), short(f), short(want))
	}
	if slices.Contains(used, f) {
		t.Errorf("Fresh(%s) of %d that are used: %s, which is used", short(s), len(used), short(f))
	}
}

func wantTwice(t *testing.T, l []string, want bool) {
	t.Helper()
	if b := name.Twice(l...); b != want {
		t.Errorf("Twice of %d texts: %t, want %t", len(l), b, want)
	}
}

// numbered holds as many texts as are asked for, which begin with s and end with the numbers from one on.
func numbered(s string, from, many int) []string {
	var l []string
	for n := range many {
		l = append(l, s+strconv.Itoa(from+n))
	}
	return l
}

// 3.1, words as the chapter has them, with what does not go on behind.
func TestWord(t *testing.T) {
	for _, w := range []string{
		"a", "z", "_", "A", "Z", "x1", "x_", "xY", "__", "_1", "_A", "A1", "A_", "Ab", "aBc9_z", "fun", "mu", "camelCase", "Tag0",
		strings.Repeat("a", api.MaxName), strings.Repeat("a", api.MaxName+1), strings.Repeat("Z", api.MaxName+1), strings.Repeat("_9", 50000),
	} {
		for _, behind := range []string{"", " ", " a", "-a", "'", ".x", "->", "\n", "\x00", "\xff", "\u00e9a", "\"a\"", "(a", "@a", "[a", "`a", "{a", "/1", ":1"} {
			wantWord(t, w+behind, len(w))
		}
	}
}

// 3.1, texts that begin neither a word nor a tag.
func TestWordOfNone(t *testing.T) {
	for _, s := range []string{"", " ", " a", "1", "1a", "0A", "9_", "'a", "\"a\"", "-a", "~1", "\na", "\x00a", "\xffa", "\u00e9", "@a", "[a", "`a", "{a", "/a", ":a", "#a"} {
		wantWord(t, s, 0)
		wantKind(t, s, false, false, false)
	}
}

// 3.1, each byte as the first one, and behind a word, a tag, a _, a digit, a keyword.
func TestEachByte(t *testing.T) {
	for c := range 256 {
		b := string([]byte{byte(c)})
		for _, s := range []string{b, b + b, b + "a", b + "Z9_", b + "1", "a" + b, "A" + b, "_" + b, "a1" + b, "aZ_9" + b + "b", "A" + b + "b", "fun" + b, "mu" + b, "top" + b + "a", b + "in", strings.Repeat("a", 19) + b, strings.Repeat("A", 19) + b, strings.Repeat("a", 20) + b} {
			wantAll(t, s)
		}
	}
	for a := range 256 {
		for b := range 256 {
			wantAll(t, string([]byte{byte(a), byte(b)}))
		}
	}
}

// 3.1, all texts of a few bytes that make and break words, tags and keywords.
func TestShortTexts(t *testing.T) {
	texts := []string{""}
	for from, long := 0, 0; long <= 6; long++ {
		to := len(texts)
		for _, s := range texts[from:to] {
			wantAll(t, s)
			if long == 6 {
				continue
			}
			for _, b := range []string{"i", "n", "f", "t", "_", "T", "0", "'"} {
				texts = append(texts, s+b)
			}
		}
		from = to
	}
}

// 3.1, each keyword, and what stands next to it.
func TestKeyword(t *testing.T) {
	for _, k := range strings.Fields(chapterKeywords) {
		wantKind(t, k, true, false, false)
		wantWord(t, k, len(k))
		for _, behind := range []string{"a", "A", "0", "_", k} {
			wantKind(t, k+behind, false, true, false)
			wantWord(t, k+behind, len(k)+len(behind))
		}
		for _, behind := range []string{" ", "\n", "-", "'", "\x00", "\xff", "\u00e9", " " + k} {
			wantKind(t, k+behind, false, false, false)
			wantKind(t, behind+k, false, false, false)
			wantWord(t, k+behind, len(k))
		}
		wantKind(t, "_"+k, false, true, false)
		wantKind(t, "A"+k, false, false, true)
		wantKind(t, "1"+k, false, false, false)
		wantKind(t, strings.ToUpper(k), false, false, true)
		wantKind(t, strings.ToUpper(k[:1])+k[1:], false, false, true)
		for i := range len(k) {
			wantAll(t, k[:i])
			wantAll(t, k[i:])
			wantAll(t, k[:i]+k[i+1:])
			for c := range 256 {
				wantAll(t, k[:i]+string([]byte{byte(c)})+k[i+1:])
			}
		}
	}
}

// 3.1, words that could be taken for keywords: those of the language's other parts, and of Go.
func TestNotKeywords(t *testing.T) {
	for _, s := range []string{"not", "and", "or", "while", "func", "lets", "ints", "str", "num", "any", "unit", "var", "type", "match", "with", "begin", "do", "letrec", "fu", "unt", "yes", "no", "nil", "_"} {
		wantKind(t, s, false, true, false)
	}
	wantKind(t, "", false, false, false)
	wantKind(t, chapterKeywords, false, false, false)
}

// 3.1, names and tags as the chapter has them, and what is neither.
func TestNamesAndTags(t *testing.T) {
	for _, s := range []string{"a", "z", "_", "__", "_1", "_A", "x0", "aZ", "aB_9", "f_", "nil"} {
		wantKind(t, s, false, true, false)
	}
	for _, s := range []string{"A", "Z", "A1", "A_", "Aa", "ZZ", "None", "Fun", "FUN", "Let", "T_0"} {
		wantKind(t, s, false, false, true)
	}
	for _, s := range []string{"", " ", "0", "1a", "a ", " a", "A ", " A", "a b", "a-b", "A.B", "a'", "'a", "a\n", "\u00e9", "a\u00e9", "A\u00e9", "a\x00", "A\xff", "a\"", "~a"} {
		wantKind(t, s, false, false, false)
	}
}

// 3.1, words and tags of MaxName bytes, and of one more.
func TestMaxName(t *testing.T) {
	for _, pair := range []string{"aa", "__", "aZ", "a9", "_0"} {
		most := (pair[:1] + strings.Repeat(pair[1:], api.MaxName))[:20]
		wantKind(t, most[:19], false, true, false)
		wantKind(t, most, false, true, false)
		for _, behind := range []string{"a", "A", "0", "_", strings.Repeat("a", 5000)} {
			wantKind(t, most+behind, false, false, false)
			wantWord(t, most+behind, len(most)+len(behind))
		}
		tag := "T" + most[1:]
		wantKind(t, tag[:19], false, false, true)
		wantKind(t, tag, false, false, true)
		for _, behind := range []string{"a", "A", "0", "_", strings.Repeat("A", 5000)} {
			wantKind(t, tag+behind, false, false, false)
			wantWord(t, tag+behind, len(tag)+len(behind))
		}
	}
}

// 3.1, all keywords in their order; a list that was handed out is the caller's own.
func TestKeywords(t *testing.T) {
	first, second := name.Keywords(), name.Keywords()
	if got := strings.Join(first, " "); got != chapterKeywords {
		t.Errorf("Keywords(): %s, want %s", got, chapterKeywords)
	}
	for i := range first {
		first[i] = "x"
	}
	_ = append(first[:0], "y")
	if got := strings.Join(second, " "); got != chapterKeywords {
		t.Errorf("Keywords() after another answer was changed: %s, want %s", got, chapterKeywords)
	}
	if got := strings.Join(name.Keywords(), " "); got != chapterKeywords {
		t.Errorf("Keywords() after an answer was changed: %s, want %s", got, chapterKeywords)
	}
	wantKind(t, "x", false, true, false)
	wantKind(t, "fun", true, false, false)
}

// 3.2, a text that is none of what is used stays as it is, however long, and whatever it is.
func TestFreshOfUnused(t *testing.T) {
	long := strings.Repeat("ab", 5000)
	for _, s := range []string{"x", "x1", "", "fun", "A", " ", "\xff", "0", strings.Repeat("a", 16), strings.Repeat("a", 17), strings.Repeat("a", 21), long} {
		wantFresh(t, s, nil, s)
		wantFresh(t, s, []string{}, s)
		wantFresh(t, s, []string{s + "1", s + "a", "b", s + s + "c"}, s)
	}
	wantFresh(t, "x", []string{"X", "x ", " x", "", "x1", "xx"}, "x")
	wantFresh(t, long, []string{long[:16], long[:16] + "1", long[1:], long + "a"}, long)
}

// 3.2, a text that is used has the least number that makes it none.
func TestFreshOfUsed(t *testing.T) {
	for _, c := range []struct {
		s    string
		used []string
		want string
	}{
		{"x", []string{"x", "x1"}, "x2"},
		{"x", []string{"x"}, "x1"},
		{"x", []string{"x", "x", "x"}, "x1"},
		{"x", []string{"y", "x"}, "x1"},
		{"x", []string{"x0", "x", "x2"}, "x1"},
		{"x", []string{"x3", "x2", "x1", "x"}, "x4"},
		{"x", []string{"x1", "x2", "x4", "x"}, "x3"},
		{"x", []string{"x", "x01", "x10", "x11"}, "x1"},
		{"x", []string{"x", "x1 ", " x1", "X1", "x-1"}, "x1"},
		{"x1", []string{"x1"}, "x11"},
		{"x1", []string{"x1", "x", "x2", "x11"}, "x12"},
		{"", []string{""}, "1"},
		{"", []string{"", "1", "3"}, "2"},
		{"fun", []string{"fun"}, "fun1"},
		{"A", []string{"A", "A1"}, "A2"},
		{"\xff ", []string{"\xff "}, "\xff 1"},
		{"1", []string{"1", "11"}, "12"},
	} {
		wantFresh(t, c.s, c.used, c.want)
	}
}

// 3.2, of a text that is used its first 16 bytes are kept.
func TestFreshOfLong(t *testing.T) {
	letters := "abcdefghijklmnopqrstuvwxyz"
	for long := range len(letters) + 1 {
		s := letters[:long]
		begin := letters[:min(long, 16)]
		wantFresh(t, s, []string{s}, begin+"1")
		wantFresh(t, s, []string{s, begin + "1", begin + "3"}, begin+"2")
		wantFresh(t, s, append(numbered(begin, 1, 12), s), begin+"13")
		wantFresh(t, s, append(numbered(s, 100, 12), s), begin+"1")
	}
	// What is kept, with a number, may be the text itself.
	wantFresh(t, "abcdefghijklmnop1", []string{"abcdefghijklmnop1"}, "abcdefghijklmnop2")
	wantFresh(t, "abcdefghijklmnop2", []string{"abcdefghijklmnop2"}, "abcdefghijklmnop1")
	wantFresh(t, "abcdefghijklmnop2", []string{"abcdefghijklmnop1", "abcdefghijklmnop2"}, "abcdefghijklmnop3")
	// What is kept alone is none of what is used, and still has a number.
	wantFresh(t, "abcdefghijklmnopq", []string{"abcdefghijklmnopq"}, "abcdefghijklmnop1")
	// It is bytes that are kept, not letters.
	wide := strings.Repeat("\u20ac", 6)
	wantFresh(t, wide, []string{wide}, wide[:16]+"1")
	wantFresh(t, strings.Repeat("a", 100000), []string{strings.Repeat("a", 100000)}, strings.Repeat("a", 16)+"1")
}

// 3.2, of numbers of more digits than one.
func TestFreshOfMany(t *testing.T) {
	for _, many := range []int{8, 9, 10, 98, 99, 100, 101, 999, 1000, 20000} {
		used := append(numbered("x", 1, many), "x")
		wantFresh(t, "x", used, "x"+strconv.Itoa(many+1))
		slices.Reverse(used)
		wantFresh(t, "x", used, "x"+strconv.Itoa(many+1))
		wantFresh(t, "x", slices.DeleteFunc(slices.Clone(used), func(s string) bool { return s == "x7" }), "x7")
		wantFresh(t, "y", used, "y")
	}
}

// 3.2 and 3.3, of all that a few texts can make; what is used stays as it was.
func TestFreshOfAllSets(t *testing.T) {
	texts := []string{"", "x", "x1", "x2", "x11", "x12", "1", "2", "abcdefghijklmnop1", "abcdefghijklmnopq"}
	for set := range 1 << len(texts) {
		var used []string
		for i, s := range texts {
			if set&(1<<i) != 0 {
				used = append(used, s)
			}
		}
		before := slices.Clone(used)
		for _, s := range texts {
			wantFresh(t, s, used, wantedFresh(s, used))
		}
		if !slices.Equal(used, before) {
			t.Fatalf("Fresh changed what is used: %q, was %q", used, before)
		}
	}
}

// 3.2, of none, of one, of two, of more.
func TestTwice(t *testing.T) {
	wantTwice(t, nil, false)
	for _, s := range []string{"", "x", "fun", "A", "\xff", strings.Repeat("a", 5000)} {
		wantTwice(t, []string{s}, false)
		wantTwice(t, []string{s, s}, true)
		wantTwice(t, []string{s, s + "a"}, false)
		wantTwice(t, []string{s + " ", s}, false)
		wantTwice(t, []string{"b", s, s}, true)
		wantTwice(t, []string{s, "b", s}, true)
		wantTwice(t, []string{s, s, "b"}, true)
		wantTwice(t, []string{s, s, s}, true)
		wantTwice(t, []string{s, "b", "c"}, false)
	}
	wantTwice(t, []string{"x", "X"}, false)
	wantTwice(t, []string{"a", "b", "ab", "ba", "aa"}, false)
	wantTwice(t, []string{"a", "b", "c", "b"}, true)
	wantTwice(t, name.Keywords(), false)
	wantTwice(t, append(name.Keywords(), "mu"), true)
}

// 3.2, two that are the same far apart, among many that are not; the list stays as it was.
func TestTwiceOfMany(t *testing.T) {
	l := numbered("x", 0, 20000)
	wantTwice(t, l, false)
	for _, c := range []struct{ a, b int }{{0, 19999}, {1, 19998}, {0, 1}, {19998, 19999}, {777, 12345}} {
		same := slices.Clone(l)
		same[c.b] = same[c.a]
		before := slices.Clone(same)
		wantTwice(t, same, true)
		if !slices.Equal(same, before) {
			t.Errorf("Twice changed its list")
		}
	}
}

// 3.3, what is made fresh, again and again, of names and keywords that are used is a name each time, and none of what is used.
func TestFreshNames(t *testing.T) {
	used := name.Keywords()
	for range 200 {
		for _, s := range []string{"x", "in", "mu", "a_rather_long_name_x", "true"} {
			f := name.Fresh(s, used...)
			if slices.Contains(used, f) {
				t.Fatalf("Fresh(%s): %s, which is used", s, f)
			}
			wantKind(t, f, false, true, false)
			used = append(used, f)
		}
	}
	wantTwice(t, used, false)
}
