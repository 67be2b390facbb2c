package lex_test

import (
	"fmt"
	"math"
	"regexp"
	"slices"
	"strconv"
	"strings"
	"testing"

	"syntagma/api"
	"syntagma/lex"
	"syntagma/name"
	"syntagma/quote"
	"syntagma/wrap"
)

// chapterKeywords is layer 3's list, and chapterSigns this chapter's, in their orders.
const (
	chapterKeywords = "fun let rec in if then else case of end true false check ask top bot int bool string mu"
	chapterSigns    = "-> == ; : , . = < > + - * / ^ ( ) { } [ ] | &"
)

// How the chapter says that a token begins a text; what is passed over ahead of it; which digits Print prints.
var (
	aWord   = regexp.MustCompile(`^[a-zA-Z_][a-zA-Z0-9_]*`)
	aVar    = regexp.MustCompile(`^'[a-z_][a-zA-Z0-9_]*`)
	aNumber = regexp.MustCompile(`^(?:~?[0-9]+|~)`)
	aText   = regexp.MustCompile(`^"(?:[ !#-\[\]-~]|\\["\\nt]|\\x[0-9a-f][0-9a-f])*"`)
	aSign   = regexp.MustCompile(`^(?:->|==|[;:,.=<>+\-*/^(){}\[\]|&])`)
	aGap    = regexp.MustCompile(`^(?:[ \t\n]+|#[^\n]*)*`)
	printed = regexp.MustCompile(`^(?:0|~?[1-9][0-9]*)$`)
)

// wantedFirst is what the chapter asks of the first token of s, which is not empty, and how many bytes it has.
func wantedFirst(s string) (api.Token, int, api.Errno) {
	if w := aWord.FindString(s); w != "" {
		kind := api.TokName
		if slices.Contains(strings.Fields(chapterKeywords), w) {
			kind = api.TokWord
		} else if 'A' <= w[0] && w[0] <= 'Z' {
			kind = api.TokTag
		}
		if len(w) > 20 {
			return api.Token{}, 0, api.ErrLong
		}
		return api.Token{Kind: kind, S: w}, len(w), api.OK
	}
	if w := aVar.FindString(s); w != "" {
		if len(w) > 21 {
			return api.Token{}, 0, api.ErrLong
		}
		return api.Token{Kind: api.TokVar, S: w[1:]}, len(w), api.OK
	}
	if w := aNumber.FindString(s); w != "" {
		n, err := strconv.ParseInt(strings.Replace(w, "~", "-", 1), 10, 64)
		if err != nil || !printed.MatchString(w) {
			return api.Token{}, 0, api.ErrText
		}
		return api.Token{Kind: api.TokNum, N: n}, len(w), api.OK
	}
	if w := aText.FindString(s); w != "" {
		text, err := strconv.Unquote(w)
		if err != nil {
			panic(err)
		}
		if len(text) > 200 {
			return api.Token{}, 0, api.ErrLong
		}
		return api.Token{Kind: api.TokStr, S: text}, len(w), api.OK
	}
	if w := aSign.FindString(s); w != "" {
		return api.Token{Kind: api.TokSign, S: w}, len(w), api.OK
	}
	return api.Token{}, 0, api.ErrText
}

// wantedAll is what the chapter asks of All(s).
func wantedAll(s string) ([]api.Token, int, api.Errno) {
	var l []api.Token
	for at := 0; ; {
		at += len(aGap.FindString(s[at:]))
		if at == len(s) {
			return l, at, api.OK
		}
		t, long, e := wantedFirst(s[at:])
		if e != api.OK {
			return nil, at, e
		}
		t.Pos = at
		l = append(l, t)
		at += long
	}
}

// short bounds how much of a text is told where a test fails.
func short(s string) string {
	if len(s) > 60 {
		return strconv.Quote(s[:60]) + ".. of " + strconv.Itoa(len(s)) + " bytes"
	}
	return strconv.Quote(s)
}

// told bounds how many tokens are told where a test fails.
func told(l []api.Token) string {
	s := "["
	for _, t := range l[:min(len(l), 8)] {
		s += one(t)
	}
	return s + "] of " + strconv.Itoa(len(l))
}

// one is a token as it is told where a test fails.
func one(t api.Token) string {
	return fmt.Sprintf("{%d %s %d at %d}", t.Kind, short(t.S), t.N, t.Pos)
}

func wantAnswer(t *testing.T, s string, l []api.Token, place int, e api.Errno) {
	t.Helper()
	if got, n, f := lex.All(s); !slices.Equal(got, l) || n != place || f != e {
		t.Errorf("All(%s): %s, %d, %d, want %s, %d, %d", short(s), told(got), n, int(f), told(l), place, int(e))
	}
}

// wantTokens is wantAnswer of a text that has no error.
func wantTokens(t *testing.T, s string, l ...api.Token) {
	t.Helper()
	wantAnswer(t, s, l, len(s), api.OK)
}

// wantError is wantAnswer of a text that has one.
func wantError(t *testing.T, s string, place int, e api.Errno) {
	t.Helper()
	wantAnswer(t, s, nil, place, e)
}

// wantAll holds All of s against the chapter's words.
func wantAll(t *testing.T, s string) {
	t.Helper()
	l, place, e := wantedAll(s)
	wantAnswer(t, s, l, place, e)
}

func word(at int, s string) api.Token { return api.Token{Kind: api.TokWord, S: s, Pos: at} }
func nam(at int, s string) api.Token  { return api.Token{Kind: api.TokName, S: s, Pos: at} }
func tag(at int, s string) api.Token  { return api.Token{Kind: api.TokTag, S: s, Pos: at} }
func num(at int, n int64) api.Token   { return api.Token{Kind: api.TokNum, N: n, Pos: at} }
func str(at int, s string) api.Token  { return api.Token{Kind: api.TokStr, S: s, Pos: at} }
func vari(at int, s string) api.Token { return api.Token{Kind: api.TokVar, S: s, Pos: at} }
func sign(at int, s string) api.Token { return api.Token{Kind: api.TokSign, S: s, Pos: at} }

// 4.1, texts of the language, of each kind of token, and of nothing.
func TestAll(t *testing.T) {
	wantTokens(t, "")
	wantTokens(t, "fun x -> 12", word(0, "fun"), nam(4, "x"), sign(6, "->"), num(9, 12))
	wantTokens(t, "let rec f=fun x->f(x-1)in f", word(0, "let"), word(4, "rec"), nam(8, "f"), sign(9, "="), word(10, "fun"), nam(14, "x"), sign(15, "->"), nam(17, "f"), sign(18, "("), nam(19, "x"), sign(20, "-"), num(21, 1), sign(22, ")"), word(23, "in"), nam(26, "f"))
	wantTokens(t, "{a = \"x\\n\", b = ~7}.a", sign(0, "{"), nam(1, "a"), sign(3, "="), str(5, "x\n"), sign(10, ","), nam(12, "b"), sign(14, "="), num(16, -7), sign(18, "}"), sign(19, "."), nam(20, "a"))
	wantTokens(t, "case A 1 of A x -> x | B y -> 0 end", word(0, "case"), tag(5, "A"), num(7, 1), word(9, "of"), tag(12, "A"), nam(14, "x"), sign(16, "->"), nam(19, "x"), sign(21, "|"), tag(23, "B"), nam(25, "y"), sign(27, "->"), num(30, 0), word(32, "end"))
	wantTokens(t, "mu 'm1. {h: 'v0, t: 'm1}", word(0, "mu"), vari(3, "m1"), sign(6, "."), sign(8, "{"), nam(9, "h"), sign(10, ":"), vari(12, "v0"), sign(15, ","), nam(17, "t"), sign(18, ":"), vari(20, "m1"), sign(23, "}"))
	wantTokens(t, "check f: <A: int> -> top;\n# done\nask 1 == 2: bool;\n", word(0, "check"), nam(6, "f"), sign(7, ":"), sign(9, "<"), tag(10, "A"), sign(11, ":"), word(13, "int"), sign(16, ">"), sign(18, "->"), word(21, "top"), sign(24, ";"), word(33, "ask"), num(37, 1), sign(39, "=="), num(42, 2), sign(43, ":"), word(45, "bool"), sign(49, ";"))
}

// 4.1, what is passed over: ahead of tokens, between them, behind them, and alone.
func TestPassedOver(t *testing.T) {
	gaps := []string{
		" ", "\t", "\n", "  ", " \t\n\n\t ", strings.Repeat(" ", 5000), strings.Repeat("\n", 5000),
		"#\n", "##\n", "# a\n", "#a b -> 1\n", "# \"\n", "#'\n", "# ~ ! @ $ % ? \\ `\n", "#\t\n", "#\r\n", "#\x00\x01\x7f\n", "#\xff\x80\xc3\n", "#\u00e9\u20ac\u2028\u0085\n",
		"# a # b\n", "#\n#\n", "# a\n# b\n", " #\n ", "\n#\n\n#\n", "#" + strings.Repeat("a", 5000) + "\n", strings.Repeat("#\n", 5000),
	}
	for _, g := range gaps {
		n := len(g)
		wantTokens(t, g)
		wantTokens(t, g+"x", nam(n, "x"))
		wantTokens(t, "x"+g, nam(0, "x"))
		wantTokens(t, g+"x"+g+"y"+g, nam(n, "x"), nam(2*n+1, "y"))
		wantTokens(t, "-"+g+">", sign(0, "-"), sign(n+1, ">"))
		wantTokens(t, "="+g+"=", sign(0, "="), sign(n+1, "="))
		wantTokens(t, "1"+g+"2", num(0, 1), num(n+1, 2))
		wantTokens(t, "\"\""+g+"\"a\""+g+"'a"+g+"A", str(0, ""), str(n+2, "a"), vari(2*n+5, "a"), tag(3*n+7, "A"))
		wantError(t, g+"~"+g+"1", n, api.ErrText)
		wantError(t, g+"'"+g+"a", n, api.ErrText)
		wantError(t, "a"+g+"!"+g, n+1, api.ErrText)
		for _, h := range gaps {
			wantTokens(t, g+h)
			wantTokens(t, "a"+g+h+"b", nam(0, "a"), nam(len(g+h)+1, "b"))
		}
	}
}

// 4.1, from a # on up to the text's end, where no line feed stands behind it.
func TestRemarkAtTheEnd(t *testing.T) {
	for _, r := range []string{"#", "##", "# ", "#\t", "# a", "#x -> 1", "# \"", "#!~'", "#\r", "#\x00\xff", "#\u00e9", "# a # b", "#" + strings.Repeat("a", 5000)} {
		wantTokens(t, r)
		wantTokens(t, " \n"+r)
		wantTokens(t, "#\n"+r)
		wantTokens(t, "x"+r, nam(0, "x"))
		wantTokens(t, "12"+r, num(0, 12))
		wantTokens(t, "-"+r, sign(0, "-"))
		wantTokens(t, "\"a\""+r, str(0, "a"))
		wantTokens(t, r+"\nx"+r, nam(len(r)+1, "x"))
	}
	// Within a writing it begins nothing.
	wantTokens(t, "\"#\" a", str(0, "#"), nam(4, "a"))
	wantTokens(t, "\"a # b\"# c", str(0, "a # b"))
	wantError(t, "\"a # b\n\"", 0, api.ErrText)
}

// 4.1, each keyword, alone and among others, and words that are next to one.
func TestKeywords(t *testing.T) {
	if got := strings.Join(name.Keywords(), " "); got != chapterKeywords {
		t.Errorf("Keywords(): %s, want %s", got, chapterKeywords)
	}
	for _, k := range strings.Fields(chapterKeywords) {
		n := len(k)
		wantTokens(t, k, word(0, k))
		wantTokens(t, " "+k+"\n"+k, word(1, k), word(n+2, k))
		wantTokens(t, "1"+k+"(", num(0, 1), word(1, k), sign(n+1, "("))
		wantTokens(t, k+"."+k, word(0, k), sign(n, "."), word(n+1, k))
		wantTokens(t, k+"'"+k, word(0, k), vari(n, k))
		wantTokens(t, k+"\""+k+"\"", word(0, k), str(n, k))
		for _, behind := range []string{"a", "A", "0", "_", k} {
			wantTokens(t, k+behind, nam(0, k+behind))
		}
		wantTokens(t, "_"+k, nam(0, "_"+k))
		wantTokens(t, "A"+k, tag(0, "A"+k))
		wantTokens(t, strings.ToUpper(k), tag(0, strings.ToUpper(k)))
		wantTokens(t, strings.ToUpper(k[:1])+k[1:], tag(0, strings.ToUpper(k[:1])+k[1:]))
		for i := range n {
			wantAll(t, k[:i])
			wantAll(t, k[i:])
			wantAll(t, k[:i]+" "+k[i:])
			wantAll(t, k[:i]+k[i+1:])
		}
	}
}

// 4.1, names and tags.
func TestNamesAndTags(t *testing.T) {
	for _, s := range []string{"a", "z", "_", "__", "_A", "_1", "x0", "aZ", "aB_9", "letter", "nil", "v0"} {
		wantTokens(t, s, nam(0, s))
		wantTokens(t, s+" "+s+"."+s, nam(0, s), nam(len(s)+1, s), sign(2*len(s)+1, "."), nam(2*len(s)+2, s))
	}
	for _, s := range []string{"A", "Z", "A1", "A_", "Aa", "ZZ", "None", "Fun", "MU", "T_0"} {
		wantTokens(t, s, tag(0, s))
		wantTokens(t, s+" "+s+"|"+s, tag(0, s), tag(len(s)+1, s), sign(2*len(s)+1, "|"), tag(2*len(s)+2, s))
	}
	wantError(t, "\u00e9", 0, api.ErrText)
	wantError(t, "a\u00e9", 1, api.ErrText)
	wantError(t, "A\u00c9", 1, api.ErrText)
}

// 4.1, names, tags and variables of MaxName bytes, and of more. Of a variable it is what stands behind the ' that is told.
func TestMaxName(t *testing.T) {
	for _, pair := range []string{"aa", "__", "aZ", "a9", "_0", "zf"} {
		most := (pair[:1] + strings.Repeat(pair[1:], 20))[:20]
		great := "T" + most[1:]
		for n := 1; n <= 20; n++ {
			wantTokens(t, most[:n], nam(0, most[:n]))
			wantTokens(t, great[:n], tag(0, great[:n]))
			wantTokens(t, "'"+most[:n], vari(0, most[:n]))
		}
		wantTokens(t, "'"+most+"'"+most+" "+great+"-"+most, vari(0, most), vari(21, most), tag(43, great), sign(63, "-"), nam(64, most))
		for _, more := range []string{"a", "A", "0", "_", "ab", strings.Repeat("b", 5000)} {
			wantError(t, most+more, 0, api.ErrLong)
			wantError(t, great+more, 0, api.ErrLong)
			wantError(t, "'"+most+more, 0, api.ErrLong)
			wantError(t, " a "+most+more+" b", 3, api.ErrLong)
			wantError(t, "A\n"+great+more+"-", 2, api.ErrLong)
			wantError(t, "'a'"+most+more+"'b", 2, api.ErrLong)
		}
		// A great letter first is no variable, however long it is.
		wantError(t, "'"+great, 0, api.ErrText)
		wantError(t, "'"+great+most, 0, api.ErrText)
	}
}

// 4.1, variables, also of what is a keyword without the '; a ' with nothing behind it that begins one.
func TestVariables(t *testing.T) {
	for _, s := range []string{"a", "z", "_", "__", "_1", "_A", "v0", "m12", "aZ", "aB_9"} {
		wantTokens(t, "'"+s, vari(0, s))
		wantTokens(t, "  '"+s+" '"+s, vari(2, s), vari(len(s)+4, s))
		wantTokens(t, "'"+s+"'"+s+"->'"+s, vari(0, s), vari(len(s)+1, s), sign(2*len(s)+2, "->"), vari(2*len(s)+4, s))
	}
	for _, k := range strings.Fields(chapterKeywords) {
		wantTokens(t, "'"+k, vari(0, k))
		wantTokens(t, "'"+k+" "+k, vari(0, k), word(len(k)+2, k))
	}
	wantTokens(t, "a'b", nam(0, "a"), vari(1, "b"))
	wantTokens(t, "1'b2", num(0, 1), vari(1, "b2"))
	for _, behind := range []string{"", " ", " a", "\na", "\ta", "#a", "'", "'a", "A", "Aa", "Z_9", "1", "1a", "9", "~1", "-a", ".a", "\"a\"", "(", "\x00", "\xff", "\xffa", "\u00e9", "@", "[", "`", "{"} {
		wantError(t, "'"+behind, 0, api.ErrText)
		wantError(t, "a + '"+behind, 4, api.ErrText)
		wantError(t, "'a'"+behind, 2, api.ErrText)
	}
}

// 4.1, numbers: digits with and without a ~, the least and the greatest one, and what stands next to them.
func TestNumbers(t *testing.T) {
	for _, n := range []int64{0, 1, 9, 10, 12, 100, 1234567890, math.MaxInt64 - 1, math.MaxInt64, -1, -9, -10, -1234567890, math.MinInt64 + 1, math.MinInt64} {
		s := wrap.Print(n)
		long := len(s)
		wantTokens(t, s, num(0, n))
		wantTokens(t, " "+s+"\n"+s, num(1, n), num(long+2, n))
		wantTokens(t, "-"+s+"->"+s, sign(0, "-"), num(1, n), sign(long+1, "->"), num(long+3, n))
		wantTokens(t, s+"."+s+",", num(0, n), sign(long, "."), num(long+1, n), sign(2*long+1, ","))
		wantTokens(t, s+"a"+" A"+s[long-1:], num(0, n), nam(long, "a"), tag(long+2, "A"+s[long-1:]))
		wantTokens(t, s+"_"+s[long-1:], num(0, n), nam(long, "_"+s[long-1:]))
		wantTokens(t, s+"\"\""+s+"'a", num(0, n), str(long, ""), num(long+2, n), vari(2*long+2, "a"))
		wantTokens(t, s+"~5", num(0, n), num(long, -5))
	}
	wantTokens(t, "0x1f", num(0, 0), nam(1, "x1f"))
	wantTokens(t, "1e3", num(0, 1), nam(1, "e3"))
	wantTokens(t, "1_000", num(0, 1), nam(1, "_000"))
	wantTokens(t, "0.0", num(0, 0), sign(1, "."), num(2, 0))
	wantTokens(t, "0 0", num(0, 0), num(2, 0))
}

// 4.1, digits that are no number, and a ~ alone.
func TestNoNumbers(t *testing.T) {
	for _, s := range []string{
		"~", "~0", "00", "01", "007", "~00", "~01", "00000000000000000001",
		"9223372036854775808", "~9223372036854775809", "9223372036854775817", "9999999999999999999", "~9999999999999999999",
		"18446744073709551615", "18446744073709551616", "18446744073709551617", "~18446744073709551617", "36893488147419103232",
		"1" + strings.Repeat("0", 5000), "~1" + strings.Repeat("0", 5000), strings.Repeat("0", 5000),
	} {
		for _, behind := range []string{"", " ", "a", "A", "_", "~1", "~", "->", "\"", "#", "\n1", "'a", "!", "\xff"} {
			wantError(t, s+behind, 0, api.ErrText)
			wantError(t, "x = "+s+behind, 4, api.ErrText)
			wantError(t, "1~1"+"\""+"\""+s+behind, 5, api.ErrText)
		}
	}
	for _, behind := range []string{" 1", "-1", "~1", "a", "\t1", "#1", "\xff1", "\u0663"} {
		wantError(t, "~"+behind, 0, api.ErrText)
		wantError(t, "1 ~"+behind, 2, api.ErrText)
	}
	wantError(t, "1~", 1, api.ErrText)
	wantError(t, "\u0663", 0, api.ErrText)
	wantError(t, "1\u00b2", 1, api.ErrText)
}

// 4.1, texts as they are written.
func TestTexts(t *testing.T) {
	for _, s := range []string{"", "a", "\"", "\\", "\n\t", "a\"b\\c", "# no remark", "'a -> 1", "~", "\x00\x1f\x7f\xff", "\u00e9", strings.Repeat("a", 200), strings.Repeat("\xff", 200), strings.Repeat("\\", 199)} {
		w := quote.Print(s)
		n := len(w)
		wantTokens(t, w, str(0, s))
		wantTokens(t, "\t"+w+w+" "+w, str(1, s), str(n+1, s), str(2*n+2, s))
		wantTokens(t, "a"+w+"1"+w+"->"+w+"#"+w, nam(0, "a"), str(1, s), num(n+1, 1), str(n+2, s), sign(2*n+2, "->"), str(2*n+4, s))
	}
	// The token has what the text stands for, and is as long as its writing.
	wantTokens(t, `"\x41\x0a"B`, str(0, "A\n"), tag(10, "B"))
	for c := range 256 {
		s := string([]byte{byte(c)})
		w := quote.Print(s)
		wantTokens(t, w+"a", str(0, s), nam(len(w), "a"))
		wantAll(t, "\""+s+"\"")
		wantAll(t, "\"\\"+s+"\"")
		wantAll(t, "\"a"+s+"b\"c")
	}
}

// 4.1, writings that are none, those that end too early, and those that are too long: told at their quote, wherever they break.
func TestNoTexts(t *testing.T) {
	for _, w := range []string{"\"", "\"a", "\"a\\", "\"a\\\"", "\"\\x4", "\"\\x4\"", "\"\\xAB\"", "\"\\q\"", "\"a\nb\"", "\"a\tb\"", "\"\x00\"", "\"\x7f\"", "\"\xff\"", "\"\u00e9\"", "\"" + strings.Repeat("a", 5000)} {
		wantError(t, w, 0, api.ErrText)
		wantError(t, "a  "+w, 3, api.ErrText)
		wantError(t, "\"\""+w, 2, api.ErrText)
		wantError(t, "# \"\n"+w+"\n", 4, api.ErrText)
	}
	wantError(t, "\"\"\"", 2, api.ErrText)
	wantError(t, "a\"", 1, api.ErrText)
	for _, w := range []string{"a", " ", "\\n", "\\\"", "\\x00", "\\xff", "#"} {
		wantTokens(t, "\""+strings.Repeat(w, 200)+"\"b", str(0, strings.Repeat(unwritten(t, w), 200)), nam(200*len(w)+2, "b"))
		for _, many := range []int{201, 202, 5000} {
			long := "\"" + strings.Repeat(w, many)
			wantError(t, long+"\"", 0, api.ErrLong)
			wantError(t, "a+"+long+"\"+b", 2, api.ErrLong)
			wantError(t, "\"\""+long+"\"\"", 2, api.ErrLong)
			// One that is too long and is no writing is no writing.
			wantError(t, long, 0, api.ErrText)
			wantError(t, "a "+long+"\n\"", 2, api.ErrText)
			wantError(t, "a "+long+"\\q\"", 2, api.ErrText)
		}
	}
}

// unwritten is the text of which w is the writing, without its quotes.
func unwritten(t *testing.T, w string) string {
	t.Helper()
	s, err := strconv.Unquote("\"" + w + "\"")
	if err != nil {
		t.Fatal(err)
	}
	return s
}

// 4.1, each sign, and each two of them side by side; those of two bytes are ahead of their first byte alone.
func TestSigns(t *testing.T) {
	all := strings.Fields(chapterSigns)
	for _, a := range all {
		n := len(a)
		wantTokens(t, a, sign(0, a))
		wantTokens(t, "x"+a+"1"+a, nam(0, "x"), sign(1, a), num(n+1, 1), sign(n+2, a))
		wantTokens(t, a+" "+a+"#"+a, sign(0, a), sign(n+1, a))
		for _, b := range all {
			wantTokens(t, a+" "+b, sign(0, a), sign(n+1, b))
			if a+b == "->" || a+b == "==" {
				wantTokens(t, a+b, sign(0, a+b))
			} else if a+b != "===" {
				wantTokens(t, a+b, sign(0, a), sign(n, b))
			}
		}
	}
	wantTokens(t, "===", sign(0, "=="), sign(2, "="))
	wantTokens(t, "====", sign(0, "=="), sign(2, "=="))
	wantTokens(t, "-->", sign(0, "-"), sign(1, "->"))
	wantTokens(t, "->>", sign(0, "->"), sign(2, ">"))
	wantTokens(t, "=>", sign(0, "="), sign(1, ">"))
	wantTokens(t, "<=-", sign(0, "<"), sign(1, "="), sign(2, "-"))
	wantTokens(t, "-=", sign(0, "-"), sign(1, "="))
	wantTokens(t, "=-", sign(0, "="), sign(1, "-"))
	wantTokens(t, "-", sign(0, "-"))
	wantTokens(t, "=", sign(0, "="))
	wantTokens(t, strings.ReplaceAll(chapterSigns, " ", "\n"), tokensOfSigns(all)...)
}

func tokensOfSigns(all []string) []api.Token {
	var l []api.Token
	at := 0
	for _, s := range all {
		l = append(l, sign(at, s))
		at += len(s) + 1
	}
	return l
}

// 4.1, bytes with which no token begins; it is nowhere that they are passed over.
func TestNoTokenBegins(t *testing.T) {
	begins := "abcdefghijklmnopqrstuvwxyzABCDEFGHIJKLMNOPQRSTUVWXYZ_0123456789;:,.=<>+-*/^(){}[]|& \t\n#"
	for c := range 256 {
		s := string([]byte{byte(c)})
		if strings.Contains(begins, s) {
			_, n, e := lex.All(s)
			if n != 1 || e != api.OK {
				t.Errorf("All(%q): %d, %d, want 1, 0", s, n, int(e))
			}
			continue
		}
		// A ', a ~ and a quote begin one, but not alone.
		wantError(t, s, 0, api.ErrText)
		wantError(t, " \n"+s, 2, api.ErrText)
		wantError(t, "1 ("+s, 3, api.ErrText)
	}
	for _, s := range []string{"!", "$", "%", "?", "@", "\\", "`", "\x00", "\r", "\v", "\f", "\x7f", "\x80", "\xff", "\u00a0", "\u2028", "\u03bb", "\u2192"} {
		wantError(t, s+"a", 0, api.ErrText)
		wantError(t, "a"+s+"b", 1, api.ErrText)
		wantError(t, "a\n "+s, 3, api.ErrText)
		wantTokens(t, "a #"+s, nam(0, "a"))
	}
}

// 4.1, the first place that has an error is told, of whatever kind it is, and whatever stands behind.
func TestWhichErrorIsTold(t *testing.T) {
	long := strings.Repeat("a", 21)
	wrong := []struct {
		s string
		e api.Errno
	}{
		{"!", api.ErrText}, {"~", api.ErrText}, {"01", api.ErrText}, {"9223372036854775808", api.ErrText}, {"'", api.ErrText}, {"'A", api.ErrText}, {"\"\\q\"", api.ErrText}, {"\xff", api.ErrText},
		{long, api.ErrLong}, {"A" + long, api.ErrLong}, {"'" + long, api.ErrLong}, {"\"" + strings.Repeat("b", 201) + "\"", api.ErrLong},
	}
	for _, a := range wrong {
		wantError(t, a.s, 0, a.e)
		wantError(t, "let x = 1\n"+a.s, 10, a.e)
		for _, b := range wrong {
			wantError(t, a.s+" "+b.s, 0, a.e)
			wantError(t, "x "+a.s+" y "+b.s, 2, a.e)
			// What stands in a remark has none.
			wantError(t, "#"+a.s+"\n"+b.s, len(a.s)+2, b.e)
		}
	}
}

// 4.1, each byte next to each kind of token, against the chapter's words.
func TestEachByte(t *testing.T) {
	pieces := []string{"", "a", "A", "_", "let", "'", "'a", "1", "0", "~", "~1", "\"", "\"a\"", "-", "->", "=", "#", "#\n", " "}
	for c := range 256 {
		b := string([]byte{byte(c)})
		for _, p := range pieces {
			for _, q := range pieces {
				wantAll(t, p+b+q)
			}
		}
	}
	for a := range 256 {
		for b := range 256 {
			wantAll(t, string([]byte{byte(a), byte(b)}))
		}
	}
}

// 4.1, all texts of a few bytes that make and break tokens, against the chapter's words.
func TestShortTexts(t *testing.T) {
	texts := []string{""}
	for from, long := 0, 0; long <= 5; long++ {
		to := len(texts)
		for _, s := range texts[from:to] {
			wantAll(t, s)
			if long == 5 {
				continue
			}
			for _, b := range []string{"i", "n", "A", "'", "0", "1", "~", "\"", "\\", "-", ">", "=", "#", "\n", "!"} {
				texts = append(texts, s+b)
			}
		}
		from = to
	}
}

// 4.1, longer texts of many pieces, against the chapter's words.
func TestLongerTexts(t *testing.T) {
	pieces := strings.Split("fun|let|x|_y1|A|Bc|'a|'_|0|12|~3|\"\"|\"a # b\"|\"\\x41\\n\"|->|==|=|-|>|;|:|,|.|(|)|{|}| |  |\t|\n|# a\n|#\n|&|"+strings.Repeat("z", 20), "|")
	rare := []string{"~", "'", "\"", "!", "00", "\xff", strings.Repeat("y", 21)}
	state := uint32(1)
	next := func(n int) int {
		state = state*1664525 + 1013904223
		return int(state>>8) % n
	}
	for range 20000 {
		var s strings.Builder
		for range next(40) {
			if next(60) == 0 {
				s.WriteString(rare[next(len(rare))])
			} else {
				s.WriteString(pieces[next(len(pieces))])
			}
		}
		wantAll(t, s.String())
	}
}

// 4.1 has no bound on how many tokens there are, or on how long a text is.
func TestManyTokens(t *testing.T) {
	const many = 100000
	var l []api.Token
	for i := range many {
		l = append(l, nam(3*i, "x"), sign(3*i+1, "="))
	}
	wantTokens(t, strings.Repeat("x= ", many), l...)
	wantError(t, strings.Repeat("x= ", many)+"!", 3*many, api.ErrText)
	for _, s := range []string{strings.Repeat(" ", 3*many), strings.Repeat("#\n", many), "#" + strings.Repeat("x", 3*many)} {
		wantTokens(t, s)
	}
	for _, s := range []string{strings.Repeat("1", 3*many), "\"" + strings.Repeat("x", 3*many)} {
		wantError(t, s, 0, api.ErrText)
	}
	for _, s := range []string{strings.Repeat("x", 3*many), "'" + strings.Repeat("x", 3*many), "\"" + strings.Repeat("x", 3*many) + "\""} {
		wantError(t, s, 0, api.ErrLong)
	}
}

// Of 4.1, what was handed out is the caller's own.
func TestAnswersAreNew(t *testing.T) {
	const s = "fun x -> \"a\" 'b C 7"
	first, _, _ := lex.All(s)
	kept := slices.Clone(first)
	second, _, _ := lex.All(s)
	for i := range first {
		first[i] = api.Token{Kind: 99, S: "changed", N: 1, Pos: -1}
	}
	_ = append(first[:0], nam(5, "y"))
	if !slices.Equal(second, kept) {
		t.Errorf("All(%q) after another answer was changed: %s, want %s", s, told(second), told(kept))
	}
	wantTokens(t, s, kept...)
}
