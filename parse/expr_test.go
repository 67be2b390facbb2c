package parse_test

import (
	"fmt"
	"math"
	"reflect"
	"slices"
	"strings"
	"testing"

	"syntagma/api"
	"syntagma/lex"
	"syntagma/parse"
)

// 7.2, of nil, and of a reader without tokens.
func TestExprOfNone(t *testing.T) {
	for range 2 {
		e, place, err := parse.Expr(nil)
		wantError(t, "Expr(nil)", e, place, err, 0, api.ErrText)
	}
	for _, end := range []int{0, 1, 7, 1 << 20, 1<<20 + 1, -1, math.MaxInt, math.MinInt} {
		for _, l := range [][]api.Token{nil, {}} {
			r := lex.New(l, end)
			e, place, err := parse.Expr(r)
			wantError(t, "Expr of no tokens", e, place, err, end, api.ErrText)
			e, place, err = parse.Expr(r)
			wantError(t, "Expr of no tokens, once more", e, place, err, end, api.ErrText)
		}
	}
	// One that is at its end.
	l, end, _ := lex.All("x")
	r := lex.New(l, end)
	r.Next()
	e, place, err := parse.Expr(r)
	wantError(t, "Expr behind all", e, place, err, 1, api.ErrText)
}

// 7.2, the expr with which what is left begins, and what stands behind it.
func TestExprAndRest(t *testing.T) {
	for _, w := range []struct{ s, want, rest string }{
		{"x ; y", "x@0", "; y"}, {"1 : int", "1@0", ": int"}, {"f x in y", "(app f@0 x@2)@0", "in y"}, {"x )", "x@0", ")"}, {"(x) )", "x@1", ")"}, {"x = 1", "x@0", "= 1"}, {"x -> y", "x@0", "-> y"}, {"x | y", "x@0", "| y"}, {"x , y", "x@0", ", y"}, {"x } y", "x@0", "} y"}, {"x 'a", "x@0", "'a"}, {"x check y", "x@0", "check y"},
		{"fun x -> x then 1", "(fun x x@9)@0", "then 1"}, {"let x = 1 in x in x", "(let x 1@8 x@13)@0", "in x"}, {"if a then b else c else d", "(if a@3 b@10 c@17)@0", "else d"},
		{"1 < 2 < 3", "(< 1@0 2@4)@2", "< 3"}, {"1 == 2 < 3", "(== 1@0 2@5)@2", "< 3"}, {"1 + 2 == 3 == 4", "(== (+ 1@0 2@4)@2 3@9)@6", "== 4"},
		{"A 1 2", "(tag A 1@2)@0", "2"}, {"A x.a y", "(tag A (get a x@2)@3)@0", "y"}, {"f A 1", "f@0", "A 1"}, {"f fun x -> x", "f@0", "fun x -> x"}, {"f let x = 1 in x", "f@0", "let x = 1 in x"}, {"f if a then b else c", "f@0", "if a then b else c"}, {"1 + A 2 3", "(+ 1@0 (tag A 2@6)@4)@2", "3"},
		{"{} of", "(record)@0", "of"}, {"case x of A y -> y end end", "(case x@5 A y y@17)@0", "end"}, {"case x of A y -> y end | B", "(case x@5 A y y@17)@0", "| B"}, {"let rec f = fun x -> x in f ; 1", "(rec f (fun x x@21)@12 f@26)@0", "; 1"},
		{"x\n# ; ( \n;", "x@0", ";"},
	} {
		l, end, err := lex.All(w.s)
		if err != api.OK {
			t.Fatalf("%s has no tokens", w.s)
		}
		r := lex.New(l, end)
		e, place, err := parse.Expr(r)
		wantIs(t, "Expr of "+w.s, e, place, err, w.want)
		rest, _, _ := lex.All(w.rest)
		first := end - len(w.rest)
		for _, want := range rest {
			want.Pos += first
			if got := r.Next(); got != want {
				t.Errorf("behind Expr of %s: %v, want %v", w.s, got, want)
			}
		}
		if !r.Done() || r.Peek().Pos != end {
			t.Errorf("behind Expr of %s: %v is left", w.s, r.Peek())
		}
		wantRefused(t, w.s, first, api.ErrText)
	}
}

// 7.2, where more must come, a token with which the language can't go on is an error, also if an expr stands ahead of it.
func TestExprThatGoesOn(t *testing.T) {
	for s, place := range map[string]int{
		"1 + ;": 4, "1 < ;": 4, "1 == in": 5, "1 * )": 4, "f x . ;": 6, "f x . 1": 6, "f (x ;": 5, "f (": 3, "f {": 3, "f {a": 4, "f case": 6, "f case x of ;": 12, "x . a . ": 8, "1 + A ;": 6, "A ;": 2, "x ( ) ;": 4, "let x = 1 ;": 10, "let x = 1 in ;": 13, "if x ;": 5, "if x then y ;": 12, "if x then y else ;": 17, "{a = 1 ;": 7, "{a = 1, ;": 8, "case x of A y -> 1 ;": 19, "case x of A y -> 1 | ;": 21, "let rec f = fun x -> x ;": 23, "let rec f = 1 ;": 12, "let rec ;": 8, "; x": 0, "in": 0, "'a": 0,
	} {
		wantBoth(t, s, place, api.ErrText)
		wantBoth(t, "\n"+s, place+1, api.ErrText)
	}
}

// 7.2, exprs one behind the other, from where the reader is.
func TestExprsOneByOne(t *testing.T) {
	c := &chance{now: 2}
	for range 500 {
		w := &writer{chance: c}
		var l []wanted
		var nodes int
		for range 1 + c.below(5) {
			w.nodes = 0
			l = append(l, w.expr(c.below(3)))
			nodes = max(nodes, w.nodes)
			w.put(";")
		}
		if nodes > api.MaxNodes {
			continue
		}
		tokens, end, err := lex.All(w.text.String())
		if err != api.OK {
			t.Fatalf("%s has no tokens", w.text.String())
		}
		r := lex.New(tokens, end)
		for _, want := range l {
			e, place, err := parse.Expr(r)
			wantIs(t, w.text.String(), e, place, err, want.told)
			if !r.Take(api.TokSign, ";") {
				t.Errorf("%s: %v is left", short(w.text.String()), r.Peek())
			}
		}
		if !r.Done() {
			t.Errorf("%s: %v is left", short(w.text.String()), r.Peek())
		}
	}
}

// 7.2, an expr of which all has gone by is none any more; what was ahead of it counts nothing.
func TestExprFromTheMidst(t *testing.T) {
	l, end, _ := lex.All("fun x -> ( f x + 1 ) 2")
	for gone, w := range []struct {
		want  string
		place int
		err   api.Errno
	}{
		{"(fun x (app (+ (app f@11 x@13)@11 1@17)@15 2@21)@15)@0", 0, api.OK}, {"x@4", 0, api.OK}, {"", 6, api.ErrText}, {"(app (+ (app f@11 x@13)@11 1@17)@15 2@21)@15", 0, api.OK}, {"(+ (app f@11 x@13)@11 1@17)@15", 0, api.OK}, {"(+ x@13 1@17)@15", 0, api.OK}, {"", 15, api.ErrText}, {"1@17", 0, api.OK}, {"", 19, api.ErrText}, {"2@21", 0, api.OK}, {"", 22, api.ErrText},
	} {
		r := lex.New(l, end)
		for range gone {
			r.Next()
		}
		e, place, err := parse.Expr(r)
		if w.err != api.OK {
			wantError(t, fmt.Sprint("from ", gone), e, place, err, w.place, w.err)
		} else {
			wantIs(t, fmt.Sprint("from ", gone), e, place, err, w.want)
		}
	}
}

// 7.2, what the text of a number's token is counts nothing, and what the number of others is.
func TestFieldsOfTokens(t *testing.T) {
	l := []api.Token{{Kind: api.TokName, S: "f", N: 7, Pos: 1}, {Kind: api.TokNum, S: "x", N: 12, Pos: 5}, {Kind: api.TokStr, S: "s", N: 3, Pos: 9}, {Kind: api.TokWord, S: "true", N: 0, Pos: 9}}
	e, place, err := parse.Expr(lex.New(l, 0))
	wantIs(t, "tokens", e, place, err, `(app (app (app f@1 12@5)@1 "s"@9)@1 true@9)@1`)
}

// 7.2, 7.3, tokens that no text has: what is read may be a tree, or is an error; and there is no panic.
func TestTokensOfNoText(t *testing.T) {
	one := func(kind int, s string, pos int) []api.Token { return []api.Token{{Kind: kind, S: s, Pos: pos}} }
	for _, l := range [][]api.Token{
		one(0, "", 3), one(0, "x", 3), one(-1, "x", 3), one(8, "x", 3), one(99, "(", 3), one(math.MinInt, "", 3), one(api.TokWord, "x", 3), one(api.TokWord, "", 3), one(api.TokWord, "(", 3), one(api.TokSign, "x", 3), one(api.TokSign, "true", 3), one(api.TokSign, "((", 3), one(api.TokVar, "x", 3), one(api.TokTag, "X", 3),
	} {
		place := 3
		if l[0].Kind == api.TokTag {
			place = 9 // The end, where its post had to come.
		}
		e, at, err := parse.Expr(lex.New(l, 9))
		wantError(t, fmt.Sprint(l), e, at, err, place, api.ErrText)
	}
	// Names that are none, texts that are too long, places below 0: what is read may be no tree then.
	for _, l := range [][]api.Token{
		one(api.TokName, "", 0), one(api.TokName, "X", 0), one(api.TokName, "fun", 0), one(api.TokName, "x y", 0), one(api.TokName, strings.Repeat("x", 21), 0), one(api.TokStr, strings.Repeat("x", 201), 0), one(api.TokName, "x", -1), one(api.TokName, "x", math.MinInt),
		append(one(api.TokTag, "x", 0), one(api.TokNum, "", 0)...), append(one(api.TokTag, "", 0), one(api.TokNum, "", 0)...),
	} {
		e, at, err := parse.Expr(lex.New(l, 9))
		wantError(t, fmt.Sprint(l), e, at, err, 0, api.ErrForm)
	}
	for _, pos := range []int{1<<20 + 1, math.MaxInt} {
		e, at, err := parse.Expr(lex.New(one(api.TokName, "X", pos), 9))
		wantError(t, fmt.Sprint(pos), e, at, err, 0, api.ErrLong)
	}
	c := &chance{now: 3}
	for range 50000 {
		var l []api.Token
		for range c.below(12) {
			token, _, _ := lex.All(pick(c, alphabet...))
			x := token[0]
			x.Pos = c.below(20) - 3
			if c.below(20) == 0 {
				x = api.Token{Kind: c.below(12) - 2, S: pick(c, "", "x", "X", "fun", "(", "1"), N: int64(c.below(3)), Pos: c.below(5)}
			}
			l = append(l, x)
		}
		r := lex.New(l, 9)
		e, at, err := parse.Expr(r)
		if err != api.OK {
			wantError(t, fmt.Sprint(l), e, at, err, at, err)
			continue
		}
		want, _ := told(e)
		wantIs(t, fmt.Sprint(l), e, at, err, want)
	}
}

// P1, texts of all bytes, and of pieces of the language: a tree that may be, or an error alone.
func TestAnyText(t *testing.T) {
	c := &chance{now: 4}
	pieces := append(slices.Clone(alphabet), "fun x -> ", "let x = ", "let rec f = fun x -> ", "case x of A x -> ", "{a = ", "((((", "))))", "# ", "\n", "\x00", "\xff", "~", "\"", "!", "01")
	programs := 0
	for range 50000 {
		s := ""
		for range c.below(10) {
			s += pick(c, pieces...) + pick(c, "", " ")
		}
		e, at, err := parse.Parse(s)
		if at < 0 || at > len(s) {
			t.Errorf("Parse(%q): the place %d", s, at)
		}
		if err != api.OK {
			wantError(t, fmt.Sprintf("%q", s), e, at, err, at, err)
			continue
		}
		programs++
		want, _ := told(e)
		wantIs(t, s, e, at, err, want)
	}
	if programs < 500 {
		t.Errorf("too few programs: %d", programs)
	}
	for b := range 256 {
		for _, s := range []string{string([]byte{byte(b)}), "x" + string([]byte{byte(b)}), string([]byte{byte(b)}) + "x", "x " + string([]byte{byte(b)}) + " y"} {
			e, at, err := parse.Parse(s)
			if err != api.OK {
				wantError(t, fmt.Sprintf("%q", s), e, at, err, at, err)
			}
		}
	}
}

// P1, very long texts, which end.
func TestVeryLong(t *testing.T) {
	const many = 200000
	for s, err := range map[string]api.Errno{
		"x" + strings.Repeat(" x", many): api.ErrFull, "x" + strings.Repeat(" + x", many): api.ErrFull, "x" + strings.Repeat(".a", many): api.ErrFull, "x" + strings.Repeat(" ", many) + "x": api.OK, "x" + strings.Repeat("#\n", many): api.OK, "f" + strings.Repeat(" (x)", many): api.ErrFull,
	} {
		e, place, got := parse.Parse(s)
		if got != err || place != 0 {
			t.Errorf("Parse(%s): %d at %d, want %d", short(s), int(got), place, int(err))
		}
		if err != api.OK {
			wantError(t, s, e, place, got, 0, err)
		}
	}
	for _, ahead := range []string{"(", "fun x -> ", "let x = ", "if ", "{a = ", "case "} {
		wantRefused(t, strings.Repeat(ahead, many), 100*len(ahead), api.ErrDeep)
	}
}

// Of 7.1, 7.2, what was handed out is the caller's own, and what was handed in stays as it was.
func TestAnswersAreNew(t *testing.T) {
	const s = "let rec f = fun x -> {a = x, b = case x of A y -> y | B z -> z end} in f (A \"s\")"
	tokens, end, _ := lex.All(s)
	before := slices.Clone(tokens)
	a, _, _ := parse.Parse(s)
	b, _, _ := parse.Parse(s)
	r := lex.New(tokens, end)
	c, _, _ := parse.Expr(r)
	want, _ := told(b)
	if !reflect.DeepEqual(a, b) || !reflect.DeepEqual(a, c) {
		t.Errorf("the same text is read as %v, %v, %v", a, b, c)
	}
	for i := range a.L {
		for k := range a.L[i].L {
			a.L[i].L[k] = api.Field{Name: "changed", Var: "changed", At: 99}
		}
		_ = append(a.L[i].L, api.Field{Name: "more"})
		a.L[i] = api.Node{Kind: 99, Pos: 99}
	}
	_ = append(a.L, api.Node{})
	for _, e := range []api.Expr{b, c} {
		wantIs(t, s, e, 0, api.OK, want)
	}
	if !slices.Equal(tokens, before) {
		t.Errorf("the tokens are %v, were %v", tokens, before)
	}
	// What is handed in may be changed then.
	for i := range tokens {
		tokens[i] = api.Token{Kind: api.TokName, S: "changed"}
	}
	wantIs(t, s, c, 0, api.OK, want)
	// No two lists of one tree are one: what is laid behind one is not in another one.
	d, _, _ := parse.Parse("{a = {b = {}}, c = case {d = 1} of A x -> {e = 2} end}")
	want, _ = told(d)
	for i := range d.L {
		_ = append(d.L[i].L, api.Field{Name: "more"}, api.Field{Name: "more"})
	}
	wantIs(t, "lists", d, 0, api.OK, want)
	// A reading that was refused changes nothing of a later one.
	for _, bad := range []string{"", ")", "{a = 1, a", strings.Repeat("(", 101), "!"} {
		parse.Parse(bad)
		wantTree(t, s, "(rec f (fun x (record a x@26 b (case x@38 A y y@50 B z z@61)@33)@21)@12 (app f@71 (tag A \"s\"@76)@74)@71)@0")
	}
}
