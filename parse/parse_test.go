package parse_test

import (
	"fmt"
	"reflect"
	"slices"
	"strings"
	"testing"

	"syntagma/api"
	"syntagma/lex"
	"syntagma/parse"
	"syntagma/tree"
)

// 7.1, each row of the language, with what may stand, or not, and any number of times: which node it is, and its Pos.
func TestRows(t *testing.T) {
	for s, want := range map[string]string{
		// Atoms.
		"12": "12@0", "~7": "-7@0", "  0": "0@2", "9223372036854775807": "9223372036854775807@0", "~9223372036854775808": "-9223372036854775808@0",
		`"a\n"`: `"a\n"@0`, `""`: `""@0`, "true": "true@0", "false": "false@0", "x": "x@0", "_": "_@0", "# a\n x # b": "x@5",
		// fun, let, let rec, if.
		"fun x -> x": "(fun x x@9)@0", "fun x -> fun y -> x": "(fun x (fun y x@18)@9)@0", " fun x->x+1": "(fun x (+ x@8 1@10)@9)@1",
		"let x = 1 in x": "(let x 1@8 x@13)@0", "let x = let y = 1 in y in let z = 2 in z": "(let x (let y 1@16 y@21)@8 (let z 2@34 z@39)@26)@0",
		"let rec f = fun x -> f x in f": "(rec f (fun x (app f@21 x@23)@21)@12 f@28)@0", "let rec f = (fun x -> x) in f": "(rec f (fun x x@22)@13 f@28)@0",
		"let rec f = ((fun x -> x)) in f": "(rec f (fun x x@23)@14 f@30)@0", "let f = (1) in f": "(let f 1@9 f@15)@0",
		"if x then 1 else 2": "(if x@3 1@10 2@17)@0", "if if a then b else c then if d then e else f else if g then h else i": "(if (if a@6 b@13 c@20)@3 (if d@30 e@37 f@44)@27 (if g@54 h@61 i@68)@51)@0",
		"if fun x -> x then let y = 1 in y else fun z -> z": "(if (fun x x@12)@3 (let y 1@27 y@32)@19 (fun z z@48)@39)@0",
		// Each sign, with what stands around it, and its Pos.
		"1 < 2": "(< 1@0 2@4)@2", "1 == 2": "(== 1@0 2@5)@2", "1 + 2": "(+ 1@0 2@4)@2", "1 - 2": "(- 1@0 2@4)@2", "1 ^ 2": "(^ 1@0 2@4)@2", "1 * 2": "(* 1@0 2@4)@2", "1 / 2": "(/ 1@0 2@4)@2",
		"1<2": "(< 1@0 2@2)@1", "1==~2": "(== 1@0 -2@3)@1", "1  +\n2": "(+ 1@0 2@5)@3",
		// To the left, and which goes ahead of which.
		"1 + 2 - 3 ^ 4": "(^ (- (+ 1@0 2@4)@2 3@8)@6 4@12)@10", "1 * 2 / 3 * 4": "(* (/ (* 1@0 2@4)@2 3@8)@6 4@12)@10", "1 - (2 - 3)": "(- 1@0 (- 2@5 3@9)@7)@2",
		"1 + 2 * 3": "(+ 1@0 (* 2@4 3@8)@6)@2", "1 * 2 + 3": "(+ (* 1@0 2@4)@2 3@8)@6", "1 + 2 * 3 / 4 - 5": "(- (+ 1@0 (/ (* 2@4 3@8)@6 4@12)@10)@2 5@16)@14",
		"1 + 2 < 3 * 4": "(< (+ 1@0 2@4)@2 (* 3@8 4@12)@10)@6", "1 ^ 2 == 3 - 4": "(== (^ 1@0 2@4)@2 (- 3@9 4@13)@11)@6", "(1 < 2) == (3 < 4)": "(== (< 1@1 2@5)@3 (< 3@12 4@16)@14)@8",
		"(1 + 2) * 3": "(* (+ 1@1 2@5)@3 3@10)@8", "f 1 * g 2": "(* (app f@0 1@2)@0 (app g@6 2@8)@6)@4", "A 1 + B 2": "(+ (tag A 1@2)@0 (tag B 2@8)@6)@4",
		// Apps: an EApp's Pos is that of its A, also where its first post begins with a bracket, or has points.
		"f x": "(app f@0 x@2)@0", "f x y z": "(app (app (app f@0 x@2)@0 y@4)@0 z@6)@0", "f (g x)": "(app f@0 (app g@3 x@5)@3)@0", "(f x) y": "(app (app f@1 x@3)@1 y@6)@1", "((f)) y": "(app f@2 y@6)@2",
		"(1 + 2) 3 4": "(app (app (+ 1@1 2@5)@3 3@8)@3 4@10)@3", "(fun x -> x) 1": "(app (fun x x@10)@1 1@13)@1", "f.a x": "(app (get a f@0)@1 x@4)@1", "f.a.b x y": "(app (app (get b (get a f@0)@1)@3 x@6)@3 y@8)@3",
		"(A x) y": "(app (tag A x@3)@1 y@6)@1", " (let x = 1 in x) y": "(app (let x 1@10 x@15)@2 y@18)@2", "{} x": "(app (record)@0 x@3)@0", "case f of A x -> x end y": "(app (case f@5 A x x@17)@0 y@23)@0",
		`f 1 "s" true false x (y) {} case z of A x -> x end w`: `(app (app (app (app (app (app (app (app (app f@0 1@2)@0 "s"@4)@0 true@8)@0 false@13)@0 x@19)@0 y@22)@0 (record)@25)@0 (case z@33 A x x@45)@28)@0 w@51)@0`,
		"1 2": "(app 1@0 2@2)@0", `"a""b"`: `(app "a"@0 "b"@3)@0`, "12x": "(app 12@0 x@2)@0", "1~2": "(app 1@0 -2@1)@0", "f x.a y.b.c": "(app (app f@0 (get a x@2)@3)@0 (get c (get b y@6)@7)@9)@0",
		// Tags.
		"A 1": "(tag A 1@2)@0", "A x.a": "(tag A (get a x@2)@3)@0", "A (B 1)": "(tag A (tag B 1@5)@3)@0", "f (A 1)": "(app f@0 (tag A 1@5)@3)@0", "A{}": "(tag A (record)@1)@0", "A (f x)": "(tag A (app f@3 x@5)@3)@0", "A case x of A x -> x end": "(tag A (case x@7 A x x@19)@2)@0",
		// Points.
		"x.a": "(get a x@0)@1", "x.a.b.c": "(get c (get b (get a x@0)@1)@3)@5", "x . a": "(get a x@0)@2", "1.a": "(get a 1@0)@1", `"s".a`: `(get a "s"@0)@3`, "true.a": "(get a true@0)@4", "{a = 1}.a": "(get a (record a 1@5)@0)@7", "(f x).a": "(get a (app f@1 x@3)@1)@5", "case x of A x -> x end.a": "(get a (case x@5 A x x@17)@0)@22",
		// Records.
		"{}": "(record)@0", "{ # none\n}": "(record)@0", "{a = 1}": "(record a 1@5)@0", "{b = 1, a = 2, c = b}": "(record b 1@5 a 2@12 c b@19)@0", "{a = {a = {}}}": "(record a (record a (record)@10)@5)@0", "{x = fun x -> x, y = if a then b else c < d}": "(record x (fun x x@14)@5 y (if a@24 b@31 (< c@38 d@42)@40)@21)@0",
		// Cases.
		"case x of A y -> y end": "(case x@5 A y y@17)@0", "case x of B y -> y | A y -> 1 | C x -> x end": "(case x@5 B y y@17 A y 1@28 C x x@39)@0",
		"case case x of A x -> x end of A x -> case y of B y -> y end | C z -> fun w -> w end": "(case (case x@10 A x x@22)@5 A x (case y@43 B y y@55)@38 C z (fun w w@79)@70)@0", "case let x = 1 in x of A x -> let y = 1 in y | B y -> if a then b else c end": "(case (let x 1@13 x@18)@5 A x (let y 1@38 y@43)@30 B y (if a@57 b@64 c@71)@54)@0",
		// Round brackets are no node.
		"(x)": "x@1", "(((x)))": "x@3", "( ( 1 ) + ( 2 ) )": "(+ 1@4 2@12)@8", "(fun x -> x)": "(fun x x@10)@1", "((1)).a": "(get a 1@2)@5",
		// What is within an expr goes on as far as it may.
		"fun x -> x < y": "(fun x (< x@9 y@13)@11)@0", "let x = 1 in x + 1": "(let x 1@8 (+ x@13 1@17)@15)@0", "if a then b else c == d": "(if a@3 b@10 (== c@17 d@22)@19)@0", "fun f -> f fun_ x": "(fun f (app (app f@9 fun_@11)@9 x@16)@9)@0",
		"if a < b then c else d": "(if (< a@3 b@7)@5 c@14 d@21)@0",
	} {
		wantTree(t, s, want)
	}
}

// 7.1, each field of each node of one program that has all kinds.
func TestWhatIsRead(t *testing.T) {
	e, place, err := parse.Parse(`let rec f = fun x -> if x < ~1 then A {n = "s", m = true}.n else case f x of A y -> y | B z -> 2 end in let g = f in g`)
	want := []api.Node{
		{Kind: api.EVar, Name: "x", Pos: 24},
		{Kind: api.EInt, N: -1, Pos: 28},
		{Kind: api.EPrim, N: api.PLess, A: 0, B: 1, Pos: 26},
		{Kind: api.EStr, S: "s", Pos: 43},
		{Kind: api.EBool, N: 1, Pos: 52},
		{Kind: api.ERecord, L: []api.Field{{Name: "n", At: 3}, {Name: "m", At: 4}}, Pos: 38},
		{Kind: api.EGet, Name: "n", A: 5, Pos: 57},
		{Kind: api.ETag, Name: "A", A: 6, Pos: 36},
		{Kind: api.EVar, Name: "f", Pos: 70},
		{Kind: api.EVar, Name: "x", Pos: 72},
		{Kind: api.EApp, A: 8, B: 9, Pos: 70},
		{Kind: api.EVar, Name: "y", Pos: 84},
		{Kind: api.EInt, N: 2, Pos: 95},
		{Kind: api.ECase, A: 10, L: []api.Field{{Name: "A", Var: "y", At: 11}, {Name: "B", Var: "z", At: 12}}, Pos: 65},
		{Kind: api.EIf, A: 2, B: 7, C: 13, Pos: 21},
		{Kind: api.EFun, Name: "x", A: 14, Pos: 12},
		{Kind: api.EVar, Name: "f", Pos: 112},
		{Kind: api.EVar, Name: "g", Pos: 117},
		{Kind: api.ELet, Name: "g", A: 16, B: 17, Pos: 104},
		{Kind: api.ERec, Name: "f", A: 15, B: 18, Pos: 0},
	}
	if err != api.OK || place != 0 || !reflect.DeepEqual(e.L, want) {
		t.Errorf("%v, %d, %d, want %v", e.L, place, int(err), want)
	}
}

// 7.1, the example.
func TestExample(t *testing.T) {
	e, _, _ := parse.Parse("fun x -> x + 1")
	var kinds []int
	for _, n := range e.L {
		kinds = append(kinds, n.Kind)
	}
	if !slices.Equal(kinds, []int{api.EVar, api.EInt, api.EPrim, api.EFun}) {
		t.Errorf("kinds %v", kinds)
	}
}

// 7.1, 7.2, 7.3, programs that the language writes, with gaps of all kinds.
func TestWritten(t *testing.T) {
	c := &chance{now: 1}
	greater, all := 0, 0
	for range 6000 {
		w := &writer{chance: c}
		want := w.expr(1 + c.below(4))
		if w.nodes > api.MaxNodes {
			continue
		}
		w.text.WriteString(pick(c, "", " ", "\n", "# end"))
		wantTree(t, w.text.String(), want.told)
		all++
		if w.nodes > 100 {
			greater++
		}
	}
	if greater < 300 || all < 4000 {
		t.Errorf("too few: %d, %d of them greater ones", all, greater)
	}
}

// alphabet is a token of each kind, each keyword and each sign.
var alphabet = strings.Fields("x T 12 \"s\" 'v fun let rec in if then else case of end true false check ask top bot int bool string mu -> == ; : , . = < > + - * / ^ ( ) { } [ ] | &")

// named writes tokens, one behind the other, each name and each tag with its place as its digits, so that none stands there twice.
func named(l []string) string {
	s := ""
	for i, x := range l {
		if x == "x" || x == "T" {
			x += fmt.Sprint(i)
		}
		s += x + " "
	}
	return s
}

// 7.1, 7.2, ErrText at each place of each short row of tokens: behind all with which the language may begin, each token that there is.
func TestShortRows(t *testing.T) {
	var goOn func(l []string, w waits)
	programs := 0
	goOn = func(l []string, w waits) {
		if wantModel(t, named(l)) {
			programs++
		}
		if len(l) == 5 {
			return
		}
		for _, x := range alphabet {
			token, _, _ := lex.All(x)
			next := append(slices.Clone(l), x)
			// Tokens that stand for many are gone on from; of all others it is enough what they are next to.
			if then := w.behind(class(token[0])); len(then) > 0 && !slices.Contains([]string{"\"s\"", "true", "false", "==", "-", "^", "/"}, x) {
				goOn(next, then)
			} else {
				wantModel(t, named(next))
			}
		}
	}
	goOn(nil, begun())
	if programs < 800 {
		t.Errorf("too few programs: %d", programs)
	}
}

// longer holds programs that have each row of the language, and each within others.
var longer = []string{
	"fun x -> x", "let x = 1 in x", "let rec f = fun x -> f x in f 1", "let rec f = ( ( fun x -> x ) ) in f", "if a then b else c",
	"1 + 2 - 3 ^ 4 * 5 / 6 < 7 * 8", "1 == 2", "f x y z", "T1 x", "( T1 x . a . b ) . c", "{ }", "{ a = 1 }", "{ a = 1 , b = 2 , c = 3 }",
	"case x of T1 y -> y end", "case x of T1 y -> y | T2 z -> z | T3 w -> w end", "( x )", "( ( fun x -> x ) y ) . a",
	"let x = let y = 1 in y in let z = { a = fun w -> w } in z", "case case x of T1 y -> y end of T1 z -> case w of T2 v -> v end end",
	"let rec f = fun x -> if x < 1 then 1 else x * f ( x - 1 ) in { a = f 5 , b = T1 \"s\" }",
	"let rec f = fun x -> let rec g = fun y -> g y in g in let rec h = ( fun z -> z ) in h", "fun f -> ( fun x -> x x ) ( fun x -> f x )", "{ a = ( if a then b else c ) , b = case x of T1 y -> true end }",
}

// 7.1, 7.2, ErrText at each place of longer programs: with a token that is left out, with each other one in its place, and ahead of it, and at the end.
func TestChanged(t *testing.T) {
	for _, s := range longer {
		l := strings.Fields(s)
		if !wantModel(t, s) {
			t.Errorf("%s is no program", s)
		}
		for i := range len(l) + 1 {
			ahead, behind := strings.Join(l[:i], " "), strings.Join(l[i:], " ")
			wantModel(t, ahead)
			less := strings.Join(l[min(i+1, len(l)):], " ")
			wantModel(t, ahead+" "+less)
			for _, x := range alphabet {
				wantModel(t, ahead+" "+x+" "+behind)
				wantModel(t, ahead+" "+x+" "+less)
			}
		}
	}
}

// 7.1, ErrText spelt out: at a token, in the midst and at the end, and at the end of the text.
func TestErrText(t *testing.T) {
	for s, place := range map[string]int{
		// Nothing, or gaps and remarks alone: the end.
		"": 0, " ": 1, "# a": 3, " \n\t# let\n ": 10,
		// What the text has too little of.
		"fun": 3, "fun ": 4, "fun x": 5, "fun x -> ": 9, "let": 3, "let x": 5, "let x =": 7, "let x = 1": 9, "let x = 1 in": 12, "let rec": 7, "let rec f = fun x -> x": 22, "if": 2, "if a then b # c": 15, "if a then b else": 16,
		"1 +": 3, "1 <": 3, "1 *": 3, "A": 1, "f A": 2, "x.": 2, "(": 1, "(x": 2, "{": 1, "{a": 2, "{a =": 4, "{a = 1": 6, "{a = 1,": 7, "case": 4, "case x": 6, "case x of": 9, "case x of A": 11, "case x of A y": 13, "case x of A y ->": 16, "case x of A y -> 1": 18, "case x of A y -> 1 |": 20,
		// With which it can't go on.
		")": 0, "fun 1 -> 1": 4, "fun A -> 1": 4, "fun in -> 1": 4, "fun x = 1": 6, "let x -> 1": 6, "let 'x = 1 in x": 4, "let rec 1 = 2": 8, "let rec rec = 2": 8, "if a else b": 5, "if a then b in": 12, "1 + + 2": 4, "1 + fun x -> x": 4, "f fun x -> x": 2, "1 * let x = 1 in x": 4, "f if a then b else c": 2,
		"1 < 2 < 3": 6, "1 == 2 == 3": 7, "1 < 2 == 3": 6, "1 == 2 < 3": 7, "1 > 2": 2, "x.1": 2, "x.A": 2, "x.fun": 2, "x..a": 2, "1.5": 2, "x.a.(b)": 4, "A B 1": 2, "A 1 2": 4, "f A 1": 2, "A - 1": 2, "(1, 2)": 2, "()": 1, "(1}": 2, "{1}": 1, "{A = 1}": 1, "{a 1}": 3, "{a = 1 b = 2}": 9, "{a = 1; b = 2}": 6, "{, a = 1}": 1, "{a = 1,}": 7, "{a = 1,, b = 2}": 7, "{a == 1}": 3, "{a = 1)": 6,
		"case x of end": 10, "case x of | A y -> y end": 10, "case x of a y -> y end": 10, "case x of A 1 -> y end": 12, "case x of A B -> y end": 12, "case x of A y = y end": 14, "case x of A y -> y | end": 21, "case x of A y -> y , B z -> z end": 19, "case x of A y -> y": 18, "case x in": 7,
		"'a": 0, "x 'a": 2, "x : int": 2, "int": 0, "[1]": 0, "1 & 2": 2, "1 | 2": 2, "check x": 0, "x ask": 2, "mu": 0,
		// What stands behind the expr.
		"x;": 1, "x )": 2, "x in y": 2, "x end": 2, "fun x -> x then": 11, "let x = 1 in x in": 15, "{} }": 3, "x = 1": 2, "x -> 1": 2, "(x) , y": 4, "1 else": 2, "A x of": 4,
		// A let rec's expr that is no EFun, at its first token.
		"let rec f = 1 in f": 12, "let rec f = (1) in f": 12, "let rec f = g in f": 12, "let rec f =  ( ( (fun x -> x) 1)) in f": 13, "let rec f = (fun x -> x).a in f": 12, "let rec f = let g = fun x -> x in g in f": 12, "let rec f = if a then fun x -> x else fun x -> x in f": 12, "let rec f = {a = fun x -> x} in f": 12, "let rec f = A (fun x -> x) in f": 12,
		// It is known behind the whole expr, and so behind what is found within it, but ahead of what is behind it.
		"let rec f = 1": 12, "let rec f = 1 )": 12, "let rec f = 1 2 then": 12, "let rec f = 1 + ; in f": 16, "let rec f = (1": 14, "let rec f = A in f": 14, "let rec f = let rec g = 1 in 2 in f": 24, "let rec f = let rec g = fun x -> x in 2 in f": 12, "let rec f = fun x -> let rec g = x x in g in f": 33,
	} {
		wantRefused(t, s, place, api.ErrText)
	}
}

// 7.1, layer 4's errors, ahead of all others, wherever they stand.
func TestTokensFirst(t *testing.T) {
	long := "abcdefghijklmnopqrstu"
	deep := strings.Repeat("(", 101)
	for _, ahead := range []string{"", "x ", "1 + ", ") ", "fun fun ", "let rec f = 1 in f ", "{a = 1, a = 2} ", "x ; ", deep, strings.Repeat(" ", 1<<20+1) + "x "} {
		for _, bad := range []struct {
			s   string
			err api.Errno
		}{{"!", api.ErrText}, {"01", api.ErrText}, {"~", api.ErrText}, {`"`, api.ErrText}, {"'A", api.ErrText}, {"\xff", api.ErrText}, {long, api.ErrLong}, {strings.ToUpper(long), api.ErrLong}, {"'" + long, api.ErrLong}, {`"` + long + strings.Repeat("x", 180) + `"`, api.ErrLong}} {
			wantRefused(t, ahead+bad.s, len(ahead), bad.err)
			wantRefused(t, ahead+bad.s+" in ! )", len(ahead), bad.err)
		}
	}
}

// parts writes a record's parts p0, p1 and so on, which are told as told tells them, where the first one's name stands at that place.
func parts(many, at int) (s, want string) {
	for i := range many {
		x := fmt.Sprintf("p%02d", i)
		if i > 0 {
			s += ", "
		}
		want += fmt.Sprintf(" %s %d@%d", x, i, at+len(s)+6)
		s += fmt.Sprintf("%s = %d", x, i)
	}
	return s, want
}

// branches writes a case's branches P0, P1 and so on, told likewise.
func branches(many, at int) (s, want string) {
	for i := range many {
		x := fmt.Sprintf("P%02d", i)
		if i > 0 {
			s += " | "
		}
		want += fmt.Sprintf(" %s x %d@%d", x, i, at+len(s)+9)
		s += fmt.Sprintf("%s x -> %d", x, i)
	}
	return s, want
}

// 7.1, records and cases of as many parts as there may be, and of one more.
func TestMaxWide(t *testing.T) {
	for _, many := range []int{1, 2, 29, 30} {
		s, want := parts(many, 1)
		wantTree(t, "{"+s+"}", "(record"+want+")@0")
		s, want = branches(many, 10)
		wantTree(t, "case x of "+s+" end", "(case x@5"+want+")@0")
	}
	p, _ := parts(30, 1)
	b, _ := branches(30, 10)
	for more, err := range map[string]api.Errno{
		// At its name, whether it stands there already, or not, and whatever stands behind.
		"q = 1}": api.ErrFull, "p00 = 1}": api.ErrFull, "p29 = 1}": api.ErrFull, "q": api.ErrFull, "q ; ": api.ErrFull, "p00 p00": api.ErrFull, "q = 1, r = 2, r = 3": api.ErrFull,
		// What is no name.
		"": api.ErrText, "}": api.ErrText, "P = 1}": api.ErrText, "1}": api.ErrText, "in": api.ErrText, ", q = 1}": api.ErrText,
	} {
		wantBoth(t, "{"+p+", "+more, len(p)+3, err)
		wantBoth(t, "x ({"+p+", "+more, len(p)+6, err)
	}
	for more, err := range map[string]api.Errno{
		"Q x -> 1 end": api.ErrFull, "P00 x -> 1 end": api.ErrFull, "P29 x -> 1 end": api.ErrFull, "Q": api.ErrFull, "Q Q": api.ErrFull, "P01 = ;": api.ErrFull,
		"": api.ErrText, "end": api.ErrText, "q x -> 1 end": api.ErrText, "| Q x -> 1 end": api.ErrText,
	} {
		wantBoth(t, "case x of "+b+" | "+more, len(b)+13, err)
	}
	// It counts for each record and each case alone.
	s, want := parts(30, 1)
	wantTree(t, "{"+s+"} {p00 = 1}", "(app (record"+want+")@0 (record p00 1@"+fmt.Sprint(len(s)+10)+")@"+fmt.Sprint(len(s)+3)+")@0")
}

// 7.1, a name that stands there already, at its place.
func TestTwice(t *testing.T) {
	for s, place := range map[string]int{
		"{a = 1, a = 2}": 8, "{a = 1, b = 2, a = 3}": 15, "{a = 1, b = 2, b = 3}": 15, "{a = 1, b = 2, c = 3, b = 4, a = 5}": 22, "{a = 1, a": 8, "{a = 1, a 2": 8, "{a = 1, a = ;": 8, "{a = {b = 1, b = 2}, a = 3}": 13, "x {a = 1,   a = 2} )": 12,
		"case x of A x -> 1 | A y -> 2 end": 21, "case x of A x -> 1 | B y -> 2 | A z -> 3 end": 32, "case x of A x -> 1 | A": 21, "case x of A x -> 1 | A 1": 21, "case x of A x -> 1 | A y -> {a = 1, a = 2} end": 21, "case {a = 1, a = 2} of A x -> 1 | A x -> 2 end": 13,
		"let x = {a = 1, a = 2} in ;": 16, "let rec f = {a = 1, a = 2} in f": 20, "1 < {a = 1, a = 2} < 3": 12,
	} {
		wantBoth(t, s, place, api.ErrText)
	}
	for s, want := range map[string]string{
		// In other records and cases, and where it is another name, or no part's.
		"{a = {a = 1}, b = {a = 2}}": "(record a (record a 1@10)@5 b (record a 2@23)@18)@0", "{a = a, aa = a, b = fun a -> a}": "(record a a@5 aa a@13 b (fun a a@29)@20)@0", "{a = 1}.a {a = 2}": "(app (get a (record a 1@5)@0)@7 (record a 2@15)@10)@7",
		"case A x of A x -> case x of A x -> A x end | B x -> 1 end": "(case (tag A x@7)@5 A x (case x@24 A x (tag A x@38)@36)@19 B x 1@53)@0",
	} {
		wantTree(t, s, want)
	}
}

// nest writes an expr that is nested so many times, of what stands around each one, and its innermost one.
func nest(many int, ahead, inner, behind string) string {
	return strings.Repeat(ahead, many-1) + inner + strings.Repeat(behind, many-1)
}

// firstOf is where the first token stands of a text that begins at that place.
func firstOf(at int, s string) int { return at + len(s) - len(strings.TrimLeft(s, " ")) }

// wantRead holds Parse of s against nothing but that it is a program.
func wantRead(t *testing.T, s string) {
	t.Helper()
	e, place, err := parse.Parse(s)
	want, _ := told(e)
	wantIs(t, s, e, place, err, want)
}

// 7.1, an expr that is nested MaxDeep times, and once more, at the place of its first token, whatever stands there.
func TestNested(t *testing.T) {
	// An @ stands where an expr begins that is nested as often as the one behind, if there is one.
	for _, around := range [][2]string{
		{"(", ")"}, {"( ", " )"}, {"fun x -> ", ""}, {"let x = ", " in x"}, {"let x = @1 in ", ""}, {"if ", " then 1 else 2"}, {"if @1 then ", " else 2"}, {"if @1 then 2 else ", ""},
		{"{a = ", "}"}, {"{a = @1, b = ", ", c = 2}"}, {"case ", " of A x -> 1 end"}, {"case @1 of A x -> ", " end"}, {"case @1 of A x -> 1 | B x -> ", " | C x -> 2 end"}, {"f (", ") y"}, {"1 + (", ") * 2"}, {"A (", ")"}, {"(", ").a"}, {"1 < {a = ", "}"},
	} {
		ahead, behind := strings.Replace(around[0], "@", "", 1), around[1]
		long := len(ahead)
		one := nest(100, ahead, "x", behind)
		if _, place, err := parse.Parse(one); err == api.ErrText || err == api.ErrDeep && place != 0 {
			t.Errorf("%s: %d at %d", short(one), int(err), place)
		}
		// It is at its beginning that it is too deep, or at that of another one ahead of it.
		at := func(s string) int {
			if other := strings.Index(around[0], "@"); other >= 0 {
				return 99*long + other
			}
			return firstOf(100*long, s)
		}
		for _, inner := range []string{"x", "1", "fun x -> x", "(x)", "{}", ")", ";", "in", "'a", "fun", ""} {
			wantBoth(t, nest(101, ahead, inner, behind), at(inner+behind), api.ErrDeep)
		}
		wantBoth(t, strings.Repeat(ahead, 100), at(""), api.ErrDeep)
		wantBoth(t, strings.Repeat(ahead, 300), at(ahead), api.ErrDeep)
		wantBoth(t, strings.Repeat(ahead, 99)+";", 99*long, api.ErrText)
		wantBoth(t, strings.Repeat(ahead, 99), 99*long, api.ErrText)
		wantRefused(t, strings.Repeat(ahead, 99)+"x ;"+behind, 99*long+2, api.ErrText)
	}
	for _, around := range [][2]string{{"(", ")"}, {"fun x -> ", ""}, {"let x = ", " in x"}, {"let x = 1 in ", ""}, {"if 1 then ", " else 2"}, {"{a = ", "}"}, {"case ", " of A x -> 1 end"}, {"case 1 of A x -> ", " end"}, {"A (", ")"}, {"f (", ")"}} {
		wantRead(t, nest(100, around[0], "x", around[1]))
	}
	// A let rec's function is nested, and what it answers is nested once more.
	const rec = "let rec f = fun x -> "
	wantRead(t, nest(50, rec, "x", " in f"))
	wantRead(t, nest(50, rec, "(x)", " in f"))
	wantBoth(t, nest(50, rec, "((x))", " in f"), 49*len(rec)+2, api.ErrDeep)
	wantBoth(t, nest(51, rec, "x", " in f"), 50*len(rec), api.ErrDeep)
	wantBoth(t, strings.Repeat(rec, 50), 50*len(rec), api.ErrDeep)
	wantRead(t, nest(99, "let rec f = fun x -> x in ", "x", ""))
	wantBoth(t, nest(100, "let rec f = fun x -> x in ", "x", ""), 98*26+21, api.ErrDeep)
}

// 7.1, that an expr has ended is nested no more; what is no expr by itself is not nested.
func TestNestedNoMore(t *testing.T) {
	deep := nest(99, "(", "x", ")")
	for _, s := range []string{
		deep + " " + deep + " " + deep, deep + " + " + deep + " * " + deep + " < " + deep + ".a", "{a = " + deep + ", b = " + deep + "} " + deep, "case " + deep + " of A x -> " + deep + " | B x -> " + deep + " end",
		"let x = " + deep + " in " + deep, "if " + deep + " then " + deep + " else " + deep, "(" + deep + ") (" + deep + ")", "f" + strings.Repeat(" (x)", 90), nest(100, "(", "A x.a", ")"), nest(100, "(", "f x y + 1 * 2 < 3", ")"),
	} {
		wantRead(t, s)
	}
	// How deep one reading was says nothing of the next one, of the same reader.
	wantBoth(t, strings.Repeat("(", 100), 100, api.ErrDeep)
	wantTree(t, nest(100, "(", "x", ")"), "x@99")
	s := nest(100, "(", "x", ")")
	l, end, _ := lex.All(s + ";" + s + ";" + strings.Repeat("(", 101))
	r := lex.New(l, end)
	for k := range 2 {
		e, place, err := parse.Expr(r)
		wantIs(t, s, e, place, err, fmt.Sprint("x@", k*200+99))
		if !r.Take(api.TokSign, ";") {
			t.Errorf("%v is next", r.Peek())
		}
	}
	e, place, err := parse.Expr(r)
	wantError(t, "a third one", e, place, err, 500, api.ErrDeep)
}

// 7.1, of several errors the first one, as the text is read; at one place ErrDeep.
func TestWhichIsFirst(t *testing.T) {
	deep := strings.Repeat("(", 101)
	p, _ := parts(30, 1)
	for _, w := range []struct {
		s     string
		place int
		err   api.Errno
	}{
		{"{a = 1, a = " + deep, 8, api.ErrText}, {deep + "{a = 1, a = 2}", 100, api.ErrDeep}, {"{a = " + deep + ", a = 1}", 5 + 99, api.ErrDeep}, {") " + deep, 0, api.ErrText}, {deep + " )", 100, api.ErrDeep},
		{"{" + p + ", q = {a = 1, a = 2}}", len(p) + 3, api.ErrFull}, {"{a = 1, a = {" + p + ", q = 1}}", 8, api.ErrText}, {"x {" + p + ", p00 = 1} ;", len(p) + 5, api.ErrFull}, {"; {" + p + ", q = 1}", 0, api.ErrText},
		{"let rec f = " + deep + " in f", 12 + 99, api.ErrDeep}, {"let rec f = {" + p + ", q = 1} in f", len(p) + 15, api.ErrFull}, {"let rec f = 1 in " + deep, 12, api.ErrText}, {"let rec f = 1 in {" + p + ", q = 1}", 12, api.ErrText},
		{strings.Repeat("(", 98) + "let rec f = 1 in f", 110, api.ErrText}, {strings.Repeat("(", 99) + "let rec f = 1 in f", 111, api.ErrDeep}, {strings.Repeat("(", 100) + "let rec f = 1 in f", 100, api.ErrDeep},
	} {
		wantBoth(t, w.s, w.place, w.err)
	}
}

// halves writes a sum of so many leaves, as flat as may be: it has one node less than twice as many.
func halves(many int, leaf string) string {
	if many == 1 {
		return leaf
	}
	return "(" + halves(many/2, leaf) + " + " + halves(many-many/2, leaf) + ")"
}

// wantRoot holds Parse of a greater text against what its tree is like.
func wantRoot(t *testing.T, s string, nodes, deep int) {
	t.Helper()
	e, place, err := parse.Parse(s)
	want, _ := told(e)
	wantIs(t, s, e, place, err, want)
	if len(e.L) != nodes || tree.Depth(e) != deep {
		t.Errorf("%s: %d nodes, %d deep, want %d, %d", short(s), len(e.L), tree.Depth(e), nodes, deep)
	}
}

// 7.1, trees of MaxNodes nodes, of more, and that are MaxDeep deep, and deeper: at 0, behind all that is found as the text is read.
func TestWholeTrees(t *testing.T) {
	sum := halves(300, "x")
	wantRoot(t, sum, 599, 10)
	wantRoot(t, "fun x -> "+sum, 600, 11)
	chain := func(many int, more string) string { return "x" + strings.Repeat(more, many) }
	wantRoot(t, chain(99, " + x"), 199, 100)
	wantRoot(t, chain(99, ".a"), 100, 100)
	for s, err := range map[string]api.Errno{
		"fun x -> fun y -> " + sum: api.ErrFull, sum + " x": api.ErrFull, halves(1000, "{a = 1}"): api.ErrFull,
		chain(100, " + x"): api.ErrDeep, chain(100, ".a"): api.ErrDeep, chain(100, " x"): api.ErrDeep, chain(100, " * x"): api.ErrDeep, "fun f -> " + chain(99, ".a"): api.ErrDeep, chain(50, ".a") + chain(60, " x"): api.ErrDeep, chain(599, ".a"): api.ErrDeep, chain(299, " x"): api.ErrDeep,
		// Both: ErrFull.
		chain(300, " + x"): api.ErrFull, chain(600, ".a"): api.ErrFull, chain(5000, " x"): api.ErrFull,
	} {
		wantBoth(t, s, 0, err)
		wantBoth(t, " "+s, 0, err)
		wantRefused(t, s+" ;", len(s)+1, api.ErrText)
		wantRefused(t, s+" )", len(s)+1, api.ErrText)
		wantBoth(t, s+" + ;", len(s)+3, api.ErrText)
		wantBoth(t, s+" + {a = 1, a = 2}", len(s)+11, api.ErrText)
		wantRefused(t, s+" !", len(s)+1, api.ErrText)
	}
	// As many as there may be, and as deep as they may be.
	p := chain(98, " + x")
	p = "{a = " + p + ", b = " + p + ", c = " + p + ", d = "
	wantRoot(t, p+"(x + x + x + x).a}", 600, 100)
	wantRoot(t, p+"x + x + x + x}", 599, 100)
	wantBoth(t, p+"x + x + x + x + x}", 0, api.ErrFull)
	wantBoth(t, p+"x} x", 0, api.ErrDeep)
}

// 7.1, a Pos of 2^20, and above.
func TestPos(t *testing.T) {
	gap := func(long int) string { return strings.Repeat(" ", long) }
	const last = 1 << 20
	wantTree(t, gap(last-1)+"x", fmt.Sprint("x@", last-1))
	wantTree(t, gap(last)+"x", fmt.Sprint("x@", last))
	wantTree(t, "f "+gap(last-2)+"x", fmt.Sprint("(app f@0 x@", last, ")@0"))
	wantTree(t, "x"+gap(last-1)+".a", fmt.Sprint("(get a x@0)@", last))
	// Of tokens that are no node's place it says nothing.
	wantTree(t, "(x"+gap(last)+")", "x@1")
	wantTree(t, "{"+gap(last)+"}", "(record)@0")
	wantTree(t, "x"+gap(last-1)+"."+gap(9)+"a", fmt.Sprint("(get a x@0)@", last))
	for _, s := range []string{
		gap(last+1) + "x", gap(last+1) + "1", gap(last+1) + "fun x -> x", "f " + gap(last) + "x", "1" + gap(last) + "+ 2", "x" + gap(last) + ".a", "1 + {a = 1, b =" + gap(last) + "2}", "f" + gap(last) + "{}", gap(last-2) + "A (x)", "fun x -> " + gap(last) + "x",
		// Ahead of what May says of the tree.
		gap(last) + "x" + strings.Repeat(" + x", 100), gap(last+1) + strings.Repeat("x ", 1000), "x" + gap(last) + strings.Repeat(".a", 100), halves(400, "x") + gap(last) + "x",
	} {
		wantBoth(t, s, 0, api.ErrLong)
		// Behind what is found as the text is read.
		wantRefused(t, s+" )", len(s)+1, api.ErrText)
		wantBoth(t, s+" + {a = 1, a", len(s)+11, api.ErrText)
		deep := 100 - strings.Count(s, "fun")
		wantBoth(t, s+" + "+strings.Repeat("(", deep), len(s)+3+deep, api.ErrDeep)
	}
	for _, s := range []string{"", ")", "fun", "f )"} {
		l := gap(last+1) + s
		wantRefused(t, l, last+1+map[string]int{"fun": 3, "f )": 2}[s], api.ErrText)
	}
}
