package show_test

import (
	"fmt"
	"math"
	"slices"
	"strings"
	"testing"

	"syntagma/api"
	"syntagma/show"
	"syntagma/tree"
)

// 8.1, 8.2, each kind by itself, and sums, products, apps, tags and gets of one another.
func TestTexts(t *testing.T) {
	for text, want := range map[string]string{
		"0": "0", "12": "12", "~5": "~5", "9223372036854775807": "9223372036854775807", "~9223372036854775808": "~9223372036854775808",
		"true": "true", "false": "false", `""`: `""`, `"a"`: `"a"`, "x": "x", "_": "_", "funs": "funs", "abcdefghijklmnopqrst": "abcdefghijklmnopqrst",
		"(fun x x)": "fun x -> x", "(let x 1 x)": "let x = 1 in x", "(rec f (fun x x) f)": "let rec f = fun x -> x in f", "(if a b c)": "if a then b else c",
		"(app f x)": "f x", "(get a x)": "x.a", "(tag T x)": "T x",
		"(record)": "{}", "(record a 1)": "{a = 1}", "(record b 1 a 2)": "{b = 1, a = 2}", "(record a 1 b (record) c (fun x x))": "{a = 1, b = {}, c = fun x -> x}",
		"(case x T y y)": "case x of T y -> y end", "(case x T y 1 A z 2)": "case x of T y -> 1 | A z -> 2 end", "(case x A y 1 B y 2 C y (fun x x))": "case x of A y -> 1 | B y -> 2 | C y -> fun x -> x end",
		"(< 1 2)": "1 < 2", "(== 1 2)": "1 == 2", "(+ 1 2)": "1 + 2", "(- 1 2)": "1 - 2", "(^ 1 2)": "1 ^ 2", "(* 1 2)": "1 * 2", "(/ 1 2)": "1 / 2",
		// To the left, and not.
		"(+ (+ 1 2) 3)": "1 + 2 + 3", "(+ 1 (+ 2 3))": "1 + (2 + 3)", "(- (- 1 2) 3)": "1 - 2 - 3", "(- 1 (- 2 3))": "1 - (2 - 3)", "(^ (^ 1 2) 3)": "1 ^ 2 ^ 3", "(^ 1 (^ 2 3))": "1 ^ (2 ^ 3)",
		"(+ (^ 1 2) (- 3 4))": "1 ^ 2 + (3 - 4)", "(* (* 1 2) 3)": "1 * 2 * 3", "(* 1 (* 2 3))": "1 * (2 * 3)", "(/ (* 1 2) (/ 3 4))": "1 * 2 / (3 / 4)", "(/ 1 (* 2 3))": "1 / (2 * 3)",
		"(* (+ 1 2) 3)": "(1 + 2) * 3", "(* 1 (+ 2 3))": "1 * (2 + 3)", "(+ (* 1 2) 3)": "1 * 2 + 3", "(+ 1 (* 2 3))": "1 + 2 * 3", "(- (/ 1 2) (/ 3 4))": "1 / 2 - 3 / 4", "(^ (* 1 2) 3)": "1 * 2 ^ 3", "(/ (^ 1 2) 3)": "(1 ^ 2) / 3",
		"(< (< 1 2) 3)": "(1 < 2) < 3", "(< 1 (< 2 3))": "1 < (2 < 3)", "(== (== 1 2) 3)": "(1 == 2) == 3", "(== 1 (== 2 3))": "1 == (2 == 3)", "(< (== 1 2) (== 3 4))": "(1 == 2) < (3 == 4)",
		"(< (+ 1 2) (- 3 4))": "1 + 2 < 3 - 4", "(== (^ 1 2) (* 3 4))": "1 ^ 2 == 3 * 4", "(+ (< 1 2) 3)": "(1 < 2) + 3", "(+ 1 (< 2 3))": "1 + (2 < 3)", "(* (== 1 2) 3)": "(1 == 2) * 3", "(^ (< 1 2) (== 3 4))": "(1 < 2) ^ (3 == 4)",
		// Apps, tags and gets.
		"(app (app f x) y)": "f x y", "(app f (app x y))": "f (x y)", "(app (tag T x) y)": "(T x) y", "(app f (tag T x))": "f (T x)", "(tag T (tag U x))": "T (U x)", "(tag T (app f x))": "T (f x)", "(app (tag T x) (tag U y))": "(T x) (U y)",
		"(get b (get a x))": "x.a.b", "(get a (app f x))": "(f x).a", "(app (get a f) (get b x))": "f.a x.b", "(get a (tag T x))": "(T x).a", "(tag T (get a x))": "T x.a", "(get a (record a 1))": "{a = 1}.a", "(get a (record))": "{}.a", "(get a 1)": "1.a", "(get a ~1)": "~1.a", `(get a "s")`: `"s".a`, "(get a true)": "true.a",
		"(get a (case x T y y))": "case x of T y -> y end.a", "(app (case x T y y) (case z T y y))": "case x of T y -> y end case z of T y -> y end", "(app (record) (record))": "{} {}", "(app 1 2)": "1 2", "(app ~1 ~2)": "~1 ~2", "(app f ~9223372036854775808)": "f ~9223372036854775808", "(- ~1 ~2)": "~1 - ~2", "(tag T ~1)": "T ~1",
		"(+ (tag T 1) (tag U 2))": "T 1 + U 2", "(* (tag T 1) (tag U 2))": "T 1 * U 2", "(* (app f x) (app g y))": "f x * g y", "(app f (+ 1 2))": "f (1 + 2)", "(app (* 1 2) f)": "(1 * 2) f", "(tag T (+ 1 2))": "T (1 + 2)", "(get a (== 1 2))": "(1 == 2).a",
		// What is least tight, also at the end of another node's text.
		"(app (fun x x) (fun y y))": "(fun x -> x) (fun y -> y)", "(+ 1 (fun x x))": "1 + (fun x -> x)", "(< (if a b c) 1)": "(if a then b else c) < 1", "(< 1 (if a b c))": "1 < (if a then b else c)", "(tag T (let x 1 x))": "T (let x = 1 in x)", "(get a (rec f (fun x x) f))": "(let rec f = fun x -> x in f).a",
		"(fun x (fun y (+ x y)))": "fun x -> fun y -> x + y", "(fun x (< x (fun y y)))": "fun x -> x < (fun y -> y)", "(if (if a b c) (if d e f) (if g h i))": "if if a then b else c then if d then e else f else if g then h else i", "(let x (let y 1 y) (let z 2 z))": "let x = let y = 1 in y in let z = 2 in z",
		"(rec f (fun x (let y 1 y)) (rec g (fun z z) g))": "let rec f = fun x -> let y = 1 in y in let rec g = fun z -> z in g", "(fun x (< 1 2))": "fun x -> 1 < 2", "(if (== a b) (+ 1 2) (tag T x))": "if a == b then 1 + 2 else T x",
		"(case (case x A y y) A x (case x B z z) B x (fun x x))":              "case case x of A y -> y end of A x -> case x of B z -> z end | B x -> fun x -> x end",
		"(case (fun x x) A x (let x 1 x) B x (if a b c) C x (< 1 2))":         "case fun x -> x of A x -> let x = 1 in x | B x -> if a then b else c | C x -> 1 < 2 end",
		"(record a (fun x x) b (let x 1 x) c (if a b c) d (< 1 2) e (+ 1 2))": "{a = fun x -> x, b = let x = 1 in x, c = if a then b else c, d = 1 < 2, e = 1 + 2}",
		"(record a (tag T x) b (app f x) c (get a x) d (rec f (fun x x) f))":  "{a = T x, b = f x, c = x.a, d = let rec f = fun x -> x in f}",
	} {
		wantPrinted(t, text, read(text), want)
	}
}

// kinds is a tree of each kind, and of each operation, and its text.
var kinds = map[string][2]string{
	"number": {"12", "12"}, "least": {"~9223372036854775808", "~9223372036854775808"}, "truth": {"true", "true"}, "text": {`"s"`, `"s"`}, "name": {"n", "n"}, "none": {"(record)", "{}"}, "record": {"(record a 1)", "{a = 1}"}, "case": {"(case n A z z)", "case n of A z -> z end"},
	"get": {"(get a n)", "n.a"}, "app": {"(app n 1)", "n 1"}, "tag": {"(tag U n)", "U n"}, "*": {"(* 3 4)", "3 * 4"}, "/": {"(/ 3 4)", "3 / 4"}, "+": {"(+ 3 4)", "3 + 4"}, "-": {"(- 3 4)", "3 - 4"}, "^": {"(^ 3 4)", "3 ^ 4"}, "<": {"(< 3 4)", "3 < 4"}, "==": {"(== 3 4)", "3 == 4"},
	"fun": {"(fun z z)", "fun z -> z"}, "let": {"(let z 1 z)", "let z = 1 in z"}, "rec": {"(rec z (fun y y) z)", "let rec z = fun y -> y in z"}, "if": {"(if n 1 2)", "if n then 1 else 2"},
}

// 8.1, 8.2, each kind as a child at each place: which stand in round brackets there, and which don't.
func TestEachChildAtEachPlace(t *testing.T) {
	const open = "fun let rec if"
	const compared = open + " < =="
	const summed = compared + " + - ^"
	const product = summed + " * /"
	for _, w := range []struct{ text, want, bracketed string }{
		{"(fun x HOLE)", "fun x -> HOLE", ""}, {"(let x HOLE 1)", "let x = HOLE in 1", ""}, {"(let x 1 HOLE)", "let x = 1 in HOLE", ""}, {"(rec f (fun x x) HOLE)", "let rec f = fun x -> x in HOLE", ""}, {"(rec f (fun x HOLE) f)", "let rec f = fun x -> HOLE in f", ""},
		{"(if HOLE 1 2)", "if HOLE then 1 else 2", ""}, {"(if 1 HOLE 2)", "if 1 then HOLE else 2", ""}, {"(if 1 2 HOLE)", "if 1 then 2 else HOLE", ""},
		{"(< HOLE 1)", "HOLE < 1", compared}, {"(< 1 HOLE)", "1 < HOLE", compared}, {"(== HOLE 1)", "HOLE == 1", compared}, {"(== 1 HOLE)", "1 == HOLE", compared},
		{"(+ HOLE 1)", "HOLE + 1", compared}, {"(+ 1 HOLE)", "1 + HOLE", summed}, {"(- HOLE 1)", "HOLE - 1", compared}, {"(- 1 HOLE)", "1 - HOLE", summed}, {"(^ HOLE 1)", "HOLE ^ 1", compared}, {"(^ 1 HOLE)", "1 ^ HOLE", summed},
		{"(* HOLE 1)", "HOLE * 1", summed}, {"(* 1 HOLE)", "1 * HOLE", product}, {"(/ HOLE 1)", "HOLE / 1", summed}, {"(/ 1 HOLE)", "1 / HOLE", product},
		{"(app HOLE 1)", "HOLE 1", product + " tag"}, {"(app 1 HOLE)", "1 HOLE", product + " tag app"}, {"(tag T HOLE)", "T HOLE", product + " tag app"}, {"(get a HOLE)", "HOLE.a", product + " tag app"},
		{"(record a HOLE)", "{a = HOLE}", ""}, {"(record a HOLE b 1)", "{a = HOLE, b = 1}", ""}, {"(record a 1 b HOLE)", "{a = 1, b = HOLE}", ""},
		{"(case HOLE A x 1)", "case HOLE of A x -> 1 end", ""}, {"(case 1 A x HOLE)", "case 1 of A x -> HOLE end", ""}, {"(case 1 A x HOLE B y 2)", "case 1 of A x -> HOLE | B y -> 2 end", ""}, {"(case 1 A x 2 B y HOLE)", "case 1 of A x -> 2 | B y -> HOLE end", ""},
	} {
		bracketed := strings.Fields(w.bracketed)
		for kind, k := range kinds {
			child := k[1]
			if slices.Contains(bracketed, kind) {
				child = "(" + child + ")"
			}
			text := strings.Replace(w.text, "HOLE", k[0], 1)
			wantPrinted(t, text, read(text), strings.Replace(w.want, "HOLE", child, 1))
		}
	}
}

// 8.1, 8.2, all trees of a few nodes; no brackets stand that needn't.
func TestSmallTrees(t *testing.T) {
	pairs := 0
	for size := range 4 {
		for _, text := range smallTexts(size + 1) {
			e := read(text)
			want := wantedText(e, len(e.L)-1)
			wantPrinted(t, text, e, want)
			pairs += wantNeeded(t, e, want)
		}
	}
	if pairs < 200 {
		t.Errorf("%d pairs of brackets, want more", pairs)
	}
}

// 8.1, 8.2, greater trees, in order and not.
func TestGreaterTrees(t *testing.T) {
	c := &chance{now: 1}
	pairs, most := 0, 0
	for range 2000 {
		text := anyText(c, 2+c.below(7))
		e := read(text)
		if len(e.L) > 150 {
			continue
		}
		most = max(most, len(e.L))
		want := wantedText(e, len(e.L)-1)
		wantPrinted(t, text, e, want)
		wantPrinted(t, text+", in another order", moved(c, e), want)
		pairs += wantNeeded(t, e, want)
	}
	if pairs < 2000 || most < 100 {
		t.Errorf("%d pairs of brackets, at most %d nodes, want more", pairs, most)
	}
}

// 8.1, a tree that isn't in order.
func TestNotInOrder(t *testing.T) {
	one, two, x := api.Node{Kind: api.EInt, N: 1}, api.Node{Kind: api.EInt, N: 2}, api.Node{Kind: api.EVar, Name: "x"}
	for _, w := range []struct {
		want string
		l    []api.Node
	}{
		{"1 - 2", []api.Node{two, one, {Kind: api.EPrim, N: api.PSub, A: 1, B: 0}}},
		{"x 1 2", []api.Node{two, one, x, {Kind: api.EApp, A: 2, B: 1}, {Kind: api.EApp, A: 3, B: 0}}},
		{"if 1 then 2 else x", []api.Node{x, one, two, {Kind: api.EIf, A: 1, B: 2, C: 0}}},
		{"{b = 1, a = 2}", []api.Node{two, one, {Kind: api.ERecord, L: []api.Field{{Name: "b", At: 1}, {Name: "a", At: 0}}}}},
		{"case x of B y -> 1 | A y -> 2 end", []api.Node{two, one, x, {Kind: api.ECase, A: 2, L: []api.Field{{Name: "B", Var: "y", At: 1}, {Name: "A", Var: "y", At: 0}}}}},
		{"let rec f = fun x -> x in 1", []api.Node{one, x, {Kind: api.EFun, Name: "x", A: 1}, {Kind: api.ERec, Name: "f", A: 2, B: 0}}},
	} {
		wantPrinted(t, fmt.Sprint(w.l), api.Expr{L: w.l}, w.want)
	}
}

// 8.1, 8.2, numbers, and texts of each byte, by themselves and as children.
func TestWritings(t *testing.T) {
	wrote := func(n api.Node, want string) {
		t.Helper()
		e, x := api.Expr{L: []api.Node{n}}, read("x")
		wantPrinted(t, want, e, want)
		wantPrinted(t, want+" as a first child", tree.Join(api.Node{Kind: api.EPrim, N: api.PLess}, e, x), want+" < x")
		wantPrinted(t, want+" as a second child", tree.Join(api.Node{Kind: api.EApp}, x, e), "x "+want)
		wantPrinted(t, want+" as a get's", tree.Join(api.Node{Kind: api.EGet, Name: "a"}, e), want+".a")
		wantPrinted(t, want+" as a tag's", tree.Join(api.Node{Kind: api.ETag, Name: "T"}, e), "T "+want)
	}
	for n, want := range map[int64]string{0: "0", 1: "1", -1: "~1", 10: "10", -10: "~10", math.MaxInt64: "9223372036854775807", math.MinInt64: "~9223372036854775808", math.MinInt64 + 1: "~9223372036854775807"} {
		wrote(api.Node{Kind: api.EInt, N: n}, want)
	}
	text := func(s string) api.Node { return api.Node{Kind: api.EStr, S: s} }
	all := ""
	for b := range 256 {
		s := string([]byte{byte(b)})
		all += s
		wrote(text(s), writing(s))
		wrote(text("a"+s+"b"), writing("a"+s+"b"))
	}
	wrote(text(all[:200]), writing(all[:200]))
	wrote(text(all[56:]), writing(all[56:]))
	for s, want := range map[string]string{`"`: `"\""`, `\`: `"\\"`, "\n": `"\n"`, "\t": `"\t"`, "\r": `"\x0d"`, "\x00": `"\x00"`, "\x1f": `"\x1f"`, " ": `" "`, "~": `"~"`, "\x7f": `"\x7f"`, "\x80": `"\x80"`, "\xff": `"\xff"`, "ä": `"\xc3\xa4"`, "# x": `"# x"`, "(1 + 2)": `"(1 + 2)"`} {
		wrote(text(s), want)
	}
	for _, s := range []string{"a", "\"", "\\", "\n", "\x00", "\xff"} {
		wrote(text(strings.Repeat(s, 200)), writing(strings.Repeat(s, 200)))
		wantRefused(t, "a text of 201 bytes", api.Expr{L: []api.Node{text(strings.Repeat(s, 201))}}, api.ErrForm)
	}
}

// halves is a text of many leaves, of that word.
func halves(word string, many int, leaf string) string {
	if many == 1 {
		return leaf
	}
	return "(" + word + " " + halves(word, many/2, leaf) + " " + halves(word, many-many/2, leaf) + ")"
}

// 8.1, 8.2, trees of MaxNodes nodes, and of one more.
func TestMaxNodes(t *testing.T) {
	c := &chance{now: 2}
	wide := "(get a (record"
	for i := range 29 {
		wide += fmt.Sprintf(" a%d (case f", i)
		for k := range 8 {
			wide += fmt.Sprintf(" Abcdefghijklmnopqr%d abcdefghijklmnopqr%d (fun x 1)", k, k)
		}
		wide += ")"
	}
	for what, text := range map[string]string{
		"apps": "(fun x " + halves("app", 300, "x") + ")", "sums": "(tag T " + halves("+", 300, "~1") + ")", "products": "(get a " + halves("*", 300, "true") + ")", "compared": "(fun x " + halves("<", 300, "x") + ")", "lets": "(fun x " + halves("let x", 300, "x") + ")",
		"parts and branches": wide + " b (fun x " + halves("app", 38, "x") + ")))",
	} {
		e := read(text)
		if len(e.L) != 600 {
			t.Errorf("%s: %d nodes, want 600", what, len(e.L))
		}
		want := wantedText(e, len(e.L)-1)
		wantPrinted(t, what, e, want)
		wantPrinted(t, what+", in another order", moved(c, e), want)
		wantRefused(t, what+", and one node more", tree.Join(api.Node{Kind: api.EFun, Name: "x"}, e), api.ErrFull)
	}
}

// 8.1, 8.2, a tree of which all that is written is as long as may be.
func TestLongest(t *testing.T) {
	cases := func(many int, branch string) string {
		s := `(case "s"`
		for i := range many {
			s += fmt.Sprintf(" Abcdefghijklmnopqr%02d abcdefghijklmnopqr%02d %s", i, i, branch)
		}
		return s
	}
	e := read(cases(18, cases(30, `"s"`)+")") + " B b " + cases(20, `"s"`) + "))")
	if len(e.L) != 600 {
		t.Errorf("%d nodes, want 600", len(e.L))
	}
	for i := range e.L {
		if e.L[i].Kind == api.EStr {
			e.L[i].S = strings.Repeat("\x00", 200)
		}
	}
	want := wantedText(e, 599)
	if len(want) < 480000 {
		t.Errorf("%d bytes, want more", len(want))
	}
	wantPrinted(t, "all that is longest", e, want)
}

// 8.1, 8.2, a record of MaxWide parts, a case of MaxWide branches, and of one more.
func TestMaxWide(t *testing.T) {
	for what, w := range map[string][4]string{"record": {"(record", " a%d (fun x %d)", "{", "a%d = fun x -> %d"}, "case": {"(case 1", " A%d x (fun x %d)", "case 1 of ", "A%d x -> fun x -> %d"}} {
		text := w[0]
		var parts []string
		for i := range 30 {
			text += fmt.Sprintf(w[1], i, i)
			parts = append(parts, fmt.Sprintf(w[3], i, i))
		}
		want := map[string]string{"record": w[2] + strings.Join(parts, ", ") + "}", "case": w[2] + strings.Join(parts, " | ") + " end"}[what]
		wantPrinted(t, what, read(text+")"), want)
		wantRefused(t, what+", one more", read(text+fmt.Sprintf(w[1], 30, 30)+")"), api.ErrForm)
	}
}

// 8.1, 8.2, trees that are MaxDeep deep by each kind, and one deeper.
func TestMaxDeep(t *testing.T) {
	for what, around := range map[string][2]string{
		"fun": {"(fun x ", ")"}, "let": {"(let x ", " 1)"}, "let's second": {"(let x 1 ", ")"}, "rec's second": {"(rec f (fun x x) ", ")"}, "if": {"(if ", " 1 2)"}, "if's third": {"(if 1 2 ", ")"},
		"sum": {"(+ ", " 1)"}, "sum's second": {"(- 1 ", ")"}, "product": {"(/ ", " 1)"}, "product's second": {"(* 1 ", ")"}, "less": {"(< ", " 1)"}, "same's second": {"(== 1 ", ")"},
		"app": {"(app ", " x)"}, "app's second": {"(app x ", ")"}, "tag": {"(tag T ", ")"}, "get": {"(get a ", ")"}, "record": {"(record a ", ")"}, "case": {"(case ", " A x x)"}, "branch": {"(case 1 A x x B y ", ")"},
	} {
		text := strings.Repeat(around[0], 98) + "(tag T x)" + strings.Repeat(around[1], 98)
		e := read(text)
		if d := tree.Depth(e); d != 100 {
			t.Errorf("%s: %d deep, want 100", what, d)
		}
		want := wantedText(e, len(e.L)-1)
		wantPrinted(t, what, e, want)
		wantRefused(t, what+", one deeper", read(around[0]+text+around[1]), api.ErrDeep)
	}
	text := strings.Repeat("(rec f (fun x ", 49) + "(tag T x)" + strings.Repeat(") f)", 49)
	e := read(text)
	wantPrinted(t, "rec", e, wantedText(e, len(e.L)-1))
	wantRefused(t, "rec, one deeper", read("(tag T "+text+")"), api.ErrDeep)
	want := strings.Repeat("1 - (", 98) + "1 - x" + strings.Repeat(")", 98)
	wantPrinted(t, "in brackets", read(strings.Repeat("(- 1 ", 99)+"x"+strings.Repeat(")", 99)), want)
}

// 8.1, each error of May, and the one named first.
func TestRefused(t *testing.T) {
	x := api.Node{Kind: api.EVar, Name: "x"}
	wantRefused(t, "no nodes", api.Expr{}, api.ErrFull)
	wantRefused(t, "no nodes, but a list", api.Expr{L: []api.Node{}}, api.ErrFull)
	wantRefused(t, "many nodes that may not be", api.Expr{L: slices.Repeat([]api.Node{x}, 601)}, api.ErrFull)
	wantRefused(t, "many nodes of no kind", api.Expr{L: make([]api.Node, 601)}, api.ErrFull)
	for _, text := range []string{"(rec f x f)", "(fun X x)", "(fun fun x)", "(let let 1 x)", "(case x)", "(case x a x x)", "(case x A x x A y y)", "(case x A X x)", "(record x x x x)", "(record X x)", "(get let x)", "(tag t x)", "Y", "in"} {
		wantRefused(t, text, read(text), api.ErrForm)
	}
	for what, l := range map[string][]api.Node{
		"no kind": {{}}, "a kind too many": {x, {Kind: 15}}, "a kind below 0": {{Kind: -1}}, "no child": {x, x}, "itself": {{Kind: api.EFun, Name: "x"}}, "the root below itself": {x, {Kind: api.EApp, A: 1, B: 0}},
		"a later child": {{Kind: api.EFun, Name: "x", A: 1}, x}, "a child twice": {x, {Kind: api.EApp}}, "a child of -1": {x, {Kind: api.EFun, Name: "x", A: -1}}, "a child far off": {x, {Kind: api.EFun, Name: "x", A: math.MaxInt}},
		"two parents": {x, {Kind: api.EFun, Name: "x"}, {Kind: api.EApp, A: 0, B: 1}}, "a Pos of -1": {{Kind: api.EVar, Name: "x", Pos: -1}}, "a Pos that is too great": {{Kind: api.EVar, Name: "x", Pos: 1<<20 + 1}},
		"what does not count": {{Kind: api.EVar, Name: "x", N: 1}}, "a truth of 2": {{Kind: api.EBool, N: 2}}, "no operation": {x, x, {Kind: api.EPrim, A: 0, B: 1}}, "an operation too many": {x, x, {Kind: api.EPrim, N: 8, A: 0, B: 1}},
		"a branch that stands nowhere": {x, {Kind: api.ECase, L: []api.Field{{Name: "A", Var: "x", At: 5}}}}, "a part that binds": {x, {Kind: api.ERecord, L: []api.Field{{Name: "a", Var: "x"}}}},
	} {
		wantRefused(t, what, api.Expr{L: l}, api.ErrForm)
	}
	deep := read(strings.Repeat("(fun x ", 100) + "x" + strings.Repeat(")", 100))
	wantRefused(t, "too deep", deep, api.ErrDeep)
	deep.L[50].Name = "X"
	wantRefused(t, "too deep, and a name that is none", deep, api.ErrForm)
	deep.L = append(deep.L, make([]api.Node, 500)...)
	wantRefused(t, "too deep, too many, and names that are none", deep, api.ErrFull)
}

// 8.1, how tight a node of each kind, and of each operation, is, whatever else it has.
func TestTight(t *testing.T) {
	for _, rest := range []api.Node{{}, {A: -1, B: math.MaxInt, C: 7, Name: "let", S: "s", L: []api.Field{{Name: "a", At: -5}, {Name: "a"}}, Pos: -1}} {
		for kind, want := range map[int]int{
			api.EInt: 7, api.EBool: 7, api.EStr: 7, api.EVar: 7, api.EFun: 0, api.EApp: 5, api.ELet: 0, api.ERec: 0, api.EIf: 0, api.ERecord: 7, api.EGet: 6, api.ETag: 4, api.ECase: 7,
			0: 7, -1: 7, 15: 7, 16: 7, 100: 7, -10: 7, 266: 7, math.MinInt: 7, math.MaxInt: 7,
		} {
			for _, op := range []int64{0, 1, 3, 5, 6, 8, -1, math.MinInt64, math.MaxInt64} {
				n := rest
				n.Kind, n.N = kind, op
				if got := show.Tight(n); got != want {
					t.Errorf("Tight(%+v): %d, want %d", n, got, want)
				}
			}
		}
		for op, want := range map[int64]int{api.PAdd: 2, api.PSub: 2, api.PMul: 3, api.PDiv: 3, api.PLess: 1, api.PSame: 1, api.PJoin: 2, 0: 2, 8: 2, 9: 2, -1: 2, -3: 2, 1<<32 + 3: 2, 1<<32 + 5: 2, math.MinInt64: 2, math.MaxInt64: 2} {
			n := rest
			n.Kind, n.N = api.EPrim, op
			before := fmt.Sprintf("%#v", n)
			if got := show.Tight(n); got != want {
				t.Errorf("Tight of an EPrim of %d: %d, want %d", op, got, want)
			}
			if fmt.Sprintf("%#v", n) != before {
				t.Errorf("Tight of an EPrim of %d: what was handed in is changed", op)
			}
		}
	}
}

// 8.1, the sign of each operation, and of what is none.
func TestSign(t *testing.T) {
	for op, want := range map[int64]string{
		api.PAdd: "+", api.PSub: "-", api.PMul: "*", api.PDiv: "/", api.PLess: "<", api.PSame: "==", api.PJoin: "^",
		0: "", 8: "", 9: "", -1: "", -7: "", 1<<32 + 1: "", 257: "", math.MinInt64: "", math.MaxInt64: "",
	} {
		if got := show.Sign(op); got != want {
			t.Errorf("Sign(%d): %q, want %q", op, got, want)
		}
	}
}

// P1 and P2: a call that is refused, or not, is as it was before, however often it is made.
func TestAgain(t *testing.T) {
	e := read("(* (+ 1 (app f x)) (record a (fun x x)))")
	want := "(1 + f x) * {a = fun x -> x}"
	for range 3 {
		wantPrinted(t, "again", e, want)
		wantRefused(t, "again", api.Expr{}, api.ErrFull)
		wantRefused(t, "again", read("Y"), api.ErrForm)
	}
}
