package subst_test

import (
	"fmt"
	"slices"
	"strings"
	"testing"

	"syntagma/api"
	"syntagma/scope"
	"syntagma/subst"
	"syntagma/tree"
)

// 9.1, each kind of node, by itself, as a part, and below a tag.
func TestValue(t *testing.T) {
	c := &chance{now: 1}
	for text, want := range map[string]bool{
		"1": true, "-1": true, "true": true, "false": true, `""`: true, `"x"`: true, "(record)": true,
		"(fun x 1)": true, "(fun x x)": true, "(fun x y)": true, "(fun x (app x x))": true, "(fun x (fun y 1))": true,
		"x": false, "(app 1 2)": false, "(app (fun x x) 1)": false, "(let x 1 2)": false, "(let x 1 (fun y y))": false, "(rec f (fun x x) 1)": false, "(rec f (fun x x) f)": false,
		"(if true 1 2)": false, "(+ 1 2)": false, "(get a (record a 1))": false, "(case (tag A 1) A x 1)": false,
	} {
		wantValue(t, text, read(text), want)
		for _, around := range []string{"(tag T %s)", "(record a %s)", "(record a 1 b %s)", "(record a %s b 1)", "(record a 1 b %s c true)", "(tag T (tag U %s))", "(tag T (record a %s b (fun x y)))", "(record a (tag T %s))", "(record a 1 b (record c %s))", "(record a (record) b (record a 2 b %s))"} {
			wantValue(t, text+" in "+around, read(fmt.Sprintf(around, text)), want)
			wantValue(t, text+" in "+around+", in another order", moved(c, read(fmt.Sprintf(around, text))), want)
		}
		for _, around := range []string{"(record a x b %s)", "(record a %s b (app 1 2))", "(tag T (record a %s b x))", "(record a (tag T x) b %s)", "(get a %s)", "(app %s 1)", "(let x %s 1)", "(if %s 1 2)", "(case %s A x 1)", "(case 1 A x %s)"} {
			wantValue(t, text+" in "+around, read(fmt.Sprintf(around, text)), false)
		}
		wantValue(t, "a function of "+text, read("(fun x "+text+")"), true)
	}
	for text := range bad() {
		wantValue(t, text, read(text), false)
	}
	for what, l := range map[string][]api.Node{"no nodes": {}, "no kind": {{}}, "a kind too many": {{Kind: 15}}, "two roots": {{Kind: api.EInt}, {Kind: api.EInt}}, "a truth of 2": {{Kind: api.EBool, N: 2}}, "a text of 201 bytes": {{Kind: api.EStr, S: strings.Repeat("s", 201)}}, "a tag of itself": {{Kind: api.ETag, Name: "T"}}, "a part that is no child": {{Kind: api.ERecord, L: []api.Field{{Name: "a"}}}}, "a Pos of -1": {{Kind: api.EInt, Pos: -1}}} {
		wantValue(t, what, api.Expr{L: l}, false)
	}
}

// 9.1, values of MaxNodes nodes, MaxDeep deep, and of MaxWide parts, and one more.
func TestValueLimits(t *testing.T) {
	wide := "(record"
	for i := range 30 {
		wide += fmt.Sprintf(" a%d (tag T %d)", i, i)
	}
	wantValue(t, "30 parts", read(wide+")"), true)
	wantValue(t, "30 parts, the last of which is none", read(strings.Replace(wide, "(tag T 29)", "x", 1)+")"), false)
	wantValue(t, "31 parts", read(wide+" b 1)"), false)
	deep := strings.Repeat("(tag T ", 99) + "1" + strings.Repeat(")", 99)
	wantValue(t, "100 deep", read(deep), true)
	wantValue(t, "100 deep, with a name", read(strings.Replace(deep, "1", "x", 1)), false)
	wantValue(t, "101 deep", read("(tag T "+deep+")"), false)
	many := "(fun x " + halves(299, "1") + ")"
	wantValue(t, "600 nodes", read("(record a 1 b "+many+")"), true)
	wantValue(t, "601 nodes", read("(tag T (record a 1 b "+many+"))"), false)
}

// 9.2, x free once, several times, nowhere, bound by each kind of binder, and free beside that.
func TestPut(t *testing.T) {
	c := &chance{now: 2}
	for _, w := range [][2]string{
		// Each kind of node.
		{"1", "1"}, {"true", "true"}, {`"x"`, `"x"`}, {"x", "%"}, {"y", "y"}, {"xx", "xx"}, {"(record)", "(record)"},
		{"(app x 1)", "(app % 1)"}, {"(app 1 x)", "(app 1 %)"}, {"(app x x)", "(app % %)"}, {"(app y x)", "(app y %)"},
		{"(if x 1 2)", "(if % 1 2)"}, {"(if 1 x 2)", "(if 1 % 2)"}, {"(if 1 2 x)", "(if 1 2 %)"}, {"(if x x x)", "(if % % %)"}, {"(+ x x)", "(+ % %)"}, {"(- 1 x)", "(- 1 %)"},
		{"(record a x)", "(record a %)"}, {"(record x x y y)", "(record x % y y)"}, {"(record y y x x)", "(record y y x %)"}, {"(get x x)", "(get x %)"}, {"(get x y)", "(get x y)"}, {"(tag X x)", "(tag X %)"},
		{"(case x A y 1)", "(case % A y 1)"}, {"(case 1 A y x)", "(case 1 A y %)"}, {"(case x X y x Y z x)", "(case % X y % Y z %)"},
		{"(fun y x)", "(fun y %)"}, {"(let y x x)", "(let y % %)"}, {"(rec f (fun y x) x)", "(rec f (fun y %) %)"},
		// Each kind of binder, and x free beside that.
		{"(fun x x)", "(fun x x)"}, {"(app x (fun x x))", "(app % (fun x x))"}, {"(app (fun x x) x)", "(app (fun x x) %)"}, {"(fun y (app x (fun x (app x y))))", "(fun y (app % (fun x (app x y))))"},
		{"(let x 1 x)", "(let x 1 x)"}, {"(let x x 1)", "(let x % 1)"}, {"(let x x x)", "(let x % x)"}, {"(let x (let x x x) x)", "(let x (let x % x) x)"}, {"(let y x (let x x x))", "(let y % (let x % x))"}, {"(app x (let x (app x x) (app x x)))", "(app % (let x (app % %) (app x x)))"},
		{"(rec x (fun y x) 1)", "(rec x (fun y x) 1)"}, {"(rec x (fun y 1) x)", "(rec x (fun y 1) x)"}, {"(rec x (fun y x) x)", "(rec x (fun y x) x)"}, {"(rec f (fun x x) x)", "(rec f (fun x x) %)"}, {"(rec x (fun x x) x)", "(rec x (fun x x) x)"}, {"(app x (rec x (fun y x) x))", "(app % (rec x (fun y x) x))"}, {"(rec f (fun x (app f x)) (app f x))", "(rec f (fun x (app f x)) (app f %))"}, {"(rec f (fun y (app f x)) (app f x))", "(rec f (fun y (app f %)) (app f %))"},
		{"(case 1 A x x)", "(case 1 A x x)"}, {"(case x A x x)", "(case % A x x)"}, {"(case x A x x B y x)", "(case % A x x B y %)"}, {"(case x A y x B x x)", "(case % A y % B x x)"}, {"(case x A y x B x x C z x)", "(case % A y % B x x C z %)"}, {"(case (case x A x x) B x x)", "(case (case % A x x) B x x)"},
		// The name is bound again deeper.
		{"(fun x (fun y x))", "(fun x (fun y x))"}, {"(fun x (fun x x))", "(fun x (fun x x))"}, {"(fun y (fun x (fun y x)))", "(fun y (fun x (fun y x)))"}, {"(fun y (app x (fun z (app x (fun x (fun w x))))))", "(fun y (app % (fun z (app % (fun x (fun w x))))))"},
		{"(fun x (let x x x))", "(fun x (let x x x))"}, {"(let x (fun x x) (fun y x))", "(let x (fun x x) (fun y x))"}, {"(case 1 A x (case x B y x))", "(case 1 A x (case x B y x))"}, {"(record a (fun x x) b (tag T (get x (app x x))))", "(record a (fun x x) b (tag T (get x (app % %))))"},
	} {
		for _, value := range []string{"5", "true", `"s"`, "(record)", "(fun x x)", "(fun y (fun x (app x y)))", "(record x 1 y (tag A (fun z z)))", "(tag X (fun x (let x x x)))", "(app (fun x x) 1)", "(let x 1 (app x x))", "(rec x (fun y (app x y)) x)", "(case (tag A 1) A x x)", "(if true (+ 1 2) 3)"} {
			e, v := read(w[0]), read(value)
			want := read(strings.ReplaceAll(w[1], "%", value))
			what := value + " for x in " + w[0]
			wantPut(t, what, e, "x", v, want, api.OK)
			wantPut(t, what+", in other orders", moved(c, e), "x", moved(c, v), want, api.OK)
		}
	}
	wantPut(t, "5 for x in x + x", read("(+ x x)"), "x", read("5"), read("(+ 5 5)"), api.OK)
}

// 9.2, each name stays as long as it may be, and is held whole.
func TestPutNames(t *testing.T) {
	long := strings.Repeat("a", 19)
	for _, x := range []string{"y", "_", "_1", "xX", "x_", "fun_", "inn", long + "b"} {
		for _, other := range []string{"x", "__", "_2", "xx", "X", "fun", "in", long, long + "c"} {
			e := tree.Join(api.Node{Kind: api.EApp}, read(x), tree.Join(api.Node{Kind: api.ERecord, L: []api.Field{{Name: x}}}, read(x)))
			want := read(fmt.Sprintf("(app 1 (record %s 1))", x))
			wantPut(t, x, e, x, read("1"), want, api.OK)
			wantPut(t, other+" for "+x, e, "z", read("1"), e, api.OK)
		}
		wantPut(t, "another name than "+x, read("(app x "+long+")"), x, read("1"), read("(app x "+long+")"), api.OK)
	}
}

// 9.2, each Pos stays as it is, in both.
func TestPutPos(t *testing.T) {
	wantPut(t, "a name", read("x@3"), "x", read("5@9"), read("5@9"), api.OK)
	wantPut(t, "two names", read("(+@4 x@3 x@1048576)"), "x", read("(app@7 (fun@8 y y@9) 1)"), read("(+@4 (app@7 (fun@8 y y@9) 1) (app@7 (fun@8 y y@9) 1))"), api.OK)
	wantPut(t, "beside what is bound", read("(let@1 x (app@2 x@3 y@4) (case@5 x@6 A x x@7 B z z@9))"), "x", read("(record@10 a 5@11)"), read("(let@1 x (app@2 (record@10 a 5@11) y@4) (case@5 x@6 A x x@7 B z z@9))"), api.OK)
	wantPut(t, "nothing", read("(fun@1 x x@2)"), "x", read("5@9"), read("(fun@1 x x@2)"), api.OK)
}

// 9.2, 9.4, all trees of a few nodes.
func TestSmallTrees(t *testing.T) {
	c := &chance{now: 3}
	for size := 1; size <= 4; size++ {
		for _, text := range smallTexts(size) {
			e := marked(read(text), 100)
			for _, value := range []string{"7", "(fun x (fun y (app x y)))"} {
				for _, x := range []string{"x", "y", "z"} {
					wantModel(t, c, fmt.Sprintf("%s for %s in %s", value, x, text), e, x, marked(read(value), 500))
				}
			}
			wantValue(t, text, e, wantedValue(e, len(e.L)-1))
			wantValue(t, text+", in another order", moved(c, e), wantedValue(e, len(e.L)-1))
		}
	}
}

// wantModel holds Put of trees that may be, where what is made may be too, against the model, and the name against being free then.
func wantModel(t *testing.T, c *chance, what string, e api.Expr, x string, v api.Expr) {
	t.Helper()
	want, many := wantedPut(e, len(e.L)-1, x, v)
	wantPut(t, what, e, x, v, want, api.OK)
	f := moved(c, e)
	wantPut(t, what+", in other orders", f, x, moved(c, v), want, api.OK)
	got, _ := subst.Put(f, x, v)
	if free, err := scope.Free(got); err != api.OK || slices.Contains(free, x) {
		t.Errorf("%s: free are %q, error %d", short(what), free, int(err))
	}
	in, _ := tree.Norm(f)
	if many == 0 && shown(got) != shown(in) {
		t.Errorf("%s: %s, where the name is not free", short(what), short(shown(got)))
	}
}

// 9.1, 9.2, 9.4, greater trees, in which names are bound again and again.
func TestGreaterTrees(t *testing.T) {
	c := &chance{now: 4}
	times := map[int]int{}
	for range 3000 {
		text := anyText(c, 2+c.below(5))
		e := marked(read(text), 1)
		if len(e.L) > 120 {
			continue
		}
		value := "(fun z (fun y (fun x " + anyText(c, 3) + ")))"
		x := pick(c, "x", "y", "z")
		_, many := wantedPut(e, len(e.L)-1, x, e)
		v := marked(read(value), 1000)
		wantValue(t, text, e, wantedValue(e, len(e.L)-1))
		if len(e.L)+many*(len(v.L)-1) > 600 {
			wantPut(t, text, e, x, v, api.Expr{}, api.ErrFull)
			continue
		}
		times[min(many, 3)]++
		wantModel(t, c, fmt.Sprintf("%s for %s in %s", value, x, text), e, x, v)
	}
	if times[0] < 100 || times[1] < 100 || times[2] < 100 || times[3] < 100 {
		t.Errorf("too few trees in which the name is free that often: %v", times)
	}
}

// 9.2, x is no name, and v is not closed.
func TestPutWrong(t *testing.T) {
	c := &chance{now: 5}
	none := api.Expr{}
	for _, x := range []string{"", "X", "Tag", "fun", "let", "rec", "in", "of", "end", "true", "mu", "check", "1", "1x", "x y", " x", "x ", "'x", "x'", "x\n", "ä", "xä", "x.a", "\x00", strings.Repeat("a", 21), strings.Repeat("a", 100)} {
		for _, text := range []string{"x", "1", "(fun x x)"} {
			wantPut(t, fmt.Sprintf("%q, which is no name, in %s", x, text), read(text), x, read("1"), none, api.ErrArg)
		}
		wantPut(t, fmt.Sprintf("%q, and what is not closed", x), read("x"), x, read("y"), none, api.ErrArg)
	}
	for _, value := range []string{"x", "y", "(fun x y)", "(app (fun x x) x)", "(let x x x)", "(rec f (fun x x) x)", "(case x A x x)", "(case 1 A x x B y x)", "(record a 1 b x)"} {
		for _, text := range []string{"x", "(app x y)", "1", "(fun x x)", "(fun y x)"} {
			wantPut(t, value+", which is not closed, in "+text, read(text), "x", read(value), none, api.ErrScope)
			wantPut(t, value+", which is not closed, in another order, in "+text, read(text), "x", moved(c, read(value)), none, api.ErrScope)
		}
	}
	// What is made would have too many nodes, too: what is wrong with x, and with v, is told first.
	e := read("(fun y " + halves(300, "x") + ")")
	wantPut(t, "no name, and too many nodes", e, "X", read("(tag T 1)"), none, api.ErrArg)
	wantPut(t, "not closed, and too many nodes", e, "x", read("(tag T y)"), none, api.ErrScope)
}

// 9.2, each of May's errors, of e, of v, and of both.
func TestPutRefused(t *testing.T) {
	one := read("1")
	for text, err := range bad() {
		e := read(text)
		wantPut(t, "in "+short(text), e, "x", one, api.Expr{}, err)
		wantPut(t, short(text)+" for x", read("x"), "x", e, api.Expr{}, err)
		wantPut(t, short(text)+" for x, which stands nowhere", one, "x", e, api.Expr{}, err)
		wantPut(t, "for no name in "+short(text), e, "X", one, api.Expr{}, err)
		wantPut(t, "what is not closed in "+short(text), e, "x", read("y"), api.Expr{}, err)
		wantPut(t, short(text)+" for no name", one, "X", e, api.Expr{}, err)
		for other := range bad() {
			wantPut(t, short(other)+" in "+short(text), e, "x", read(other), api.Expr{}, err)
		}
	}
	for what, l := range map[string][]api.Node{"no nodes": nil, "an empty list": {}, "601 nodes": make([]api.Node, 601)} {
		wantPut(t, "in "+what, api.Expr{L: l}, "x", one, api.Expr{}, api.ErrFull)
		wantPut(t, what+" for x", one, "x", api.Expr{L: l}, api.Expr{}, api.ErrFull)
		wantPut(t, what+" for no name", one, "", api.Expr{L: l}, api.Expr{}, api.ErrFull)
	}
	// A v that names itself free is not closed, but that it may not be is told first.
	wantPut(t, "neither", one, "x", read("(fun X y)"), api.Expr{}, api.ErrForm)
}

// 9.2, what is made has MaxNodes nodes, and more.
func TestPutMaxNodes(t *testing.T) {
	for _, w := range []struct {
		e, v string
		err  api.Errno
	}{
		{"(fun y " + halves(300, "x") + ")", "1", api.OK},
		{"(tag T " + halves(299, "x") + ")", "1", api.OK},
		{halves(300, "x"), "(tag T 1)", api.ErrFull},
		{halves(200, "x"), "(tag T 1)", api.OK},
		{halves(150, "x"), "(tag T (tag U 1))", api.OK},
		{"(tag T " + halves(200, "x") + ")", "(tag T 1)", api.OK},
		{"(tag T (tag T " + halves(200, "x") + "))", "(tag T 1)", api.ErrFull},
		{halves(201, "x"), "(tag T 1)", api.ErrFull},
		{"(fun y x)", "(fun y " + halves(299, "1") + ")", api.OK},
		{"(fun y (fun y x))", "(fun y " + halves(299, "1") + ")", api.OK},
		{"(fun y (fun y (fun y x)))", "(fun y " + halves(299, "1") + ")", api.ErrFull},
		{"(fun y x)", "(fun y " + halves(300, "1") + ")", api.ErrFull},
		{"x", "(fun y " + halves(300, "1") + ")", api.OK},
		{"y", "(fun y " + halves(300, "1") + ")", api.OK},
		{"(fun y " + halves(300, "x") + ")", "(fun y " + halves(300, "1") + ")", api.ErrFull},
		{"(fun x " + halves(300, "x") + ")", "(fun y " + halves(300, "1") + ")", api.OK},
	} {
		e, v := read(w.e), read(w.v)
		want, many := wantedPut(e, len(e.L)-1, "x", v)
		what := fmt.Sprintf("%d nodes at %d places of %d", len(v.L), many, len(e.L))
		if full := len(want.L) > 600; full != (w.err == api.ErrFull) {
			t.Errorf("%s: makes %d nodes", what, len(want.L))
		}
		if w.err != api.OK {
			want = api.Expr{}
		}
		wantPut(t, what, e, "x", v, want, w.err)
	}
}

// 9.2, what is made is MaxDeep deep, and deeper, and also has too many nodes.
func TestPutMaxDeep(t *testing.T) {
	tags := func(many int, s string) string {
		return strings.Repeat("(tag T ", many) + s + strings.Repeat(")", many)
	}
	for _, w := range []struct {
		e, v int
		err  api.Errno
	}{{99, 0, api.OK}, {0, 99, api.OK}, {98, 1, api.OK}, {1, 98, api.OK}, {50, 49, api.OK}, {99, 1, api.ErrDeep}, {1, 99, api.ErrDeep}, {50, 50, api.ErrDeep}, {99, 99, api.ErrDeep}} {
		e, v := read(tags(w.e, "x")), read(tags(w.v, "1"))
		want := api.Expr{}
		if w.err == api.OK {
			want = read(tags(w.e+w.v, "1"))
		}
		wantPut(t, fmt.Sprintf("%d in %d", w.v, w.e), e, "x", v, want, w.err)
		beside := read("(app (fun x " + tags(97, "x") + ") y)")
		wantPut(t, "where it is bound", beside, "x", v, beside, api.OK)
	}
	// Not the deepest place is the one where it gets too deep.
	wantPut(t, "beside the deepest", read("(app "+tags(98, "y")+" "+tags(40, "x")+")"), "x", read(tags(59, "1")), api.Expr{}, api.ErrDeep)
	wantPut(t, "beside the deepest, as deep", read("(app "+tags(98, "y")+" "+tags(40, "x")+")"), "x", read(tags(58, "1")), read("(app "+tags(98, "y")+" "+tags(98, "1")+")"), api.OK)
	wantPut(t, "too many, and too deep", read(tags(60, halves(7, "x"))), "x", read(tags(90, "1")), api.Expr{}, api.ErrFull)
	wantPut(t, "not too many, but too deep", read(tags(60, halves(5, "x"))), "x", read(tags(90, "1")), api.Expr{}, api.ErrDeep)
}

// 9.3, where f is x, and where it isn't.
func TestUnfold(t *testing.T) {
	c := &chance{now: 6}
	for _, w := range [][2]string{
		// A function of another name: the let rec stands in it again.
		{"(rec@9 f (fun@7 x x@5) f@3)", "(fun@7 x (rec@9 f (fun@7 x x@5) x@5))"},
		{"(rec@9 f (fun@7 x 1@5) 2@3)", "(fun@7 x (rec@9 f (fun@7 x 1@5) 1@5))"},
		{"(rec@9 f (fun@7 x (app@6 f@5 x@4)) (app@3 f@2 1@1))", "(fun@7 x (rec@9 f (fun@7 x (app@6 f@5 x@4)) (app@6 f@5 x@4)))"},
		{"(rec@9 f (fun@7 x f@5) x@3)", "(fun@7 x (rec@9 f (fun@7 x f@5) f@5))"},
		{"(rec@1 f (fun@2 x y@3) (app@4 y@5 z@6))", "(fun@2 x (rec@1 f (fun@2 x y@3) y@3))"},
		// f, x, or both, are bound again in b and in B.
		{"(rec@9 f (fun@7 x (fun@6 f f@5)) f@3)", "(fun@7 x (rec@9 f (fun@7 x (fun@6 f f@5)) (fun@6 f f@5)))"},
		{"(rec@9 f (fun@7 x (fun@6 x x@5)) (fun@4 x x@3))", "(fun@7 x (rec@9 f (fun@7 x (fun@6 x x@5)) (fun@6 x x@5)))"},
		{"(rec@9 f (fun@7 x (let@6 x f@5 (let@4 f x@3 (app@2 f@1 x@1)))) (fun@8 f f@8))", "(fun@7 x (rec@9 f (fun@7 x (let@6 x f@5 (let@4 f x@3 (app@2 f@1 x@1)))) (let@6 x f@5 (let@4 f x@3 (app@2 f@1 x@1)))))"},
		{"(rec@9 f (fun@7 x (rec@6 x (fun@5 f (app@4 x@3 f@2)) f@1)) x@8)", "(fun@7 x (rec@9 f (fun@7 x (rec@6 x (fun@5 f (app@4 x@3 f@2)) f@1)) (rec@6 x (fun@5 f (app@4 x@3 f@2)) f@1)))"},
		{"(rec@9 f (fun@7 x (case@6 x@5 A f f@4 B x x@3)) 1)", "(fun@7 x (rec@9 f (fun@7 x (case@6 x@5 A f f@4 B x x@3)) (case@6 x@5 A f f@4 B x x@3)))"},
		// A function of the same name does not call itself.
		{"(rec@9 f (fun@7 f f@5) f@3)", "(fun@7 f f@5)"}, {"(rec@9 f (fun@7 f 1@5) 2@3)", "(fun@7 f 1@5)"}, {"(rec@9 f (fun@7 f (app@6 f@5 x@4)) (app@3 f@2 x@1))", "(fun@7 f (app@6 f@5 x@4))"}, {"(rec@9 f (fun@7 f (rec@6 f (fun@5 x f@4) f@3)) f@2)", "(fun@7 f (rec@6 f (fun@5 x f@4) f@3))"},
		{"(rec@1048576 f (fun@1048576 x 1) 2)", "(fun@1048576 x (rec@1048576 f (fun@1048576 x 1) 1))"},
	} {
		e, want := read(w[0]), read(w[1])
		wantUnfold(t, w[0], e, want, api.OK)
		for range 5 {
			wantUnfold(t, w[0]+", in another order", moved(c, e), want, api.OK)
		}
	}
}

// 9.3, all small let recs, and greater ones.
func TestUnfoldMany(t *testing.T) {
	c := &chance{now: 7}
	var l []string
	for size := 4; size <= 5; size++ {
		for _, text := range smallTexts(size) {
			if strings.HasPrefix(text, "(rec ") {
				l = append(l, text)
			}
		}
	}
	for range 1000 {
		l = append(l, anyRec(c, 2+c.below(4)))
	}
	for _, text := range l {
		e := marked(read(text), 3)
		if len(e.L) > 120 {
			continue
		}
		want := wantedUnfold(e)
		wantUnfold(t, text, e, want, api.OK)
		wantUnfold(t, text+", in another order", moved(c, e), want, api.OK)
		free := wantedFree(e, e.L[len(e.L)-1].A)
		delete(free, e.L[len(e.L)-1].Name)
		got, _ := subst.Unfold(e)
		if names, _ := scope.Free(got); len(names) != len(free) || slices.ContainsFunc(names, func(x string) bool { return !free[x] }) {
			t.Errorf("%s: free are %q, want %v", text, names, free)
		}
		if !subst.Value(got) {
			t.Errorf("%s: what it stands for is no value", text)
		}
	}
}

// 9.3, a root that is no let rec, and trees that may not be.
func TestUnfoldWrong(t *testing.T) {
	for _, text := range []string{"1", "true", `"s"`, "x", "(fun x x)", "(app (rec f (fun x x) f) 1)", "(let f (fun x x) f)", "(fun y (rec f (fun x x) f))", "(if true 1 2)", "(+ 1 2)", "(record)", "(record a (rec f (fun x x) f))", "(get a x)", "(tag T (rec f (fun x x) f))", "(case (rec f (fun x x) f) A x x)"} {
		wantUnfold(t, text, read(text), api.Expr{}, api.ErrArg)
	}
	for text, err := range bad() {
		wantUnfold(t, short(text), read(text), api.Expr{}, err)
	}
	f := "(rec f (fun x %s) %s)"
	wantUnfold(t, "no nodes", api.Expr{}, api.Expr{}, api.ErrFull)
	wantUnfold(t, "601 nodes", read(fmt.Sprintf(f, "1", "(tag T "+halves(299, "1")+")")), api.Expr{}, api.ErrFull)
	wantUnfold(t, "101 deep", read(fmt.Sprintf(f, "1", strings.Repeat("(tag T ", 99)+"1"+strings.Repeat(")", 99))), api.Expr{}, api.ErrDeep)
	wantUnfold(t, "no name", read("(rec F (fun x 1) 2)"), api.Expr{}, api.ErrForm)
	wantUnfold(t, "no function", read("(rec f 1 2)"), api.Expr{}, api.ErrForm)
}

// 9.3, what is made has MaxNodes nodes and is MaxDeep deep, and more.
func TestUnfoldLimits(t *testing.T) {
	tags := func(many int, s string) string {
		return strings.Repeat("(tag T ", many) + s + strings.Repeat(")", many)
	}
	// A body of that many nodes.
	body := func(many int) string {
		if many%2 == 0 {
			return "(tag T " + halves(many/2, "1") + ")"
		}
		return halves((many+1)/2, "1")
	}
	for _, w := range []struct {
		f, x, b, rest string
		err           api.Errno
	}{
		// A body of 298 nodes, twice, is 599 nodes with two funs and a let rec; one of 299 is 601.
		{"f", "x", body(298), "1", api.OK}, {"f", "x", body(299), "1", api.ErrFull}, {"f", "x", body(500), "f", api.ErrFull},
		{"f", "x", "1", body(596), api.OK}, {"f", "f", body(298), "f", api.OK}, {"f", "f", body(299), "f", api.OK}, {"f", "f", body(597), "1", api.OK},
		// A body that is 97 deep is 100 deep below a fun, a let rec, and a fun; one that is deeper is too deep.
		{"f", "x", tags(96, "x"), "1", api.OK}, {"f", "x", tags(97, "x"), "1", api.ErrDeep}, {"f", "f", tags(97, "f"), "1", api.OK}, {"f", "x", "1", tags(98, "1"), api.OK},
		// Both.
		{"f", "x", tags(89, halves(150, "1")), "1", api.ErrFull},
	} {
		e := read(fmt.Sprintf("(rec %s (fun %s %s) %s)", w.f, w.x, w.b, w.rest))
		what := fmt.Sprintf("%s, %s, %d nodes, %d deep", w.f, w.x, len(e.L), tree.Depth(e))
		want := api.Expr{}
		if w.err == api.OK {
			want = wantedUnfold(e)
		} else if may := tree.May(wantedUnfold(e)); may != w.err {
			t.Errorf("%s: May of what is made is %d, want %d", what, int(may), int(w.err))
		}
		wantUnfold(t, what, e, want, w.err)
	}
}

// P1 and the rules: what was handed out is the caller's own, and shares nothing with what was handed in.
func TestAnswersAreNew(t *testing.T) {
	c := &chance{now: 8}
	e := moved(c, read(`(rec f (fun y (case x A x (record a "s" b x) B z (app f x))) (app x (record x x)))`))
	v := moved(c, read(`(record a (fun y (app y y)) b (case (tag T 1) T z "t"))`))
	put := func() (api.Expr, api.Expr) {
		got, _ := subst.Put(e, "x", v)
		same, _ := subst.Put(e, "other", v)
		return got, same
	}
	unfold := func() api.Expr { got, _ := subst.Unfold(e); return got }
	first, same := put()
	fun := unfold()
	want, wantSame, wantFun := shown(first), shown(same), shown(fun)
	wantOwn(t, "Put", first, e, v)
	wantOwn(t, "Put where the name is not free", same, e, v)
	wantOwn(t, "Unfold", fun, e)
	second, again := put()
	if shown(second) != want || shown(again) != wantSame || shown(unfold()) != wantFun {
		t.Errorf("answers are others after the first ones were changed")
	}
	// The places that v is put in at share nothing either.
	third, _ := put()
	lists := map[*api.Field]int{}
	for i, n := range third.L {
		if len(n.L) == 0 {
			continue
		}
		if j, ok := lists[&n.L[0]]; ok {
			t.Errorf("the nodes %d and %d have one list", i, j)
		}
		lists[&n.L[0]] = i
	}
	if len(lists) < 5 {
		t.Errorf("%d nodes have a list, want more", len(lists))
	}
}
