package scope_test

import (
	"fmt"
	"slices"
	"strings"
	"testing"

	"syntagma/api"
	"syntagma/scope"
	"syntagma/tree"
)

// 6.1, 6.2, each kind of binder, in its reach and out of it, and what binds nothing.
func TestBinders(t *testing.T) {
	c := &chance{now: 1}
	for text, binders := range map[string]string{
		// One node.
		"1": ".", "true": ".", `"x"`: ".", "x": "-", "(record)": ".",
		// An EFun's A.
		"(fun x x)": "1 .", "(fun x y)": "- .", "(fun x 1)": ". .",
		"(app (fun x x) x)": "1 . - .", "(app x (fun x x))": "- 2 . .", "(fun x (app x x))": "3 3 . .",
		// An ELet's B, but not its A.
		"(let x 1 x)": ". 2 .", "(let x x 1)": "- . .", "(let x x x)": "- 2 .", "(let x 1 y)": ". - .",
		"(app (let x 1 2) x)": ". . . - .", "(let x (fun y x) (fun y x))": "- . 4 . .", "(let f f (app f f))": "- 4 4 . .",
		// An ERec's A and B.
		"(rec f (fun x (app f x)) f)": "5 3 . . 5 .", "(rec f (fun x 1) 2)": ". . . .", "(rec f (fun x g) g)": "- . - .",
		"(app (rec f (fun x f) f) f)": "3 . 3 . - .", "(app (rec f (fun x x) x) x)": "1 . - . - .",
		// Each branch of an ECase, but not its A.
		"(case 1 A x x)": ". 2/0 .", "(case x A x x)": "- 2/0 .", "(case x A x 1)": "- . .",
		"(case 1 A x x B y y)": ". 3/0 3/1 .", "(case 1 A x y B y x)": ". - - .", "(case x A x x B y x C x x)": "- 4/0 - 4/2 .",
		"(case y A x (app x y) B y (app x y))": "- 7/0 - . - 7/1 . .", "(app (case 1 A x 2) x)": ". . . - .",
		"(case 1 A x (fun y x) B y (fun x y))": ". 5/0 . 5/1 . .", "(case 1 A x 1 B x 2 C x x)": ". . . 4/2 .",
		// A name that is bound twice: the innermost one counts, as far as it reaches.
		"(fun x (fun x x))": "1 . .", "(fun x (fun y x))": "2 . .", "(fun x (fun y (fun x (app x y))))": "3 4 . . . .",
		"(fun x (app (fun x x) x))": "1 . 4 . .", "(fun x (let x x x))": "3 2 . .", "(let x (fun x x) x)": "1 . 3 .",
		"(let x 1 (let x x x))": ". 4 3 . .", "(rec f (fun f f) f)": "1 . 3 .", "(let f 1 (rec f (fun x f) f))": ". 4 . 4 . .",
		"(fun x (case x A x x B y x))": "4 3/0 4 . .", "(case 1 A x (case x A x x) B x x)": ". 5/0 3/0 . 5/1 .",
		"(case 1 A x (case 2 A y x))": ". . 4/0 . .", "(case 1 A x (fun x x))": ". 2 . .", "(case (fun x x) A x x)": "1 . 3/0 .",
		"(rec x (fun y (let y x y)) (fun x x))": "6 2 . . 5 . .",
		// What binds nothing: names of parts, fields and tags.
		"(record x x y x)": "- - .", "(get x x)": "- .", "(tag X x)": "- .", "(case 1 X y x)": ". - .",
		"(fun x (record x x y (get x x)))": "4 4 . . .", "(fun x (get x x))": "2 . .", "(fun x (tag X x))": "2 . .",
		// Each child of what binds nothing.
		"(fun x (if x x x))": "4 4 4 . .", "(fun x (+ x x))": "3 3 . .", "(fun x (record a x b x c x))": "4 4 4 . .", "(if x x x)": "- - - .",
		// Free names, once and several times.
		"(app (app b a) (app b c))": "- - . - - . .", "(app a (let b 1 (app b a)))": "- . 5 - . . .",
		"(app (fun b b) (app c (app b (app c a))))": "1 . - - - - . . . .",
	} {
		wantMoved(t, c, text, read(text), readBinders(binders))
	}
}

// 6.2, free names by the places of their first ones, whatever the order in which the tree has them.
func TestFreeByPlaces(t *testing.T) {
	e := read("(app (app b a) (app b c))")
	for _, w := range []struct {
		order []int
		free  string
		first int
	}{
		{[]int{0, 1, 2, 3, 4, 5, 6}, "b a c", 0},
		{[]int{1, 0, 2, 3, 4, 5, 6}, "a b c", 0},
		{[]int{4, 3, 5, 1, 0, 2, 6}, "c b a", 0},
		{[]int{3, 4, 1, 0, 5, 2, 6}, "b c a", 0},
	} {
		f := moved(e, w.order)
		if l, err := scope.Free(f); err != api.OK || strings.Join(l, " ") != w.free {
			t.Errorf("Free, of nodes that stand as %v: %q, %d, want %s", w.order, l, err, w.free)
		}
		if i, err := scope.Closed(f); err != api.ErrScope || i != w.first {
			t.Errorf("Closed, of nodes that stand as %v: %d, %d, want %d, %d", w.order, i, err, w.first, api.ErrScope)
		}
	}
	// The names stand behind what is bound, and the root asks for c ahead of d.
	e = moved(read("(app c (app (fun x x) d))"), []int{1, 2, 3, 0, 4, 5})
	if l, err := scope.Free(e); err != api.OK || strings.Join(l, " ") != "d c" {
		t.Errorf("Free: %q, %d, want d c", l, err)
	}
	if i, err := scope.Closed(e); err != api.ErrScope || i != 2 {
		t.Errorf("Closed: %d, %d, want 2, %d", i, err, api.ErrScope)
	}
}

// 6.1, 6.2, all trees of a few nodes.
func TestSmallTrees(t *testing.T) {
	c := &chance{now: 2}
	for size := 1; size <= 4; size++ {
		for _, text := range smallTexts(size) {
			e := read(text)
			wantMoved(t, c, text, e, wantedBinders(e))
		}
	}
}

// 6.1, 6.2, 6.4, greater trees, in which names are bound again and again.
func TestGreaterTrees(t *testing.T) {
	c := &chance{now: 3}
	branches, many := 0, 0
	for range 3000 {
		text := anyText(c, 2+c.below(5))
		e := read(text)
		if len(e.L) > 120 {
			continue
		}
		binders := wantedBinders(e)
		wantMoved(t, c, text, e, binders)
		if slices.ContainsFunc(binders, func(b scope.Binder) bool { return b.Branch > 0 }) {
			branches++
		}
		if len(e.L) > 20 {
			many++
		}
	}
	if branches < 200 || many < 200 {
		t.Errorf("too few trees: %d with a name of a later branch, %d greater ones", branches, many)
	}
}

// 6.3, 6.4, all pairs of trees of a few nodes.
func TestAlphaOfSmall(t *testing.T) {
	var texts []string
	for size := 1; size <= 3; size++ {
		texts = append(texts, smallTexts(size)...)
	}
	for _, s := range smallTexts(4) {
		if strings.HasPrefix(s, "(rec") || strings.HasPrefix(s, "(fun x (let") || strings.HasPrefix(s, "(fun y (case") {
			texts = append(texts, s)
		}
	}
	type one struct {
		text, counted string
		e             api.Expr
		free          []string
	}
	var l []one
	for _, text := range texts {
		e := read(text)
		free, _ := scope.Free(e)
		slices.Sort(free)
		l = append(l, one{text, counted(e, len(e.L)-1, nil), e, free})
	}
	for _, a := range l {
		for _, b := range l {
			alike := scope.Alpha(a.e, b.e)
			if alike != (a.counted == b.counted) {
				t.Errorf("Alpha of %s and %s: %t", a.text, b.text, alike)
			}
			if !alike && tree.Same(a.e, b.e) || alike && !slices.Equal(a.free, b.free) {
				t.Errorf("%s and %s: alike %t, free %q and %q", a.text, b.text, alike, a.free, b.free)
			}
		}
	}
}

// 6.3, what is alike, whatever the names of binders and of what these bind.
func TestAlpha(t *testing.T) {
	c := &chance{now: 4}
	for _, p := range [][2]string{
		{"x", "x"}, {"1", "1"}, {"(fun x x)", "(fun y y)"}, {"(fun x 1)", "(fun y 1)"}, {"(fun x y)", "(fun z y)"},
		{"(fun x (fun y x))", "(fun y (fun x y))"}, {"(fun x (fun y y))", "(fun x (fun x x))"}, {"(fun x (fun x x))", "(fun y (fun x x))"},
		{"(app x (fun x x))", "(app x (fun y y))"}, {"(app (fun x x) (fun x x))", "(app (fun y y) (fun z z))"},
		{"(let x 1 x)", "(let y 1 y)"}, {"(let x x x)", "(let y x y)"}, {"(let x x 1)", "(let y x 1)"}, {"(let x 1 (let y 2 (app x y)))", "(let y 1 (let x 2 (app y x)))"},
		{"(rec f (fun x (app f x)) f)", "(rec g (fun f (app g f)) g)"}, {"(rec f (fun f f) f)", "(rec g (fun x x) g)"}, {"(rec f (fun x g) g)", "(rec x (fun f g) g)"},
		{"(case a A x x B y y)", "(case a A y y B x x)"}, {"(case a A x x B y y)", "(case a A z z B z z)"}, {"(case x A x x B y x)", "(case x A z z B z x)"},
		{"(case 1 A x (case x B y (app x y)))", "(case 1 A y (case y B x (app y x)))"}, {"(case 1 A x 1 B y 2)", "(case 1 A y 1 B y 2)"},
		{"(fun x (record x x y (get x x)))", "(fun y (record x y y (get x y)))"},
	} {
		a, b := read(p[0]), read(p[1])
		for i := range b.L {
			b.L[i].Pos = 50 - i
		}
		wantAlpha(t, fmt.Sprint(p), a, b, true)
		wantAlpha(t, fmt.Sprint(p, ", in another order"), moved(a, anOrder(c, a)), moved(b, anOrder(c, b)), true)
	}
}

// 6.3, what differs in one thing is not alike.
func TestAlphaOfOneThing(t *testing.T) {
	c := &chance{now: 5}
	pairs := [][2]string{
		// A free name; one that is free, and one that is bound, also where they have one name.
		{"x", "y"}, {"(fun x y)", "(fun x z)"}, {"(let x y x)", "(let x z x)"}, {"(fun x x)", "(fun x y)"}, {"(fun x x)", "(fun y x)"}, {"(fun x y)", "(fun y y)"},
		{"(app (fun x x) x)", "(app (fun y y) y)"}, {"(let x x x)", "(let y y y)"}, {"(let x 1 x)", "(let y 1 x)"}, {"(rec f (fun x f) 1)", "(rec g (fun x f) 1)"},
		{"(rec f (fun x 1) f)", "(rec g (fun x 1) f)"}, {"(case x A x x)", "(case y A y y)"}, {"(case 1 A x x)", "(case 1 A y x)"},
		// In which binder, and in which branch.
		{"(fun x (fun y x))", "(fun x (fun y y))"}, {"(fun x (fun y x))", "(fun x (fun x x))"}, {"(fun x (let y x x))", "(fun x (let y x y))"},
		{"(rec f (fun x f) f)", "(rec f (fun x x) f)"}, {"(rec f (fun f f) f)", "(rec f (fun x f) f)"}, {"(let x 1 (let y 2 x))", "(let x 1 (let y 2 y))"},
		{"(case 1 A x x B y 1)", "(case 1 A x 1 B y y)"}, {"(case 1 A x x B y x)", "(case 1 A x x B y y)"}, {"(case 1 A x (case 2 A y x))", "(case 1 A x (case 2 A y y))"},
		{"(fun x (case 1 A y x))", "(fun x (case 1 A y y))"}, {"(fun x (case 1 A x x B y x))", "(fun x (case 1 A y x B x x))"},
		// A part's, a field's, a tag's name.
		{"(record a 1)", "(record b 1)"}, {"(record a 1 b 1)", "(record a 1 c 1)"}, {"(record a 1 b 1)", "(record b 1 a 1)"}, {"(get a x)", "(get b x)"}, {"(tag A x)", "(tag B x)"},
		{"(case 1 A x x)", "(case 1 B x x)"}, {"(case 1 A x 1 B x 1)", "(case 1 A x 1 C x 1)"}, {"(case 1 A x 1 B x 1)", "(case 1 B x 1 A x 1)"},
		// What counts beside.
		{"1", "2"}, {"true", "false"}, {"1", "true"}, {`"a"`, `"b"`}, {`"x"`, "x"}, {"(+ 1 2)", "(- 1 2)"}, {"(+ 1 2)", "(app 1 2)"}, {"(+ 1 2)", "(+ 2 1)"},
		// Kinds and shapes, also where each node has the binder that the other one has.
		{"(let x (fun y 1) 2)", "(rec x (fun y 1) 2)"}, {"(fun x 1)", "(get x 1)"}, {"(record)", "(record a 1)"}, {"(record a 1)", "(record a 1 b 1)"},
		{"(case 1 A x 2)", "(case 1 A x 2 B x 2)"}, {"(let x 1 2)", "(case 1 A x 2)"}, {"(if 1 2 3)", "(if 1 3 2)"}, {"(app (app 1 2) 3)", "(app 1 (app 2 3))"},
	}
	for _, p := range pairs {
		for _, around := range []string{"%s", "(fun z %s)", "(let w 1 %s)", "(rec w (fun z %s) 1)", "(case 1 A w 1 B z %s)", "(app x (fun x %s))"} {
			a, b := read(fmt.Sprintf(around, p[0])), read(fmt.Sprintf(around, p[1]))
			if tree.May(a) != api.OK || tree.May(b) != api.OK {
				t.Errorf("%q in %s: one of them may not be", p, around)
			}
			wantAlpha(t, fmt.Sprintf("%q in %s", p, around), a, b, false)
			wantAlpha(t, fmt.Sprintf("%q in %s, in another order", p, around), moved(a, anOrder(c, a)), moved(b, anOrder(c, b)), false)
		}
	}
}

// renamed is a tree in order whose binders, and what these bind, have names that stand nowhere else.
func renamed(e api.Expr) api.Expr {
	e, _ = tree.Norm(e)
	for i, b := range wantedBinders(e) {
		if b.Node >= 0 {
			e.L[i].Name = fmt.Sprintf("n%d_%d", b.Node, b.Branch+1)
		}
	}
	for i, n := range e.L {
		switch n.Kind {
		case api.EFun, api.ELet, api.ERec:
			e.L[i].Name = fmt.Sprintf("n%d_0", i)
		}
		for k := range n.L {
			if n.Kind == api.ECase {
				n.L[k].Var = fmt.Sprintf("n%d_%d", i, k+1)
			}
		}
	}
	return e
}

// 6.3, 6.4, greater trees, with other names, and with one thing that is another one then.
func TestAlphaOfGreater(t *testing.T) {
	c := &chance{now: 6}
	seen := map[bool]int{}
	for range 3000 {
		text := anyText(c, 2+c.below(5))
		a := read(text)
		if len(a.L) > 120 {
			continue
		}
		b := renamed(a)
		wantAlpha(t, text+", with other names", a, moved(b, anOrder(c, b)), true)
		n := &b.L[c.below(len(b.L))]
		switch n.Kind {
		case api.EInt:
			n.N += 3
		case api.EBool:
			n.N = 1 - n.N
		case api.EStr:
			n.S += "s"
		case api.EPrim:
			n.N = api.PLess
		case api.EVar, api.EGet:
			n.Name = b.L[c.below(len(b.L))].Name
			if n.Name == "" || n.Name < "a" {
				n.Name = "other"
			}
		case api.EFun, api.ELet, api.ERec:
			n.Name = pick(c, "other", "x", "y", "z")
		case api.ETag:
			n.Name = "Other"
		case api.ECase:
			n.L[c.below(len(n.L))].Var = pick(c, "other", "x", "y", "z")
		case api.ERecord:
			n.L[c.below(len(n.L))].Name = "other"
		}
		alike := counted(a, len(a.L)-1, nil) == counted(b, len(b.L)-1, nil)
		seen[alike]++
		wantAlpha(t, fmt.Sprintf("%s, and %+v", text, b), a, moved(b, anOrder(c, b)), alike)
	}
	if seen[true] < 100 || seen[false] < 1000 {
		t.Errorf("too few that are alike, or that are not: %v", seen)
	}
}

// halves is a text of many leaves.
func halves(many int, leaf func() string) string {
	if many == 1 {
		return leaf()
	}
	return "(app " + halves(many/2, leaf) + " " + halves(many-many/2, leaf) + ")"
}

// 6.1, 6.2, trees of MaxNodes nodes, and of one more.
func TestMaxNodes(t *testing.T) {
	c := &chance{now: 7}
	places := 0
	names := func() string { places++; return fmt.Sprint("x", places%250) }
	for what, text := range map[string]string{
		"one name":   "(fun x " + halves(300, func() string { return "x" }) + ")",
		"many names": "(fun x0 " + halves(300, names) + ")",
		"branches":   "(case (tag T 1) A x " + halves(149, func() string { return "x" }) + " B y (fun z " + halves(150, func() string { return "y" }) + "))",
	} {
		e := read(text)
		if len(e.L) != 600 {
			t.Errorf("%s: %d nodes, want 600", what, len(e.L))
		}
		wantMoved(t, c, what, e, wantedBinders(e))
		wantAlpha(t, what+", renamed", e, renamed(e), true)
		wantRefused(t, what+", and one node more", tree.Join(api.Node{Kind: api.EFun, Name: "x"}, e), api.ErrFull)
	}
	e := read("(fun x " + halves(300, func() string { return "x" }) + ")")
	l, _ := scope.Uses(e, 599)
	if len(l) != 300 {
		t.Errorf("a binder's name stands at %d places, want 300", len(l))
	}
}

// 6.1, 6.2, a case of MaxWide branches, each with a name of its own, and with one name.
func TestMaxWide(t *testing.T) {
	c := &chance{now: 8}
	own, one, free := "(case x", "(case x", "(case x"
	for i := range 30 {
		own += fmt.Sprintf(" B%d v%d (app v%d v0)", i, i, i)
		one += fmt.Sprintf(" B%d x (app x y)", i)
		free += fmt.Sprintf(" B%d v%d v%d", i, i, (i+1)%30)
	}
	for _, text := range []string{own + ")", one + ")", free + ")"} {
		e := read(text)
		wantMoved(t, c, text, e, wantedBinders(e))
	}
	wantRefused(t, "31 branches", read(one+" B30 x x)"), api.ErrForm)
}

// 6.1, 6.2, trees that are MaxDeep deep, and one deeper, each name of which has one binder or another.
func TestMaxDeep(t *testing.T) {
	c := &chance{now: 9}
	for what, around := range map[string]func(i int, s string) string{
		"fun":      func(i int, s string) string { return fmt.Sprintf("(fun x%d %s)", i, s) },
		"one name": func(_ int, s string) string { return "(fun x50 " + s + ")" },
		"let":      func(i int, s string) string { return fmt.Sprintf("(let x%d x%d %s)", i, i, s) },
		"case":     func(i int, s string) string { return fmt.Sprintf("(case x%d A y x%d B x%d %s)", i, i, i, s) },
		"rec":      func(i int, s string) string { return fmt.Sprintf("(rec x%d (fun y x%d) %s)", i, i, s) },
	} {
		for _, deep := range []int{100, 101} {
			text := "(tag T x50)"
			for i := range deep - 2 {
				text = around(i, text)
			}
			e := read(text)
			if deep > 100 {
				wantRefused(t, what+", one deeper", e, api.ErrDeep)
				continue
			}
			if d := tree.Depth(e); d != 100 {
				t.Errorf("%s: %d deep, want 100", what, d)
			}
			wantMoved(t, c, what, e, wantedBinders(e))
			wantAlpha(t, what+", renamed", e, renamed(e), true)
		}
	}
}

// 6.1, 6.2, 6.3, trees that may not be, with each error of May, which is ahead of ErrScope and of ErrNone.
func TestRefused(t *testing.T) {
	wantRefused(t, "no nodes", api.Expr{}, api.ErrFull)
	wantRefused(t, "no nodes, but a list", api.Expr{L: []api.Node{}}, api.ErrFull)
	wantRefused(t, "many nodes", api.Expr{L: slices.Repeat([]api.Node{{Kind: api.EVar, Name: "x"}}, 601)}, api.ErrFull)
	for _, text := range []string{"(rec f x f)", "(fun X x)", "(fun fun x)", "(let let 1 x)", "(case x)", "(case x a x x)", "(case x A x x A y y)", "(case x A X x)", "(record x x x x)", "Y"} {
		wantRefused(t, text, read(text), api.ErrForm)
	}
	x := api.Node{Kind: api.EVar, Name: "x"}
	for what, l := range map[string][]api.Node{
		"no kind": {{}}, "a kind too many": {x, {Kind: 15}}, "no child": {x, x}, "itself": {{Kind: api.EFun, Name: "x"}},
		"a later child": {{Kind: api.EFun, Name: "x", A: 1}, x}, "a child twice": {x, {Kind: api.EApp}}, "a child of -1": {x, {Kind: api.EFun, Name: "x", A: -1}},
		"two parents": {x, {Kind: api.EFun, Name: "x"}, {Kind: api.EApp, A: 0, B: 1}}, "a Pos of -1": {{Kind: api.EVar, Name: "x", Pos: -1}},
		"a Pos that is too great": {{Kind: api.EVar, Name: "x", Pos: 1<<20 + 1}}, "what does not count": {{Kind: api.EVar, Name: "x", N: 1}},
		"a branch that stands nowhere": {x, {Kind: api.ECase, L: []api.Field{{Name: "A", Var: "x", At: 5}}}},
	} {
		wantRefused(t, what, api.Expr{L: l}, api.ErrForm)
	}
}

// P1 and the rules: what was handed out is the caller's own.
func TestAnswersAreNew(t *testing.T) {
	e := read("(app (app a b) (case (fun x (app x x)) A x x B y (app y a)))")
	before := fmt.Sprintf("%+v", e)
	told := func() string {
		binders, _ := scope.Binders(e)
		free, _ := scope.Free(e)
		uses, _ := scope.Uses(e, 6)
		return fmt.Sprint(binders, free, uses)
	}
	want := told()
	binders, _ := scope.Binders(e)
	free, _ := scope.Free(e)
	uses, _ := scope.Uses(e, 6)
	for i := range binders {
		binders[i] = scope.Binder{Node: 99, Branch: 99}
	}
	for i := range free {
		free[i] = "spoilt"
	}
	for i := range uses {
		uses[i] = 99
	}
	if len(free) != 2 || len(uses) != 2 {
		t.Errorf("free %q, uses %v, want two of each", free, uses)
	}
	if got := told(); got != want {
		t.Errorf("answers are %s after others were changed, want %s", got, want)
	}
	scope.Alpha(e, renamed(e))
	if fmt.Sprintf("%+v", e) != before {
		t.Errorf("what was handed in is changed: %+v", e)
	}
}
