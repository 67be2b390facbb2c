package tree_test

import (
	"fmt"
	"math"
	"slices"
	"strings"
	"testing"

	"syntagma/api"
	"syntagma/tree"
)

// wantTerm holds all calls of a tree, whose nodes stand as order has them, against what t means.
func wantTerm(t *testing.T, m *term, order []*term) {
	t.Helper()
	e := laid(order)
	what := brief(e)
	before := shown(e)
	wantErr(t, what+": May", tree.May(e), api.OK)
	if d := tree.Depth(e); d != m.deep() {
		t.Errorf("%s: Depth %d, want %d", what, d, m.deep())
	}
	f, err := tree.Norm(e)
	wantErr(t, what+": Norm", err, api.OK)
	wantExpr(t, what+": Norm", f, m.inOrder())
	up := slices.Repeat([]int{-1}, len(order))
	for i, sub := range order {
		f, err = tree.Sub(e, i)
		wantErr(t, what+": Sub", err, api.OK)
		wantExpr(t, fmt.Sprint(what, ": Sub ", i), f, sub.inOrder())
		var places []int
		for _, k := range sub.kids {
			places = append(places, slices.Index(order, k))
			up[slices.Index(order, k)] = i
		}
		wantInts(t, what+": Kids", tree.Kids(e.L[i]), places)
	}
	wantInts(t, what+": Parents", tree.Parents(e), up)
	for _, i := range []int{-1, len(order), -len(order), math.MinInt, math.MaxInt} {
		f, err = tree.Sub(e, i)
		wantErr(t, fmt.Sprint(what, ": Sub ", i), err, api.ErrNone)
		wantExpr(t, fmt.Sprint(what, ": Sub ", i), f, api.Expr{})
	}
	if !tree.Same(e, e) || !tree.Same(e, m.inOrder()) || !tree.Same(m.inOrder(), e) {
		t.Errorf("%s: Same of it, and of it in order, is false", what)
	}
	if shown(e) != before {
		t.Errorf("%s: what was handed in is changed", what)
	}
	wantParts(t, m, order)
}

// wantParts is 5.4: in order a tree stays as it is, and a node and its children, as trees, make what is below it.
func wantParts(t *testing.T, m *term, order []*term) {
	t.Helper()
	e := laid(order)
	f, _ := tree.Norm(e)
	g, err := tree.Norm(f)
	wantErr(t, brief(f)+": Norm again", err, api.OK)
	wantExpr(t, brief(f)+": Norm again", g, f)
	for i := range order {
		sub, _ := tree.Sub(e, i)
		var kids []api.Expr
		for _, k := range tree.Kids(e.L[i]) {
			kid, _ := tree.Sub(e, k)
			kids = append(kids, kid)
		}
		wantExpr(t, fmt.Sprint(brief(e), ": Join of node ", i), tree.Join(e.L[i], kids...), sub)
	}
}

// 5.1, 5.2, 5.4, all trees of a few nodes, in all orders that these may stand in.
func TestSmallTrees(t *testing.T) {
	for size := 1; size <= 5; size++ {
		for _, m := range terms(size) {
			m = m.marked()
			orders := m.orders()
			if size == 5 {
				orders = orders[max(0, len(orders)-2):]
			}
			for _, order := range orders {
				wantTerm(t, m, order)
			}
		}
	}
}

// 5.1, 5.2, 5.4, trees of all kinds and of many nodes, in some orders.
func TestGreaterTrees(t *testing.T) {
	c := &chance{now: 5}
	for tried := 0; tried < 300; {
		m := aTerm(c, 2+c.below(5)).marked()
		if len(m.all()) > 60 {
			continue
		}
		tried++
		for range 2 {
			wantTerm(t, m, m.anOrder(c))
		}
	}
}

// 5.1, the example of the chapter, and one tree whose places are told here.
func TestExamples(t *testing.T) {
	e := api.Expr{L: []api.Node{{Kind: api.EInt, N: 1}, {Kind: api.EInt, N: 2}, {Kind: api.EPrim, N: api.PAdd, A: 0, B: 1}}}
	wantErr(t, "1 + 2", tree.May(e), api.OK)
	if d := tree.Depth(e); d != 2 {
		t.Errorf("1 + 2 is %d deep, want 2", d)
	}
	wantInts(t, "1 + 2: Kids", tree.Kids(e.L[2]), []int{0, 1})
	wantInts(t, "1 + 2: Parents", tree.Parents(e), []int{2, 2, -1})
	// case T x of A v -> 1 | B w -> f, none of which stands in order.
	e = api.Expr{L: []api.Node{
		{Kind: api.EVar, Name: "f", Pos: 9},
		{Kind: api.EInt, N: 1, Pos: 8},
		{Kind: api.EVar, Name: "x", Pos: 7},
		{Kind: api.ETag, Name: "T", A: 2, Pos: 6},
		{Kind: api.ECase, A: 3, L: []api.Field{{Name: "A", Var: "v", At: 1}, {Name: "B", Var: "w", At: 0}}, Pos: 5},
	}}
	wantInts(t, "case: Kids", tree.Kids(e.L[4]), []int{3, 1, 0})
	wantInts(t, "case: Parents", tree.Parents(e), []int{4, 4, 3, 4, -1})
	f, err := tree.Norm(e)
	wantErr(t, "case: Norm", err, api.OK)
	wantExpr(t, "case: Norm", f, api.Expr{L: []api.Node{
		{Kind: api.EVar, Name: "x", Pos: 7},
		{Kind: api.ETag, Name: "T", A: 0, Pos: 6},
		{Kind: api.EInt, N: 1, Pos: 8},
		{Kind: api.EVar, Name: "f", Pos: 9},
		{Kind: api.ECase, A: 1, L: []api.Field{{Name: "A", Var: "v", At: 2}, {Name: "B", Var: "w", At: 3}}, Pos: 5},
	}})
}

// eachKind is a term of each kind, in the order of the kinds.
func eachKind() []*term {
	return []*term{
		num(5), truth(1), text("s"), use("x"), fun("x", use("x")), app(use("f"), num(1)), let("x", num(1), num(2)),
		letRec("f", fun("x", num(1)), num(2)), cond(truth(1), num(1), num(2)), prim(api.PLess, num(1), num(2)),
		record(num(1), num(2), num(3)), get("x", num(1)), tag("T", num(1)), caseOf(num(1), num(2), num(3)),
	}
}

// 5.1, each kind of node with what counts of it at its least, at its greatest, and beyond, and with what does not count.
func TestMayOfEachField(t *testing.T) {
	long := strings.Repeat
	numbers := []int64{0, 1, 2, 3, 6, 7, 8, 9, -1, -2, math.MinInt64, math.MaxInt64, 1 << 32, 1<<32 + 1}
	names := []string{
		"", "x", "_", "xY_9", "X", "T", "Tx_9", "fun", "mu", "in", "Fun", "funx", "1", "x y", "x ", " x", "'x", "x'", "\x00", "x\n", "T\n", "é", "xé", "Té", "\xff",
		long("a", 20), long("a", 21), long("A", 20), long("A", 21), long("_", 20), long("_", 21), long("a", 1<<16),
	}
	texts := []string{"", "s", "\x00\xff", "é", "fun", long("s", 199), long("s", 200), long("s", 201), long("é", 100), long("é", 101), long("s", 1<<16)}
	places := []int{0, 1, 2, -1, -2, 1 << 20, 600, math.MinInt, math.MaxInt, 1 << 32}
	poss := []int{0, 1, 1<<20 - 1, 1 << 20, 1<<20 + 1, -1, math.MinInt, math.MaxInt, 1 << 32, 1 << 33}
	for i, m := range eachKind() {
		e := m.inOrder()
		last := len(e.L) - 1
		if e.L[last].Kind != i+1 {
			t.Fatalf("kind %d, want %d", e.L[last].Kind, i+1)
		}
		try := func(what string, change func(n *api.Node)) {
			t.Helper()
			f := m.inOrder()
			change(&f.L[last])
			wantMay(t, fmt.Sprint("kind ", i+1, ", ", what), f)
		}
		for _, x := range numbers {
			try(fmt.Sprint("N ", x), func(n *api.Node) { n.N = x })
		}
		for _, x := range names {
			try("Name "+x[:min(len(x), 30)], func(n *api.Node) { n.Name = x })
		}
		for _, x := range texts {
			try(fmt.Sprint("S of ", len(x)), func(n *api.Node) { n.S = x })
		}
		for _, x := range places {
			try(fmt.Sprint("A ", x), func(n *api.Node) { n.A = x })
			try(fmt.Sprint("B ", x), func(n *api.Node) { n.B = x })
			try(fmt.Sprint("C ", x), func(n *api.Node) { n.C = x })
		}
		for _, x := range poss {
			try(fmt.Sprint("Pos ", x), func(n *api.Node) { n.Pos = x })
		}
		for _, x := range [][]api.Field{nil, {}, {{}}, {{Name: "a"}}, {{Name: "A", Var: "x"}}, {{At: -1}}, make([]api.Field, 31), make([]api.Field, 1<<16)} {
			try(fmt.Sprint("L of ", len(x)), func(n *api.Node) { n.L = slices.Clone(x) })
		}
		for _, x := range []int{0, -1, -5, 15, 16, 20, 255, 256 + 5, math.MinInt, math.MaxInt} {
			try(fmt.Sprint("Kind ", x), func(n *api.Node) { n.Kind = x })
		}
	}
}

// 5.1, what must be zero is told by its own, for each kind: a node alone, but for its children.
func TestMayOfWhatDoesNotCount(t *testing.T) {
	for i, m := range eachKind() {
		counts := map[string]bool{
			"N":    slices.Contains([]int{api.EInt, api.EBool, api.EPrim}, i+1),
			"S":    i+1 == api.EStr,
			"Name": slices.Contains([]int{api.EVar, api.EFun, api.ELet, api.ERec, api.EGet, api.ETag}, i+1),
			"L":    slices.Contains([]int{api.ERecord, api.ECase}, i+1),
		}
		for what, change := range map[string]func(n *api.Node){
			"N":    func(n *api.Node) { n.N = 1 },
			"S":    func(n *api.Node) { n.S = "s" },
			"Name": func(n *api.Node) { n.Name = "x" },
			"L":    func(n *api.Node) { n.L = []api.Field{{Name: "x"}} },
		} {
			e := m.inOrder()
			change(&e.L[len(e.L)-1])
			if !counts[what] {
				wantRefused(t, fmt.Sprint("kind ", i+1, " with ", what), e, api.ErrForm)
			}
		}
	}
}

// 5.1, a record's parts and a case's branches: how many there are, and what they are named.
func TestMayOfParts(t *testing.T) {
	few := func(many int) []*term {
		var l []*term
		for i := range many {
			l = append(l, num(int64(i)))
		}
		return l
	}
	for many := range 34 {
		r, c := record(few(many)...), caseOf(num(0), few(many)...)
		want, wantCase := api.OK, api.OK
		if many > 30 {
			want, wantCase = api.ErrForm, api.ErrForm
		}
		if many == 0 {
			wantCase = api.ErrForm
		}
		wantErr(t, fmt.Sprint("a record of ", many), tree.May(r.inOrder()), want)
		wantErr(t, fmt.Sprint("a case of ", many), tree.May(c.inOrder()), wantCase)
		wantMay(t, fmt.Sprint("a record of ", many), r.inOrder())
		wantMay(t, fmt.Sprint("a case of ", many), c.inOrder())
	}
	names := []string{"", "x", "p0", "p1", "p2", "P0", "P1", "P2", "X", "_", "fun", "Fun", "p 1", "1", strings.Repeat("a", 20), strings.Repeat("a", 21), strings.Repeat("A", 20), strings.Repeat("A", 21)}
	for i := range 3 {
		for _, x := range names {
			for _, m := range []*term{record(few(3)...), caseOf(num(0), few(3)...)} {
				e := m.inOrder()
				e.L[len(e.L)-1].L[i].Name = x
				wantMay(t, fmt.Sprint("part ", i, " named ", x), e)
				e = m.inOrder()
				e.L[len(e.L)-1].L[i].Var = x
				wantMay(t, fmt.Sprint("part ", i, " that binds ", x), e)
			}
		}
	}
	for i := range 30 {
		for k := range i {
			for _, m := range []*term{record(few(30)...), caseOf(num(0), few(30)...)} {
				e := m.inOrder()
				l := e.L[len(e.L)-1].L
				l[i].Name = l[k].Name
				wantRefused(t, fmt.Sprint("parts ", i, " and ", k, " of a name"), e, api.ErrForm)
			}
		}
	}
	// What branches bind need not differ; nor need a record's names and those of one within it.
	same := caseOf(num(0), few(2)...)
	wantErr(t, "branches that bind a name", tree.May(same.inOrder()), api.OK)
	wantErr(t, "a record in a record", tree.May(record(record(few(2)...), num(1)).inOrder()), api.OK)
}

// 5.1, children's places: below 0, at the parent's, beyond it, of a child that has a parent already, and a node that is nobody's child.
func TestMayOfPlaces(t *testing.T) {
	for i, m := range eachKind() {
		e := m.inOrder()
		last := len(e.L) - 1
		for k := range len(tree.Kids(e.L[last])) {
			for _, place := range []int{-1, math.MinInt, last, last + 1, last + 2, 600, math.MaxInt} {
				f := m.inOrder()
				*placeOf(&f.L[last], k) = place
				wantRefused(t, fmt.Sprint("kind ", i+1, ", child ", k, " at ", place), f, api.ErrForm)
			}
			for other := range len(tree.Kids(e.L[last])) {
				if other != k {
					f := m.inOrder()
					*placeOf(&f.L[last], k) = *placeOf(&f.L[last], other)
					wantRefused(t, fmt.Sprint("kind ", i+1, ", children ", k, " and ", other, " at one place"), f, api.ErrForm)
				}
			}
		}
		// One node more, which is nobody's child: as the first one, as the one ahead of the root, and as the root itself.
		f := m.inOrder()
		for k := range f.L {
			for p := range tree.Kids(f.L[k]) {
				*placeOf(&f.L[k], p)++
			}
		}
		f.L = append([]api.Node{{Kind: api.EInt}}, f.L...)
		wantRefused(t, fmt.Sprint("kind ", i+1, ", the first one is nobody's child"), f, api.ErrForm)
		f = m.inOrder()
		f.L = slices.Insert(f.L, last, api.Node{Kind: api.EInt})
		wantRefused(t, fmt.Sprint("kind ", i+1, ", the last but one is nobody's child"), f, api.ErrForm)
		f = m.inOrder()
		f.L = append(f.L, api.Node{Kind: api.EInt})
		wantRefused(t, fmt.Sprint("kind ", i+1, ", it is nobody's child"), f, api.ErrForm)
	}
	two := api.Expr{L: []api.Node{{Kind: api.EInt}, {Kind: api.EFun, Name: "x", A: 0}, {Kind: api.EFun, Name: "x", A: 0}, {Kind: api.EApp, A: 1, B: 2}}}
	wantRefused(t, "a child of two parents", two, api.ErrForm)
	two.L[1] = api.Node{Kind: api.EInt}
	wantErr(t, "a child of one", tree.May(two), api.OK)
	two.L[0].Kind = 0
	wantRefused(t, "a child of no kind", two, api.ErrForm)
}

// placeOf is where the place of the child k of n lies.
func placeOf(n *api.Node, k int) *int {
	own := []*int{&n.A, &n.B, &n.C}[:ownWanted[n.Kind]]
	if k < len(own) {
		return own[k]
	}
	return &n.L[k-len(own)].At
}

// 5.1, the A of let rec is a fun, and nothing else; its B may be anything.
func TestMayOfLetRec(t *testing.T) {
	for i, m := range eachKind() {
		want := api.ErrForm
		if i+1 == api.EFun {
			want = api.OK
		}
		wantErr(t, fmt.Sprint("let rec of kind ", i+1), tree.May(letRec("f", m, num(1)).inOrder()), want)
		wantMay(t, fmt.Sprint("let rec of kind ", i+1), letRec("f", m, num(1)).inOrder())
		wantErr(t, fmt.Sprint("let rec ahead of kind ", i+1), tree.May(letRec("f", fun("x", num(1)), m).inOrder()), api.OK)
	}
	// The fun must be A, wherever it stands, and not B.
	e := letRec("f", fun("x", num(1)), num(2)).inOrder()
	e.L[3].A, e.L[3].B = 2, 1
	wantRefused(t, "let rec whose B is a fun", e, api.ErrForm)
}

// halves is a term of 2 * leaves - 1 nodes that is not deep.
func halves(leaves int) *term {
	if leaves == 1 {
		return num(int64(leaves))
	}
	return prim(api.PAdd, halves(leaves/2), halves(leaves-leaves/2))
}

// 5.1, 5.2, trees of no nodes, of one, of MaxNodes, and of one more; ErrFull is ahead of all else.
func TestHowMany(t *testing.T) {
	wantRefused(t, "none", api.Expr{}, api.ErrFull)
	wantRefused(t, "an empty list", api.Expr{L: []api.Node{}}, api.ErrFull)
	one := num(1)
	wantTerm(t, one, one.all())
	for _, c := range []struct {
		m    *term
		many int
		want api.Errno
	}{
		{halves(300), 599, api.OK},
		{tag("T", halves(300)), 600, api.OK},
		{halves(301), 601, api.ErrFull},
		{tag("T", halves(301)), 602, api.ErrFull},
		{halves(5000), 9999, api.ErrFull},
	} {
		e := c.m.inOrder()
		what := fmt.Sprint(c.many, " nodes")
		if len(e.L) != c.many {
			t.Fatalf("%d nodes, want %d", len(e.L), c.many)
		}
		wantMay(t, what, e)
		wantErr(t, what, tree.May(e), c.want)
		f, err := tree.Norm(e)
		wantErr(t, what+": Norm", err, c.want)
		if c.want == api.OK {
			wantExpr(t, what+": Norm", f, e)
		}
		e.L[0].Pos = -1
		want := c.want
		if want == api.OK {
			want = api.ErrForm
		}
		wantRefused(t, what+", one of which may not be", e, want)
	}
	wantRefused(t, "many nodes of no kind", api.Expr{L: make([]api.Node, 601)}, api.ErrFull)
	wantRefused(t, "as many nodes of no kind as there may be", api.Expr{L: make([]api.Node, 600)}, api.ErrForm)
	wantRefused(t, "more nodes than there may be, too deep", chain(601, func(m *term) *term { return fun("x", m) }).inOrder(), api.ErrFull)
}

// chain is a term that is at least that deep, and no deeper than around makes it.
func chain(deep int, around func(m *term) *term) *term {
	m := use("x")
	for m.deep() < deep {
		m = around(m)
	}
	return m
}

// 5.1, 5.2, trees that are MaxDeep deep, and one more, through a child at each place of each kind; ErrForm is ahead of ErrDeep.
func TestHowDeep(t *testing.T) {
	for what, around := range map[string]func(m *term) *term{
		"fun":    func(m *term) *term { return fun("x", m) },
		"app A":  func(m *term) *term { return app(m, num(1)) },
		"app B":  func(m *term) *term { return app(num(1), m) },
		"let A":  func(m *term) *term { return let("x", m, num(1)) },
		"let B":  func(m *term) *term { return let("x", num(1), m) },
		"rec A":  func(m *term) *term { return letRec("f", fun("x", m), num(1)) },
		"rec B":  func(m *term) *term { return letRec("f", fun("x", num(1)), m) },
		"if A":   func(m *term) *term { return cond(m, num(1), num(2)) },
		"if B":   func(m *term) *term { return cond(num(1), m, num(2)) },
		"if C":   func(m *term) *term { return cond(num(1), num(2), m) },
		"prim A": func(m *term) *term { return prim(api.PAdd, m, num(1)) },
		"prim B": func(m *term) *term { return prim(api.PAdd, num(1), m) },
		"part 0": func(m *term) *term { return record(m, num(1), num(2)) },
		"part 1": func(m *term) *term { return record(num(1), m, num(2)) },
		"part 2": func(m *term) *term { return record(num(1), num(2), m) },
		"get":    func(m *term) *term { return get("x", m) },
		"tag":    func(m *term) *term { return tag("T", m) },
		"case A": func(m *term) *term { return caseOf(m, num(1), num(2)) },
		"case 0": func(m *term) *term { return caseOf(num(1), m, num(2)) },
		"case 1": func(m *term) *term { return caseOf(num(1), num(2), m) },
	} {
		for deep := 97; deep <= 103; deep++ {
			m := chain(deep, around)
			e := m.inOrder()
			for i := range e.L {
				e.L[i].Pos = i
			}
			told := fmt.Sprint(what, ", ", m.deep(), " deep")
			wantMay(t, told, e)
			if m.deep() <= 100 {
				f, err := tree.Norm(e)
				wantErr(t, told+": Norm", err, api.OK)
				wantExpr(t, told+": Norm", f, e)
				continue
			}
			wantRefused(t, told, e, api.ErrDeep)
			e.L[len(e.L)/2].Pos = -1
			wantRefused(t, told+", one node of which may not be", e, api.ErrForm)
		}
	}
}

// 5.1, 5.2, trees of which one thing or another is changed, as chance has it: they may be, or not, as the chapter's words have it.
func TestMayOfChanged(t *testing.T) {
	c := &chance{now: 77}
	names := []string{"", "x", "y", "T", "U", "fun", "p0", "P0", "P1"}
	seen := map[api.Errno]int{}
	for range 20000 {
		m := aTerm(c, 1+c.below(4))
		e := laid(m.anOrder(c))
		for range 1 + c.below(2) {
			n := &e.L[c.below(len(e.L))]
			switch c.below(9) {
			case 0:
				n.Kind = c.below(17) - 1
			case 1:
				n.A = c.below(len(e.L)+3) - 1
			case 2:
				n.B = c.below(len(e.L)+3) - 1
			case 3:
				n.C = c.below(len(e.L)+3) - 1
			case 4:
				n.N = int64(c.below(10) - 1)
			case 5:
				n.Name = names[c.below(len(names))]
			case 6:
				n.S = names[c.below(len(names))]
			case 7:
				for i := range n.L {
					n.L[i] = api.Field{Name: names[c.below(len(names))], Var: n.L[i].Var, At: n.L[i].At}
				}
			case 8:
				for i := range n.L {
					n.L[i].At = c.below(len(e.L) + 1)
					n.L[i].Var = names[c.below(3)]
				}
			}
		}
		want, _ := wantedMay(e)
		seen[want]++
		wantMay(t, brief(e), e)
	}
	if seen[api.OK] < 1000 || seen[api.ErrForm] < 1000 {
		t.Errorf("too few that may be, or that may not be: %v", seen)
	}
}

// 5.1, Kids of a node as its kind has them, whatever else it has, and whether it may be or not.
func TestKids(t *testing.T) {
	n := api.Node{A: 7, B: -3, C: 7, N: 4, Name: "?", S: "s", L: []api.Field{{At: 9}, {At: -1, Name: "T"}, {At: 9}}, Pos: -1}
	want := map[int][]int{
		api.EFun: {7}, api.EApp: {7, -3}, api.ELet: {7, -3}, api.ERec: {7, -3}, api.EIf: {7, -3, 7}, api.EPrim: {7, -3},
		api.ERecord: {9, -1, 9}, api.EGet: {7}, api.ETag: {7}, api.ECase: {7, 9, -1, 9},
	}
	for _, kind := range []int{-1, 0, 1, 2, 3, 4, 5, 6, 7, 8, 9, 10, 11, 12, 13, 14, 15, 16, 100, 256 + 5, math.MinInt, math.MaxInt} {
		n.Kind = kind
		before := fmt.Sprintf("%+v", n)
		l := tree.Kids(n)
		wantInts(t, fmt.Sprint("Kids of kind ", kind), l, want[kind])
		for i := range l {
			l[i] = 100
		}
		wantInts(t, fmt.Sprint("Kids of kind ", kind, ", again"), tree.Kids(n), want[kind])
		if fmt.Sprintf("%+v", n) != before {
			t.Errorf("Kids of kind %d: what was handed in is changed", kind)
		}
		bare := tree.Kids(api.Node{Kind: kind})
		if many := ownWanted[kind]; !slices.Equal(bare, make([]int, many)) {
			t.Errorf("Kids of a bare node of kind %d: %v, want %d times 0", kind, bare, many)
		}
	}
	var l []int
	n = api.Node{Kind: api.ECase, A: 5}
	for i := range 1000 {
		n.L = append(n.L, api.Field{At: 1000 - i})
		l = append(l, 1000-i)
	}
	wantInts(t, "Kids of many branches", tree.Kids(n), append([]int{5}, l...))
	n.Kind = api.ERecord
	wantInts(t, "Kids of many parts", tree.Kids(n), l)
}

// 5.2, trees are the same whatever their order and Pos, and only those.
func TestSame(t *testing.T) {
	var l []*term
	for size := 1; size <= 3; size++ {
		l = append(l, terms(size)...)
	}
	l = append(l, eachKind()...)
	c := &chance{now: 3}
	for i, a := range l {
		for k, b := range l {
			want := shown(a.copyOf().inOrder()) == shown(b.copyOf().inOrder())
			a, b := a.marked(), b.marked()
			for _, m := range b.all() {
				m.n.Pos = c.below(1000)
			}
			e, f := laid(a.anOrder(c)), laid(b.anOrder(c))
			if tree.Same(e, f) != want || tree.Same(f, e) != want {
				t.Errorf("Same of %s and %s: want %t", brief(e), brief(f), want)
			}
			if i == k && !want {
				t.Errorf("%s is not as itself", brief(e))
			}
		}
	}
}

// 5.2, trees that differ in one of what counts are not the same.
func TestSameOfOneThing(t *testing.T) {
	pairs := [][2]*term{
		{num(5), num(6)}, {num(0), truth(0)}, {truth(0), truth(1)}, {text(""), text("s")}, {text("x"), use("x")}, {text("a\x00"), text("a")}, {use("x"), use("y")},
		{fun("x", num(1)), fun("y", num(1))}, {fun("x", num(1)), get("x", num(1))}, {get("x", num(1)), get("x", num(2))}, {get("x", num(1)), get("y", num(1))},
		{tag("T", num(1)), tag("U", num(1))}, {tag("T", num(1)), tag("T", num(2))},
		{app(num(1), num(2)), app(num(2), num(1))}, {app(num(1), num(2)), app(num(1), num(1))}, {app(num(1), num(2)), prim(api.PAdd, num(1), num(2))},
		{let("x", num(1), num(2)), let("y", num(1), num(2))}, {let("x", num(1), num(2)), let("x", num(2), num(1))},
		{let("f", fun("x", num(1)), num(2)), letRec("f", fun("x", num(1)), num(2))},
		{letRec("f", fun("x", num(1)), num(2)), letRec("g", fun("x", num(1)), num(2))}, {letRec("f", fun("x", num(1)), num(2)), letRec("f", fun("x", num(1)), num(1))},
		{cond(num(1), num(2), num(3)), cond(num(1), num(3), num(2))}, {cond(num(1), num(2), num(3)), cond(num(2), num(1), num(3))}, {cond(num(1), num(2), num(3)), cond(num(3), num(2), num(1))},
		{prim(api.PAdd, num(1), num(2)), prim(api.PSub, num(1), num(2))}, {prim(api.PAdd, num(1), num(2)), prim(api.PAdd, num(2), num(1))},
		{record(), record(num(1))}, {record(num(1)), record(num(1), num(1))}, {record(num(1), num(2)), record(num(2), num(1))},
		{caseOf(num(1), num(2)), caseOf(num(2), num(1))}, {caseOf(num(1), num(2)), caseOf(num(1), num(2), num(2))}, {caseOf(num(1), num(2), num(3)), caseOf(num(1), num(3), num(2))},
		// The same nodes, one behind the other, with other children.
		{app(app(num(1), num(2)), num(3)), app(num(1), app(num(2), num(3)))},
	}
	name := func(m *term, part int, name, binds string) *term {
		c := m.copyOf()
		if name != "" {
			c.n.L[part].Name = name
		}
		if binds != "" {
			c.n.L[part].Var = binds
		}
		return c
	}
	r, k := record(num(1), num(2)), caseOf(num(1), num(2), num(3))
	pairs = append(pairs, [2]*term{r, name(r, 0, "q", "")}, [2]*term{r, name(r, 1, "q", "")}, [2]*term{r, name(name(r, 0, "p1", ""), 1, "p0", "")},
		[2]*term{k, name(k, 0, "Q", "")}, [2]*term{k, name(k, 1, "Q", "")}, [2]*term{k, name(k, 0, "", "w")}, [2]*term{k, name(k, 1, "", "w")})
	for _, p := range pairs {
		for _, around := range []func(m *term) *term{
			func(m *term) *term { return m },
			func(m *term) *term { return fun("x", m) },
			func(m *term) *term { return caseOf(num(1), m, num(2)) },
			func(m *term) *term { return app(m, m.copyOf()) },
		} {
			a, b := around(p[0]).inOrder(), around(p[1]).inOrder()
			wantErr(t, brief(a), tree.May(a), api.OK)
			wantErr(t, brief(b), tree.May(b), api.OK)
			if tree.Same(a, b) || tree.Same(b, a) {
				t.Errorf("%s and %s are the same", brief(a), brief(b))
			}
			if !tree.Same(a, a) || !tree.Same(b, b) {
				t.Errorf("%s or %s is not as itself", brief(a), brief(b))
			}
		}
	}
}

// 5.3, of each kind of node, and of no kind, with what counts of it and what does not, and trees in any order.
func TestJoin(t *testing.T) {
	c := &chance{now: 11}
	for kind := -2; kind <= 17; kind++ {
		for range 40 {
			n := api.Node{Kind: kind, A: 50, B: -60, C: 70, N: int64(c.below(9)), Name: "x?", S: "s", Pos: c.below(9) - 4}
			n.L = labels("q", "w", c.below(5))
			for i := range n.L {
				n.L[i].At = -5 - i
			}
			var l []api.Expr
			var roots []int
			want := api.Expr{}
			for range len(wantedKids(n)) {
				m := aTerm(c, 1+c.below(3)).marked()
				e := laid(m.anOrder(c))
				l = append(l, e)
				first := len(want.L)
				for _, k := range e.L {
					k.L = slices.Clone(k.L)
					for i := range wantedKids(k) {
						*placeOf(&k, i) += first
					}
					want.L = append(want.L, k)
				}
				roots = append(roots, len(want.L)-1)
			}
			root := n
			root.L = slices.Clone(n.L)
			root.A, root.B, root.C = 0, 0, 0
			if kind != api.ERecord && kind != api.ECase {
				root.L = nil
			}
			for i, r := range roots {
				*placeOf(&root, i) = r
			}
			want.L = append(want.L, root)
			before := shown(api.Expr{L: []api.Node{n}}) + fmt.Sprintf("%+v", l)
			wantExpr(t, fmt.Sprint("Join of kind ", kind), tree.Join(n, l...), want)
			if shown(api.Expr{L: []api.Node{n}})+fmt.Sprintf("%+v", l) != before {
				t.Errorf("Join of kind %d: what was handed in is changed", kind)
			}
		}
	}
}

// 5.3, one tree several times; a tree in order that is made of such; more nodes than a tree may have.
func TestJoinOfOneTree(t *testing.T) {
	e := prim(api.PMul, num(2), num(3)).inOrder()
	n := api.Node{Kind: api.EIf, Pos: 4}
	f := tree.Join(n, e, e, e)
	m := prim(api.PMul, num(2), num(3))
	want := cond(m, m.copyOf(), m.copyOf()).inOrder()
	want.L[9].Pos = 4
	wantExpr(t, "Join of one tree three times", f, want)
	f.L[0].N, f.L[2].A = 100, 100
	wantExpr(t, "Join of one tree three times, after an answer was changed", tree.Join(n, e, e, e), want)
	r := api.Node{Kind: api.ERecord, L: labels("p", "", 30)}
	big := tag("T", halves(20)).inOrder()
	l := slices.Repeat([]api.Expr{big}, 30)
	f = tree.Join(r, l...)
	if len(f.L) != 1201 {
		t.Errorf("Join of 30 trees of 40 nodes has %d nodes, want 1201", len(f.L))
	}
	wantErr(t, "Join of 30 trees of 40 nodes", tree.May(f), api.ErrFull)
	for i, k := range tree.Kids(f.L[1200]) {
		if k != 40*i+39 {
			t.Errorf("child %d of 30 stands at %d, want %d", i, k, 40*i+39)
		}
	}
}

// 5.3, P1, of trees that may not be, and of more or fewer than there are children, no more is said than that there is no panic.
func TestJoinOfWrong(t *testing.T) {
	bad := []api.Expr{
		{}, {L: []api.Node{}}, {L: []api.Node{{}}}, {L: make([]api.Node, 20)},
		{L: []api.Node{{Kind: api.EApp, A: math.MaxInt, B: math.MinInt}}},
		{L: []api.Node{{Kind: api.ECase, A: math.MaxInt, B: 5, L: make([]api.Field, 40)}, {Kind: 99, A: 1, L: make([]api.Field, 2)}}},
		{L: []api.Node{{Kind: api.EIf, A: -1, B: -1, C: 3}, {Kind: api.ERecord}}},
	}
	for kind := -1; kind <= 16; kind++ {
		for _, many := range []int{0, 1, 2, 3, 4, 7} {
			for parts := range 4 {
				n := api.Node{Kind: kind, A: -1, B: math.MaxInt, C: 9, L: labels("P", "v", parts)}
				for i := range bad {
					var l []api.Expr
					for k := range many {
						l = append(l, bad[(i+k*k)%len(bad)])
					}
					before := fmt.Sprintf("%+v", l)
					e := tree.Join(n, l...)
					tree.May(e)
					tree.Depth(e)
					tree.Parents(e)
					tree.Norm(e)
					tree.Sub(e, len(e.L)-1)
					tree.Same(e, e)
					if fmt.Sprintf("%+v", l) != before {
						t.Errorf("Join of kind %d: what was handed in is changed", kind)
					}
				}
			}
		}
	}
}

// P1 and the rules: what was handed out is the caller's own.
func TestAnswersAreNew(t *testing.T) {
	e := caseOf(tag("P0", record(num(1), text("s"))), use("v"), num(2)).marked().inOrder()
	before := shown(e)
	spoil := func(f api.Expr) {
		for i := range f.L {
			for k := range f.L[i].L {
				f.L[i].L[k] = api.Field{Name: "spoilt", At: 99}
			}
			f.L[i].A, f.L[i].Name = 99, "spoilt"
		}
	}
	f, _ := tree.Norm(e)
	g, _ := tree.Norm(e)
	spoil(f)
	wantExpr(t, "another answer of Norm", g, e)
	f, _ = tree.Sub(e, len(e.L)-1)
	g, _ = tree.Sub(e, len(e.L)-1)
	spoil(f)
	wantExpr(t, "another answer of Sub", g, e)
	n := e.L[len(e.L)-1]
	kid, _ := tree.Sub(e, 3)
	l := []api.Expr{kid, num(1).inOrder(), num(2).inOrder()}
	told := fmt.Sprintf("%+v", l)
	f, g = tree.Join(n, l...), tree.Join(n, l...)
	spoil(f)
	f.L = append(f.L[:0], api.Node{Kind: 99})
	if fmt.Sprintf("%+v", l) != told {
		t.Errorf("Join's answer shares with what was handed in")
	}
	wantExpr(t, "another answer of Join", g, tree.Join(n, l...))
	up := tree.Parents(e)
	want := slices.Clone(up)
	for i := range up {
		up[i] = 99
	}
	wantInts(t, "another answer of Parents", tree.Parents(e), want)
	if shown(e) != before {
		t.Errorf("answers share with what was handed in: %s, want %s", shown(e), before)
	}
}
