package scope_test

import (
	"fmt"
	"math"
	"slices"
	"strconv"
	"strings"
	"testing"

	"syntagma/api"
	"syntagma/scope"
	"syntagma/tree"
)

// form is a node of that word, with a Name, if its word is followed by one.
type form struct {
	n     api.Node
	named bool
}

var forms = map[string]form{
	"fun": {api.Node{Kind: api.EFun}, true}, "let": {api.Node{Kind: api.ELet}, true}, "rec": {api.Node{Kind: api.ERec}, true},
	"get": {api.Node{Kind: api.EGet}, true}, "tag": {api.Node{Kind: api.ETag}, true},
	"app": {api.Node{Kind: api.EApp}, false}, "if": {api.Node{Kind: api.EIf}, false},
	"+": {api.Node{Kind: api.EPrim, N: api.PAdd}, false}, "-": {api.Node{Kind: api.EPrim, N: api.PSub}, false},
	"record": {api.Node{Kind: api.ERecord}, false}, "case": {api.Node{Kind: api.ECase}, false},
}

// read is a tree in order. Its text is a number, a truth, a text in quotes or a name; or in round brackets a word of forms, and what its node has: (record a 1 b 2), (case e A x 1 B y 2).
func read(s string) api.Expr {
	l := strings.Fields(strings.NewReplacer("(", " ( ", ")", " ) ").Replace(s))
	r := &words{l}
	e := r.expr()
	if len(r.l) > 0 {
		panic("more than a tree: " + s)
	}
	return e
}

type words struct{ l []string }

func (r *words) next() string {
	s := r.l[0]
	r.l = r.l[1:]
	return s
}

func (r *words) expr() api.Expr {
	s := r.next()
	n := api.Node{Kind: api.EVar, Name: s}
	switch {
	case s == "(":
		e := r.bracket()
		r.next()
		return e
	case s == "false":
		n = api.Node{Kind: api.EBool}
	case s == "true":
		n = api.Node{Kind: api.EBool, N: 1}
	case s[0] == '"':
		n = api.Node{Kind: api.EStr, S: strings.Trim(s, `"`)}
	case s[0] <= '9':
		v, _ := strconv.ParseInt(s, 10, 64)
		n = api.Node{Kind: api.EInt, N: v}
	}
	return tree.Join(n)
}

func (r *words) bracket() api.Expr {
	f := forms[r.next()]
	if f.named {
		f.n.Name = r.next()
	}
	var kids []api.Expr
	for r.l[0] != ")" {
		if f.n.Kind == api.ERecord || f.n.Kind == api.ECase && len(kids) > 0 {
			part := api.Field{Name: r.next()}
			if f.n.Kind == api.ECase {
				part.Var = r.next()
			}
			f.n.L = append(f.n.L, part)
		}
		kids = append(kids, r.expr())
	}
	return tree.Join(f.n, kids...)
}

// readBinders is a binder for each word: . of a node that is no EVar, - of a free one, 5 is the node 5, 5/1 its branch 1.
func readBinders(s string) []scope.Binder {
	var l []scope.Binder
	for _, w := range strings.Fields(s) {
		b := scope.Binder{Node: -1, Branch: -1}
		node, branch, isBranch := strings.Cut(w, "/")
		if w != "." && w != "-" {
			b.Node, _ = strconv.Atoi(node)
		}
		if isBranch {
			b.Branch, _ = strconv.Atoi(branch)
		}
		l = append(l, b)
	}
	return l
}

// kidPlaces is where a node, that may be, holds the places of its children.
func kidPlaces(n *api.Node) []*int {
	own := map[int]int{api.EFun: 1, api.EApp: 2, api.ELet: 2, api.ERec: 2, api.EIf: 3, api.EPrim: 2, api.EGet: 1, api.ETag: 1, api.ECase: 1}
	l := []*int{&n.A, &n.B, &n.C}[:own[n.Kind]]
	for i := range n.L {
		l = append(l, &n.L[i].At)
	}
	return l
}

// moved is the same tree, whose nodes stand as order has their places.
func moved(e api.Expr, order []int) api.Expr {
	var f api.Expr
	for _, old := range order {
		n := e.L[old]
		n.L = slices.Clone(n.L)
		for _, p := range kidPlaces(&n) {
			*p = slices.Index(order, *p)
		}
		f.L = append(f.L, n)
	}
	return f
}

// movedBinders is the binders of a tree that was moved.
func movedBinders(binders []scope.Binder, order []int) []scope.Binder {
	var l []scope.Binder
	for _, old := range order {
		b := binders[old]
		if b.Node >= 0 {
			b.Node = slices.Index(order, b.Node)
		}
		l = append(l, b)
	}
	return l
}

// chance is a row of numbers that is the same each time.
type chance struct{ now uint64 }

func (c *chance) below(n int) int {
	c.now = c.now*6364136223846793005 + 1442695040888963407
	return int(c.now>>33) % n
}

func pick[T any](c *chance, l ...T) T { return l[c.below(len(l))] }

// anOrder is one in which e's nodes may stand: each child ahead of its parent.
func anOrder(c *chance, e api.Expr) []int {
	var order []int
	for len(order) < len(e.L) {
		i := c.below(len(e.L))
		waits := func(kid int) bool { return !slices.Contains(order, kid) }
		if waits(i) && !slices.ContainsFunc(tree.Kids(e.L[i]), waits) {
			order = append(order, i)
		}
	}
	return order
}

// anyText is a tree's text, in which few names are bound and used often.
func anyText(c *chance, deep int) string {
	sub := func() string { return anyText(c, deep-1) }
	x := func() string { return pick(c, "x", "y", "z") }
	kind := c.below(16)
	if deep <= 1 {
		kind = c.below(5)
	}
	switch kind {
	case 0:
		return pick(c, "1", "2", "true", "false", `"x"`)
	case 1, 2, 3, 4:
		return x()
	case 5, 6:
		return fmt.Sprintf("(fun %s %s)", x(), sub())
	case 7:
		return fmt.Sprintf("(let %s %s %s)", x(), sub(), sub())
	case 8:
		return fmt.Sprintf("(rec %s (fun %s %s) %s)", x(), x(), sub(), sub())
	case 9, 10:
		return fmt.Sprintf("(case %s A %s %s B %s %s C %s %s)", sub(), x(), sub(), x(), sub(), x(), sub())
	case 11:
		return fmt.Sprintf("(record x %s y %s)", sub(), sub())
	case 12:
		return fmt.Sprintf("(if %s %s %s)", sub(), sub(), sub())
	case 13:
		return fmt.Sprintf("(%s %s %s)", pick(c, "+", "-"), sub(), sub())
	case 14:
		return fmt.Sprintf("(%s %s)", pick(c, "get x", "get y", "tag A", "tag B"), sub())
	}
	return fmt.Sprintf("(app %s %s)", sub(), sub())
}

// smallTexts is each tree of that many nodes, of some kinds, with two names.
func smallTexts(size int) []string {
	if size == 1 {
		return []string{"x", "y", "1"}
	}
	var l []string
	for _, a := range smallTexts(size - 1) {
		l = append(l, "(fun x "+a+")", "(fun y "+a+")", "(get x "+a+")")
	}
	for one := 1; one < size-1; one++ {
		for _, a := range smallTexts(one) {
			for _, b := range smallTexts(size - 1 - one) {
				l = append(l, "(app "+a+" "+b+")", "(let x "+a+" "+b+")", "(let y "+a+" "+b+")", "(case "+a+" A x "+b+")", "(case "+a+" A y "+b+")")
				if strings.HasPrefix(a, "(fun") {
					l = append(l, "(rec x "+a+" "+b+")", "(rec y "+a+" "+b+")")
				}
			}
		}
	}
	return l
}

// wantedBinders goes up from each EVar to the first node that binds its name where it came from.
func wantedBinders(e api.Expr) []scope.Binder {
	up, which := make([]int, len(e.L)), make([]int, len(e.L))
	up[len(e.L)-1] = -1
	for i := range e.L {
		for k, p := range kidPlaces(&e.L[i]) {
			up[*p], which[*p] = i, k
		}
	}
	l := slices.Repeat([]scope.Binder{{Node: -1, Branch: -1}}, len(e.L))
	for i, n := range e.L {
		if n.Kind != api.EVar {
			continue
		}
		for at := i; up[at] >= 0; at = up[at] {
			if bound, branch := boundIn(e.L[up[at]], which[at]); bound == n.Name {
				l[i] = scope.Binder{Node: up[at], Branch: branch}
				break
			}
		}
	}
	return l
}

// boundIn is the name that n binds in its child k, and in which branch of a case that stands.
func boundIn(n api.Node, k int) (string, int) {
	switch {
	case n.Kind == api.EFun, n.Kind == api.ERec, n.Kind == api.ELet && k == 1:
		return n.Name, -1
	case n.Kind == api.ECase && k > 0:
		return n.L[k-1].Var, k - 1
	}
	return "", -1
}

// counted is a text that two trees have in common just if they are alike: of a name that is bound it has how many binders stand between.
func counted(e api.Expr, i int, in []string) string {
	n := e.L[i]
	if n.Kind == api.EVar {
		for k := range in {
			if in[len(in)-1-k] == n.Name {
				return fmt.Sprint("#", k)
			}
		}
		return "free " + n.Name
	}
	s := fmt.Sprintf("(%d %d %q", n.Kind, n.N, n.S)
	if n.Kind == api.EGet || n.Kind == api.ETag {
		s += " " + n.Name
	}
	for _, f := range n.L {
		s += " " + f.Name
	}
	for k, kid := range tree.Kids(n) {
		inside := in
		if x, _ := boundIn(n, k); x != "" {
			inside = append(slices.Clone(in), x)
		}
		s += " " + counted(e, kid, inside)
	}
	return s + ")"
}

// short bounds how much is told where a test fails.
func short(v any) string { return fmt.Sprintf("%.400s", fmt.Sprint(v)) }

func wantAlpha(t *testing.T, what string, a, b api.Expr, want bool) {
	t.Helper()
	if scope.Alpha(a, b) != want || scope.Alpha(b, a) != want {
		t.Errorf("%s: Alpha(a, b) %t, Alpha(b, a) %t, want %t", what, scope.Alpha(a, b), scope.Alpha(b, a), want)
	}
}

// wantScope holds what all calls answer of a tree that may be against the binders of its nodes.
func wantScope(t *testing.T, what string, e api.Expr, binders []scope.Binder) {
	t.Helper()
	before := fmt.Sprintf("%+v", e)
	got, err := scope.Binders(e)
	if err != api.OK || !slices.Equal(got, binders) {
		t.Errorf("%s: Binders %s, %d, want %s", what, short(got), err, short(binders))
	}
	var free []string
	first, closed := 0, api.OK
	uses := map[int][]int{}
	for i, b := range binders {
		if b.Node >= 0 {
			uses[b.Node] = append(uses[b.Node], i)
		}
		if e.L[i].Kind != api.EVar || b.Node >= 0 {
			continue
		}
		if closed == api.OK {
			first, closed = i, api.ErrScope
		}
		if !slices.Contains(free, e.L[i].Name) {
			free = append(free, e.L[i].Name)
		}
	}
	if l, err := scope.Free(e); err != api.OK || !slices.Equal(l, free) {
		t.Errorf("%s: Free %s, %d, want %s", what, short(l), err, short(free))
	}
	if i, err := scope.Closed(e); i != first || err != closed {
		t.Errorf("%s: Closed %d, %d, want %d, %d", what, i, err, first, closed)
	}
	for i := range e.L {
		if l, err := scope.Uses(e, i); err != api.OK || !slices.Equal(l, uses[i]) {
			t.Errorf("%s: Uses of %d: %s, %d, want %s", what, i, short(l), err, short(uses[i]))
		}
	}
	for _, i := range []int{-1, -2, len(e.L), len(e.L) + 1, -len(e.L), math.MinInt, math.MaxInt} {
		if l, err := scope.Uses(e, i); len(l) > 0 || err != api.ErrNone {
			t.Errorf("%s: Uses of %d, which is no node: %v, %d", what, i, l, err)
		}
	}
	wantAlpha(t, what+", and itself", e, e, true)
	if fmt.Sprintf("%+v", e) != before {
		t.Errorf("%s: what was handed in is changed", what)
	}
}

// wantMoved is wantScope of e, and of the same tree in some other orders.
func wantMoved(t *testing.T, c *chance, what string, e api.Expr, binders []scope.Binder) {
	t.Helper()
	wantScope(t, what, e, binders)
	for range 3 {
		order := anOrder(c, e)
		f := moved(e, order)
		told := fmt.Sprint(what, ", whose nodes stand as ", order)
		wantScope(t, told, f, movedBinders(binders, order))
		wantAlpha(t, told+", and as they stood", e, f, true)
	}
}

// wantRefused holds what all calls answer of a tree that may not be against its error, and all else against its zero value.
func wantRefused(t *testing.T, what string, e api.Expr, want api.Errno) {
	t.Helper()
	before := fmt.Sprintf("%+v", e)
	if got := tree.May(e); got != want {
		t.Errorf("%s: May %d, want %d", what, got, want)
	}
	if l, err := scope.Binders(e); err != want || len(l) > 0 {
		t.Errorf("%s: Binders %s, %d, want error %d", what, short(l), err, want)
	}
	if l, err := scope.Free(e); err != want || len(l) > 0 {
		t.Errorf("%s: Free %s, %d, want error %d", what, short(l), err, want)
	}
	if i, err := scope.Closed(e); err != want || i != 0 {
		t.Errorf("%s: Closed %d, %d, want 0, and error %d", what, i, err, want)
	}
	for _, i := range []int{0, len(e.L) - 1, -1, len(e.L), math.MinInt, math.MaxInt} {
		if l, err := scope.Uses(e, i); err != want || len(l) > 0 {
			t.Errorf("%s: Uses of %d: %s, %d, want error %d", what, i, short(l), err, want)
		}
	}
	wantAlpha(t, what+", and itself", e, e, false)
	wantAlpha(t, what+", and one that may be", e, read("(fun x x)"), false)
	if fmt.Sprintf("%+v", e) != before {
		t.Errorf("%s: what was handed in is changed", what)
	}
}
