package tree_test

import (
	"fmt"
	"regexp"
	"slices"
	"strings"
	"testing"

	"syntagma/api"
	"syntagma/tree"
)

// term is a node with its children, without places: what a tree means, in whatever order its nodes stand.
type term struct {
	n    api.Node
	kids []*term
}

func mk(n api.Node, kids ...*term) *term { return &term{n: n, kids: kids} }

func num(n int64) *term                 { return mk(api.Node{Kind: api.EInt, N: n}) }
func truth(n int64) *term               { return mk(api.Node{Kind: api.EBool, N: n}) }
func text(s string) *term               { return mk(api.Node{Kind: api.EStr, S: s}) }
func use(x string) *term                { return mk(api.Node{Kind: api.EVar, Name: x}) }
func fun(x string, a *term) *term       { return mk(api.Node{Kind: api.EFun, Name: x}, a) }
func app(a, b *term) *term              { return mk(api.Node{Kind: api.EApp}, a, b) }
func let(x string, a, b *term) *term    { return mk(api.Node{Kind: api.ELet, Name: x}, a, b) }
func letRec(x string, a, b *term) *term { return mk(api.Node{Kind: api.ERec, Name: x}, a, b) }
func cond(a, b, c *term) *term          { return mk(api.Node{Kind: api.EIf}, a, b, c) }
func prim(p int64, a, b *term) *term    { return mk(api.Node{Kind: api.EPrim, N: p}, a, b) }
func get(x string, a *term) *term       { return mk(api.Node{Kind: api.EGet, Name: x}, a) }
func tag(x string, a *term) *term       { return mk(api.Node{Kind: api.ETag, Name: x}, a) }
func record(kids ...*term) *term {
	return mk(api.Node{Kind: api.ERecord, L: labels("p", "", len(kids))}, kids...)
}
func caseOf(a *term, kids ...*term) *term {
	return mk(api.Node{Kind: api.ECase, L: labels("P", "v", len(kids))}, append([]*term{a}, kids...)...)
}

// labels holds as many parts as are asked for, whose names differ, and which bind a name, if there is one.
func labels(name, binds string, many int) []api.Field {
	var l []api.Field
	for i := range many {
		l = append(l, api.Field{Name: fmt.Sprint(name, i), Var: binds})
	}
	return l
}

// copyOf shares nothing with t.
func (t *term) copyOf() *term {
	n := t.n
	n.L = slices.Clone(n.L)
	var kids []*term
	for _, k := range t.kids {
		kids = append(kids, k.copyOf())
	}
	return mk(n, kids...)
}

// all is t's nodes, in order.
func (t *term) all() []*term {
	var l []*term
	for _, k := range t.kids {
		l = append(l, k.all()...)
	}
	return append(l, t)
}

func (t *term) deep() int {
	deep := 0
	for _, k := range t.kids {
		deep = max(deep, k.deep())
	}
	return deep + 1
}

// marked is a copy of t, each node of which has a Pos of its own, so that none can be taken for another one.
func (t *term) marked() *term {
	c := t.copyOf()
	for i, m := range c.all() {
		m.n.Pos = 1000 - i
	}
	return c
}

// laid is the tree whose nodes stand as order has them.
func laid(order []*term) api.Expr {
	at := map[*term]int{}
	var e api.Expr
	for i, t := range order {
		at[t] = i
		n := t.n
		n.L = slices.Clone(n.L)
		own := []*int{&n.A, &n.B, &n.C}[:ownWanted[n.Kind]]
		for k, kid := range t.kids {
			if k < len(own) {
				*own[k] = at[kid]
			} else {
				n.L[k-len(own)].At = at[kid]
			}
		}
		e.L = append(e.L, n)
	}
	return e
}

// inOrder is t as a tree in order.
func (t *term) inOrder() api.Expr { return laid(t.all()) }

// orders is all orders of t's nodes in which each child stands ahead of its parent.
func (t *term) orders() [][]*term {
	var all [][]*term
	var goOn func(done, left []*term)
	goOn = func(done, left []*term) {
		if len(left) == 0 {
			all = append(all, slices.Clone(done))
		}
		for i, m := range left {
			if slices.ContainsFunc(m.kids, func(k *term) bool { return !slices.Contains(done, k) }) {
				continue
			}
			goOn(append(slices.Clone(done), m), slices.Delete(slices.Clone(left), i, i+1))
		}
	}
	goOn(nil, t.all())
	return all
}

// chance is a row of numbers that is the same each time.
type chance struct{ now uint64 }

func (c *chance) below(n int) int {
	c.now = c.now*6364136223846793005 + 1442695040888963407
	return int(c.now>>33) % n
}

// anOrder is one of t's orders.
func (t *term) anOrder(c *chance) []*term {
	left := t.all()
	done := map[*term]bool{}
	var order []*term
	for len(left) > 0 {
		i := c.below(len(left))
		if slices.ContainsFunc(left[i].kids, func(k *term) bool { return !done[k] }) {
			continue
		}
		done[left[i]] = true
		order = append(order, left[i])
		left = slices.Delete(left, i, i+1)
	}
	return order
}

// aTerm is a term of some nodes.
func aTerm(c *chance, deep int) *term {
	sub := func() *term { return aTerm(c, deep-1) }
	x := string(rune('a' + c.below(3)))
	kind := c.below(14) + 1
	if deep <= 1 {
		kind = c.below(4) + 1
	}
	switch kind {
	case api.EInt:
		return num(int64(c.below(5) - 2))
	case api.EBool:
		return truth(int64(c.below(2)))
	case api.EStr:
		return text(x)
	case api.EVar:
		return use(x)
	case api.EFun:
		return fun(x, sub())
	case api.EApp:
		return app(sub(), sub())
	case api.ELet:
		return let(x, sub(), sub())
	case api.ERec:
		return letRec(x, fun(x, sub()), sub())
	case api.EIf:
		return cond(sub(), sub(), sub())
	case api.EPrim:
		return prim(int64(c.below(7)+1), sub(), sub())
	case api.EGet:
		return get(x, sub())
	case api.ETag:
		return tag(strings.ToUpper(x), sub())
	case api.ERecord:
		var kids []*term
		for range c.below(4) {
			kids = append(kids, sub())
		}
		return record(kids...)
	}
	a := sub()
	kids := []*term{sub()}
	for range c.below(3) {
		kids = append(kids, sub())
	}
	return caseOf(a, kids...)
}

// terms is one term of each shape, of each of some kinds, of that many nodes.
func terms(size int) []*term {
	if size == 1 {
		return []*term{num(7), use("x"), record()}
	}
	var l []*term
	for _, a := range terms(size - 1) {
		l = append(l, fun("x", a), tag("T", a), record(a))
	}
	for one := 1; one < size-1; one++ {
		for _, a := range terms(one) {
			for _, b := range terms(size - 1 - one) {
				l = append(l, app(a, b), record(a, b), caseOf(a, b))
				if a.n.Kind == api.EFun {
					l = append(l, letRec("x", a, b))
				}
			}
		}
		for two := 1; one+two < size-1; two++ {
			for _, a := range terms(one) {
				for _, b := range terms(two) {
					for _, c := range terms(size - 1 - one - two) {
						l = append(l, cond(a, b, c), record(a, b, c), caseOf(a, b, c))
					}
				}
			}
		}
	}
	return l
}

// What the chapter's table says, in a form of its own.
var (
	ownWanted  = map[int]int{api.EFun: 1, api.EApp: 2, api.ELet: 2, api.ERec: 2, api.EIf: 3, api.EPrim: 2, api.EGet: 1, api.ETag: 1, api.ECase: 1}
	countsName = map[int]string{api.EVar: "name", api.EFun: "name", api.ELet: "name", api.ERec: "name", api.EGet: "name", api.ETag: "tag"}
	leastN     = map[int]int64{api.EBool: 0, api.EPrim: 1}
	greatestN  = map[int]int64{api.EBool: 1, api.EPrim: 7}
	leastL     = map[int]int{api.ERecord: 0, api.ECase: 1}
	aName      = regexp.MustCompile(`^[a-z_][a-zA-Z0-9_]{0,19}$`)
	aTag       = regexp.MustCompile(`^[A-Z][a-zA-Z0-9_]{0,19}$`)
	aKeyword   = regexp.MustCompile(`^(fun|let|rec|in|if|then|else|case|of|end|true|false|check|ask|top|bot|int|bool|string|mu)$`)
)

func isWanted(what, s string) bool {
	switch what {
	case "name":
		return aName.MatchString(s) && !strings.HasSuffix(s, "\n") && !aKeyword.MatchString(s)
	case "tag":
		return aTag.MatchString(s) && !strings.HasSuffix(s, "\n")
	}
	return s == ""
}

// wantedKids is the places of a node's children, as the chapter's table has them.
func wantedKids(n api.Node) []int {
	l := slices.Clone([]int{n.A, n.B, n.C}[:ownWanted[n.Kind]])
	if _, ok := leastL[n.Kind]; ok {
		for _, f := range n.L {
			l = append(l, f.At)
		}
	}
	return l
}

// wantedNode tells whether the chapter's table has such a node.
func wantedNode(n api.Node) bool {
	if n.Kind < api.EInt || n.Kind > api.ECase || n.Pos < 0 || n.Pos > 1048576 {
		return false
	}
	if most, ok := greatestN[n.Kind]; ok && (n.N < leastN[n.Kind] || n.N > most) || !ok && n.Kind != api.EInt && n.N != 0 {
		return false
	}
	if n.Kind == api.EStr && len(n.S) > 200 || n.Kind != api.EStr && n.S != "" {
		return false
	}
	if !isWanted(countsName[n.Kind], n.Name) || !slices.Equal([]int{n.A, n.B, n.C}[ownWanted[n.Kind]:], make([]int, 3-ownWanted[n.Kind])) {
		return false
	}
	least, ok := leastL[n.Kind]
	if !ok {
		return len(n.L) == 0
	}
	if len(n.L) < least || len(n.L) > 30 {
		return false
	}
	what, binds := "name", ""
	if n.Kind == api.ECase {
		what, binds = "tag", "name"
	}
	for i, f := range n.L {
		if !isWanted(what, f.Name) || !isWanted(binds, f.Var) {
			return false
		}
		for _, g := range n.L[:i] {
			if f.Name == g.Name {
				return false
			}
		}
	}
	return true
}

// wantedMay is the chapter's answer of May, and how deep the root is.
func wantedMay(e api.Expr) (api.Errno, int) {
	if len(e.L) < 1 || len(e.L) > 600 {
		return api.ErrFull, 0
	}
	isKid := map[int]int{}
	for i, n := range e.L {
		if !wantedNode(n) {
			return api.ErrForm, 0
		}
		for _, k := range wantedKids(n) {
			if k < 0 || k >= i {
				return api.ErrForm, 0
			}
			isKid[k]++
		}
		if n.Kind == api.ERec && e.L[n.A].Kind != api.EFun {
			return api.ErrForm, 0
		}
	}
	for i := range len(e.L) - 1 {
		if isKid[i] != 1 {
			return api.ErrForm, 0
		}
	}
	var deep func(i int) int
	deep = func(i int) int {
		most := 0
		for _, k := range wantedKids(e.L[i]) {
			most = max(most, deep(k))
		}
		return most + 1
	}
	if d := deep(len(e.L) - 1); d <= 100 {
		return api.OK, d
	}
	return api.ErrDeep, 0
}

// shown tells all of a tree, in a form in which an empty list is as none.
func shown(e api.Expr) string { return fmt.Sprintf("%+v", e) }

// brief bounds how much of a tree is told where a test fails.
func brief(e api.Expr) string {
	s := shown(e)
	if len(s) > 600 {
		return s[:600] + fmt.Sprintf(".. of %d nodes", len(e.L))
	}
	return s
}

func wantExpr(t *testing.T, what string, got, want api.Expr) {
	t.Helper()
	if shown(got) != shown(want) {
		t.Errorf("%s: %s, want %s", what, brief(got), brief(want))
	}
}

func wantErr(t *testing.T, what string, got, want api.Errno) {
	t.Helper()
	if got != want {
		t.Errorf("%s: error %d, want %d", what, int(got), int(want))
	}
}

// wantInts holds two lists against each other; an empty one is as none.
func wantInts(t *testing.T, what string, got, want []int) {
	t.Helper()
	if !slices.Equal(got, want) {
		t.Errorf("%s: %v, want %v", what, got, want)
	}
}

// wantRefused holds each call's answer of a tree that may not be against its error, and all else against its zero value.
func wantRefused(t *testing.T, what string, e api.Expr, want api.Errno) {
	t.Helper()
	before := shown(e)
	wantErr(t, what+": May", tree.May(e), want)
	if d := tree.Depth(e); d != 0 {
		t.Errorf("%s: Depth %d, want 0", what, d)
	}
	f, err := tree.Norm(e)
	wantErr(t, what+": Norm", err, want)
	wantExpr(t, what+": Norm", f, api.Expr{})
	for _, i := range []int{-1, 0, len(e.L) - 1, len(e.L)} {
		f, err = tree.Sub(e, i)
		wantErr(t, what+": Sub", err, want)
		wantExpr(t, what+": Sub", f, api.Expr{})
	}
	wantInts(t, what+": Parents", tree.Parents(e), nil)
	one := num(1).inOrder()
	if tree.Same(e, e) || tree.Same(e, one) || tree.Same(one, e) {
		t.Errorf("%s: Same of it is true", what)
	}
	if shown(e) != before {
		t.Errorf("%s: what was handed in is changed", what)
	}
}

// wantMay holds all calls of e against the chapter's answer of May.
func wantMay(t *testing.T, what string, e api.Expr) {
	t.Helper()
	want, deep := wantedMay(e)
	if want != api.OK {
		wantRefused(t, what, e, want)
		return
	}
	wantErr(t, what+": May", tree.May(e), want)
	if d := tree.Depth(e); d != deep {
		t.Errorf("%s: Depth %d, want %d", what, d, deep)
	}
}
