package subst_test

import (
	"fmt"
	"slices"
	"strconv"
	"strings"
	"testing"
	"unsafe"

	"syntagma/api"
	"syntagma/subst"
	"syntagma/tree"
)

// form is a node of that word, with a Name, if its word is followed by one.
type form struct {
	n     api.Node
	named bool
}

var forms = map[string]form{
	"fun": {api.Node{Kind: api.EFun}, true}, "let": {api.Node{Kind: api.ELet}, true}, "rec": {api.Node{Kind: api.ERec}, true},
	"get": {api.Node{Kind: api.EGet}, true}, "tag": {api.Node{Kind: api.ETag}, true},
	"app": {api.Node{Kind: api.EApp}, false}, "if": {api.Node{Kind: api.EIf}, false},
	"+": {api.Node{Kind: api.EPrim, N: api.PAdd}, false}, "-": {api.Node{Kind: api.EPrim, N: api.PSub}, false},
	"record": {api.Node{Kind: api.ERecord}, false}, "case": {api.Node{Kind: api.ECase}, false},
}

// read is a tree in order. Its text is a number, a truth, a text in quotes or a name; or in round brackets a word of forms, and what its node has: (record a 1 b 2), (case e A x 1 B y 2). A @ behind a word, and a number, is its node's Pos: (fun@7 x x@9).
func read(s string) api.Expr {
	l := strings.Fields(strings.NewReplacer("(", " ( ", ")", " ) ").Replace(s))
	r := &words{l}
	e := r.expr()
	if len(r.l) > 0 {
		panic("more than a tree: " + s)
	}
	return e
}

type words struct{ l []string }

func (r *words) next() string {
	s := r.l[0]
	r.l = r.l[1:]
	return s
}

// placed is the next word, and the Pos behind it.
func (r *words) placed() (string, int) {
	s, pos, _ := strings.Cut(r.next(), "@")
	at, _ := strconv.Atoi(pos)
	return s, at
}

func (r *words) expr() api.Expr {
	s, pos := r.placed()
	n := api.Node{Kind: api.EVar, Name: s}
	switch {
	case s == "(":
		e := r.bracket()
		r.next()
		return e
	case s == "false":
		n = api.Node{Kind: api.EBool}
	case s == "true":
		n = api.Node{Kind: api.EBool, N: 1}
	case s[0] == '"':
		n = api.Node{Kind: api.EStr, S: strings.Trim(s, `"`)}
	case s[0] <= '9':
		v, _ := strconv.ParseInt(s, 10, 64)
		n = api.Node{Kind: api.EInt, N: v}
	}
	n.Pos = pos
	return tree.Join(n)
}

func (r *words) bracket() api.Expr {
	word, pos := r.placed()
	f, ok := forms[word]
	if !ok {
		panic("no word: " + word)
	}
	f.n.Pos = pos
	if f.named {
		f.n.Name = r.next()
	}
	var kids []api.Expr
	for r.l[0] != ")" {
		if f.n.Kind == api.ERecord || f.n.Kind == api.ECase && len(kids) > 0 {
			part := api.Field{Name: r.next()}
			if f.n.Kind == api.ECase {
				part.Var = r.next()
			}
			f.n.L = append(f.n.L, part)
		}
		kids = append(kids, r.expr())
	}
	return tree.Join(f.n, kids...)
}

// below is the node i of a tree that may be, and its children, as trees.
func below(e api.Expr, i int) (api.Node, []api.Expr) {
	var kids []api.Expr
	for _, kid := range tree.Kids(e.L[i]) {
		n, l := below(e, kid)
		kids = append(kids, tree.Join(n, l...))
	}
	return e.L[i], kids
}

// binds is the name that n binds in its child k, if it binds one.
func binds(n api.Node, k int) string {
	switch {
	case n.Kind == api.EFun, n.Kind == api.ERec, n.Kind == api.ELet && k == 1:
		return n.Name
	case n.Kind == api.ECase && k > 0:
		return n.L[k-1].Var
	}
	return ""
}

// wantedPut is the tree below the node i with v put in for x, which goes no further down where x is bound again; and at how many places x stood.
func wantedPut(e api.Expr, i int, x string, v api.Expr) (api.Expr, int) {
	n := e.L[i]
	if n.Kind == api.EVar && n.Name == x {
		return v, 1
	}
	many := 0
	var kids []api.Expr
	for k, kid := range tree.Kids(n) {
		if binds(n, k) == x {
			m, l := below(e, kid)
			kids = append(kids, tree.Join(m, l...))
			continue
		}
		one, times := wantedPut(e, kid, x, v)
		kids = append(kids, one)
		many += times
	}
	return tree.Join(n, kids...), many
}

// wantedFree is the names that stand free below the node i.
func wantedFree(e api.Expr, i int) map[string]bool {
	n := e.L[i]
	free := map[string]bool{}
	if n.Kind == api.EVar {
		free[n.Name] = true
	}
	for k, kid := range tree.Kids(n) {
		for x := range wantedFree(e, kid) {
			if x != binds(n, k) {
				free[x] = true
			}
		}
	}
	return free
}

// wantedUnfold is the function that the let rec e stands for.
func wantedUnfold(e api.Expr) api.Expr {
	root, kids := below(e, len(e.L)-1)
	fun, body := below(kids[0], len(kids[0].L)-1)
	if fun.Name == root.Name {
		return kids[0]
	}
	return tree.Join(api.Node{Kind: api.EFun, Name: fun.Name, Pos: fun.Pos}, tree.Join(api.Node{Kind: api.ERec, Name: root.Name, Pos: root.Pos}, kids[0], body[0]))
}

// wantedValue tells whether below the node i stands a value.
func wantedValue(e api.Expr, i int) bool {
	switch n := e.L[i]; n.Kind {
	case api.EInt, api.EBool, api.EStr, api.EFun:
		return true
	case api.ETag:
		return wantedValue(e, n.A)
	case api.ERecord:
		for _, f := range n.L {
			if !wantedValue(e, f.At) {
				return false
			}
		}
		return true
	}
	return false
}

// chance is a row of numbers that is the same each time.
type chance struct{ now uint64 }

func (c *chance) below(n int) int {
	c.now = c.now*6364136223846793005 + 1442695040888963407
	return int(c.now>>33) % n
}

func pick[T any](c *chance, l ...T) T { return l[c.below(len(l))] }

// moved is the same tree, whose nodes stand in another order.
func moved(c *chance, e api.Expr) api.Expr {
	var order []int
	for len(order) < len(e.L) {
		i := c.below(len(e.L))
		waits := func(kid int) bool { return !slices.Contains(order, kid) }
		if waits(i) && !slices.ContainsFunc(tree.Kids(e.L[i]), waits) {
			order = append(order, i)
		}
	}
	var f api.Expr
	for _, old := range order {
		n := e.L[old]
		n.L = slices.Clone(n.L)
		own := map[int]int{api.EFun: 1, api.EApp: 2, api.ELet: 2, api.ERec: 2, api.EIf: 3, api.EPrim: 2, api.EGet: 1, api.ETag: 1, api.ECase: 1}
		kids := []*int{&n.A, &n.B, &n.C}[:own[n.Kind]]
		for i := range n.L {
			kids = append(kids, &n.L[i].At)
		}
		for _, p := range kids {
			*p = slices.Index(order, *p)
		}
		f.L = append(f.L, n)
	}
	return f
}

// marked is the same tree, each node of which has a Pos of its own, from first on.
func marked(e api.Expr, first int) api.Expr {
	e = api.Expr{L: slices.Clone(e.L)}
	for i := range e.L {
		e.L[i].Pos = first + i
	}
	return e
}

// anyText is a tree's text, in which few names are bound and used often.
func anyText(c *chance, deep int) string {
	sub := func() string { return anyText(c, deep-1) }
	x := func() string { return pick(c, "x", "y", "z") }
	kind := c.below(17)
	if deep <= 1 {
		kind = c.below(5)
	}
	switch kind {
	case 0:
		return pick(c, "1", "2", "true", "false", `"x"`, "(record)")
	case 1, 2, 3, 4:
		return x()
	case 5, 6:
		return fmt.Sprintf("(fun %s %s)", x(), sub())
	case 7:
		return fmt.Sprintf("(let %s %s %s)", x(), sub(), sub())
	case 8:
		return anyRec(c, deep)
	case 9, 10:
		return fmt.Sprintf("(case %s A %s %s B %s %s C %s %s)", sub(), x(), sub(), x(), sub(), x(), sub())
	case 11:
		return fmt.Sprintf("(record x %s y %s)", sub(), sub())
	case 12:
		return fmt.Sprintf("(if %s %s %s)", sub(), sub(), sub())
	case 13:
		return fmt.Sprintf("(%s %s %s)", pick(c, "+", "-"), sub(), sub())
	case 14:
		return fmt.Sprintf("(%s %s)", pick(c, "get x", "get y", "tag A", "tag B"), sub())
	}
	return fmt.Sprintf("(app %s %s)", sub(), sub())
}

// anyRec is the text of a tree whose root is a let rec.
func anyRec(c *chance, deep int) string {
	x := func() string { return pick(c, "x", "y", "z") }
	return fmt.Sprintf("(rec %s (fun %s %s) %s)", x(), x(), anyText(c, deep-1), anyText(c, deep-1))
}

// smallTexts is each tree of that many nodes, of some kinds, with two names.
func smallTexts(size int) []string {
	if size == 1 {
		return []string{"x", "y", "1", "(record)"}
	}
	var l []string
	for _, a := range smallTexts(size - 1) {
		l = append(l, "(fun x "+a+")", "(fun y "+a+")", "(get x "+a+")", "(tag X "+a+")", "(record x "+a+")")
	}
	for one := 1; one < size-1; one++ {
		for _, a := range smallTexts(one) {
			for _, b := range smallTexts(size - 1 - one) {
				l = append(l, "(app "+a+" "+b+")", "(let x "+a+" "+b+")", "(let y "+a+" "+b+")", "(case "+a+" A x "+b+")", "(case "+a+" A y "+b+")", "(record x "+a+" y "+b+")")
				if strings.HasPrefix(a, "(fun") {
					l = append(l, "(rec x "+a+" "+b+")", "(rec y "+a+" "+b+")")
				}
			}
		}
	}
	return l
}

// halves is a text of many leaves.
func halves(many int, leaf string) string {
	if many == 1 {
		return leaf
	}
	return "(app " + halves(many/2, leaf) + " " + halves(many-many/2, leaf) + ")"
}

// shown tells all of a tree, in a form in which an empty list is as none.
func shown(e api.Expr) string { return fmt.Sprintf("%+v", e) }

// short bounds how much is told where a test fails.
func short(v any) string { return fmt.Sprintf("%.400s", fmt.Sprint(v)) }

// texts is where each text of a tree lies.
func texts(e api.Expr) map[*byte]bool {
	at := map[*byte]bool{}
	for _, n := range e.L {
		for _, s := range []string{n.Name, n.S} {
			if s != "" {
				at[unsafe.StringData(s)] = true
			}
		}
		for _, f := range n.L {
			at[unsafe.StringData(f.Name)] = true
			if f.Var != "" {
				at[unsafe.StringData(f.Var)] = true
			}
		}
	}
	return at
}

// wantOwn holds it that got shares no memory with those of l: its texts lie elsewhere, and what becomes of it changes none of them.
func wantOwn(t *testing.T, what string, got api.Expr, l ...api.Expr) {
	t.Helper()
	for _, e := range l {
		before := shown(e)
		for at := range texts(got) {
			if texts(e)[at] {
				t.Errorf("%s: a text of the answer lies where one lies that was handed in", what)
			}
		}
		for i := range got.L {
			got.L[i].Pos++
			for k := range got.L[i].L {
				got.L[i].L[k].At++
			}
		}
		if shown(e) != before {
			t.Errorf("%s: what becomes of the answer changes %s", what, short(before))
		}
	}
}

// wantAnswer holds an answer against what is wanted.
func wantAnswer(t *testing.T, what string, got api.Expr, err api.Errno, want api.Expr, wantErr api.Errno) {
	t.Helper()
	if err != wantErr || shown(got) != shown(want) {
		t.Errorf("%s: %s, error %d, want %s, error %d", short(what), short(shown(got)), int(err), short(shown(want)), int(wantErr))
	}
}

// wantPut holds Put against an answer.
func wantPut(t *testing.T, what string, e api.Expr, x string, v, want api.Expr, wantErr api.Errno) {
	t.Helper()
	before := shown(e) + shown(v)
	got, err := subst.Put(e, x, v)
	wantAnswer(t, what, got, err, want, wantErr)
	if shown(e)+shown(v) != before {
		t.Errorf("%s: what was handed in is changed", short(what))
	}
}

// wantUnfold holds Unfold against an answer.
func wantUnfold(t *testing.T, what string, e, want api.Expr, wantErr api.Errno) {
	t.Helper()
	before := shown(e)
	got, err := subst.Unfold(e)
	wantAnswer(t, what, got, err, want, wantErr)
	if shown(e) != before {
		t.Errorf("%s: what was handed in is changed", short(what))
	}
}

// wantValue holds Value against an answer.
func wantValue(t *testing.T, what string, e api.Expr, want bool) {
	t.Helper()
	before := shown(e)
	if got := subst.Value(e); got != want {
		t.Errorf("%s: Value %t, want %t", short(what), got, want)
	}
	if shown(e) != before {
		t.Errorf("%s: what was handed in is changed", short(what))
	}
}

// bad is trees that may not be, by what is wrong with them, and May's error of them.
func bad() map[string]api.Errno {
	many := "(fun x " + halves(300, "1") + ")"
	deep := strings.Repeat("(tag T ", 99) + "1" + strings.Repeat(")", 99)
	return map[string]api.Errno{
		"(fun X 1)": api.ErrForm, "(rec f 1 2)": api.ErrForm, "(fun in 1)": api.ErrForm, "(tag t 1)": api.ErrForm, "Y": api.ErrForm, "(record a 1 a 2)": api.ErrForm, "(case 1)": api.ErrForm, "(case 1 A X 2)": api.ErrForm,
		"(tag T " + many + ")": api.ErrFull, "(tag T " + deep + ")": api.ErrDeep,
		// The one that is named first.
		"(tag t " + many + ")": api.ErrFull, "(tag t " + deep + ")": api.ErrForm,
	}
}
