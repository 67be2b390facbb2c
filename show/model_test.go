package show_test

import (
	"fmt"
	"regexp"
	"slices"
	"strconv"
	"strings"
	"testing"

	"syntagma/api"
	"syntagma/lex"
	"syntagma/parse"
	"syntagma/show"
	"syntagma/tree"
)

// rows is the chapter's rows, by a word for each kind, and for each operation: a letter and a number is a child, and how tight it must be; NAME is the node's name.
var rows = map[string]string{
	"fun": "fun NAME -> A0", "let": "let NAME = A0 in B0", "rec": "let rec NAME = A0 in B0", "if": "if A0 then B0 else C0",
	"<": "A2 < B2", "==": "A2 == B2", "+": "A2 + B3", "-": "A2 - B3", "^": "A2 ^ B3", "*": "A3 * B4", "/": "A3 / B4",
	"app": "A5 B6", "get": "A6.NAME", "tag": "NAME A6",
}

// levels is how tight a node of that word is; 7, if it is none of these.
var levels = map[string]int{"fun": 0, "let": 0, "rec": 0, "if": 0, "<": 1, "==": 1, "+": 2, "-": 2, "^": 2, "*": 3, "/": 3, "tag": 4, "app": 5, "get": 6}

// words is the word of each kind whose operation does not count, and of each operation.
var (
	words = map[int]string{api.EInt: "number", api.EBool: "truth", api.EStr: "text", api.EVar: "name", api.EFun: "fun", api.EApp: "app", api.ELet: "let", api.ERec: "rec", api.EIf: "if", api.ERecord: "record", api.EGet: "get", api.ETag: "tag", api.ECase: "case"}
	ops   = map[int64]string{api.PAdd: "+", api.PSub: "-", api.PMul: "*", api.PDiv: "/", api.PLess: "<", api.PSame: "==", api.PJoin: "^"}
)

func word(n api.Node) string {
	if n.Kind == api.EPrim {
		return ops[n.N]
	}
	return words[n.Kind]
}

func level(n api.Node) int {
	if l, ok := levels[word(n)]; ok {
		return l
	}
	return 7
}

var place = regexp.MustCompile(`\b[ABC][0-9]\b|\bNAME\b`)

// wantedText is the text of the node i, as the chapter's rows have it.
func wantedText(e api.Expr, i int) string {
	n := e.L[i]
	child := func(at, tight int) string {
		if level(e.L[at]) < tight {
			return "(" + wantedText(e, at) + ")"
		}
		return wantedText(e, at)
	}
	switch n.Kind {
	case api.EInt:
		return strings.Replace(strconv.FormatInt(n.N, 10), "-", "~", 1)
	case api.EBool:
		return strconv.FormatBool(n.N == 1)
	case api.EStr:
		return writing(n.S)
	case api.EVar:
		return n.Name
	}
	var l []string
	for _, f := range n.L {
		l = append(l, strings.Join(strings.Fields(f.Name+" "+f.Var), " ")+map[int]string{api.ERecord: " = ", api.ECase: " -> "}[n.Kind]+child(f.At, 0))
	}
	switch n.Kind {
	case api.ERecord:
		return "{" + strings.Join(l, ", ") + "}"
	case api.ECase:
		return "case " + child(n.A, 0) + " of " + strings.Join(l, " | ") + " end"
	}
	return place.ReplaceAllStringFunc(rows[word(n)], func(p string) string {
		if p == "NAME" {
			return n.Name
		}
		return child([]int{n.A, n.B, n.C}[p[0]-'A'], int(p[1]-'0'))
	})
}

// writing is a text's writing, byte by byte.
func writing(s string) string {
	w := `"`
	for _, c := range []byte(s) {
		own, ok := map[byte]string{'"': `\"`, '\\': `\\`, '\n': `\n`, '\t': `\t`}[c]
		switch {
		case ok:
			w += own
		case c < 32 || c > 126:
			w += fmt.Sprintf(`\x%02x`, c)
		default:
			w += string(rune(c))
		}
	}
	return w + `"`
}

// read is a tree in order. Its text is a number, a truth, a text in quotes (in which no blank stands) or a name; or in round brackets a word, and what its node has: (record a 1 b 2), (case e A x 1 B y 2).
func read(s string) api.Expr {
	r := &reader{strings.Fields(strings.NewReplacer("(", " ( ", ")", " ) ").Replace(s))}
	e := r.expr()
	if len(r.l) > 0 {
		panic("more than a tree: " + s)
	}
	return e
}

type reader struct{ l []string }

func (r *reader) next() string {
	s := r.l[0]
	r.l = r.l[1:]
	return s
}

func (r *reader) expr() api.Expr {
	s := r.next()
	n := api.Node{Kind: api.EVar, Name: s}
	switch {
	case s == "(":
		return r.bracket()
	case s == "false":
		n = api.Node{Kind: api.EBool}
	case s == "true":
		n = api.Node{Kind: api.EBool, N: 1}
	case s[0] == '"':
		n = api.Node{Kind: api.EStr, S: strings.Trim(s, `"`)}
	case s[0] <= '9' || s[0] == '~':
		v, err := strconv.ParseInt(strings.Replace(s, "~", "-", 1), 10, 64)
		if err != nil {
			panic(err)
		}
		n = api.Node{Kind: api.EInt, N: v}
	}
	return tree.Join(n)
}

func (r *reader) bracket() api.Expr {
	w := r.next()
	var n api.Node
	for op, sign := range ops {
		if sign == w {
			n = api.Node{Kind: api.EPrim, N: op}
		}
	}
	for kind, of := range words {
		if of == w {
			n.Kind = kind
		}
	}
	if n.Kind == 0 {
		panic("no word: " + w)
	}
	if strings.Contains(rows[w], "NAME") {
		n.Name = r.next()
	}
	var kids []api.Expr
	for r.l[0] != ")" {
		if n.Kind == api.ERecord || n.Kind == api.ECase && len(kids) > 0 {
			part := api.Field{Name: r.next()}
			if n.Kind == api.ECase {
				part.Var = r.next()
			}
			n.L = append(n.L, part)
		}
		kids = append(kids, r.expr())
	}
	r.next()
	return tree.Join(n, kids...)
}

// chance is a row of numbers that is the same each time.
type chance struct{ now uint64 }

func (c *chance) below(n int) int {
	c.now = c.now*6364136223846793005 + 1442695040888963407
	return int(c.now>>33) % n
}

func pick[T any](c *chance, l ...T) T { return l[c.below(len(l))] }

// moved is the same tree, whose nodes stand in another order, each with a Pos of its own.
func moved(c *chance, e api.Expr) api.Expr {
	var order []int
	for len(order) < len(e.L) {
		i := c.below(len(e.L))
		waits := func(kid int) bool { return !slices.Contains(order, kid) }
		if waits(i) && !slices.ContainsFunc(tree.Kids(e.L[i]), waits) {
			order = append(order, i)
		}
	}
	var f api.Expr
	for _, old := range order {
		n := e.L[old]
		n.L = slices.Clone(n.L)
		n.Pos = c.below(1<<20 + 1)
		own := map[int]int{api.EFun: 1, api.EApp: 2, api.ELet: 2, api.ERec: 2, api.EIf: 3, api.EPrim: 2, api.EGet: 1, api.ETag: 1, api.ECase: 1}
		kids := []*int{&n.A, &n.B, &n.C}[:own[n.Kind]]
		for i := range n.L {
			kids = append(kids, &n.L[i].At)
		}
		for _, p := range kids {
			*p = slices.Index(order, *p)
		}
		f.L = append(f.L, n)
	}
	return f
}

// anyText is the text of some tree, of which all is used.
func anyText(c *chance, deep int) string {
	sub := func() string { return anyText(c, deep-1) }
	x := func() string { return pick(c, "x", "y", "f", "_", "in_", "abcdefghijklmnopqrst") }
	kind := c.below(18)
	if deep <= 1 {
		kind = c.below(4)
	}
	switch kind {
	case 0:
		return pick(c, "0", "7", "~1", "9223372036854775807", "~9223372036854775808")
	case 1:
		return pick(c, "true", "false")
	case 2:
		return pick(c, `""`, `"a"`, `"\"`, "\"\x00\xff\"", `"{=}"`)
	case 3:
		return x()
	case 4:
		return fmt.Sprintf("(fun %s %s)", x(), sub())
	case 5:
		return fmt.Sprintf("(let %s %s %s)", x(), sub(), sub())
	case 6:
		return fmt.Sprintf("(rec %s (fun %s %s) %s)", x(), x(), sub(), sub())
	case 7:
		return fmt.Sprintf("(if %s %s %s)", sub(), sub(), sub())
	case 8, 9, 10, 11, 12:
		return fmt.Sprintf("(%s %s %s)", pick(c, "+", "-", "*", "/", "<", "==", "^"), sub(), sub())
	case 13:
		s := "(record"
		for i := range c.below(4) {
			s += fmt.Sprintf(" %s%d %s", pick(c, "a", "b"), i, sub())
		}
		return s + ")"
	case 14:
		return fmt.Sprintf("(get %s %s)", x(), sub())
	case 15:
		return fmt.Sprintf("(tag %s %s)", pick(c, "A", "B", "Some", "Abcdefghijklmnopqrst"), sub())
	case 16:
		s := "(case " + sub()
		for i := range 1 + c.below(3) {
			s += fmt.Sprintf(" %s%d %s %s", pick(c, "A", "B"), i, x(), sub())
		}
		return s + ")"
	}
	return fmt.Sprintf("(app %s %s)", sub(), sub())
}

// smallTexts is each tree of that many nodes, of each way in which a node can be written.
func smallTexts(size int) []string {
	if size == 1 {
		return []string{"x", "~1"}
	}
	var l []string
	for _, a := range smallTexts(size - 1) {
		l = append(l, "(fun x "+a+")", "(get x "+a+")", "(tag T "+a+")", "(record x "+a+")")
	}
	for one := 1; one < size-1; one++ {
		for _, a := range smallTexts(one) {
			for _, b := range smallTexts(size - 1 - one) {
				for _, w := range []string{"app", "<", "==", "+", "-", "^", "*", "/", "let x"} {
					l = append(l, "("+w+" "+a+" "+b+")")
				}
				l = append(l, "(case "+a+" T x "+b+")", "(if true "+a+" "+b+")", "(if "+a+" "+b+" 1)")
				if strings.HasPrefix(a, "(fun") {
					l = append(l, "(rec x "+a+" "+b+")")
				}
			}
		}
	}
	return l
}

// short bounds what is told where a test fails.
func short(v any) string { return fmt.Sprintf("%.400s", fmt.Sprint(v)) }

// wantPrinted holds Print of a tree that may be against its text, which is read as the same tree.
func wantPrinted(t *testing.T, what string, e api.Expr, want string) {
	t.Helper()
	before := fmt.Sprintf("%#v", e)
	got, err := show.Print(e)
	if err != api.OK || got != want {
		t.Errorf("%s: %s, %d, want %s", short(what), short(got), int(err), short(want))
	}
	if fmt.Sprintf("%#v", e) != before {
		t.Errorf("%s: what was handed in is changed", short(what))
	}
	f, at, err := parse.Parse(got)
	if err != api.OK || !tree.Same(e, f) {
		t.Errorf("%s: %s is read as %s, %d at %d", short(what), short(got), short(f), int(err), at)
	}
}

// wantNeeded holds each pair of round brackets of a text against what is read without them: not the same tree.
func wantNeeded(t *testing.T, e api.Expr, s string) int {
	t.Helper()
	l, _, _ := lex.All(s)
	pairs := 0
	var open []int
	for _, token := range l {
		switch {
		case token.Kind == api.TokSign && token.S == "(":
			open = append(open, token.Pos)
		case token.Kind == api.TokSign && token.S == ")":
			first := open[len(open)-1]
			open = open[:len(open)-1]
			pairs++
			without := s[:first] + " " + s[first+1:token.Pos] + " " + s[token.Pos+1:]
			if f, _, err := parse.Parse(without); err == api.OK && tree.Same(e, f) {
				t.Errorf("%s is read as %s is, without two brackets", short(without), short(s))
			}
		}
	}
	return pairs
}

// wantRefused holds Print of a tree that may not be against its error.
func wantRefused(t *testing.T, what string, e api.Expr, want api.Errno) {
	t.Helper()
	before := fmt.Sprintf("%#v", e)
	s, err := show.Print(e)
	if err != want || s != "" {
		t.Errorf("%s: %s, error %d, want none, error %d", what, short(s), int(err), int(want))
	}
	if fmt.Sprintf("%#v", e) != before {
		t.Errorf("%s: what was handed in is changed", what)
	}
}
