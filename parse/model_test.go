package parse_test

import (
	"fmt"
	"reflect"
	"slices"
	"strings"
	"testing"

	"syntagma/api"
	"syntagma/lex"
	"syntagma/parse"
	"syntagma/tree"
)

// told is a tree as a text: of each node what counts of it, in round brackets where it has children, its Pos behind an @; and the places of its nodes, each behind those of its children.
func told(e api.Expr) (string, []int) {
	if len(e.L) == 0 {
		return "none", nil
	}
	var places []int
	var tell func(i int) string
	tell = func(i int) string {
		if i < 0 || i >= len(e.L) || len(places) > len(e.L) {
			return "?"
		}
		n := e.L[i]
		s := ""
		switch n.Kind {
		case api.EInt:
			s = fmt.Sprint(n.N)
		case api.EBool:
			s = fmt.Sprint(n.N != 0)
		case api.EStr:
			s = fmt.Sprintf("%q", n.S)
		case api.EVar:
			s = n.Name
		case api.EFun:
			s = "(fun " + n.Name + " " + tell(n.A) + ")"
		case api.EApp:
			s = "(app " + tell(n.A) + " " + tell(n.B) + ")"
		case api.ELet:
			s = "(let " + n.Name + " " + tell(n.A) + " " + tell(n.B) + ")"
		case api.ERec:
			s = "(rec " + n.Name + " " + tell(n.A) + " " + tell(n.B) + ")"
		case api.EIf:
			s = "(if " + tell(n.A) + " " + tell(n.B) + " " + tell(n.C) + ")"
		case api.EPrim:
			s = "(" + primSign(n.N) + " " + tell(n.A) + " " + tell(n.B) + ")"
		case api.EGet:
			s = "(get " + n.Name + " " + tell(n.A) + ")"
		case api.ETag:
			s = "(tag " + n.Name + " " + tell(n.A) + ")"
		case api.ERecord:
			s = "(record"
			for _, f := range n.L {
				s += " " + f.Name + " " + tell(f.At)
			}
			s += ")"
		case api.ECase:
			s = "(case " + tell(n.A)
			for _, f := range n.L {
				s += " " + f.Name + " " + f.Var + " " + tell(f.At)
			}
			s += ")"
		default:
			s = fmt.Sprint("kind ", n.Kind)
		}
		places = append(places, i)
		return fmt.Sprint(s, "@", n.Pos)
	}
	return tell(len(e.L) - 1), places
}

func primSign(op int64) string {
	if op < api.PAdd || op > api.PJoin {
		return fmt.Sprint("op ", op)
	}
	return []string{"+", "-", "*", "/", "<", "==", "^"}[op-api.PAdd]
}

// rules is the chapter's language: what is written great is a rule, all else is a token. What may stand any number of times is a rule of its own.
var rules = map[string][]string{
	"EXPR":     {"fun name -> EXPR", "let name = EXPR in EXPR", "let rec name = EXPR in EXPR", "if EXPR then EXPR else EXPR", "SUM LESS"},
	"LESS":     {"", "< SUM", "== SUM"},
	"SUM":      {"PROD SUMS"},
	"SUMS":     {"", "+ PROD SUMS", "- PROD SUMS", "^ PROD SUMS"},
	"PROD":     {"APP PRODS"},
	"PRODS":    {"", "* APP PRODS", "/ APP PRODS"},
	"APP":      {"tag POST", "POST POSTS"},
	"POSTS":    {"", "POST POSTS"},
	"POST":     {"ATOM GETS"},
	"GETS":     {"", ". name GETS"},
	"ATOM":     {"number", "text", "true", "false", "name", "( EXPR )", "{ }", "{ PART PARTS }", "case EXPR of BRANCH BRANCHES end"},
	"PART":     {"name = EXPR"},
	"PARTS":    {"", ", PART PARTS"},
	"BRANCH":   {"tag name -> EXPR"},
	"BRANCHES": {"", "| BRANCH BRANCHES"},
}

// waits is all that may still have to come, each a row of tokens and rules, that begins with a token, or is empty where nothing needs to come.
type waits []string

// begun is what waits ahead of the first token of an expr.
func begun() waits { return opened("EXPR") }

// opened is what waits where that row of tokens and rules has to come.
func opened(row string) waits {
	first, rest, _ := strings.Cut(row, " ")
	bodies, isRule := rules[first]
	if !isRule {
		return waits{row}
	}
	var w waits
	for _, body := range bodies {
		w = append(w, opened(strings.Trim(body+" "+rest, " "))...)
	}
	return w
}

// behind is what waits behind that token; nothing, if the language can't go on with it.
func (w waits) behind(token string) waits {
	var next waits
	for _, row := range w {
		if first, rest, _ := strings.Cut(row, " "); first == token && token != "" {
			next = append(next, opened(rest)...)
		}
	}
	slices.Sort(next)
	return slices.Compact(next)
}

// whole tells whether what went by is an expr.
func (w waits) whole() bool { return slices.Contains(w, "") }

// class is what the rules call that token.
func class(t api.Token) string {
	switch t.Kind {
	case api.TokWord, api.TokSign:
		return t.S
	case api.TokName:
		return "name"
	case api.TokTag:
		return "tag"
	case api.TokNum:
		return "number"
	case api.TokStr:
		return "text"
	}
	return "none such"
}

// goesOn is with how many tokens of l the language goes on, and whether these are an expr.
func goesOn(l []api.Token) (int, bool) {
	w := begun()
	for i, t := range l {
		next := w.behind(class(t))
		if len(next) == 0 {
			return i, w.whole()
		}
		w = next
	}
	return len(l), w.whole()
}

// isFun tells whether an expr's tokens are those of an EFun.
func isFun(l []api.Token) bool {
	for class(l[0]) == "(" && closing(l) == len(l)-1 {
		l = l[1 : len(l)-1]
	}
	return class(l[0]) == "fun"
}

// closing is where the round bracket is closed with which l begins.
func closing(l []api.Token) int {
	open := 0
	for i, t := range l {
		switch class(t) {
		case "(":
			open++
		case ")":
			open--
		}
		if open == 0 {
			return i
		}
	}
	return -1
}

// wantedPlace is how many tokens of l are an expr, and -1; else 0, and the place of the first token with which the language can't go on, or of a let rec's expr that is no EFun. It knows nothing of what stands there twice, is too many, or nested too deep.
func wantedPlace(l []api.Token, end int) (int, int) {
	long, ok := goesOn(l)
	place, found := -1, long
	if !ok {
		place = end
		if long < len(l) {
			place = l[long].Pos
		}
	}
	for i := range l[:max(long-4, 0)] {
		if class(l[i]) != "let" || class(l[i+1]) != "rec" {
			continue
		}
		first := i + 4
		// That an expr is none of a function is known where it ends, and the one that ends first is found first.
		far, is := goesOn(l[first:])
		if is && !isFun(l[first:first+far]) && (place < 0 || first+far <= found) {
			place, found = l[first].Pos, first+far
		}
	}
	if place >= 0 {
		return 0, place
	}
	return long, -1
}

// behindAll is the place of l's k-th token, or of the end.
func behindAll(l []api.Token, k, end int) int {
	if k < len(l) {
		return l[k].Pos
	}
	return end
}

// chance is a row of numbers that is the same each time.
type chance struct{ now uint64 }

func (c *chance) below(n int) int {
	c.now = c.now*6364136223846793005 + 1442695040888963407
	return int(c.now>>33) % n
}

func pick[T any](c *chance, l ...T) T { return l[c.below(len(l))] }

// short bounds what is told where a test fails.
func short(v any) string { return fmt.Sprintf("%.300s", fmt.Sprint(v)) }

// wantIs holds an answer against a tree that was read, of which told is the text.
func wantIs(t *testing.T, what string, e api.Expr, place int, err api.Errno, want string) {
	t.Helper()
	got, places := told(e)
	if err != api.OK || place != 0 || got != want {
		t.Errorf("%s: %s, %d, %d, want %s", short(what), short(got), place, int(err), short(want))
		return
	}
	wantInOrder(t, what, e, places)
}

// wantInOrder holds a tree that was read, the places of whose nodes are told, against 7.1's order, and 7.3.
func wantInOrder(t *testing.T, what string, e api.Expr, places []int) {
	t.Helper()
	for i, p := range places {
		if p != i {
			t.Errorf("%s: in the order %v", short(what), short(places))
			return
		}
	}
	if len(places) != len(e.L) {
		t.Errorf("%s: %d nodes, %d of which are the root's", short(what), len(e.L), len(places))
	}
	if err := tree.May(e); err != api.OK {
		t.Errorf("%s: the tree may not be: %d", short(what), int(err))
	}
}

// wantTree holds Parse of s, and Expr of its tokens, against a tree.
func wantTree(t *testing.T, s, want string) {
	t.Helper()
	e, place, err := parse.Parse(s)
	wantIs(t, "Parse("+short(s)+")", e, place, err, want)
	l, end, _ := lex.All(s)
	r := lex.New(l, end)
	e, place, err = parse.Expr(r)
	wantIs(t, "Expr of "+short(s), e, place, err, want)
	if !r.Done() {
		t.Errorf("Expr of %s: %v is left", short(s), r.Peek())
	}
}

// wantError holds an answer against an error.
func wantError(t *testing.T, what string, e api.Expr, place int, err api.Errno, wantPlace int, want api.Errno) {
	t.Helper()
	if err != want || place != wantPlace {
		t.Errorf("%s: %d at %d, want %d at %d", short(what), int(err), place, int(want), wantPlace)
	}
	if !reflect.DeepEqual(e, api.Expr{}) {
		t.Errorf("%s: with an error it is %s", short(what), short(e))
	}
}

// wantRefused holds Parse of s against an error.
func wantRefused(t *testing.T, s string, wantPlace int, want api.Errno) {
	t.Helper()
	e, place, err := parse.Parse(s)
	wantError(t, "Parse("+short(s)+")", e, place, err, wantPlace, want)
}

// wantBoth holds Parse of s, and Expr of its tokens, against an error that both have.
func wantBoth(t *testing.T, s string, wantPlace int, want api.Errno) {
	t.Helper()
	wantRefused(t, s, wantPlace, want)
	l, end, _ := lex.All(s)
	r := lex.New(l, end)
	e, place, err := parse.Expr(r)
	wantError(t, "Expr of "+short(s), e, place, err, wantPlace, want)
	if gone := r.Peek().Pos; gone < wantPlace {
		t.Errorf("Expr of %s: gone by up to %d, want %d", short(s), gone, wantPlace)
	}
}

// wantModel holds Parse of s, and Expr of its tokens, against the rules; s is one of which these know all that there is to know. It answers whether s is a program.
func wantModel(t *testing.T, s string) bool {
	t.Helper()
	l, end, err := lex.All(s)
	if err != api.OK {
		t.Fatalf("%s has no tokens", short(s))
	}
	long, place := wantedPlace(l, end)
	if place >= 0 {
		wantBoth(t, s, place, api.ErrText)
		return false
	}
	r := lex.New(l, end)
	e, at, err := parse.Expr(r)
	want, _ := told(e)
	wantIs(t, "Expr of "+short(s), e, at, err, want)
	if r.Peek().Pos != behindAll(l, long, end) {
		t.Errorf("Expr of %s: gone by up to %d, want %d", short(s), r.Peek().Pos, behindAll(l, long, end))
	}
	if long < len(l) {
		wantRefused(t, s, l[long].Pos, api.ErrText)
		return false
	}
	e, at, err = parse.Parse(s)
	wantIs(t, "Parse("+short(s)+")", e, at, err, want)
	return true
}
