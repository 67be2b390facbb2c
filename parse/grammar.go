package parse

import (
	"strings"

	"syntagma/api"
)

// expr reads an expr, nested once more than the one that it stands in.
func (r *reader) expr() int {
	place := r.Peek().Pos
	if r.nested == api.MaxDeep {
		r.refuse(place, api.ErrDeep)
	}
	r.nested++
	defer func() { r.nested-- }()
	switch {
	case r.word("fun"):
		return r.function(place)
	case r.word("let"):
		return r.binding(place)
	case r.word("if"):
		return r.choice(place)
	}
	return r.comparison()
}

// function reads an EFun behind its fun.
func (r *reader) function(place int) int {
	n := api.Node{Kind: api.EFun, Pos: place}
	n.Name = r.text(api.TokName)
	r.must(api.TokSign, "->")
	n.A = r.expr()
	return r.add(n)
}

// binding reads an ELet, or an ERec, behind its let.
func (r *reader) binding(place int) int {
	n := api.Node{Kind: api.ELet, Pos: place}
	if r.word("rec") {
		n.Kind = api.ERec
	}
	n.Name = r.text(api.TokName)
	r.must(api.TokSign, "=")
	first := r.Peek().Pos
	n.A = r.expr()
	if n.Kind == api.ERec && r.nodes[n.A].Kind != api.EFun {
		r.refuse(first, api.ErrText)
	}
	r.must(api.TokWord, "in")
	n.B = r.expr()
	return r.add(n)
}

// choice reads an EIf behind its if.
func (r *reader) choice(place int) int {
	n := api.Node{Kind: api.EIf, Pos: place}
	n.A = r.expr()
	r.must(api.TokWord, "then")
	n.B = r.expr()
	r.must(api.TokWord, "else")
	n.C = r.expr()
	return r.add(n)
}

// comparison reads a sum, or two that are compared.
func (r *reader) comparison() int {
	a := r.sum()
	if r.isSign("<", "==") {
		a = r.operation(a, r.sum)
	}
	return a
}

func (r *reader) sum() int {
	a := r.product()
	for r.isSign("+", "-", "^") {
		a = r.operation(a, r.product)
	}
	return a
}

func (r *reader) product() int {
	a := r.app()
	for r.isSign("*", "/") {
		a = r.operation(a, r.app)
	}
	return a
}

// operation reads an EPrim behind its A: its sign, which is next, and its B.
func (r *reader) operation(a int, b func() int) int {
	t := r.Next()
	n := api.Node{Kind: api.EPrim, N: primitive(t.S), A: a, Pos: t.Pos}
	n.B = b()
	return r.add(n)
}

// primitive is the one whose sign that is; 0, if there is none.
func primitive(sign string) int64 {
	switch sign {
	case "<":
		return api.PLess
	case "==":
		return api.PSame
	case "+":
		return api.PAdd
	case "-":
		return api.PSub
	case "^":
		return api.PJoin
	case "*":
		return api.PMul
	case "/":
		return api.PDiv
	}
	return 0
}

// app reads a tag and what it has, or a post with all that it is applied to.
func (r *reader) app() int {
	if t := r.Peek(); t.Kind == api.TokTag {
		n := api.Node{Kind: api.ETag, Pos: t.Pos}
		n.Name = r.text(api.TokTag)
		n.A = r.post()
		return r.add(n)
	}
	a := r.post()
	for r.isAtom() {
		n := api.Node{Kind: api.EApp, A: a, Pos: r.nodes[a].Pos}
		n.B = r.post()
		a = r.add(n)
	}
	return a
}

// post reads an atom with all that is got of it.
func (r *reader) post() int {
	a := r.atom()
	for place := r.Peek().Pos; r.sign("."); place = r.Peek().Pos {
		a = r.add(api.Node{Kind: api.EGet, Name: r.text(api.TokName), A: a, Pos: place})
	}
	return a
}

func (r *reader) atom() int {
	t := r.Peek()
	switch {
	case r.sign("("):
		a := r.expr()
		r.must(api.TokSign, ")")
		return a
	case r.sign("{"):
		return r.record(t.Pos)
	case r.word("case"):
		return r.cases(t.Pos)
	}
	return r.add(r.leaf())
}

// leaf reads a node without children.
func (r *reader) leaf() api.Node {
	t := r.Peek()
	n := api.Node{Pos: t.Pos}
	switch {
	case r.word("true"):
		n.Kind, n.N = api.EBool, 1
	case r.word("false"):
		n.Kind = api.EBool
	case t.Kind == api.TokNum:
		n.Kind, n.N = api.EInt, r.Next().N
	case t.Kind == api.TokStr:
		n.Kind, n.S = api.EStr, strings.Clone(r.Next().S)
	case t.Kind == api.TokName:
		n.Kind, n.Name = api.EVar, r.text(api.TokName)
	default:
		r.refuse(t.Pos, api.ErrText)
	}
	return n
}

// record reads an ERecord behind its bracket.
func (r *reader) record(place int) int {
	n := api.Node{Kind: api.ERecord, Pos: place}
	if r.sign("}") {
		return r.add(n)
	}
	for more := true; more; more = r.sign(",") {
		f := api.Field{Name: r.label(api.TokName, n.L)}
		r.must(api.TokSign, "=")
		f.At = r.expr()
		n.L = append(n.L, f)
	}
	r.must(api.TokSign, "}")
	return r.add(n)
}

// cases reads an ECase behind its case.
func (r *reader) cases(place int) int {
	n := api.Node{Kind: api.ECase, Pos: place}
	n.A = r.expr()
	r.must(api.TokWord, "of")
	for more := true; more; more = r.sign("|") {
		f := api.Field{Name: r.label(api.TokTag, n.L)}
		f.Var = r.text(api.TokName)
		r.must(api.TokSign, "->")
		f.At = r.expr()
		n.L = append(n.L, f)
	}
	r.must(api.TokWord, "end")
	return r.add(n)
}
