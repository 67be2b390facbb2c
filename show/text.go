package show

import (
	"strings"

	"syntagma/api"
	"syntagma/quote"
	"syntagma/wrap"
)

// asked is the text of the node at a place, in round brackets, if it is less tight than it must be there.
type asked func(at, tight int) string

// text is a node's text, without brackets around it.
func text(n api.Node, child asked) string {
	switch n.Kind {
	case api.EInt:
		return wrap.Print(n.N)
	case api.EBool:
		return truth(n.N)
	case api.EStr:
		return quote.Print(n.S)
	case api.EVar:
		return n.Name
	case api.EFun:
		return "fun " + n.Name + " -> " + child(n.A, 0)
	case api.ELet:
		return "let " + n.Name + " = " + child(n.A, 0) + " in " + child(n.B, 0)
	case api.ERec:
		return "let rec " + n.Name + " = " + child(n.A, 0) + " in " + child(n.B, 0)
	case api.EIf:
		return "if " + child(n.A, 0) + " then " + child(n.B, 0) + " else " + child(n.C, 0)
	case api.EPrim:
		return prim(n, child)
	case api.EApp:
		return child(n.A, 5) + " " + child(n.B, 6)
	case api.EGet:
		return child(n.A, 6) + "." + n.Name
	case api.ETag:
		return n.Name + " " + child(n.A, 6)
	case api.ERecord:
		return "{" + parts(n.L, child) + "}"
	}
	return "case " + child(n.A, 0) + " of " + branches(n.L, child) + " end"
}

func truth(n int64) string {
	if n == 0 {
		return "false"
	}
	return "true"
}

// prim is an operation with its sign between its children. One that goes to the left may stand as its own first child.
func prim(n api.Node, child asked) string {
	second := Tight(n) + 1
	first := Tight(n)
	if n.N == api.PLess || n.N == api.PSame {
		first = second
	}
	return child(n.A, first) + " " + Sign(n.N) + " " + child(n.B, second)
}

func parts(l []api.Field, child asked) string {
	var texts []string
	for _, f := range l {
		texts = append(texts, f.Name+" = "+child(f.At, 0))
	}
	return strings.Join(texts, ", ")
}

func branches(l []api.Field, child asked) string {
	var texts []string
	for _, f := range l {
		texts = append(texts, f.Name+" "+f.Var+" -> "+child(f.At, 0))
	}
	return strings.Join(texts, " | ")
}
