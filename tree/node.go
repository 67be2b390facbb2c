package tree

import (
	"slices"
	"strings"

	"syntagma/api"
	"syntagma/name"
)

// lastPos is the greatest Pos that a node may have.
const lastPos = 1 << 20

// ownKids is how many of A, B and C, from A on, are children of a node of that kind.
func ownKids(kind int) int {
	switch kind {
	case api.EFun, api.EGet, api.ETag, api.ECase:
		return 1
	case api.EApp, api.ELet, api.ERec, api.EPrim:
		return 2
	case api.EIf:
		return 3
	}
	return 0
}

// hasParts tells whether a node of that kind has L, each of which is a child.
func hasParts(kind int) bool { return kind == api.ERecord || kind == api.ECase }

// Kids is the places of the node's children, in order, as its kind has them.
func Kids(n api.Node) []int {
	own := [3]int{n.A, n.B, n.C}
	l := make([]int, ownKids(n.Kind))
	copy(l, own[:])
	if hasParts(n.Kind) {
		for _, f := range n.L {
			l = append(l, f.At)
		}
	}
	return l
}

// withKids is a copy of the node whose children are those of l, as far as its kind has so many; what it has no children in is empty.
func withKids(n api.Node, l []int) api.Node {
	var own [3]int
	rest := l[copy(own[:ownKids(n.Kind)], l):]
	n.A, n.B, n.C = own[0], own[1], own[2]
	n.Name, n.S = strings.Clone(n.Name), strings.Clone(n.S)
	n.L = withPlaces(n, rest)
	return n
}

// withPlaces is a copy of the node's parts, which stand at the places of l, as far as there are so many.
func withPlaces(n api.Node, l []int) []api.Field {
	if !hasParts(n.Kind) {
		return nil
	}
	parts := make([]api.Field, len(n.L))
	for i, f := range n.L {
		parts[i] = api.Field{Name: strings.Clone(f.Name), Var: strings.Clone(f.Var)}
		if i < len(l) {
			parts[i].At = l[i]
		}
	}
	return parts
}

// isNode tells whether the node is one of the chapter's kinds, with what counts of it as that kind has it, and all else zero; its children's places are not looked at.
func isNode(n api.Node) bool {
	rest, ok := uncounted(n)
	return ok && isEmpty(rest) && n.Pos >= 0 && n.Pos <= lastPos
}

// uncounted is the node without what counts of it beside its children, and whether that is as its kind has it.
func uncounted(n api.Node) (rest api.Node, ok bool) {
	rest = n
	switch n.Kind {
	case api.EInt:
		rest.N, ok = 0, true
	case api.EBool:
		rest.N, ok = 0, n.N == 0 || n.N == 1
	case api.EStr:
		rest.S, ok = "", len(n.S) <= api.MaxStr
	case api.EVar, api.EFun, api.ELet, api.ERec, api.EGet:
		rest.Name, ok = "", name.Name(n.Name)
	case api.ETag:
		rest.Name, ok = "", name.Tag(n.Name)
	case api.EApp, api.EIf:
		ok = true
	case api.EPrim:
		rest.N, ok = 0, n.N >= api.PAdd && n.N <= api.PJoin
	case api.ERecord:
		rest.L, ok = nil, areParts(n.L)
	case api.ECase:
		rest.L, ok = nil, areBranches(n.L)
	}
	return rest, ok
}

// isEmpty tells whether all is zero of a node of which what counts was taken away, but for its children's places, and its Pos.
func isEmpty(n api.Node) bool {
	own := [3]int{n.A, n.B, n.C}
	for _, place := range own[ownKids(n.Kind):] {
		if place != 0 {
			return false
		}
	}
	return n.N == 0 && n.Name == "" && n.S == "" && len(n.L) == 0
}

// areParts tells whether l is a record's parts, but for their places.
func areParts(l []api.Field) bool {
	isPart := func(f api.Field) bool { return name.Name(f.Name) && f.Var == "" }
	return areAll(l, isPart)
}

// areBranches tells whether l is a case's branches, but for their places.
func areBranches(l []api.Field) bool {
	isBranch := func(f api.Field) bool { return name.Tag(f.Name) && name.Name(f.Var) }
	return len(l) > 0 && areAll(l, isBranch)
}

// areAll tells whether each of l is as is asked for, and whether there are MaxWide at most, whose names differ.
func areAll(l []api.Field, is func(api.Field) bool) bool {
	if len(l) > api.MaxWide {
		return false
	}
	var names []string
	for _, f := range l {
		if !is(f) {
			return false
		}
		names = append(names, f.Name)
	}
	return !name.Twice(names...)
}

// isSame tells whether two nodes are the same but for their Pos.
func isSame(a, b api.Node) bool {
	return a.Kind == b.Kind && a.A == b.A && a.B == b.B && a.C == b.C &&
		a.N == b.N && a.Name == b.Name && a.S == b.S && slices.Equal(a.L, b.L)
}
