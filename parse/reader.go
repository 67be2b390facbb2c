package parse

import (
	"slices"
	"strings"

	"syntagma/api"
	"syntagma/lex"
)

// reader reads programs: it is a reader of tokens, and has the nodes that were read. Each node is laid behind its children when all of them are read, so that the nodes are in order. What reads a node answers its place.
type reader struct {
	*lex.Reader
	nodes  []api.Node
	nested int

	// The first error, and its place.
	err   api.Errno
	place int
}

// add lays n behind what was read.
func (r *reader) add(n api.Node) int {
	r.nodes = append(r.nodes, n)
	return len(r.nodes) - 1
}

// refuse keeps the first error. It lets the tokens go: none is left then, so that whatever waits for more ends, and what it reads until then is never told.
func (r *reader) refuse(place int, err api.Errno) {
	if r.err == api.OK {
		r.place, r.err = place, err
	}
	r.Reader = nil
}

// end refuses what stands behind the text's expr.
func (r *reader) end() {
	if !r.Done() {
		r.refuse(r.Peek().Pos, api.ErrText)
	}
}

// word lets that keyword go by, if it is next.
func (r *reader) word(s string) bool { return r.Take(api.TokWord, s) }

// sign lets that sign go by, if it is next.
func (r *reader) sign(s string) bool { return r.Take(api.TokSign, s) }

// must lets the keyword, or the sign, go by without which the language can't go on.
func (r *reader) must(kind int, s string) {
	if !r.Take(kind, s) {
		r.refuse(r.Peek().Pos, api.ErrText)
	}
}

// text is the text of the token of that kind, a name or a tag, without which the language can't go on.
func (r *reader) text(kind int) string {
	t := r.Peek()
	if t.Kind != kind {
		r.refuse(t.Pos, api.ErrText)
		return ""
	}
	return strings.Clone(r.Next().S)
}

// label is the text of the next token, as the name of a part, or a branch, behind those of l.
func (r *reader) label(kind int, l []api.Field) string {
	place := r.Peek().Pos
	s := r.text(kind)
	switch {
	case len(l) == api.MaxWide:
		r.refuse(place, api.ErrFull)
	case slices.ContainsFunc(l, func(f api.Field) bool { return f.Name == s }):
		r.refuse(place, api.ErrText)
	}
	return s
}

// isSign tells whether one of those signs is next.
func (r *reader) isSign(l ...string) bool {
	return slices.ContainsFunc(l, func(s string) bool { return r.Is(api.TokSign, s) })
}

// isAtom tells whether an atom begins with the next token.
func (r *reader) isAtom() bool {
	switch t := r.Peek(); t.Kind {
	case api.TokNum, api.TokStr, api.TokName:
		return true
	case api.TokWord:
		return t.S == "true" || t.S == "false" || t.S == "case"
	}
	return r.isSign("(", "{")
}
