package lex

import (
	"slices"

	"syntagma/api"
)

// Reader reads tokens, one by one. Of none (nil) its calls answer as of one without tokens, whose end is 0.
type Reader struct {
	left []api.Token
	end  int
}

// New is a reader of the tokens of l, behind which, at the place end, there is none. It keeps a copy, for l is the caller's own.
func New(l []api.Token, end int) *Reader {
	return &Reader{left: slices.Clone(l), end: end}
}

// Peek is the next token; one of no kind, at the end, if none is left.
func (r *Reader) Peek() api.Token {
	switch {
	case r == nil:
		return api.Token{}
	case r.Done():
		return api.Token{Pos: r.end}
	}
	return r.left[0]
}

// Next is the next token, as Peek has it, and it is gone by.
func (r *Reader) Next() api.Token {
	t := r.Peek()
	if !r.Done() {
		r.left = r.left[1:]
	}
	return t
}

// Is tells whether the next token is of that kind, with the text s, which of a number counts nothing.
func (r *Reader) Is(kind int, s string) bool {
	// What Peek answers where none is left is of the kind 0, and is no token.
	if kind == 0 {
		return false
	}
	t := r.Peek()
	return t.Kind == kind && (kind == api.TokNum || t.S == s)
}

// Take tells the same, and lets a token that is so go by.
func (r *Reader) Take(kind int, s string) bool {
	is := r.Is(kind, s)
	if is {
		r.Next()
	}
	return is
}

// Done tells whether no token is left.
func (r *Reader) Done() bool {
	return r == nil || len(r.left) == 0
}
