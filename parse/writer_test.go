package parse_test

import (
	"fmt"
	"strings"
)

// writer writes programs of the chapter's language, each with the tree that it is to be read as, told as told does.
type writer struct {
	*chance
	text  strings.Builder
	nodes int
}

// wanted is a tree as told tells it, and its root's Pos.
type wanted struct {
	told string
	pos  int
}

func (w *writer) node(pos int, form string, parts ...any) wanted {
	w.nodes++
	return wanted{fmt.Sprintf(form, parts...) + fmt.Sprint("@", pos), pos}
}

func (x wanted) String() string { return x.told }

// isLetter tells whether a byte goes on as a word does, or a number.
func isLetter(c byte) bool {
	return c == '_' || '0' <= c && c <= '9' || 'a' <= c && c <= 'z' || 'A' <= c && c <= 'Z'
}

// put writes a token behind a gap, which is empty only where the token stands apart without one; its place.
func (w *writer) put(token string) int {
	s := w.text.String()
	needed := s != "" && isLetter(s[len(s)-1]) && isLetter(token[0])
	gap := pick(w.chance, " ", "", " ", "  ", "\n", "\t ", " # let ; \"\n", "#\n#fun\n")
	if gap == "" && needed {
		gap = " "
	}
	w.text.WriteString(gap)
	w.text.WriteString(token)
	return len(s) + len(gap)
}

func (w *writer) name() string {
	x := pick(w.chance, "x", "y", "f", "_", "a1", "recx", "int_", "abcdefghijklmnopqrst")
	w.put(x)
	return x
}

// isFull tells whether what is written is to end soon, for a tree has no more than MaxNodes nodes.
func (w *writer) isFull() bool { return w.nodes > 250 }

func (w *writer) expr(deep int) wanted {
	if deep <= 0 || w.isFull() {
		return w.sum(deep)
	}
	switch w.below(9) {
	case 0, 1:
		return w.function(deep)
	case 2:
		at := w.put("let")
		x := w.name()
		w.put("=")
		a := w.expr(deep - 1)
		w.put("in")
		return w.node(at, "(let %s %v %v)", x, a, w.expr(deep-1))
	case 3:
		at := w.put("let")
		w.put("rec")
		x := w.name()
		w.put("=")
		a := w.bracketed(w.below(2)*w.below(3), func() wanted { return w.function(deep - 1) })
		w.put("in")
		return w.node(at, "(rec %s %v %v)", x, a, w.expr(deep-1))
	case 4:
		at := w.put("if")
		a := w.expr(deep - 1)
		w.put("then")
		b := w.expr(deep - 1)
		w.put("else")
		return w.node(at, "(if %v %v %v)", a, b, w.expr(deep-1))
	case 5, 6:
		a := w.sum(deep)
		sign := pick(w.chance, "<", "==")
		at := w.put(sign)
		return w.node(at, "(%s %v %v)", sign, a, w.sum(deep))
	}
	return w.sum(deep)
}

func (w *writer) function(deep int) wanted {
	at := w.put("fun")
	x := w.name()
	w.put("->")
	return w.node(at, "(fun %s %v)", x, w.expr(deep-1))
}

// bracketed writes what a writes in so many round brackets.
func (w *writer) bracketed(many int, a func() wanted) wanted {
	for range many {
		w.put("(")
	}
	x := a()
	for range many {
		w.put(")")
	}
	return x
}

// several is none most times, so that what is written stays small.
func (w *writer) several() int {
	if w.isFull() {
		return 0
	}
	return pick(w.chance, 0, 0, 0, 0, 0, 0, 0, 0, 1, 1, 2, 4)
}

// row writes what one writes, and more of it behind signs, to the left.
func (w *writer) row(one func() wanted, signs ...string) wanted {
	a := one()
	for range w.several() {
		sign := pick(w.chance, signs...)
		at := w.put(sign)
		a = w.node(at, "(%s %v %v)", sign, a, one())
	}
	return a
}

func (w *writer) sum(deep int) wanted {
	product := func() wanted { return w.row(func() wanted { return w.app(deep) }, "*", "/") }
	return w.row(product, "+", "-", "^")
}

func (w *writer) app(deep int) wanted {
	if w.below(5) == 0 {
		tag := pick(w.chance, "A", "B", "Some1", "Fun", "Abcdefghijklmnopqrst")
		at := w.put(tag)
		return w.node(at, "(tag %s %v)", tag, w.post(deep))
	}
	a := w.post(deep)
	for range w.several() {
		a = w.node(a.pos, "(app %v %v)", a, w.post(deep))
	}
	return a
}

func (w *writer) post(deep int) wanted {
	a := w.atom(deep)
	for range w.several() {
		at := w.put(".")
		a = w.node(at, "(get %s %v)", w.name(), a)
	}
	return a
}

func (w *writer) atom(deep int) wanted {
	many := 8
	if deep <= 0 || w.isFull() {
		many = 5
	}
	switch w.below(many) {
	case 0:
		n := pick[int64](w.chance, 0, 1, 12, -1, -300, 9223372036854775807, -9223372036854775808)
		return w.node(w.put(strings.Replace(fmt.Sprint(n), "-", "~", 1)), "%d", n)
	case 1:
		s := pick(w.chance, `""`, `"a"`, `"fun x -> "`, `"\"\\"`, `"\n\t"`)
		return w.node(w.put(s), "%s", s)
	case 2:
		s := pick(w.chance, "true", "false")
		return w.node(w.put(s), "%s", s)
	case 5:
		return w.bracketed(1+w.below(2), func() wanted { return w.expr(deep - 1) })
	case 6:
		return w.record(deep)
	case 7:
		return w.cases(deep)
	}
	x := pick(w.chance, "x", "y", "case_", "_")
	return w.node(w.put(x), "%s", x)
}

func (w *writer) record(deep int) wanted {
	at := w.put("{")
	s := "(record"
	for i := range w.below(4) {
		if i > 0 {
			w.put(",")
		}
		x := fmt.Sprint(pick(w.chance, "a", "b", "x"), i)
		w.put(x)
		w.put("=")
		s += fmt.Sprintf(" %s %v", x, w.expr(deep-1))
	}
	w.put("}")
	return w.node(at, "%s)", s)
}

func (w *writer) cases(deep int) wanted {
	at := w.put("case")
	s := "(case " + w.expr(deep-1).told
	w.put("of")
	for i := range 1 + w.below(3) {
		if i > 0 {
			w.put("|")
		}
		tag := fmt.Sprint(pick(w.chance, "A", "B", "X"), i)
		w.put(tag)
		x := w.name()
		w.put("->")
		s += fmt.Sprintf(" %s %s %v", tag, x, w.expr(deep-1))
	}
	w.put("end")
	return w.node(at, "%s)", s)
}
