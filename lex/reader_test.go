package lex_test

import (
	"math"
	"slices"
	"strconv"
	"testing"

	"syntagma/api"
	"syntagma/lex"
)

// model is what the chapter asks of a reader: its tokens, how many are gone by, and its end; none is a reader that is nil.
type model struct {
	l         []api.Token
	gone, end int
	none      bool
}

func (m *model) done() bool { return m.none || m.gone >= len(m.l) }

func (m *model) peek() api.Token {
	if m.none {
		return api.Token{}
	}
	if m.done() {
		return api.Token{Pos: m.end}
	}
	return m.l[m.gone]
}

func (m *model) is(kind int, s string) bool {
	if m.done() || kind == 0 || m.l[m.gone].Kind != kind {
		return false
	}
	return kind == api.TokNum || m.l[m.gone].S == s
}

func (m *model) reader() *lex.Reader {
	if m.none {
		return nil
	}
	return lex.New(m.l, m.end)
}

// asked is a kind and a text by which Is and Take are asked.
type asked struct {
	kind int
	s    string
}

// askedOf holds what a token of l is, what is nearly that, and what none is.
func askedOf(l []api.Token) []asked {
	all := []asked{{0, ""}, {0, "x"}, {api.TokName, ""}, {api.TokNum, ""}, {api.TokNum, "12"}, {-1, ""}, {99, ""}, {math.MinInt, "x"}, {math.MaxInt, ""}}
	for _, t := range l {
		all = append(all, asked{t.Kind, t.S}, asked{t.Kind, t.S + " "}, asked{t.Kind, ""}, asked{t.Kind + 1, t.S}, asked{t.Kind - 1, t.S}, asked{-t.Kind, t.S}, asked{0, t.S})
	}
	return all
}

// wantSame holds all that can be asked of r, without anything going by, against m.
func wantSame(t *testing.T, r *lex.Reader, m *model) {
	t.Helper()
	if got, want := r.Peek(), m.peek(); got != want {
		t.Fatalf("Peek() where %d of %d are gone by: %s, want %s", m.gone, len(m.l), one(got), one(want))
	}
	if got, want := r.Done(), m.done(); got != want {
		t.Fatalf("Done() where %d of %d are gone by: %t, want %t", m.gone, len(m.l), got, want)
	}
	for _, a := range askedOf(m.l) {
		if got, want := r.Is(a.kind, a.s), m.is(a.kind, a.s); got != want {
			t.Fatalf("Is(%d, %s) where %d of %d are gone by: %t, want %t", a.kind, short(a.s), m.gone, len(m.l), got, want)
		}
	}
}

func wantNext(t *testing.T, r *lex.Reader, m *model) {
	t.Helper()
	if got, want := r.Next(), m.peek(); got != want {
		t.Fatalf("Next() where %d of %d are gone by: %s, want %s", m.gone, len(m.l), one(got), one(want))
	}
	if !m.done() {
		m.gone++
	}
	wantSame(t, r, m)
}

func wantTake(t *testing.T, r *lex.Reader, m *model, a asked) {
	t.Helper()
	want := m.is(a.kind, a.s)
	if got := r.Take(a.kind, a.s); got != want {
		t.Fatalf("Take(%d, %s) where %d of %d are gone by: %t, want %t", a.kind, short(a.s), m.gone, len(m.l), got, want)
	}
	if want {
		m.gone++
	}
	wantSame(t, r, m)
}

// lists holds tokens of texts, and such as no text has.
func lists() [][]api.Token {
	return [][]api.Token{
		nil,
		{},
		{nam(0, "x")},
		{word(0, "fun"), nam(4, "x"), sign(6, "->"), num(9, 12)},
		{nam(0, "x"), nam(1, "x"), tag(2, "x"), word(3, "x"), str(4, "x"), vari(5, "x"), sign(6, "x")},
		{str(0, ""), num(2, 0), num(4, -1), str(7, "12")},
		{{Kind: api.TokNum, S: "12", N: 12, Pos: 3}, {Kind: api.TokNum, S: "x", Pos: -3}},
		{{}, {Kind: 0, S: "x", N: 1, Pos: 5}, {}, nam(7, "x"), {}},
		{{Kind: -1, S: "x"}, {Kind: 99, S: "", N: -1, Pos: -1}, {Kind: math.MaxInt, S: "\xff", Pos: math.MinInt}, {Kind: math.MinInt, S: "x"}},
	}
}

// ends holds places behind all tokens, among them, and such as no text has.
var ends = []int{0, 1, 11, -1, math.MaxInt, math.MinInt}

// 4.2, each call at a reader's beginning, in its midst, at its end, and behind it, of nil and of no tokens.
func TestReader(t *testing.T) {
	models := []model{{none: true}}
	for _, l := range lists() {
		for _, end := range ends {
			models = append(models, model{l: l, end: end})
		}
	}
	for _, m := range models {
		for range len(m.l) + 3 {
			for _, a := range askedOf(m.l) {
				// Each Take has a reader of its own, from which as much is gone by.
				n := m
				n.gone = 0
				r := n.reader()
				wantSame(t, r, &n)
				for n.gone < m.gone {
					wantNext(t, r, &n)
				}
				wantTake(t, r, &n, a)
				wantTake(t, r, &n, a)
				wantNext(t, r, &n)
			}
			m.gone = min(m.gone+1, len(m.l))
		}
	}
}

// 4.2, all rows of a few calls, of each reader.
func TestReaderCalls(t *testing.T) {
	calls := []func(*testing.T, *lex.Reader, *model){
		wantSame,
		wantNext,
		func(t *testing.T, r *lex.Reader, m *model) { wantTake(t, r, m, asked{api.TokName, "x"}) },
		func(t *testing.T, r *lex.Reader, m *model) { wantTake(t, r, m, asked{api.TokNum, "any"}) },
		func(t *testing.T, r *lex.Reader, m *model) { wantTake(t, r, m, asked{m.peek().Kind, m.peek().S}) },
		func(t *testing.T, r *lex.Reader, m *model) { wantTake(t, r, m, asked{0, m.peek().S}) },
	}
	for _, l := range append(lists(), nil) {
		for row := range 6 * 6 * 6 * 6 {
			m := model{l: l, end: 11}
			r := m.reader()
			for range 4 {
				calls[row%6](t, r, &m)
				row /= 6
			}
		}
	}
	for row := range 6 * 6 * 6 {
		m := model{none: true}
		for range 3 {
			calls[row%6](t, nil, &m)
			row /= 6
		}
	}
}

// 4.2, of none, and of one without tokens, spelt out.
func TestReaderOfNone(t *testing.T) {
	var none *lex.Reader
	for range 3 {
		if got := none.Peek(); got != (api.Token{}) {
			t.Errorf("Peek() of nil: %s, want none", one(got))
		}
		if got := none.Next(); got != (api.Token{}) {
			t.Errorf("Next() of nil: %s, want none", one(got))
		}
		if none.Is(0, "") || none.Is(api.TokNum, "") || none.Take(0, "") || none.Take(api.TokNum, "") || !none.Done() {
			t.Errorf("of nil: a token is left")
		}
	}
	for _, end := range ends {
		r := lex.New(nil, end)
		if r == nil {
			t.Fatalf("New(nil, %d): nil", end)
		}
		for range 3 {
			if got := r.Peek(); got != (api.Token{Pos: end}) {
				t.Errorf("Peek() of no tokens, with the end %d: %s", end, one(got))
			}
			if got := r.Next(); got != (api.Token{Pos: end}) {
				t.Errorf("Next() of no tokens, with the end %d: %s", end, one(got))
			}
			if r.Is(0, "") || r.Is(api.TokNum, "") || r.Take(0, "") || r.Take(api.TokNum, "") || !r.Done() {
				t.Errorf("of no tokens, with the end %d: a token is left", end)
			}
		}
	}
}

// 4.2, of TokNum a text counts nothing, of each other kind it does.
func TestTextOfANumber(t *testing.T) {
	for _, s := range []string{"", "12", "13", "x", " ", "\xff"} {
		r := lex.New([]api.Token{num(0, 12), str(3, "12"), num(7, 12)}, 9)
		if !r.Is(api.TokNum, s) || !r.Take(api.TokNum, s) {
			t.Errorf("of the number 12 with the text %s: no, want yes", short(s))
		}
		if r.Is(api.TokNum, s) || r.Take(api.TokNum, s) {
			t.Errorf("of the text 12 as the number with the text %s: yes, want no", short(s))
		}
		if is := s == "12"; r.Is(api.TokStr, s) != is || r.Take(api.TokStr, s) != is {
			t.Errorf("of the text 12 as the text %s: want %t", short(s), is)
		}
	}
}

// 4.2, a token of the kind 0 is one that is left, and never what Is and Take ask for.
func TestKindOfNone(t *testing.T) {
	l := []api.Token{{}, {S: "x", Pos: 4}}
	r := lex.New(l, 9)
	for _, want := range l {
		if r.Is(0, want.S) || r.Take(0, want.S) || r.Is(0, "") || r.Take(0, "") {
			t.Errorf("of the kind 0 with the text %s: yes, want no", short(want.S))
		}
		if r.Done() {
			t.Errorf("Done() ahead of %s: yes, want no", one(want))
		}
		if got := r.Next(); got != want {
			t.Errorf("Next(): %s, want %s", one(got), one(want))
		}
	}
	if got := r.Next(); got != (api.Token{Pos: 9}) || !r.Done() {
		t.Errorf("at the end: %s", one(got))
	}
	if r.Is(0, "") || r.Take(0, "") {
		t.Errorf("of the kind 0 at the end: yes, want no")
	}
}

// Of 4.2, a reader keeps what it was made of, and changes nothing of it; readers of one list know nothing of one another.
func TestReaderIsItsOwn(t *testing.T) {
	l := []api.Token{nam(0, "a"), nam(2, "b"), nam(4, "c")}
	before := slices.Clone(l)
	r, s := lex.New(l, 5), lex.New(l, 6)
	r.Next()
	if !slices.Equal(l, before) {
		t.Errorf("Next changed the list: %s, was %s", told(l), told(before))
	}
	if got := s.Peek(); got != before[0] {
		t.Errorf("Peek() of another reader: %s, want %s", one(got), one(before[0]))
	}
	for i := range l {
		l[i] = nam(9, "changed")
	}
	_ = append(l[:0], num(9, 9))
	m := model{l: before, gone: 1, end: 5}
	for range 4 {
		wantSame(t, r, &m)
		wantNext(t, r, &m)
	}
	n := model{l: before, end: 6}
	for range 5 {
		wantSame(t, s, &n)
		wantNext(t, s, &n)
	}
}

// 4.3, what is read one by one of a text's tokens is all of them, and what stands behind is at the text's end.
func TestReadOneByOne(t *testing.T) {
	texts := []string{"", " ", "# a", "x", "fun x -> 12", "let rec f = fun x -> {h = x, t = f x} in f;\n", "mu 'a. {n: 'a | \"t\" ~1}  # end\n"}
	for n := range 50 {
		texts = append(texts, texts[n]+" "+texts[(n*7+5)%(n+7)]+"\n"+strconv.Itoa(n)+";")
	}
	for _, s := range texts {
		l, end, e := lex.All(s)
		if e != api.OK || end != len(s) {
			t.Fatalf("All(%s): %d, %d", short(s), end, int(e))
		}
		byNext, byTake := lex.New(l, end), lex.New(l, end)
		var read []api.Token
		for !byNext.Done() {
			read = append(read, byNext.Next())
		}
		if !slices.Equal(read, l) {
			t.Errorf("read of %s: %s, want %s", short(s), told(read), told(l))
		}
		for _, want := range l {
			if got := byTake.Peek(); got != want || !byTake.Is(want.Kind, want.S) || !byTake.Take(want.Kind, want.S) {
				t.Errorf("taken of %s: %s, want %s", short(s), one(got), one(want))
			}
		}
		for _, r := range []*lex.Reader{byNext, byTake} {
			if got := r.Next(); got != (api.Token{Pos: len(s)}) || !r.Done() {
				t.Errorf("behind all of %s: %s, want none at %d", short(s), one(got), len(s))
			}
		}
	}
}
