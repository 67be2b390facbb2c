package wrap_test

import (
	"math"
	"math/big"
	"strings"
	"testing"

	"syntagma/api"
	"syntagma/wrap"
)

const (
	least    = math.MinInt64
	greatest = math.MaxInt64
)

// samples holds small numbers, the ends, their neighbours, and numbers around the powers of 2 and of 10.
func samples() []int64 {
	l := []int64{least, least + 1, least + 2, greatest - 1, greatest, 3037000499, 3037000500, -3037000500}
	for n := int64(-12); n <= 12; n++ {
		l = append(l, n)
	}
	for shift := 4; shift < 63; shift += 7 {
		p := int64(1) << shift
		l = append(l, p-1, p, p+1, -p-1, -p, -p+1)
	}
	for p := int64(100); p <= greatest/1000; p *= 1000 {
		l = append(l, p-1, p, -p+1, -p)
	}
	return l
}

// lowest is what a number without bounds is by its lowest 64 bits.
func lowest(n *big.Int) int64 {
	bits := new(big.Int).And(n, new(big.Int).SetUint64(math.MaxUint64))
	return int64(bits.Uint64())
}

func wantNumber(t *testing.T, what string, a, b, got, want int64) {
	t.Helper()
	if got != want {
		t.Errorf("%s(%d, %d): %d, want %d", what, a, b, got, want)
	}
}

func wantBoth(t *testing.T, what string, a, b, got int64, e api.Errno, want int64, wantE api.Errno) {
	t.Helper()
	if got != want || e != wantE {
		t.Errorf("%s(%d, %d): %d, %d, want %d, %d", what, a, b, got, int(e), want, int(wantE))
	}
}

// 1.1, at the edges that the chapter names.
func TestWrapEdges(t *testing.T) {
	for _, c := range []struct{ a, b, sum, difference, product int64 }{
		{2, 3, 5, -1, 6},
		{-7, 2, -5, -9, -14},
		{0, 0, 0, 0, 0},
		{greatest, 1, least, greatest - 1, greatest},
		{least, 1, least + 1, greatest, least},
		{least, -1, greatest, least + 1, least},
		{least, least, 0, 0, 0},
		{greatest, greatest, -2, 0, 1},
		{0, least, least, least, 0},
		{1 << 62, 4, 1<<62 + 4, 1<<62 - 4, 0},
		{1 << 62, 2, 1<<62 + 2, 1<<62 - 2, least},
		{1 << 32, 1 << 31, 3 << 31, 1 << 31, least},
	} {
		wantNumber(t, "Add", c.a, c.b, wrap.Add(c.a, c.b), c.sum)
		wantNumber(t, "Sub", c.a, c.b, wrap.Sub(c.a, c.b), c.difference)
		wantNumber(t, "Mul", c.a, c.b, wrap.Mul(c.a, c.b), c.product)
	}
}

// 1.1, held against numbers without bounds.
func TestWrapLowestBits(t *testing.T) {
	for _, a := range samples() {
		for _, b := range samples() {
			x, y := big.NewInt(a), big.NewInt(b)
			wantNumber(t, "Add", a, b, wrap.Add(a, b), lowest(new(big.Int).Add(x, y)))
			wantNumber(t, "Sub", a, b, wrap.Sub(a, b), lowest(new(big.Int).Sub(x, y)))
			wantNumber(t, "Mul", a, b, wrap.Mul(a, b), lowest(new(big.Int).Mul(x, y)))
			q, e := wrap.Div(a, b)
			if b == 0 {
				wantBoth(t, "Div", a, b, q, e, 0, api.ErrZero)
				continue
			}
			wantBoth(t, "Div", a, b, q, e, lowest(new(big.Int).Quo(x, y)), api.OK)
		}
	}
}

// 1.1, the quotient.
func TestDiv(t *testing.T) {
	for _, c := range []struct {
		a, b, q int64
		e       api.Errno
	}{
		{7, 2, 3, api.OK},
		{-7, 2, -3, api.OK},
		{7, -2, -3, api.OK},
		{-7, -2, 3, api.OK},
		{1, 2, 0, api.OK},
		{-1, 2, 0, api.OK},
		{0, 5, 0, api.OK},
		{least, -1, least, api.OK},
		{least, 1, least, api.OK},
		{least, 2, -1 << 62, api.OK},
		{least, least, 1, api.OK},
		{greatest, least, 0, api.OK},
		{least, greatest, -1, api.OK},
		{5, 0, 0, api.ErrZero},
		{0, 0, 0, api.ErrZero},
		{least, 0, 0, api.ErrZero},
	} {
		q, e := wrap.Div(c.a, c.b)
		wantBoth(t, "Div", c.a, c.b, q, e, c.q, c.e)
	}
}

// 1.2, the primitives of numbers.
func TestPrim(t *testing.T) {
	for _, c := range []struct {
		op      int
		a, b, n int64
		e       api.Errno
	}{
		{api.PAdd, 2, 3, 5, api.OK},
		{api.PAdd, greatest, 1, least, api.OK},
		{api.PSub, 2, 3, -1, api.OK},
		{api.PSub, least, 1, greatest, api.OK},
		{api.PMul, -4, 3, -12, api.OK},
		{api.PMul, 1 << 62, 4, 0, api.OK},
		{api.PDiv, -7, 2, -3, api.OK},
		{api.PDiv, least, -1, least, api.OK},
		{api.PDiv, 7, 0, 0, api.ErrZero},
		{api.PDiv, 0, 0, 0, api.ErrZero},
		{api.PLess, -3, 2, 1, api.OK},
		{api.PLess, 2, -3, 0, api.OK},
		{api.PLess, 2, 2, 0, api.OK},
		{api.PLess, least, greatest, 1, api.OK},
		{api.PLess, greatest, least, 0, api.OK},
		{api.PLess, 0, 0, 0, api.OK},
		{api.PSame, 2, 2, 1, api.OK},
		{api.PSame, 2, 3, 0, api.OK},
		{api.PSame, 3, 2, 0, api.OK},
		{api.PSame, least, least, 1, api.OK},
		{api.PSame, least, greatest, 0, api.OK},
		{api.PSame, 0, 0, 1, api.OK},
	} {
		n, e := wrap.Prim(c.op, c.a, c.b)
		wantBoth(t, "Prim "+wrap.Print(int64(c.op)), c.a, c.b, n, e, c.n, c.e)
	}
}

// 1.2, a primitive that there is not, or that is not of numbers: told ahead of a division by 0.
func TestPrimNone(t *testing.T) {
	for _, op := range []int{0, api.PJoin, 8, 9, 100, -1, -4, math.MinInt, math.MaxInt, 1<<32 + api.PAdd} {
		for _, b := range []int64{1, 0} {
			n, e := wrap.Prim(op, 1, b)
			wantBoth(t, "Prim "+wrap.Print(int64(op)), 1, b, n, e, 0, api.ErrArg)
		}
	}
}

// 1.2, each primitive is the call of its kind.
func TestPrimIsTheCall(t *testing.T) {
	for _, a := range samples() {
		for _, b := range samples() {
			q, zero := wrap.Div(a, b)
			less, same := int64(0), int64(0)
			if a < b {
				less = 1
			}
			if a == b {
				same = 1
			}
			for _, c := range []struct {
				op int
				n  int64
				e  api.Errno
			}{
				{api.PAdd, wrap.Add(a, b), api.OK},
				{api.PSub, wrap.Sub(a, b), api.OK},
				{api.PMul, wrap.Mul(a, b), api.OK},
				{api.PDiv, q, zero},
				{api.PLess, less, api.OK},
				{api.PSame, same, api.OK},
			} {
				n, e := wrap.Prim(c.op, a, b)
				wantBoth(t, "Prim "+wrap.Print(int64(c.op)), a, b, n, e, c.n, c.e)
			}
		}
	}
}

// 1.3, both ways.
func TestTexts(t *testing.T) {
	for _, c := range []struct {
		n int64
		s string
	}{
		{0, "0"},
		{7, "7"},
		{10, "10"},
		{-1, "~1"},
		{-10, "~10"},
		{1234567890, "1234567890"},
		{-9876543210, "~9876543210"},
		{greatest, "9223372036854775807"},
		{least + 1, "~9223372036854775807"},
		{least, "~9223372036854775808"},
	} {
		if s := wrap.Print(c.n); s != c.s {
			t.Errorf("Print(%d): %q, want %q", c.n, s, c.s)
		}
		if n, e := wrap.Parse(c.s); n != c.n || e != api.OK {
			t.Errorf("Parse(%q): %d, %d, want %d", c.s, n, int(e), c.n)
		}
	}
	for _, a := range samples() {
		s := wrap.Print(a)
		if want := strings.Replace(big.NewInt(a).String(), "-", "~", 1); s != want {
			t.Errorf("Print(%d): %q, want %q", a, s, want)
		}
		if n, e := wrap.Parse(s); n != a || e != api.OK {
			t.Errorf("Parse(%q): %d, %d, want %d", s, n, int(e), a)
		}
	}
}

// 1.3, texts that Print would not write.
func TestParseRefuses(t *testing.T) {
	for _, s := range []string{
		"", "~", "~~1", "1~", "1~2", "~0", "00", "01", "007", "~01", "~00", "-1", "-0", "+1", "~-1", "-~1",
		" 1", "1 ", "1\n", "\t1", "1 2", "1_000", "1,000", "1.0", "1e3", "0x1f", "0b1", "a", "1a", "a1", "/", ":", "1:", "1/",
		"true", "\x00", "1\x00", "\xff", "1\xff", "\xff1", "~\xff", "\u0663", "1\u0663", "\uff11", "\u22121", "\u223c1", "\u00b2",
		"9223372036854775808", "9223372036854775817", "~9223372036854775809", "9999999999999999999", "~9999999999999999999",
		"18446744073709551615", "18446744073709551616", "18446744073709551621", "~18446744073709551611", "36893488147419103232",
		"09223372036854775807", "~09223372036854775808", "1" + strings.Repeat("0", 5000), strings.Repeat("0", 5000), strings.Repeat("~", 5000),
	} {
		if n, e := wrap.Parse(s); n != 0 || e != api.ErrText {
			t.Errorf("Parse(%q): %d, %d, want 0, %d", s, n, int(e), int(api.ErrText))
		}
	}
}

// 1.3, all short texts of a few bytes: those that Print writes, and no others.
func TestParseShortTexts(t *testing.T) {
	printed := map[string]int64{}
	for n := int64(-9999); n <= 9999; n++ {
		printed[wrap.Print(n)] = n
	}
	texts := []string{""}
	for from, long := 0, 0; long <= 4; long++ {
		to := len(texts)
		for _, s := range texts[from:to] {
			want, ok := printed[s]
			wantE := api.OK
			if !ok {
				wantE = api.ErrText
			}
			if n, e := wrap.Parse(s); n != want || e != wantE {
				t.Errorf("Parse(%q): %d, %d, want %d, %d", s, n, int(e), want, int(wantE))
			}
			for _, b := range []string{"~", "0", "1", "5", "9", "-", "+", " ", ":", "/", "\xb2"} {
				texts = append(texts, s+b)
			}
		}
		from = to
	}
}

// 1.4, what was added is taken off; the quotient times b, and what is left, are a.
func TestWhatFollows(t *testing.T) {
	for _, a := range samples() {
		for _, b := range samples() {
			wantNumber(t, "Sub of Add", a, b, wrap.Sub(wrap.Add(a, b), b), a)
			wantNumber(t, "Add of Sub", a, b, wrap.Add(wrap.Sub(a, b), b), a)
			if b == 0 {
				continue
			}
			q, e := wrap.Div(a, b)
			left := wrap.Sub(a, wrap.Mul(q, b))
			wantBoth(t, "Div and what is left", a, b, wrap.Add(wrap.Mul(q, b), left), e, a, api.OK)
			wantNumber(t, "what is left", a, b, left, new(big.Int).Rem(big.NewInt(a), big.NewInt(b)).Int64())
		}
	}
}
