package value

import (
	"math"
	"math/big"
	"strings"
	"testing"

	"modelcheck/api"
)

var functions = []struct {
	f    api.Fn
	name string
}{
	{api.FnAdd, "add"}, {api.FnSub, "sub"}, {api.FnMul, "mul"},
	{api.FnAnd, "and"}, {api.FnOr, "or"}, {api.FnXor, "xor"},
	{api.FnEq, "eq"}, {api.FnNe, "ne"}, {api.FnLt, "lt"}, {api.FnLe, "le"},
}

var unknown = []api.Fn{0, -1, 11, 12, -10, 255, 1 << 32, 1<<32 + 1, math.MaxInt, math.MinInt}

var values = []int{
	0, 1, -1, 2, -2, 3, 5, 6, 7, -7, 10, 255, 256, -256, 32767, 32768, 65535, 65536, -65536, 65537,
	0x55555555, -0x55555556, 46341, -46341, 1 << 30, -1 << 30,
	api.MaxValue, api.MaxValue - 1, api.MinValue, api.MinValue + 1,
}

// integers are the values and integers that are none.
func integers() []int {
	all := append([]int{}, values...)
	return append(all, 1<<31, -1<<31-1, 1<<31+1, 1<<32, 1<<32-1, -1<<32, -1<<32-1, 1<<32+7, 3<<31, -3<<31,
		1<<33-5, 0x123456789abcdef, -0x123456789abcdef, math.MaxInt, math.MaxInt-1, math.MinInt, math.MinInt+1)
}

// valueOf computes the value of an integer of any size by its definition.
func valueOf(n *big.Int) int {
	size := new(big.Int).Lsh(big.NewInt(1), 32)
	r := int(new(big.Int).Mod(n, size).Int64())
	if r > api.MaxValue {
		r -= 1 << 32
	}
	return r
}

func apply(t *testing.T, f api.Fn, a, b int) int {
	t.Helper()
	n, e := Apply(f, a, b)
	if e != api.OK {
		t.Fatalf("Apply(%d, %d, %d): error %d", f, a, b, e)
	}
	return n
}

func TestWrap(t *testing.T) {
	for n, want := range map[int]int{
		0: 0, 1: 1, -1: -1,
		2147483647: 2147483647, -2147483648: -2147483648,
		2147483648: -2147483648, -2147483649: 2147483647,
		4294967295: -1, 4294967296: 0, 4294967297: 1, -4294967296: 0, -4294967297: -1,
		6442450944: -2147483648, math.MaxInt64: -1, math.MinInt64: 0,
	} {
		if got := Wrap(n); got != want {
			t.Errorf("Wrap(%d) = %d, want %d", n, got, want)
		}
	}
	for _, n := range integers() {
		got := Wrap(n)
		if want := valueOf(big.NewInt(int64(n))); got != want {
			t.Errorf("Wrap(%d) = %d, want %d", n, got, want)
		}
	}
}

// reference computes a function by its definition, without the wraparound of Go.
func reference(f api.Fn, x, y int) int {
	a, b, n := big.NewInt(int64(x)), big.NewInt(int64(y)), new(big.Int)
	switch f {
	case api.FnAdd:
		return valueOf(n.Add(a, b))
	case api.FnSub:
		return valueOf(n.Sub(a, b))
	case api.FnMul:
		return valueOf(n.Mul(a, b))
	case api.FnAnd, api.FnOr, api.FnXor:
		for i := range 32 {
			p, q := bitOf(x, i), bitOf(y, i)
			if f == api.FnAnd && p+q == 2 || f == api.FnOr && p+q > 0 || f == api.FnXor && p+q == 1 {
				n.SetBit(n, i, 1)
			}
		}
		return valueOf(n)
	}
	c := a.Cmp(b)
	if f == api.FnEq && c == 0 || f == api.FnNe && c != 0 || f == api.FnLt && c < 0 || f == api.FnLe && c <= 0 {
		return 1
	}
	return 0
}

func bitOf(x, i int) uint {
	return uint(x) >> i & 1
}

func TestApply(t *testing.T) {
	for _, x := range []struct {
		f          api.Fn
		a, b, want int
	}{
		{api.FnAdd, 2, 3, 5}, {api.FnAdd, 2147483647, 1, -2147483648}, {api.FnAdd, -2147483648, -1, 2147483647},
		{api.FnSub, 2, 3, -1}, {api.FnSub, -2147483648, 1, 2147483647}, {api.FnSub, 0, -2147483648, -2147483648},
		{api.FnMul, -3, 5, -15}, {api.FnMul, 65536, 65536, 0}, {api.FnMul, -2147483648, -1, -2147483648},
		{api.FnMul, 2147483647, 2147483647, 1}, {api.FnMul, 65536, 32768, -2147483648},
		{api.FnAnd, 12, 10, 8}, {api.FnAnd, -1, 6, 6}, {api.FnAnd, -2147483648, -1, -2147483648},
		{api.FnOr, 12, 10, 14}, {api.FnOr, -2147483648, 1, -2147483647},
		{api.FnXor, 12, 10, 6}, {api.FnXor, -1, 5, -6}, {api.FnXor, -1, -1, 0},
		{api.FnEq, 4, 4, 1}, {api.FnEq, 4, 5, 0}, {api.FnEq, 1 << 32, 0, 1}, {api.FnEq, 1<<32 + 1, 0, 0},
		{api.FnNe, 4, 4, 0}, {api.FnNe, 4, 5, 1}, {api.FnNe, 7, 7 - 1<<32, 0},
		{api.FnLt, -1, 0, 1}, {api.FnLt, 0, 0, 0}, {api.FnLt, 1, 0, 0}, {api.FnLt, 1 << 31, 0, 1}, {api.FnLt, 0, 1 << 31, 0},
		{api.FnLt, -2147483648, 2147483647, 1},
		{api.FnLe, 3, 2, 0}, {api.FnLe, 2, 2, 1}, {api.FnLe, 1, 2, 1}, {api.FnLe, 1<<32 - 1, 0, 1},
	} {
		if got := apply(t, x.f, x.a, x.b); got != x.want {
			t.Errorf("Apply(%d, %d, %d) = %d, want %d", x.f, x.a, x.b, got, x.want)
		}
	}
}

func TestApplyIsTheDefinition(t *testing.T) {
	for _, a := range integers() {
		for _, b := range integers() {
			for _, x := range functions {
				want := reference(x.f, valueOf(big.NewInt(int64(a))), valueOf(big.NewInt(int64(b))))
				if got := apply(t, x.f, a, b); got != want {
					t.Errorf("%s of %d and %d = %d, want %d", x.name, a, b, got, want)
				}
			}
		}
	}
}

func TestApplyUnknown(t *testing.T) {
	for _, f := range unknown {
		if n, e := Apply(f, 5, 3); n != 0 || e != api.ErrOp {
			t.Errorf("Apply(%d, 5, 3) = %d, %d", f, n, e)
		}
	}
}

func TestFormat(t *testing.T) {
	for n, want := range map[int]string{
		0: "0", 7: "7", -7: "-7", 10: "10", -100: "-100",
		2147483647: "2147483647", -2147483648: "-2147483648", 2147483648: "2147483648", -2147483649: "-2147483649",
		math.MaxInt64: "9223372036854775807", math.MinInt64: "-9223372036854775808",
	} {
		if got := Format(n); got != want {
			t.Errorf("Format(%d) = %q", n, got)
		}
	}
	for _, n := range integers() {
		if got := Format(n); got != big.NewInt(int64(n)).String() {
			t.Errorf("Format(%d) = %q", n, got)
		}
	}
}

func TestParse(t *testing.T) {
	for s, want := range map[string]int{
		"0": 0, "1": 1, "-1": -1, "9": 9, "10": 10, "-10": -10, "100200": 100200,
		"2147483646": 2147483646, "2147483647": 2147483647, "-2147483647": -2147483647, "-2147483648": -2147483648,
	} {
		if n, e := Parse(s); n != want || e != api.OK {
			t.Errorf("Parse(%q) = %d, %d", s, n, e)
		}
	}
}

func TestParseRange(t *testing.T) {
	long := strings.Repeat("9", 5000)
	for _, s := range []string{
		"2147483648", "-2147483649", "4294967296", "-4294967296", "4294967297", "9999999999", "-9999999999",
		"21474836480", "-21474836480", "9223372036854775807", "9223372036854775808", "-9223372036854775808",
		"-9223372036854775809", "18446744073709551615", "18446744073709551616", "18446744073709551617",
		"340282366920938463463374607431768211456", "1" + strings.Repeat("0", 5000), long, "-" + long,
	} {
		if n, e := Parse(s); n != 0 || e != api.ErrRange {
			t.Errorf("Parse(%q) = %d, %d", s, n, e)
		}
	}
}

func TestParseMalformed(t *testing.T) {
	long := strings.Repeat("9", 5000)
	for _, s := range []string{
		"", "-", "--", "--1", "+", "+1", "-+1", "+0", "-0", "00", "-00", "01", "-01", "007", "0000000000000",
		" ", " 1", "1 ", "1 2", "\t1", "1\n", "1-", "1-2", "1.0", "1.", ".5", "1e3", "0x1", "0b1", "0o7", "1_000",
		"1,000", "a", "1x", "x1", "/", ":", "1/", "1:", "\x00", "1\x00", "\xff", "1\xb2", "١", "1²", "−1", "NaN",
		"Inf", "nil", "0" + long, "-0" + long, long + "x", long + "-", "-" + long + " ",
	} {
		if n, e := Parse(s); n != 0 || e != api.ErrNumber {
			t.Errorf("Parse(%q) = %d, %d", s, n, e)
		}
	}
}

func TestNames(t *testing.T) {
	for _, x := range functions {
		if got := Name(x.f); got != x.name {
			t.Errorf("Name(%d) = %q", x.f, got)
		}
		if f, ok := ByName(x.name); f != x.f || !ok {
			t.Errorf("ByName(%q) = %d, %t", x.name, f, ok)
		}
	}
	for _, f := range unknown {
		if got := Name(f); got != "" {
			t.Errorf("Name(%d) = %q", f, got)
		}
	}
	for _, s := range []string{
		"", " ", "Add", "ADD", "ad", "addd", "add ", " add", "add\x00", "div", "not", "gt", "ge", "l", "e", "1", "plain",
	} {
		if f, ok := ByName(s); f != 0 || ok {
			t.Errorf("ByName(%q) = %d, %t", s, f, ok)
		}
	}
}

func TestRing(t *testing.T) {
	add := func(a, b int) int { return apply(t, api.FnAdd, a, b) }
	mul := func(a, b int) int { return apply(t, api.FnMul, a, b) }
	for _, a := range values {
		if add(a, 0) != a || mul(a, 1) != a {
			t.Errorf("0 and 1 are not neutral for %d", a)
		}
		for _, b := range values {
			if add(a, b) != add(b, a) || mul(a, b) != mul(b, a) {
				t.Errorf("not commutative: %d and %d", a, b)
			}
			if apply(t, api.FnSub, add(a, b), b) != a || add(apply(t, api.FnSub, a, b), b) != a {
				t.Errorf("not inverse: %d and %d", a, b)
			}
			for _, c := range values {
				if add(add(a, b), c) != add(a, add(b, c)) || mul(mul(a, b), c) != mul(a, mul(b, c)) {
					t.Errorf("not associative: %d, %d and %d", a, b, c)
				}
				if mul(a, add(b, c)) != add(mul(a, b), mul(a, c)) {
					t.Errorf("not distributive: %d, %d and %d", a, b, c)
				}
			}
		}
	}
}

func TestWrapIsCompatible(t *testing.T) {
	for _, a := range integers() {
		if n := Wrap(a); n < api.MinValue || n > api.MaxValue || Wrap(n) != n {
			t.Errorf("Wrap(%d) = %d", a, n)
		}
		for _, b := range integers() {
			// The sum and product of Go wrap modulo 2^64, which keeps their values.
			if Wrap(a+b) != apply(t, api.FnAdd, Wrap(a), Wrap(b)) || Wrap(a*b) != apply(t, api.FnMul, Wrap(a), Wrap(b)) {
				t.Errorf("Wrap is not compatible for %d and %d", a, b)
			}
			for _, x := range functions {
				if apply(t, x.f, a, b) != apply(t, x.f, Wrap(a), Wrap(b)) {
					t.Errorf("%s of %d and %d is not that of their values", x.name, a, b)
				}
			}
		}
	}
}

func TestOrderAndBits(t *testing.T) {
	for _, a := range integers() {
		for _, b := range integers() {
			less, equal, greater := apply(t, api.FnLt, a, b), apply(t, api.FnEq, a, b), apply(t, api.FnLt, b, a)
			if less+equal+greater != 1 {
				t.Errorf("order of %d and %d: %d %d %d", a, b, less, equal, greater)
			}
			if apply(t, api.FnLe, a, b) != less|equal || apply(t, api.FnNe, a, b) != 1-equal {
				t.Errorf("le or ne of %d and %d", a, b)
			}
			if apply(t, api.FnXor, apply(t, api.FnXor, a, b), b) != Wrap(a) {
				t.Errorf("xor of %d and %d", a, b)
			}
			both, either := apply(t, api.FnAnd, a, b), apply(t, api.FnOr, a, b)
			if apply(t, api.FnAdd, both, either) != apply(t, api.FnAdd, a, b) {
				t.Errorf("and and or of %d and %d", a, b)
			}
		}
	}
}

func TestNotationOfValues(t *testing.T) {
	for _, n := range integers() {
		want, code := n, api.OK
		if n < api.MinValue || n > api.MaxValue {
			want, code = 0, api.ErrRange
		}
		if got, e := Parse(Format(n)); got != want || e != code {
			t.Errorf("Parse(Format(%d)) = %d, %d", n, got, e)
		}
	}
}

func TestNotationOfTexts(t *testing.T) {
	accepted := 0
	var check func(s string)
	check = func(s string) {
		if n, e := Parse(s); e == api.OK {
			accepted++
			if Format(n) != s {
				t.Errorf("Parse(%q) = %d", s, n)
			}
		} else if n != 0 {
			t.Errorf("Parse(%q) = %d with error %d", s, n, e)
		}
		if len(s) < 4 {
			for _, c := range "-+0123456789x _" {
				check(s + string(c))
			}
		}
	}
	check("")
	// The integers from -999 to 9999 are those with at most four characters.
	if accepted != 10999 {
		t.Errorf("%d texts are accepted", accepted)
	}
}

func FuzzParse(f *testing.F) {
	for _, s := range []string{"0", "-1", "-0", "007", "2147483648", "-2147483648", "1_0", "x"} {
		f.Add(s)
	}
	f.Fuzz(func(t *testing.T, s string) {
		want, code := 0, api.ErrNumber
		if n, ok := new(big.Int).SetString(s, 10); ok && n.String() == s {
			code = api.ErrRange
			if n.IsInt64() && n.Int64() >= api.MinValue && n.Int64() <= api.MaxValue {
				want, code = int(n.Int64()), api.OK
			}
		}
		if n, e := Parse(s); n != want || e != code {
			t.Errorf("Parse(%q) = %d, %d", s, n, e)
		}
	})
}
