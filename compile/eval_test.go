package compile

import (
	"math"
	"slices"
	"testing"

	"modelcheck/api"
	"modelcheck/parse"
)

// most and least are the greatest and the smallest value.
const most, least = math.MaxInt32, math.MinInt32

// limits are values at which results wrap around, and some others.
var limits = []int{0, 1, -1, 2, -2, 7, 65536, -65537, most, most - 1, least, least + 1}

// expr is the expression with the given text, which need not be valid for any local variables.
func expr(t *testing.T, text string) api.Expr {
	t.Helper()
	e, fault := parse.Expr(text)
	if fault != (api.Fault{}) {
		t.Fatalf("%s is no expression: %v", text, fault)
	}
	return e
}

// evalIs fails if the result of Eval is not the one that is wanted.
func evalIs(t *testing.T, e api.Expr, names []string, values []int, want int, err api.Errno) {
	t.Helper()
	if n, got := Eval(e, names, values); n != want || got != err {
		t.Errorf("Eval(%.500v, %.200q, %.200v): %d, %d, want %d, %d", e, names, values, n, got, want, err)
	}
}

// TestEval checks P19.3: the values of expressions of each kind and depth.
func TestEval(t *testing.T) {
	names, values := []string{"a", "b", "c", "x_1"}, []int{5, -3, least, most}
	for _, x := range []struct {
		text string
		want int
	}{
		{"0", 0}, {"-2147483648", least}, {"2147483647", most}, {"12", 12},
		{"a", 5}, {"b", -3}, {"c", least}, {"x_1", most},
		{"(a add b)", 2}, {"(a sub b)", 8}, {"(b sub a)", -8}, {"(a mul b)", -15},
		{"(a and b)", 5}, {"(a or b)", -3}, {"(a xor b)", -8}, {"(12 and 10)", 8}, {"(12 or 10)", 14}, {"(12 xor 10)", 6},
		{"(a eq 5)", 1}, {"(a eq b)", 0}, {"(a ne 5)", 0}, {"(a ne b)", 1},
		{"(a lt b)", 0}, {"(b lt a)", 1}, {"(a lt a)", 0}, {"(a le b)", 0}, {"(b le a)", 1}, {"(a le a)", 1},
		// Results wrap around.
		{"(x_1 add 1)", least}, {"(c sub 1)", most}, {"(c add c)", 0}, {"(x_1 add x_1)", -2}, {"(0 sub c)", least},
		{"(c mul c)", 0}, {"(x_1 mul x_1)", 1}, {"(c mul -1)", least}, {"(x_1 mul 2)", -2}, {"(65536 mul 65536)", 0}, {"(65536 mul 32768)", least},
		{"(c lt x_1)", 1}, {"(x_1 le c)", 0}, {"(c xor x_1)", -1}, {"(c or x_1)", -1}, {"(c and x_1)", 0},
		// An inner result wraps around before it is used.
		{"((x_1 add 1) lt 0)", 1}, {"((c add c) eq 0)", 1}, {"(0 lt (c sub 1))", 1},
		{"((a add 1) mul (b sub 2))", -30}, {"((a lt b) or (b lt a))", 1}, {"(1 sub (2 sub 3))", 2}, {"((1 sub 2) sub 3)", -4},
	} {
		evalIs(t, expr(t, x.text), names, values, x.want, api.OK)
	}
	for _, a := range limits {
		for _, b := range limits {
			for fn := api.FnAdd; fn <= api.FnLe; fn++ {
				e := expr(t, "(p "+functions[fn]+" q)")
				evalIs(t, e, []string{"q", "p"}, []int{b, a}, int(calculate(fn, int32(a), int32(b))), api.OK)
			}
		}
	}
}

// TestEvalNames checks P19.3: names that occur several times, names that are none, and no names.
func TestEvalNames(t *testing.T) {
	a := expr(t, "a")
	evalIs(t, a, []string{"a", "a"}, []int{1, 2}, 1, api.OK)
	evalIs(t, a, []string{"b", "a", "c", "a", "a"}, []int{9, 1, 8, 2, 3}, 1, api.OK)
	evalIs(t, expr(t, "((a add b) add a)"), []string{"b", "a", "b", "a"}, []int{10, 1, 20, 2}, 12, api.OK)
	evalIs(t, expr(t, "4"), nil, nil, 4, api.OK)
	evalIs(t, expr(t, "(4 add 5)"), []string{}, nil, 9, api.OK)
	// Only the names of the expression are examined.
	evalIs(t, a, []string{"", "if", "a", "9", "a b"}, []int{1, 2, 3, 4, 5}, 3, api.OK)
	evalIs(t, api.Expr{Kind: api.ExLocal, Name: "if"}, []string{"if"}, []int{1}, 0, api.ErrName)
	evalIs(t, api.Expr{Kind: api.ExLocal}, []string{""}, []int{1}, 0, api.ErrName)
	// More local variables than a procedure has.
	names, values := slices.Repeat([]string{"b"}, 100000), slices.Repeat([]int{6}, 100000)
	evalIs(t, a, append(names, "a"), append(values, 7), 7, api.OK)
	evalIs(t, a, names, values, 0, api.ErrObject)
	evalIs(t, expr(t, "(b mul b)"), names, values, 36, api.OK)
}

// wrong are expressions with each error of ast.CheckExpr for the local variables a and b.
var wrong = []struct {
	e   api.Expr
	err api.Errno
}{
	{api.Expr{}, api.ErrOp},
	{api.Expr{Kind: 4, N: 1, Name: "a"}, api.ErrOp},
	{api.Expr{Kind: -1}, api.ErrOp},
	{api.Expr{Kind: api.ExNumber, Name: "a"}, api.ErrField},
	{api.Expr{Kind: api.ExNumber, Fn: api.FnAdd}, api.ErrField},
	{api.Expr{Kind: api.ExNumber, Args: []api.Expr{{Kind: api.ExNumber}}}, api.ErrField},
	{api.Expr{Kind: api.ExLocal, Name: "a", N: 1}, api.ErrField},
	{api.Expr{Kind: api.ExLocal, Name: "a", Fn: 1}, api.ErrField},
	{api.Expr{Kind: api.ExLocal, Name: "a", Args: []api.Expr{{Kind: api.ExNumber}}}, api.ErrField},
	{api.Expr{Kind: api.ExCalc, Fn: api.FnAdd}, api.ErrField},
	{api.Expr{Kind: api.ExCalc, Fn: api.FnAdd, Args: make([]api.Expr, 1)}, api.ErrField},
	{api.Expr{Kind: api.ExCalc, Fn: api.FnAdd, Args: make([]api.Expr, 3)}, api.ErrField},
	{api.Expr{Kind: api.ExCalc, Fn: api.FnAdd, N: 1, Args: make([]api.Expr, 2)}, api.ErrField},
	{api.Expr{Kind: api.ExCalc, Fn: api.FnAdd, Name: "a", Args: make([]api.Expr, 2)}, api.ErrField},
	{api.Expr{Kind: api.ExCalc, Fn: api.FnAdd, Args: make([]api.Expr, 2)}, api.ErrOp},
	{api.Expr{Kind: api.ExNumber, N: most + 1}, api.ErrRange},
	{api.Expr{Kind: api.ExNumber, N: least - 1}, api.ErrRange},
	{api.Expr{Kind: api.ExNumber, N: 1 << 32}, api.ErrRange},
	{api.Expr{Kind: api.ExLocal, Name: "var"}, api.ErrName},
	{api.Expr{Kind: api.ExLocal, Name: "a b"}, api.ErrName},
	{api.Expr{Kind: api.ExLocal, Name: "c"}, api.ErrObject},
	{api.Expr{Kind: api.ExLocal, Name: "A"}, api.ErrObject},
	{api.Expr{Kind: api.ExCalc, Fn: 0, Args: []api.Expr{{Kind: api.ExNumber}, {Kind: api.ExNumber}}}, api.ErrOp},
	{api.Expr{Kind: api.ExCalc, Fn: 11, Args: []api.Expr{{Kind: api.ExNumber}, {Kind: api.ExNumber}}}, api.ErrOp},
	{api.Expr{Kind: api.ExCalc, Fn: -1, Args: []api.Expr{{Kind: api.ExNumber}, {Kind: api.ExNumber}}}, api.ErrOp},
}

// sum is the sum of two expressions.
func sum(d, e api.Expr) api.Expr {
	return api.Expr{Kind: api.ExCalc, Fn: api.FnAdd, Args: []api.Expr{d, e}}
}

// TestEvalErrors checks P19.3: each error alone and before another one.
func TestEvalErrors(t *testing.T) {
	names, values := []string{"a", "b"}, []int{1, 2}
	a, over := expr(t, "a"), api.Expr{Kind: api.ExNumber, N: most + 1}
	// Names and values of different lengths.
	for _, x := range [][2]int{{0, 1}, {1, 0}, {1, 2}, {2, 1}, {2, 100}, {100, 2}} {
		evalIs(t, expr(t, "1"), slices.Repeat([]string{"a"}, x[0]), make([]int, x[1]), 0, api.ErrArg)
		evalIs(t, api.Expr{}, slices.Repeat([]string{"a"}, x[0]), slices.Repeat([]int{most + 1}, x[1]), 0, api.ErrArg)
	}
	for _, x := range wrong {
		for _, e := range []api.Expr{x.e, sum(x.e, a), sum(a, x.e), sum(sum(a, a), x.e), sum(x.e, over), sum(x.e, api.Expr{})} {
			evalIs(t, e, names, values, 0, x.err)
			// The other errors come after it, and before it.
			evalIs(t, e, names, []int{most + 1, least - 1}, 0, x.err)
			evalIs(t, e, names, []int{1}, 0, api.ErrArg)
			evalIs(t, e, names[:1], []int{most + 1, 1}, 0, api.ErrArg)
		}
		evalIs(t, sum(sum(sum(x.e, a), a), a), names, []int{1, most + 1}, 0, api.ErrLimit)
	}
	// Values out of range, of variables that occur in the expression or not.
	for _, n := range []int{most + 1, least - 1, 1 << 32, -1 << 32, math.MaxInt, math.MinInt} {
		for k := range 4 {
			values := []int{1, 2, most, least}
			values[k] = n
			for _, text := range []string{"a", "b", "7", "(c add 0)"} {
				evalIs(t, expr(t, text), []string{"a", "b", "a", "c"}, values, 0, api.ErrRange)
			}
			evalIs(t, over, []string{"a", "b", "a", "c"}, values, 0, api.ErrRange)
			evalIs(t, api.Expr{}, []string{"a", "b", "a", "c"}, values, 0, api.ErrOp)
		}
	}
}

// TestEvalArguments checks that names and values stay as they are, with the capacity behind them.
func TestEvalArguments(t *testing.T) {
	names, values := []string{"a", "b", "behind"}, []int{4, 5, 99}
	e := expr(t, "((a add b) mul (a sub c))")
	e.Args[1].Args[1].Name = "b"
	for range 2 {
		evalIs(t, e, names[:2], values[:2], -9, api.OK)
		evalIs(t, e, names[:2], values[:1], 0, api.ErrArg)
	}
	if !slices.Equal(names, []string{"a", "b", "behind"}) || !slices.Equal(values, []int{4, 5, 99}) || !sameExpr(e, expr(t, "((a add b) mul (a sub b))")) {
		t.Errorf("the arguments are %v, %v, %v", e, names, values)
	}
}

// sameExpr reports whether two expressions are equal.
func sameExpr(d, e api.Expr) bool {
	return d.Kind == e.Kind && d.N == e.N && d.Name == e.Name && d.Fn == e.Fn && slices.EqualFunc(d.Args, e.Args, sameExpr)
}
