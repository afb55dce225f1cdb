package format

import (
	"fmt"
	"math/rand"
	"runtime/debug"
	"slices"
	"strconv"
	"strings"
	"testing"

	"modelcheck/api"
	"modelcheck/ast"
	"modelcheck/lex"
	"modelcheck/parse"
)

// num is the expression n.
func num(n int) api.Expr {
	return api.Expr{Kind: api.ExNumber, N: n}
}

// local is the expression of a local variable.
func local(name string) api.Expr {
	return api.Expr{Kind: api.ExLocal, Name: name}
}

// calc is the expression of a calculation.
func calc(left api.Expr, fn api.Fn, right api.Expr) api.Expr {
	return api.Expr{Kind: api.ExCalc, Fn: fn, Args: []api.Expr{left, right}}
}

// let is the statement name = e.
func let(name string, e api.Expr) api.Stmt {
	return api.Stmt{Kind: api.StLet, Name: name, Exprs: []api.Expr{e}}
}

// fence is a statement without fields.
func fence() api.Stmt {
	return api.Stmt{Kind: api.StFence}
}

// block is a block.
func block(l ...api.Stmt) []api.Stmt {
	return l
}

// either is an if with the given blocks.
func either(body, otherwise []api.Stmt) api.Stmt {
	return api.Stmt{Kind: api.StIf, Exprs: []api.Expr{num(1)}, Body: body, Else: otherwise}
}

// while is a loop with the given body.
func while(body ...api.Stmt) api.Stmt {
	return api.Stmt{Kind: api.StWhile, Exprs: []api.Expr{num(0)}, Body: body}
}

// within is a unit with several objects, in whose procedure f(a) are the given statements.
func within(l ...api.Stmt) api.Unit {
	return api.Unit{
		Vars:    []api.Var{{Name: "x"}, {Name: "y", Init: -5}},
		Mutexes: []string{"m", "n"},
		Conds:   []string{"c", "d"},
		Procs:   []api.Proc{{Name: "f", Param: "a", Body: l}, {Name: "g"}},
		Threads: []api.Launch{{Proc: "g", Arg: 1}},
	}
}

// lines are the lines of a text, each of which ends with a line feed.
func lines(l ...string) string {
	return strings.Join(l, "\n") + "\n"
}

// textWithin is the text of within for statements with the given lines.
func textWithin(l ...string) string {
	head := []string{"var x = 0;", "var y = -5;", "mutex m;", "mutex n;", "cond c;", "cond d;", "proc f(a) {"}
	tail := []string{"}", "proc g() {", "}", "thread g(1);"}
	return lines(slices.Concat(head, l, tail)...)
}

// unitIs fails if the result of Unit is not the one that is wanted.
func unitIs(t *testing.T, u api.Unit, want string, err api.Errno) {
	t.Helper()
	if text, got := Unit(u); text != want || got != err {
		t.Errorf("Unit of %.1000s: %.3000q, %d, want %.3000q, %d", fmt.Sprint(u), text, got, want, err)
	}
}

// exprIs fails if the result of Expr is not the one that is wanted.
func exprIs(t *testing.T, e api.Expr, want string, err api.Errno) {
	t.Helper()
	if text, got := Expr(e); text != want || got != err {
		t.Errorf("Expr of %.1000s: %q, %d, want %q, %d", fmt.Sprint(e), text, got, want, err)
	}
}

// TestExample checks the example of the chapter.
func TestExample(t *testing.T) {
	unitIs(t, api.Unit{
		Vars: []api.Var{{Name: "a"}},
		Procs: []api.Proc{{Name: "f", Body: block(
			either(block(api.Stmt{Kind: api.StLoad, Name: "x", Obj: "a", Order: api.Relaxed}), nil),
		)}},
		Threads: []api.Launch{{Proc: "f"}},
	}, "var a = 0;\n"+"proc f() {\n"+"\tif 1 {\n"+"\t\tx = load a relaxed;\n"+"\t}\n"+"}\n"+"thread f(0);\n", api.OK)
}

// TestElements checks P18.1: the elements of a unit and their order.
func TestElements(t *testing.T) {
	f := api.Proc{Name: "f"}
	unitIs(t, api.Unit{Procs: []api.Proc{f}, Threads: []api.Launch{{Proc: "f"}}}, "proc f() {\n}\nthread f(0);\n", api.OK)
	unitIs(t, api.Unit{
		Vars:    []api.Var{{Name: "z", Init: api.MinValue}, {Name: "a", Init: api.MaxValue}, {Name: "m", Init: -1}, {Name: "V9", Init: 10}},
		Mutexes: []string{"n", "m"},
		Conds:   []string{"d", "c", "n"},
		Procs: []api.Proc{
			{Name: "g", Param: "b", Body: block(fence())},
			{Name: "f"},
		},
		Threads: []api.Launch{{Proc: "g", Arg: api.MinValue}, {Proc: "f", Arg: api.MaxValue}, {Proc: "g"}, {Proc: "g", Arg: -1}},
	}, lines("var z = -2147483648;", "var a = 2147483647;", "var m = -1;", "var V9 = 10;", "mutex n;", "mutex m;", "cond d;", "cond c;", "cond n;",
		"proc g(b) {", "\tfence;", "}", "proc f() {", "}",
		"thread g(-2147483648);", "thread f(2147483647);", "thread g(0);", "thread g(-1);"), api.OK)
	// Objects of different kinds and local variables may have the same name.
	unitIs(t, api.Unit{
		Vars: []api.Var{{Name: "a", Init: 1}}, Mutexes: []string{"a"}, Conds: []string{"a"},
		Procs: []api.Proc{{Name: "a", Param: "a", Body: block(
			api.Stmt{Kind: api.StWait, Obj: "a", Other: "a"},
			api.Stmt{Kind: api.StSpawn, Name: "a", Obj: "a", Exprs: []api.Expr{local("a")}},
		)}},
		Threads: []api.Launch{{Proc: "a"}},
	}, lines("var a = 1;", "mutex a;", "cond a;", "proc a(a) {", "\twait a a;", "\ta = spawn a a;", "}", "thread a(0);"), api.OK)
}

// TestStatements checks P18.1: the text of a statement of each kind.
func TestStatements(t *testing.T) {
	seven, a := []api.Expr{num(-7)}, []api.Expr{local("a")}
	sum := []api.Expr{calc(local("a"), api.FnAdd, num(2))}
	for _, x := range []struct {
		want string
		s    api.Stmt
	}{
		{"b = -7;", api.Stmt{Kind: api.StLet, Name: "b", Exprs: seven}},
		{"a = (a add 2);", api.Stmt{Kind: api.StLet, Name: "a", Exprs: sum}},
		{"b = load x plain;", api.Stmt{Kind: api.StLoad, Name: "b", Obj: "x"}},
		{"store y relaxed (a add 2);", api.Stmt{Kind: api.StStore, Obj: "y", Order: api.Relaxed, Exprs: sum}},
		{"b = swap x relacq a;", api.Stmt{Kind: api.StSwap, Name: "b", Obj: "x", Order: api.RelAcq, Exprs: a}},
		{"b = fetchadd y plain -7;", api.Stmt{Kind: api.StFetchAdd, Name: "b", Obj: "y", Exprs: seven}},
		{"b = cas x relaxed -7, (a add 2);", api.Stmt{Kind: api.StCas, Name: "b", Obj: "x", Order: api.Relaxed, Exprs: []api.Expr{seven[0], sum[0]}}},
		{"b = cas y plain (a add 2), a;", api.Stmt{Kind: api.StCas, Name: "b", Obj: "y", Exprs: []api.Expr{sum[0], a[0]}}},
		{"fence;", api.Stmt{Kind: api.StFence}},
		{"b = await x relacq le -7;", api.Stmt{Kind: api.StAwait, Name: "b", Obj: "x", Order: api.RelAcq, Fn: api.FnLe, Exprs: seven}},
		{"lock m;", api.Stmt{Kind: api.StLock, Obj: "m"}},
		{"unlock n;", api.Stmt{Kind: api.StUnlock, Obj: "n"}},
		{"b = trylock m;", api.Stmt{Kind: api.StTryLock, Name: "b", Obj: "m"}},
		{"wait c n;", api.Stmt{Kind: api.StWait, Obj: "c", Other: "n"}},
		{"signal d;", api.Stmt{Kind: api.StSignal, Obj: "d"}},
		{"broadcast c;", api.Stmt{Kind: api.StBroadcast, Obj: "c"}},
		{"b = spawn g a;", api.Stmt{Kind: api.StSpawn, Name: "b", Obj: "g", Exprs: a}},
		{"join (a add 2);", api.Stmt{Kind: api.StJoin, Exprs: sum}},
		{"assert a;", api.Stmt{Kind: api.StAssert, Exprs: a}},
		{"return;", api.Stmt{Kind: api.StReturn}},
	} {
		unitIs(t, within(x.s), textWithin("\t"+x.want), api.OK)
		unitIs(t, within(while(x.s)), textWithin("\twhile 0 {", "\t\t"+x.want, "\t}"), api.OK)
	}
}

// TestOrdersAndFunctions checks P18.1 and P18.2: every order and every function, where the kind of a statement has one.
func TestOrdersAndFunctions(t *testing.T) {
	for kind := api.StLet; kind <= api.StReturn; kind++ {
		if !uses(kind, "ORD") {
			continue
		}
		for order, orderName := range orders {
			for fn, fnName := range functions {
				if fn == 0 {
					continue
				}
				e := calc(num(3), api.Fn(fn), local("a"))
				s := api.Stmt{Kind: kind, Obj: "x", Order: api.Order(order)}
				text := "(3 " + fnName + " a)"
				want := strings.NewReplacer("X", "b", "ORD", orderName, "O", "x", "FN", fnName, "E", text, "F", text).Replace(statementTexts[kind])
				if uses(kind, "X") {
					s.Name = "b"
				}
				if uses(kind, "FN") {
					s.Fn = api.Fn(fn)
				}
				if uses(kind, "E") {
					s.Exprs = append(s.Exprs, e)
				}
				if uses(kind, "F") {
					s.Exprs = append(s.Exprs, e)
				}
				unitIs(t, within(s), textWithin("\t"+want), api.OK)
			}
		}
	}
}

// TestBlocks checks P18.1: if with and without else, while, blocks inside blocks and empty blocks.
func TestBlocks(t *testing.T) {
	unitIs(t, within(), textWithin(), api.OK)
	unitIs(t, within(either(nil, nil)), textWithin("\tif 1 {", "\t}"), api.OK)
	unitIs(t, within(either(block(), block())), textWithin("\tif 1 {", "\t}"), api.OK)
	unitIs(t, within(while()), textWithin("\twhile 0 {", "\t}"), api.OK)
	unitIs(t, within(either(block(fence()), block())), textWithin("\tif 1 {", "\t\tfence;", "\t}"), api.OK)
	unitIs(t, within(either(nil, block(fence()))), textWithin("\tif 1 {", "\t} else {", "\t\tfence;", "\t}"), api.OK)
	unitIs(t, within(either(block(fence()), block(let("b", num(2)), fence())), fence()),
		textWithin("\tif 1 {", "\t\tfence;", "\t} else {", "\t\tb = 2;", "\t\tfence;", "\t}", "\tfence;"), api.OK)
	unitIs(t, within(while(either(block(while()), block(either(nil, nil))), fence())),
		textWithin("\twhile 0 {", "\t\tif 1 {", "\t\t\twhile 0 {", "\t\t\t}", "\t\t} else {", "\t\t\tif 1 {", "\t\t\t}", "\t\t}", "\t\tfence;", "\t}"), api.OK)
	// An else belongs to the if before it, also where the if stands alone in a block.
	unitIs(t, within(either(block(either(nil, block(fence()))), block(fence()))),
		textWithin("\tif 1 {", "\t\tif 1 {", "\t\t} else {", "\t\t\tfence;", "\t\t}", "\t} else {", "\t\tfence;", "\t}"), api.OK)
	s := either(nil, nil)
	s.Exprs = []api.Expr{calc(local("a"), api.FnLt, calc(num(-1), api.FnMul, local("a")))}
	unitIs(t, within(s), textWithin("\tif (a lt (-1 mul a)) {", "\t}"), api.OK)
	s = while(either(nil, nil))
	s.Exprs = []api.Expr{local("a")}
	unitIs(t, within(s), textWithin("\twhile a {", "\t\tif 1 {", "\t\t}", "\t}"), api.OK)
}

// nested is a statement of the given number of levels.
func nested(levels int) api.Stmt {
	s := fence()
	for k := 1; k < levels; k++ {
		switch k % 3 {
		case 0:
			s = either(block(s), nil)
		case 1:
			s = either(nil, block(s))
		case 2:
			s = while(s)
		}
	}
	return s
}

// largest is a valid unit with the greatest numbers of objects, local variables, statements, levels and threads.
func largest() api.Unit {
	var u api.Unit
	for k := range 8 {
		name := "a_name_of_size_" + strconv.Itoa(k)
		u.Vars = append(u.Vars, api.Var{Name: name, Init: api.MinValue + k})
		if k < api.MaxMutexes {
			u.Mutexes = append(u.Mutexes, name)
			u.Conds = append(u.Conds, name)
		}
		var body []api.Stmt
		for n := range api.MaxLocals - 1 {
			body = append(body, let("local_of_sixteen"[:15-n], num(n)))
		}
		body = append(body, nested(api.MaxNest))
		for ast.Count(body) < api.MaxStmts {
			body = append(body, fence())
		}
		u.Procs = append(u.Procs, api.Proc{Name: name, Param: "a_param_of_16_by", Body: body})
		u.Threads = append(u.Threads, api.Launch{Proc: name, Arg: api.MaxValue - k})
	}
	return u
}

// TestLargest checks P18.1 with the greatest numbers, and with one more.
func TestLargest(t *testing.T) {
	u := largest()
	if len(u.Vars) != api.MaxVars || len(u.Mutexes) != api.MaxMutexes || len(u.Conds) != api.MaxConds || len(u.Procs) != api.MaxFuncs || len(u.Threads) != api.MaxThreads {
		t.Fatal("the unit does not have the greatest numbers")
	}
	want := unitText(u)
	unitIs(t, u, want, api.OK)
	if back, fault := parse.Unit(want); fault != (api.Fault{}) || !ast.Equal(back, u) {
		t.Errorf("the text of the largest unit is not parsed: %v", fault)
	}
	for what, change := range map[string]func(u *api.Unit){
		"variables":           func(u *api.Unit) { u.Vars = append(u.Vars, api.Var{Name: "z"}) },
		"mutexes":             func(u *api.Unit) { u.Mutexes = append(u.Mutexes, "z") },
		"condition variables": func(u *api.Unit) { u.Conds = append(u.Conds, "z") },
		"procedures":          func(u *api.Unit) { u.Procs = append(u.Procs, api.Proc{Name: "z"}) },
		"statements":          func(u *api.Unit) { u.Procs[7].Body = append(u.Procs[7].Body, fence()) },
		"levels":              func(u *api.Unit) { u.Procs[3].Body = block(nested(api.MaxNest + 1)) },
		"local variables":     func(u *api.Unit) { u.Procs[0].Body[10] = let("z", num(0)) },
		"threads":             func(u *api.Unit) { u.Threads = append(u.Threads, u.Threads[0]) },
		"no threads":          func(u *api.Unit) { u.Threads = nil },
	} {
		u := largest()
		change(&u)
		if text, err := Unit(u); text != "" || err != api.ErrLimit {
			t.Errorf("%s: %.100q, %d", what, text, err)
		}
	}
}

// ofLength is a valid unit whose text has the given number of bytes, from about 9000 to 18000.
func ofLength(t *testing.T, length int) api.Unit {
	t.Helper()
	var u api.Unit
	for k := range api.MaxFuncs {
		u.Procs = append(u.Procs, api.Proc{Name: "f" + strconv.Itoa(k)})
		for range api.MaxStmts {
			u.Procs[k].Body = append(u.Procs[k].Body, let("a", num(1)))
		}
	}
	u.Threads = []api.Launch{{Proc: "f0"}}
	more := length - len(unitText(u))
	for _, p := range u.Procs {
		for k := range p.Body {
			digits := min(more, 9)
			p.Body[k].Exprs[0].N, _ = strconv.Atoi("1" + strings.Repeat("0", digits))
			more -= digits
		}
	}
	if got := len(unitText(u)); got != length {
		t.Fatalf("the text has %d bytes, want %d", got, length)
	}
	return u
}

// TestMaxText checks P18.1: texts of about MaxText bytes.
func TestMaxText(t *testing.T) {
	for _, length := range []int{10000, api.MaxText - 1, api.MaxText} {
		u := ofLength(t, length)
		unitIs(t, u, unitText(u), api.OK)
	}
	for _, length := range []int{api.MaxText + 1, api.MaxText + 2, 17000} {
		unitIs(t, ofLength(t, length), "", api.ErrLimit)
	}
	// Each part of a unit counts.
	for what, change := range map[string]func(u *api.Unit){
		"a variable":           func(u *api.Unit) { u.Vars = []api.Var{{Name: "x"}} },
		"a mutex":              func(u *api.Unit) { u.Mutexes = []string{"m"} },
		"a condition variable": func(u *api.Unit) { u.Conds = []string{"c"} },
		"a parameter":          func(u *api.Unit) { u.Procs[7].Param = "p" },
		"a thread":             func(u *api.Unit) { u.Threads = append(u.Threads, u.Threads[0]) },
		"an argument":          func(u *api.Unit) { u.Threads[0].Arg = -1 },
	} {
		u := ofLength(t, api.MaxText)
		change(&u)
		if text, err := Unit(u); text != "" || err != api.ErrLimit {
			t.Errorf("%s: %.100q, %d", what, text, err)
		}
	}
	// The error of Check comes first.
	u := ofLength(t, api.MaxText+1)
	u.Threads[0].Arg = api.MaxValue + 1
	unitIs(t, u, "", api.ErrRange)
	u.Procs[7].Body[127].Name = "if"
	unitIs(t, u, "", api.ErrName)
	u.Procs[7].Body[127].Obj = "z"
	unitIs(t, u, "", api.ErrField)
}

// TestExpr checks P18.2: the text of an expression of each kind and depth.
func TestExpr(t *testing.T) {
	for _, n := range []int{0, 1, -1, 42, api.MaxValue, api.MinValue} {
		exprIs(t, num(n), strconv.Itoa(n), api.OK)
	}
	exprIs(t, local("a"), "a", api.OK)
	exprIs(t, local("a_name_of_16_byt"), "a_name_of_16_byt", api.OK)
	exprIs(t, local("Add9"), "Add9", api.OK)
	for fn := api.FnAdd; fn <= api.FnLe; fn++ {
		exprIs(t, calc(local("b"), fn, num(-3)), "(b "+functions[fn]+" -3)", api.OK)
	}
	ab := calc(local("a"), api.FnXor, local("b"))
	exprIs(t, calc(ab, api.FnSub, num(1)), "((a xor b) sub 1)", api.OK)
	exprIs(t, calc(num(1), api.FnSub, ab), "(1 sub (a xor b))", api.OK)
	exprIs(t, calc(ab, api.FnEq, calc(num(0), api.FnLe, local("c"))), "((a xor b) eq (0 le c))", api.OK)
	// A name may occur several times.
	aa := calc(local("a"), api.FnMul, local("a"))
	exprIs(t, aa, "(a mul a)", api.OK)
	exprIs(t, calc(aa, api.FnAnd, aa), "((a mul a) and (a mul a))", api.OK)
	exprIs(t, calc(ab, api.FnNe, aa), "((a xor b) ne (a mul a))", api.OK)
	// The deepest expressions with four different names.
	exprIs(t, calc(ab, api.FnOr, calc(local("c"), api.FnLt, local("d"))), "((a xor b) or (c lt d))", api.OK)
}

// TestExprErrors checks P18.2: each error of CheckExpr, at each place of an expression.
func TestExprErrors(t *testing.T) {
	for _, x := range []struct {
		e   api.Expr
		err api.Errno
	}{
		{api.Expr{}, api.ErrOp},
		{api.Expr{Kind: 4}, api.ErrOp},
		{api.Expr{Kind: -1}, api.ErrOp},
		{api.Expr{Kind: 1 << 62, Name: "a", N: 1}, api.ErrOp},
		{api.Expr{Kind: api.ExNumber, Name: "a"}, api.ErrField},
		{api.Expr{Kind: api.ExNumber, Fn: api.FnAdd}, api.ErrField},
		{api.Expr{Kind: api.ExNumber, Args: []api.Expr{local("a")}}, api.ErrField},
		{api.Expr{Kind: api.ExLocal, Name: "a", N: 1}, api.ErrField},
		{api.Expr{Kind: api.ExLocal, Name: "a", Fn: api.FnAdd}, api.ErrField},
		{api.Expr{Kind: api.ExLocal, Name: "a", Args: []api.Expr{num(1)}}, api.ErrField},
		{api.Expr{Kind: api.ExCalc, Fn: api.FnAdd}, api.ErrField},
		{api.Expr{Kind: api.ExCalc, Fn: api.FnAdd, Args: []api.Expr{num(1)}}, api.ErrField},
		{api.Expr{Kind: api.ExCalc, Fn: api.FnAdd, Args: []api.Expr{num(1), num(2), num(3)}}, api.ErrField},
		{api.Expr{Kind: api.ExCalc, N: 1, Fn: api.FnAdd, Args: []api.Expr{num(1), num(2)}}, api.ErrField},
		{api.Expr{Kind: api.ExCalc, Name: "a", Fn: api.FnAdd, Args: []api.Expr{local("a"), num(2)}}, api.ErrField},
		{num(api.MaxValue + 1), api.ErrRange},
		{num(api.MinValue - 1), api.ErrRange},
		{local(""), api.ErrName},
		{local("if"), api.ErrName},
		{local("add"), api.ErrName},
		{local("9a"), api.ErrName},
		{local("a b"), api.ErrName},
		{local("é"), api.ErrName},
		{local("a_name_of_17_byte"), api.ErrName},
		{calc(num(1), 0, num(1)), api.ErrOp},
		{calc(num(1), 11, num(1)), api.ErrOp},
		{calc(local("a"), -1, num(1)), api.ErrOp},
	} {
		exprIs(t, x.e, "", x.err)
		exprIs(t, calc(x.e, api.FnAdd, local("b")), "", x.err)
		exprIs(t, calc(local("b"), api.FnAdd, x.e), "", x.err)
		// The first error counts.
		exprIs(t, calc(x.e, api.FnAdd, num(api.MaxValue+1)), "", x.err)
		exprIs(t, calc(num(api.MaxValue+1), api.FnAdd, x.e), "", api.ErrRange)
		unitIs(t, within(let("a", num(1)), api.Stmt{Kind: api.StAssert, Exprs: []api.Expr{x.e}}), "", x.err)
		// Depth comes before everything else.
		deep := calc(calc(calc(x.e, 99, num(1)), api.FnAdd, num(1)), api.FnAdd, num(1))
		exprIs(t, deep, "", api.ErrLimit)
		unitIs(t, within(let("a", deep)), "", api.ErrLimit)
	}
	// A name in the Args of an expression that has none is a local variable too, but has no effect.
	exprIs(t, api.Expr{Kind: api.ExNumber, Args: []api.Expr{local("if")}}, "", api.ErrField)
}

// TestUnitErrors checks P18.1: the errors of Check, of which the first one counts.
func TestUnitErrors(t *testing.T) {
	set := func(change func(u *api.Unit)) api.Unit {
		u := within(let("b", local("a")), while(fence()))
		change(&u)
		return u
	}
	statement := func(change func(s *api.Stmt)) api.Unit {
		return set(func(u *api.Unit) { change(&u.Procs[0].Body[0]) })
	}
	body := func(l ...api.Stmt) api.Unit {
		return set(func(u *api.Unit) { u.Procs[0].Body = l })
	}
	for _, x := range []struct {
		u   api.Unit
		err api.Errno
	}{
		{api.Unit{}, api.ErrLimit},
		{set(func(u *api.Unit) { u.Vars[1].Name = "var" }), api.ErrName},
		{set(func(u *api.Unit) { u.Vars[1].Name = "x" }), api.ErrTwice},
		{set(func(u *api.Unit) { u.Mutexes[0] = "" }), api.ErrName},
		{set(func(u *api.Unit) { u.Mutexes[1] = "m" }), api.ErrTwice},
		{set(func(u *api.Unit) { u.Conds[0] = "a_name_of_17_byte" }), api.ErrName},
		{set(func(u *api.Unit) { u.Conds[1] = "c" }), api.ErrTwice},
		{set(func(u *api.Unit) { u.Procs[1].Name = "1" }), api.ErrName},
		{set(func(u *api.Unit) { u.Procs[1].Name = "f" }), api.ErrTwice},
		{set(func(u *api.Unit) { u.Vars[0].Init = api.MaxValue + 1 }), api.ErrRange},
		{set(func(u *api.Unit) { u.Procs[1].Param = "proc" }), api.ErrName},
		{set(func(u *api.Unit) { u.Threads[0].Proc = "x" }), api.ErrObject},
		{set(func(u *api.Unit) { u.Threads[0].Arg = api.MinValue - 1 }), api.ErrRange},
		{statement(func(s *api.Stmt) { s.Kind = 0 }), api.ErrOp},
		{statement(func(s *api.Stmt) { s.Kind = 21 }), api.ErrOp},
		{statement(func(s *api.Stmt) { s.Kind = -1 }), api.ErrOp},
		{statement(func(s *api.Stmt) { s.Obj = "x" }), api.ErrField},
		{statement(func(s *api.Stmt) { s.Other = "m" }), api.ErrField},
		{statement(func(s *api.Stmt) { s.Fn = 1 }), api.ErrField},
		{statement(func(s *api.Stmt) { s.Order = 1 }), api.ErrField},
		{statement(func(s *api.Stmt) { s.Exprs = nil }), api.ErrField},
		{statement(func(s *api.Stmt) { s.Body = block(fence()) }), api.ErrField},
		{statement(func(s *api.Stmt) { s.Else = block(fence()) }), api.ErrField},
		{set(func(u *api.Unit) { u.Procs[0].Body[1].Else = block(fence()) }), api.ErrField},
		{statement(func(s *api.Stmt) { s.Name = "" }), api.ErrName},
		{statement(func(s *api.Stmt) { s.Exprs = []api.Expr{local("z")} }), api.ErrObject},
		{body(api.Stmt{Kind: api.StLock, Obj: "x"}), api.ErrObject},
		{body(api.Stmt{Kind: api.StWait, Obj: "c", Other: "d"}), api.ErrObject},
		{body(api.Stmt{Kind: api.StLoad, Name: "b", Obj: "x", Order: 3}), api.ErrOrder},
		{body(api.Stmt{Kind: api.StLoad, Name: "b", Obj: "x", Order: -1}), api.ErrOrder},
		{body(api.Stmt{Kind: api.StAwait, Name: "b", Obj: "x", Fn: 0, Exprs: []api.Expr{num(1)}}), api.ErrOp},
		{body(api.Stmt{Kind: api.StAwait, Name: "b", Obj: "x", Fn: 11, Order: 3, Exprs: []api.Expr{num(1)}}), api.ErrOp},
		{body(api.Stmt{Kind: api.StCas, Name: "b", Obj: "x", Exprs: []api.Expr{num(1), calc(num(1), 1, calc(num(1), 1, num(1)))}}), api.ErrLimit},
		// Of several errors the first one counts.
		{set(func(u *api.Unit) { u.Threads, u.Vars[0].Init = nil, api.MaxValue+1 }), api.ErrRange},
		{set(func(u *api.Unit) { u.Conds[1], u.Vars[0].Init = "c", api.MaxValue+1 }), api.ErrTwice},
		{set(func(u *api.Unit) { u.Procs[1].Param, u.Procs[0].Body[1].Kind = "if", 0 }), api.ErrOp},
		{set(func(u *api.Unit) { u.Procs[0].Body[1].Kind, u.Procs[0].Body[0].Obj = 0, "x" }), api.ErrField},
	} {
		unitIs(t, x.u, "", x.err)
	}
}

// TestCas checks P18.1: both expressions of a cas at their greatest depth.
func TestCas(t *testing.T) {
	ab := calc(local("a"), api.FnAdd, num(1))
	unitIs(t, within(api.Stmt{Kind: api.StCas, Name: "a", Obj: "y", Order: api.RelAcq, Exprs: []api.Expr{calc(ab, api.FnSub, ab), ab}}),
		textWithin("\ta = cas y relacq ((a add 1) sub (a add 1)), (a add 1);"), api.OK)
}

// asReference fails if Unit is not what the definitions say. It returns the error.
func asReference(t *testing.T, u api.Unit) api.Errno {
	t.Helper()
	err, _, _ := ast.Check(u)
	want := ""
	if err == api.OK {
		want = unitText(u)
	}
	if len(want) > api.MaxText {
		err, want = api.ErrLimit, ""
	}
	unitIs(t, u, want, err)
	return err
}

// TestRandomUnits checks P18.1, P18.3 and P18.4 with many units, also with such that are not valid.
func TestRandomUnits(t *testing.T) {
	m := &maker{Rand: rand.New(rand.NewSource(18))}
	found := map[api.Errno]int{}
	kinds := map[api.StmtKind]bool{}
	for range 1500 {
		u := m.unit()
		if asReference(t, u) != api.OK {
			t.Fatalf("the unit %v is not valid", u)
		}
		text, _ := Unit(u)
		roundTrip(t, u, text)
		layout(t, text)
		for _, s := range u.Procs[0].Body {
			kinds[s.Kind] = true
		}
		for range 4 {
			found[asReference(t, m.broken(u))]++
		}
	}
	for _, err := range []api.Errno{api.OK, api.ErrRange, api.ErrLimit, api.ErrName, api.ErrTwice, api.ErrOp, api.ErrField, api.ErrObject, api.ErrOrder} {
		if found[err] < 10 {
			t.Errorf("the error %d was found %d times", err, found[err])
		}
	}
	if len(kinds) != 20 {
		t.Errorf("the units have the kinds %v", kinds)
	}
}

// TestRandomExprs checks P18.2 and P18.3 with many expressions, also with such that are not valid.
func TestRandomExprs(t *testing.T) {
	m := &maker{Rand: rand.New(rand.NewSource(19)), locals: []string{"a", "b", "c", "add1", "a_name_of_16_byt"}}
	found := map[api.Errno]int{}
	for range 20000 {
		e := m.expr(4)
		if m.Intn(2) == 0 {
			e = m.brokenExpr(e)
		}
		// The names of all expressions are local variables, so every one that may occur is given.
		err := ast.CheckExpr(e, append(m.locals, "z", "x", "m", "c", "f", "A"))
		found[err]++
		if err != api.OK {
			exprIs(t, e, "", err)
			continue
		}
		exprIs(t, e, exprText(e), api.OK)
		text, _ := Expr(e)
		back, fault := parse.Expr(text)
		if fault != (api.Fault{}) || fmt.Sprint(back) != fmt.Sprint(e) {
			t.Errorf("%s is parsed as %v, %v", text, back, fault)
		}
	}
	for _, err := range []api.Errno{api.OK, api.ErrRange, api.ErrLimit, api.ErrName, api.ErrOp, api.ErrField} {
		if found[err] < 100 {
			t.Errorf("the error %d was found %d times", err, found[err])
		}
	}
}

// roundTrip checks P18.3 for the text of a unit.
func roundTrip(t *testing.T, u api.Unit, text string) {
	t.Helper()
	back, fault := parse.Unit(text)
	if fault != (api.Fault{}) || !ast.Equal(back, u) {
		t.Fatalf("%s is parsed as %v, %v", text, back, fault)
	}
	unitIs(t, back, text, api.OK)
}

// layout checks P18.4 for the text of a unit.
func layout(t *testing.T, text string) {
	t.Helper()
	if !strings.HasSuffix(text, "\n") {
		t.Errorf("%q does not end with a line feed", text)
	}
	blocks := 0
	for line := range strings.SplitSeq(strings.TrimSuffix(text, "\n"), "\n") {
		rest := strings.TrimLeft(line, "\t")
		if rest == "" || !strings.Contains(";{}", rest[len(rest)-1:]) {
			t.Errorf("the line %q of %s does not end as it must", line, text)
		}
		// A closing brace at the beginning belongs to a block that does not contain the line.
		if strings.HasPrefix(rest, "}") {
			blocks--
		}
		if len(line)-len(rest) != blocks {
			t.Errorf("the line %q of %s is in %d blocks", line, text, blocks)
		}
		if strings.HasSuffix(rest, "{") {
			blocks++
		}
	}
	if blocks != 0 {
		t.Errorf("%s ends in %d blocks", text, blocks)
	}
}

// TestOtherLayouts checks P18.3: a text in any layout, with its elements in any order, is printed so that printing its parsed text changes nothing.
func TestOtherLayouts(t *testing.T) {
	m := &maker{Rand: rand.New(rand.NewSource(20))}
	for range 300 {
		text, _ := Unit(m.unit())
		tokens, _ := lex.Scan(text)
		var other strings.Builder
		// The elements before and behind the others stand where they are not printed.
		other.WriteString("thread f(-1);cond zz;#\n")
		for _, token := range tokens {
			if token.Kind != api.TokLine {
				other.WriteString(token.Text + m.pick(" ", "\t", "\n", "  ", " # }\n"))
			}
		}
		other.WriteString("var zz=5;mutex zz;proc zz(a){if a{}else{}}")
		u, fault := parse.Unit(other.String())
		if len(u.Threads) > api.MaxThreads || fault.Err == api.ErrLimit {
			continue
		}
		if fault != (api.Fault{}) {
			t.Fatalf("%q: %v", other.String(), fault)
		}
		printed, err := Unit(u)
		if err != api.OK || !strings.HasPrefix(printed, "var x = ") || !strings.Contains(printed, "proc zz(a) {\n\tif a {\n\t}\n}\nthread f(-1);\n") {
			t.Errorf("%q is printed as %q, %d", other.String(), printed, err)
		}
		roundTrip(t, u, printed)
		layout(t, printed)
	}
}

// TestDeep checks that units and expressions of any depth have an error, on a small stack.
func TestDeep(t *testing.T) {
	defer debug.SetMaxStack(debug.SetMaxStack(1 << 20))
	const depth = 200000
	for _, kind := range []api.ExprKind{api.ExCalc, api.ExNumber, api.ExLocal, 0, 99} {
		first, second := local("a"), local("a")
		for range depth {
			first = api.Expr{Kind: kind, Fn: api.FnAdd, Args: []api.Expr{first, num(1)}}
			second = api.Expr{Kind: kind, Fn: api.FnAdd, Args: []api.Expr{num(1), second}}
		}
		exprIs(t, first, "", api.ErrLimit)
		exprIs(t, second, "", api.ErrLimit)
		if text, err := Unit(within(let("a", first))); text != "" || err != api.ErrLimit {
			t.Errorf("a unit with a deep expression: %.100q, %d", text, err)
		}
	}
	for _, kind := range []api.StmtKind{api.StIf, api.StWhile, api.StFence, 0, 99} {
		body, otherwise := fence(), fence()
		for range depth {
			body = api.Stmt{Kind: kind, Exprs: []api.Expr{num(1)}, Body: block(body)}
			otherwise = api.Stmt{Kind: kind, Exprs: []api.Expr{num(1)}, Else: block(otherwise)}
		}
		for _, s := range []api.Stmt{body, otherwise} {
			if text, err := Unit(within(s)); text != "" || err != api.ErrLimit {
				t.Errorf("a deep unit: %.100q, %d", text, err)
			}
		}
	}
	// An expression that contains itself has no end.
	endless := calc(num(1), api.FnAdd, num(1))
	endless.Args[0] = endless
	if text, err := Expr(endless); text != "" || err != api.ErrLimit {
		t.Errorf("an endless expression: %.100q, %d", text, err)
	}
}

// TestWide checks P18.1 and P18.2 with very long lists.
func TestWide(t *testing.T) {
	e := api.Expr{Kind: api.ExCalc, Fn: api.FnAdd, Args: slices.Repeat([]api.Expr{local("a")}, 1000000)}
	if text, err := Expr(e); text != "" || err != api.ErrField {
		t.Errorf("a wide expression: %.100q, %d", text, err)
	}
	if text, err := Unit(within(slices.Repeat(block(fence()), 1000000)...)); text != "" || err != api.ErrLimit {
		t.Errorf("a wide unit: %.100q, %d", text, err)
	}
}

// TestArguments checks that neither arguments nor the capacity behind them are changed.
func TestArguments(t *testing.T) {
	m := &maker{Rand: rand.New(rand.NewSource(21))}
	for range 50 {
		u := m.unit()
		u.Threads = append(u.Threads, api.Launch{Proc: "behind"})[:len(u.Threads)]
		body := &u.Procs[0].Body
		*body = append(*body, api.Stmt{Kind: 77})[:len(*body)]
		e := m.expr(3)
		e.Args = append(e.Args, api.Expr{Kind: 77})[:len(e.Args)]
		unit, expr := ast.Clone(u), fmt.Sprint(e)
		Unit(u)
		Expr(e)
		behind := (*body)[:len(*body)+1][len(*body)]
		if !ast.Equal(u, unit) || fmt.Sprint(e) != expr || u.Threads[:len(u.Threads)+1][len(u.Threads)].Proc != "behind" || behind.Kind != 77 || e.Args[:len(e.Args)+1][len(e.Args)].Kind != 77 {
			t.Errorf("the arguments %v, %v were changed", unit, expr)
		}
		if fmt.Sprint(Unit(u)) != fmt.Sprint(Unit(unit)) {
			t.Errorf("equal units %v have different texts", unit)
		}
	}
}
