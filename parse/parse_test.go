package parse

import (
	"fmt"
	"math/rand"
	"reflect"
	"runtime/debug"
	"strings"
	"testing"

	"modelcheck/api"
	"modelcheck/ast"
	"modelcheck/lex"
)

// num is the expression n.
func num(n int) api.Expr {
	return api.Expr{Kind: api.ExNumber, N: n}
}

// local is the expression of a local variable.
func local(name string) api.Expr {
	return api.Expr{Kind: api.ExLocal, Name: name}
}

// calc is the expression of a calculation.
func calc(left api.Expr, fn api.Fn, right api.Expr) api.Expr {
	return api.Expr{Kind: api.ExCalc, Fn: fn, Args: []api.Expr{left, right}}
}

// exprs is a list of expressions.
func exprs(l ...api.Expr) []api.Expr {
	return l
}

// declarations are the objects that the statements of the tests name, apart from the procedure f.
const declarations = "var x = 0; var y = -5; mutex m; mutex n; cond c; cond d; proc g() { } thread g(1); "

// within returns a unit with the objects of declarations and a procedure f(a) with the given text as its statements.
func within(statements string) string {
	return declarations + "proc f(a) {" + statements + "}"
}

// unitWithin is the unit of within.
func unitWithin(l ...api.Stmt) api.Unit {
	return api.Unit{
		Vars:    []api.Var{{Name: "x"}, {Name: "y", Init: -5}},
		Mutexes: []string{"m", "n"},
		Conds:   []string{"c", "d"},
		Procs:   []api.Proc{{Name: "g"}, {Name: "f", Param: "a", Body: l}},
		Threads: []api.Launch{{Proc: "g", Arg: 1}},
	}
}

// TestExamples checks the examples of the chapter.
func TestExamples(t *testing.T) {
	unitIs(t, "var x = 0; proc f(a) { b = load x relacq; if (b ne a) { store x plain 1; } } thread f(3);", api.Unit{
		Vars: []api.Var{{Name: "x"}},
		Procs: []api.Proc{{Name: "f", Param: "a", Body: []api.Stmt{
			{Kind: api.StLoad, Name: "b", Obj: "x", Order: api.RelAcq},
			{Kind: api.StIf, Exprs: exprs(calc(local("b"), api.FnNe, local("a"))), Body: []api.Stmt{
				{Kind: api.StStore, Obj: "x", Order: api.Plain, Exprs: exprs(num(1))},
			}},
		}}},
		Threads: []api.Launch{{Proc: "f", Arg: 3}},
	}, api.Fault{})
	unitFails(t, "proc f() { x = load y; }", api.ErrToken, 21)
	unitFails(t, "proc f(", api.ErrEnd, 7)
	exprFails(t, "(a pow b)", api.ErrOp, 3)
}

// TestElements checks P17.1 and P17.2: the elements of a unit, in the order of the text.
func TestElements(t *testing.T) {
	unitIs(t, "proc f(){}thread f(0);", api.Unit{Procs: []api.Proc{{Name: "f"}}, Threads: []api.Launch{{Proc: "f"}}}, api.Fault{})
	unitIs(t, "thread f(-1); proc f(a) { }", api.Unit{Procs: []api.Proc{{Name: "f", Param: "a"}}, Threads: []api.Launch{{Proc: "f", Arg: -1}}}, api.Fault{})
	// The elements may be mixed, and an object may be named before it is declared.
	unitIs(t, "thread g(2); cond d; var y = -2147483648; proc g(b) { wait c n; } mutex n; thread f(-2147483648); var x = 2147483647; mutex m; proc f() {} cond c; thread g(2147483647);", api.Unit{
		Vars:    []api.Var{{Name: "y", Init: api.MinValue}, {Name: "x", Init: api.MaxValue}},
		Mutexes: []string{"n", "m"},
		Conds:   []string{"d", "c"},
		Procs:   []api.Proc{{Name: "g", Param: "b", Body: []api.Stmt{{Kind: api.StWait, Obj: "c", Other: "n"}}}, {Name: "f"}},
		Threads: []api.Launch{{Proc: "g", Arg: 2}, {Proc: "f", Arg: api.MinValue}, {Proc: "g", Arg: api.MaxValue}},
	}, api.Fault{})
	// Objects of different kinds and local variables may have the same name.
	unitIs(t, "var a = 1; mutex a; cond a; proc a(a) { a = load a plain; wait a a; a = spawn a a; } thread a(0);", api.Unit{
		Vars: []api.Var{{Name: "a", Init: 1}}, Mutexes: []string{"a"}, Conds: []string{"a"},
		Procs: []api.Proc{{Name: "a", Param: "a", Body: []api.Stmt{
			{Kind: api.StLoad, Name: "a", Obj: "a"}, {Kind: api.StWait, Obj: "a", Other: "a"}, {Kind: api.StSpawn, Name: "a", Obj: "a", Exprs: exprs(local("a"))},
		}}},
		Threads: []api.Launch{{Proc: "a"}},
	}, api.Fault{})
	// Words of the assembler, and keywords with other letters, are names.
	unitIs(t, "var const = 0; mutex Var; cond func; proc end(stop) { IF = stop; } thread end(0);", api.Unit{
		Vars: []api.Var{{Name: "const"}}, Mutexes: []string{"Var"}, Conds: []string{"func"},
		Procs:   []api.Proc{{Name: "end", Param: "stop", Body: []api.Stmt{{Kind: api.StLet, Name: "IF", Exprs: exprs(local("stop"))}}}},
		Threads: []api.Launch{{Proc: "end"}},
	}, api.Fault{})
}

// statementTexts are statements with their texts: each alternative of stmt, expr, order and fn.
var statementTexts = []struct {
	text string
	want api.Stmt
}{
	{"b = 7;", api.Stmt{Kind: api.StLet, Name: "b", Exprs: exprs(num(7))}},
	{"b = a;", api.Stmt{Kind: api.StLet, Name: "b", Exprs: exprs(local("a"))}},
	{"b = -2147483648;", api.Stmt{Kind: api.StLet, Name: "b", Exprs: exprs(num(api.MinValue))}},
	{"b = (a add 1);", api.Stmt{Kind: api.StLet, Name: "b", Exprs: exprs(calc(local("a"), api.FnAdd, num(1)))}},
	{"b = (1 sub a);", api.Stmt{Kind: api.StLet, Name: "b", Exprs: exprs(calc(num(1), api.FnSub, local("a")))}},
	{"b = (a mul b);", api.Stmt{Kind: api.StLet, Name: "b", Exprs: exprs(calc(local("a"), api.FnMul, local("b")))}},
	{"b = (a and -1);", api.Stmt{Kind: api.StLet, Name: "b", Exprs: exprs(calc(local("a"), api.FnAnd, num(-1)))}},
	{"b = (a or 0);", api.Stmt{Kind: api.StLet, Name: "b", Exprs: exprs(calc(local("a"), api.FnOr, num(0)))}},
	{"b = (a xor a);", api.Stmt{Kind: api.StLet, Name: "b", Exprs: exprs(calc(local("a"), api.FnXor, local("a")))}},
	{"b = (a eq 2);", api.Stmt{Kind: api.StLet, Name: "b", Exprs: exprs(calc(local("a"), api.FnEq, num(2)))}},
	{"b = (a ne 2);", api.Stmt{Kind: api.StLet, Name: "b", Exprs: exprs(calc(local("a"), api.FnNe, num(2)))}},
	{"b = (a lt 2);", api.Stmt{Kind: api.StLet, Name: "b", Exprs: exprs(calc(local("a"), api.FnLt, num(2)))}},
	{"b = (a le 2);", api.Stmt{Kind: api.StLet, Name: "b", Exprs: exprs(calc(local("a"), api.FnLe, num(2)))}},
	{"b = ((1 lt a) or 3);", api.Stmt{Kind: api.StLet, Name: "b", Exprs: exprs(calc(calc(num(1), api.FnLt, local("a")), api.FnOr, num(3)))}},
	{"b = (1 lt (a or 3));", api.Stmt{Kind: api.StLet, Name: "b", Exprs: exprs(calc(num(1), api.FnLt, calc(local("a"), api.FnOr, num(3))))}},
	{"b = load x plain;", api.Stmt{Kind: api.StLoad, Name: "b", Obj: "x", Order: api.Plain}},
	{"b = load y relaxed;", api.Stmt{Kind: api.StLoad, Name: "b", Obj: "y", Order: api.Relaxed}},
	{"a = load x relacq;", api.Stmt{Kind: api.StLoad, Name: "a", Obj: "x", Order: api.RelAcq}},
	{"store x plain 1;", api.Stmt{Kind: api.StStore, Obj: "x", Exprs: exprs(num(1))}},
	{"store y relacq (a add 1);", api.Stmt{Kind: api.StStore, Obj: "y", Order: api.RelAcq, Exprs: exprs(calc(local("a"), api.FnAdd, num(1)))}},
	{"b = swap x relaxed a;", api.Stmt{Kind: api.StSwap, Name: "b", Obj: "x", Order: api.Relaxed, Exprs: exprs(local("a"))}},
	{"b = fetchadd y relacq 1;", api.Stmt{Kind: api.StFetchAdd, Name: "b", Obj: "y", Order: api.RelAcq, Exprs: exprs(num(1))}},
	{"b = cas x relacq 0, 1;", api.Stmt{Kind: api.StCas, Name: "b", Obj: "x", Order: api.RelAcq, Exprs: exprs(num(0), num(1))}},
	{"b = cas y plain (a le 1), (b ne 2);", api.Stmt{Kind: api.StCas, Name: "b", Obj: "y", Exprs: exprs(calc(local("a"), api.FnLe, num(1)), calc(local("b"), api.FnNe, num(2)))}},
	{"fence;", api.Stmt{Kind: api.StFence}},
	{"b = await x relacq eq 1;", api.Stmt{Kind: api.StAwait, Name: "b", Obj: "x", Order: api.RelAcq, Fn: api.FnEq, Exprs: exprs(num(1))}},
	{"b = await y plain add a;", api.Stmt{Kind: api.StAwait, Name: "b", Obj: "y", Fn: api.FnAdd, Exprs: exprs(local("a"))}},
	{"b = await y relaxed le (a xor 1);", api.Stmt{Kind: api.StAwait, Name: "b", Obj: "y", Order: api.Relaxed, Fn: api.FnLe, Exprs: exprs(calc(local("a"), api.FnXor, num(1)))}},
	{"lock m;", api.Stmt{Kind: api.StLock, Obj: "m"}},
	{"unlock n;", api.Stmt{Kind: api.StUnlock, Obj: "n"}},
	{"b = trylock m;", api.Stmt{Kind: api.StTryLock, Name: "b", Obj: "m"}},
	{"wait c n;", api.Stmt{Kind: api.StWait, Obj: "c", Other: "n"}},
	{"signal d;", api.Stmt{Kind: api.StSignal, Obj: "d"}},
	{"broadcast c;", api.Stmt{Kind: api.StBroadcast, Obj: "c"}},
	{"b = spawn g 3;", api.Stmt{Kind: api.StSpawn, Name: "b", Obj: "g", Exprs: exprs(num(3))}},
	{"b = spawn f (a sub 1);", api.Stmt{Kind: api.StSpawn, Name: "b", Obj: "f", Exprs: exprs(calc(local("a"), api.FnSub, num(1)))}},
	{"join a;", api.Stmt{Kind: api.StJoin, Exprs: exprs(local("a"))}},
	{"assert (a eq 1);", api.Stmt{Kind: api.StAssert, Exprs: exprs(calc(local("a"), api.FnEq, num(1)))}},
	{"if a { }", api.Stmt{Kind: api.StIf, Exprs: exprs(local("a"))}},
	{"if a { } else { }", api.Stmt{Kind: api.StIf, Exprs: exprs(local("a"))}},
	{"if 1 { fence; }", api.Stmt{Kind: api.StIf, Exprs: exprs(num(1)), Body: []api.Stmt{{Kind: api.StFence}}}},
	{"if 1 { } else { fence; }", api.Stmt{Kind: api.StIf, Exprs: exprs(num(1)), Else: []api.Stmt{{Kind: api.StFence}}}},
	{"if (a lt 1) { lock m; fence; } else { return; unlock m; }", api.Stmt{Kind: api.StIf, Exprs: exprs(calc(local("a"), api.FnLt, num(1))),
		Body: []api.Stmt{{Kind: api.StLock, Obj: "m"}, {Kind: api.StFence}}, Else: []api.Stmt{{Kind: api.StReturn}, {Kind: api.StUnlock, Obj: "m"}}}},
	{"if 1 { if 2 { } else { fence; } }", api.Stmt{Kind: api.StIf, Exprs: exprs(num(1)), Body: []api.Stmt{{Kind: api.StIf, Exprs: exprs(num(2)), Else: []api.Stmt{{Kind: api.StFence}}}}}},
	{"if 1 { if 2 { } } else { fence; }", api.Stmt{Kind: api.StIf, Exprs: exprs(num(1)), Body: []api.Stmt{{Kind: api.StIf, Exprs: exprs(num(2))}}, Else: []api.Stmt{{Kind: api.StFence}}}},
	{"while 0 { }", api.Stmt{Kind: api.StWhile, Exprs: exprs(num(0))}},
	{"while a { while 1 { fence; } return; }", api.Stmt{Kind: api.StWhile, Exprs: exprs(local("a")), Body: []api.Stmt{
		{Kind: api.StWhile, Exprs: exprs(num(1)), Body: []api.Stmt{{Kind: api.StFence}}}, {Kind: api.StReturn}}}},
	{"return;", api.Stmt{Kind: api.StReturn}},
}

// TestStatements checks P17.1 and P17.2: each statement alone, and each pair of statements in a row and in a block.
func TestStatements(t *testing.T) {
	first := api.Stmt{Kind: api.StLet, Name: "b", Exprs: exprs(num(0))}
	for _, x := range statementTexts {
		unitIs(t, within("b = 0; "+x.text), unitWithin(first, x.want), api.Fault{})
		unitIs(t, within("b = 0; if 1 { "+x.text+" } else { "+x.text+x.text+" } while 1 { "+x.text+" } "+x.text), unitWithin(first,
			api.Stmt{Kind: api.StIf, Exprs: exprs(num(1)), Body: []api.Stmt{x.want}, Else: []api.Stmt{x.want, x.want}},
			api.Stmt{Kind: api.StWhile, Exprs: exprs(num(1)), Body: []api.Stmt{x.want}}, x.want), api.Fault{})
		for _, y := range statementTexts {
			unitIs(t, within("b = 0;"+x.text+y.text), unitWithin(first, x.want, y.want), api.Fault{})
		}
	}
	unitIs(t, within(""), unitWithin(), api.Fault{})
}

// TestEmpty checks P17.1 to P17.3: texts without tokens.
func TestEmpty(t *testing.T) {
	for _, s := range []string{"", " ", "\t", "\n", " \n\t\n ", "#", "# proc f() { } thread f(0);", "#\n", " # a\n# b\n\n"} {
		// A unit without initial threads is not valid.
		unitFails(t, s, api.ErrLimit, 0)
		exprFails(t, s, api.ErrEnd, len(s))
	}
}

// TestScanFaults checks P17.1 and P17.3: the faults of lex.Scan come before all others.
func TestScanFaults(t *testing.T) {
	for _, x := range []struct {
		text string
		err  api.Errno
	}{
		{"@!", api.ErrToken}, {"a @_", api.ErrToken}, {"a @.b", api.ErrToken}, {"@\r\n", api.ErrToken}, {"@\x00", api.ErrToken}, {"a @\xff", api.ErrToken}, {"@é", api.ErrToken},
		{"(a @+ b) é", api.ErrToken}, {"@01", api.ErrNumber}, {"@-", api.ErrNumber}, {"@-0", api.ErrNumber}, {"@1a", api.ErrNumber}, {"@--1", api.ErrNumber},
		{"@2147483648", api.ErrRange}, {"@-2147483649", api.ErrRange}, {"} ) ( @99999999999999999999", api.ErrRange},
		{"proc if ( @00", api.ErrNumber}, {"var x = 1; proc f(a) { b = load x pow; @$ }", api.ErrToken}, {"var x = @2147483648", api.ErrRange},
	} {
		s, at := marked(t, x.text)
		_, fault := lex.Scan(s)
		if fault != (api.Fault{Err: x.err, At: at}) {
			t.Errorf("Scan of %q: %v", s, fault)
		}
		unitFails(t, s, x.err, at)
		exprFails(t, s, x.err, at)
	}
}

// TestUnitFaults checks P17.1: places of the grammar, with a token that cannot stand there at the mark.
func TestUnitFaults(t *testing.T) {
	for _, s := range []string{
		"@x", "@;", "@1", "@}", "@{", "@fence;", "@load", "@plain", "@add", "@else", "mutex m; @;", "proc f() { } @;", "proc f() { } @}", "proc f() {} @a = 1;",
		"var @1", "var @;", "var @var", "var @plain = 1;", "var x @;", "var x @1", "var x @x", "var x = @x", "var x = @;", "var x = @(", "var x = 1 @}", "var x = 1 @2", "var x = 1 @var",
		"mutex @;", "mutex @1", "mutex @lock;", "mutex m @m", "mutex m @=", "mutex m @mutex", "cond @wait;", "cond @(", "cond c @c", "cond c @1",
		"proc @(", "proc @if", "proc @1", "proc f @;", "proc f @{", "proc f @a", "proc f(@1", "proc f(@(", "proc f(@if", "proc f(@relacq", "proc f(@,", "proc f(a @,", "proc f(a @b", "proc f(a @{", "proc f() @;", "proc f() @a", "proc f() @)",
		"proc f(a) { @1", "proc f(a) { @;", "proc f(a) { @{", "proc f(a) { @(", "proc f(a) { @proc", "proc f(a) { @else", "proc f(a) { @load", "proc f(a) { @cas", "proc f(a) { @relacq", "proc f(a) { @add", "proc f(a) { } @}", "proc f(a) { fence; @;",
		"thread @1", "thread @(", "thread @thread", "thread f @1", "thread f @;", "thread f(@)", "thread f(@a", "thread f(@f", "thread f(1 @;", "thread f(1 @,", "thread f(1 @2", "thread f(1) @}", "thread f(1) @thread",
	} {
		failsAtMark(t, api.ErrToken, s)
	}
}

// TestStatementFaults checks P17.1: places of statements, with a token that cannot stand there at the mark.
func TestStatementFaults(t *testing.T) {
	for _, s := range []string{
		"a @;", "a @a", "a @1", "a @(", "a @load", "a = @;", "a = @)", "a = @=", "a = @}", "a = @store", "a = @plain", "a = @add", "a = @if", "a = @var", "a = @else", "a = 1 @2", "a = 1 @a", "a = 1 @}", "a = b @,", "a = b @)", "a = b @add", "a = (@)", "a = (@;", "a = (@add", "a = (@load",
		"a = (1 @)", "a = (1 @1", "a = (1 @;", "a = (1 @-1", "a = (a @(", "a = (a @=", "a = (1 add @)", "a = (1 add @sub", "a = (1 add @;", "a = (1 add 2 @3", "a = (1 add 2 @;", "a = (1 add 2 @add", "a = (1 add 2 @a", "a = (1 add 2) @)", "a = ((1 add 2) @)",
		"a = load @1", "a = load @plain", "a = load @;", "a = load @(", "a = load x @;", "a = load x @1", "a = load x @(", "a = load x plain @1", "a = load x plain @a", "a = load x plain @plain", "a = load x plain @}",
		"store @1", "store @=", "store @store", "store x @;", "store x @1", "store x plain @;", "store x plain @relaxed", "store x plain @add", "store x plain 1 @,", "store x plain 1 @2", "store x plain a @=", "store x @=",
		"a = swap @1", "a = swap @swap", "a = swap x @1", "a = swap x plain @;", "a = swap x plain 1 @,", "a = fetchadd @(", "a = fetchadd x @(", "a = fetchadd x plain @)", "a = fetchadd x plain 1 @)",
		"a = cas @,", "a = cas x @,", "a = cas x plain @,", "a = cas x plain 1 @;", "a = cas x plain 1 @2", "a = cas x plain 1, @;", "a = cas x plain 1, @,", "a = cas x plain 1, 2 @,", "a = cas x plain 1, 2 @3", "a = cas x plain a @b",
		"fence @1", "fence @a", "fence @}", "fence @fence", "a = @fence", "return @1", "return @a", "return @(", "a = @return",
		"a = await @1", "a = await x @1", "a = await x plain @1", "a = await x plain @;", "a = await x plain @(", "a = await x plain eq @;", "a = await x plain eq @eq", "a = await x plain eq 1 @2", "a = await x plain eq 1 @,", "@await",
		"lock @;", "lock @1", "lock @lock", "lock m @m", "lock m @,", "a = @lock", "unlock @;", "unlock @plain", "unlock m @1", "a = @unlock", "@trylock", "a = trylock @;", "a = trylock @1", "a = trylock m @m", "a = trylock m @(",
		"wait @;", "wait @1", "wait @if", "wait c @;", "wait c @,", "wait c @1", "wait c @add", "wait c m @m", "wait c m @)", "a = @wait", "signal @;", "signal @2", "signal c @c", "a = @signal", "broadcast @;", "broadcast @eq", "broadcast c @1", "a = @broadcast",
		"a = spawn @1", "a = spawn @;", "a = spawn @spawn", "a = spawn f @;", "a = spawn f @plain", "a = spawn f @add", "a = spawn f(@)", "a = spawn f 1 @2", "a = spawn f a @a", "@spawn", "join @;", "join @join", "join 1 @1", "join a @b", "a = @join", "assert @;", "assert @=", "assert 1 @}", "assert a @a", "a = @assert",
		"if @;", "if @{", "if @if", "if @)", "if 1 @;", "if 1 @2", "if 1 @a", "if 1 @}", "if 1 { @1", "if 1 { @;", "if 1 { @else", "if 1 { } @;", "if 1 { } else @;", "if 1 { } else @if", "if 1 { } else @}", "if 1 { } else @1", "if 1 { } else { @else", "if 1 { } else { } @else", "if 1 { } else { } @;", "a = @if",
		"while @{", "while @;", "while @while", "while 1 @;", "while 1 @1", "while 1 @else", "while 1 { @;", "while 1 { } @;", "while 1 { } @else", "while 1 { } @{", "@else",
	} {
		// What follows does not count.
		for _, after := range []string{"", " ; }", " } thread f(0);", " ( if )"} {
			failsAtMark(t, api.ErrToken, within(s+after))
		}
	}
}

// TestOrders checks P17.1: words where an order is required, also keywords.
func TestOrders(t *testing.T) {
	for _, s := range []string{"a = load x @", "store x @", "a = swap x @", "a = fetchadd x @", "a = cas x @", "a = await x @"} {
		for _, word := range vocabulary() {
			err := api.ErrToken
			switch c := word[0]; {
			case word == "plain" || word == "relaxed" || word == "relacq":
				continue
			case c >= 'a' && c <= 'z' || c >= 'A' && c <= 'Z':
				err = api.ErrOrder
			}
			failsAtMark(t, err, within(s+word+" 1; }"))
			failsAtMark(t, err, "proc f() { "+s+word)
		}
		failsAtMark(t, api.ErrEnd, "proc f() { "+s)
		failsAtMark(t, api.ErrEnd, "proc f() { "+strings.TrimSuffix(s, "@")+" # plain\n @")
	}
	for _, word := range []string{"Plain", "PLAIN", "plain_", "plainn", "plai", "relacq0", "relax", "sc", "acquire", "relaxedrelacq", "a_name_too_long_1"} {
		failsAtMark(t, api.ErrOrder, within("a = load x @"+word+";"))
	}
}

// TestFunctions checks P17.1 and P17.3: words where a fn is required, also keywords.
func TestFunctions(t *testing.T) {
	isFn := map[string]bool{"add": true, "sub": true, "mul": true, "and": true, "or": true, "xor": true, "eq": true, "ne": true, "lt": true, "le": true}
	words := append(vocabulary(), "Add", "ADD", "add_", "ad", "addd", "pow", "gt", "ge", "not", "fnadd")
	for _, word := range words {
		err := api.ErrToken
		switch c := word[0]; {
		case isFn[word]:
			continue
		case c >= 'a' && c <= 'z' || c >= 'A' && c <= 'Z':
			err = api.ErrOp
		}
		for _, s := range []string{"a = await x plain @", "a = (1 @", "if (a @", "store x plain (a @", "join ((a lt 1) @", "join (a lt (1 @", "a = cas x plain 1, (2 @"} {
			failsAtMark(t, err, within(s+word+" 1; }"))
			failsAtMark(t, err, "proc f() { "+s+word)
		}
		for _, s := range []string{"(a @", "(1 @", "((a lt 1) @", "(a lt (1 @"} {
			text, at := marked(t, s+word)
			exprFails(t, text, err, at)
			exprFails(t, text+" 2)", err, at)
		}
	}
}

// samples are valid units that have, together, each place of the grammar.
func samples() []string {
	all := []string{
		"var x = 5; mutex m; cond c; proc f(a) { } proc g() { } thread f(1); thread g(-2);",
		"thread f(1); proc f() { } cond c; mutex m; var x = 0;",
		"proc f() { a = 1; if a { a = 2; } else { while 0 { return; } } fence; } thread f(0);",
		"proc f() { a = ((1 add 2) mul (3 sub a)); } thread f(0);",
		"proc f() { if 1 { if 2 { } } else { } if 3 { } a = 4; } thread f(0);",
	}
	for _, x := range []string{
		"a = load x plain;", "store x relaxed 1;", "a = swap x relacq 2;", "a = fetchadd x plain a;", "a = cas x plain 1, (a add 2);", "fence;", "a = await x relaxed ne 1;", "return;",
	} {
		all = append(all, "var x = 0; proc f(a) { "+x+" } thread f(0);")
	}
	for _, x := range []string{"lock m; unlock m;", "a = trylock m;", "wait c m;", "signal c; broadcast c;", "a = spawn f a; join a;", "assert (a eq 1);", "if a { } else { }", "while a { }"} {
		all = append(all, "mutex m; cond c; proc f(a) { "+x+" } thread f(0);")
	}
	return all
}

// TestTokens checks P17.1 and P17.2: each sample with each of its tokens replaced by each token, preceded by it, or left out, and cut off behind each of its tokens.
func TestTokens(t *testing.T) {
	seen := map[api.Errno]int{}
	for _, s := range samples() {
		words := wordsOf(t, s)
		if f := asReference(t, s); f != (api.Fault{}) {
			t.Errorf("the sample %q has the fault %v", s, f)
		}
		for k := range words {
			before, after := plainly(words[:k]), plainly(words[k+1:])
			seen[asReference(t, before).Err]++
			seen[asReference(t, before+" # the end").Err]++
			seen[asReference(t, before+" "+after).Err]++
			for _, word := range vocabulary() {
				seen[asReference(t, before+" "+word+" "+after).Err]++
				seen[asReference(t, before+" "+word+" "+words[k]+" "+after).Err]++
			}
		}
	}
	for _, err := range []api.Errno{api.OK, api.ErrToken, api.ErrEnd, api.ErrOrder, api.ErrOp, api.ErrName, api.ErrTwice, api.ErrObject, api.ErrLimit} {
		if seen[err] == 0 {
			t.Errorf("no text has the error %d", err)
		}
	}
}

// TestExprTokens checks P17.3 in the same way.
func TestExprTokens(t *testing.T) {
	for _, s := range []string{"1", "a", "(a add 1)", "((a lt 1) or (2 mul b))", "(1 sub (2 xor -3))"} {
		words := wordsOf(t, s)
		asReference(t, s)
		for k := range words {
			before, after := plainly(words[:k]), plainly(words[k+1:])
			asReference(t, before)
			asReference(t, before+" "+after)
			for _, word := range vocabulary() {
				asReference(t, before+" "+word+" "+after)
				asReference(t, before+" "+word+" "+words[k]+" "+after)
			}
		}
		for _, word := range vocabulary() {
			asReference(t, s+" "+word)
		}
	}
}

// TestExpr checks P17.3: expressions, faults and errors.
func TestExpr(t *testing.T) {
	exprIs(t, "7", num(7), api.Fault{})
	exprIs(t, " -2147483648 # least", num(api.MinValue), api.Fault{})
	exprIs(t, "2147483647\n", num(api.MaxValue), api.Fault{})
	exprIs(t, "\n a", local("a"), api.Fault{})
	exprIs(t, "abcdefghijklmnop", local("abcdefghijklmnop"), api.Fault{})
	exprIs(t, "(a add b)", calc(local("a"), api.FnAdd, local("b")), api.Fault{})
	exprIs(t, "((a add b)mul(c sub a))", calc(calc(local("a"), api.FnAdd, local("b")), api.FnMul, calc(local("c"), api.FnSub, local("a"))), api.Fault{})
	for fn, word := range functions {
		if fn > 0 {
			exprIs(t, "(1 "+word+"-1)", calc(num(1), api.Fn(fn), num(-1)), api.Fault{})
		}
	}
	for _, x := range []struct {
		text string
		err  api.Errno
	}{
		{"1 @2", api.ErrToken}, {"a @;", api.ErrToken}, {"a @a", api.ErrToken}, {"a @add b", api.ErrToken}, {"(a add b) @)", api.ErrToken}, {"(a add b) @(", api.ErrToken}, {"(1 eq 2) @3", api.ErrToken}, {"1 @plain", api.ErrToken},
		{"@)", api.ErrToken}, {"@add", api.ErrToken}, {"@if", api.ErrToken}, {"@;", api.ErrToken}, {"(@)", api.ErrToken}, {"(@add 1 2)", api.ErrToken}, {"(a@)", api.ErrToken}, {"(a @1)", api.ErrToken}, {"(a add @)", api.ErrToken}, {"(a add b @c)", api.ErrToken}, {"(a add b@;", api.ErrToken},
		{"(a @b c)", api.ErrOp}, {"(a @if c)", api.ErrOp}, {"((1 add 2) @plain 3)", api.ErrOp}, {"(1 add (2 @mull 3))", api.ErrOp}, {"(a_name_too_long_1 @pow 1)", api.ErrOp},
		{"@", api.ErrEnd}, {"(@", api.ErrEnd}, {"(a@", api.ErrEnd}, {"(a add@", api.ErrEnd}, {"(a add (@", api.ErrEnd}, {"(a add b @", api.ErrEnd}, {"((a add b) # )\n@", api.ErrEnd},
		// The errors of ast.CheckExpr are at 0.
		{"@a_name_too_long_1", api.ErrName}, {"@  a_name_too_long_1", api.ErrName}, {"@(1 add a_name_too_long_1)", api.ErrName}, {"@ ((1 add 2) mul (3 sub a_name_too_long_1))", api.ErrName},
		{"@(((1 add 2) add 3) add 4)", api.ErrLimit}, {"@ (1 add (2 add (3 add 4)))", api.ErrLimit}, {"@(((a_name_too_long_1 add 2) add 3) add 4)", api.ErrLimit}, {"@\n((1 add 2) add (3 add (a add b)))", api.ErrLimit},
		// A fault of the syntax comes first.
		{"(((1 add 2) add 3) add 4) @5", api.ErrToken}, {"(a_name_too_long_1 add 2@", api.ErrEnd}, {"a_name_too_long_1 @)", api.ErrToken},
	} {
		s, at := marked(t, x.text)
		exprFails(t, s, x.err, at)
	}
}

// TestErrors checks P17.2: the errors of ast.Check, at the mark.
func TestErrors(t *testing.T) {
	for _, x := range []struct {
		text string
		err  api.Errno
	}{
		// Errors that mention nothing are at 0, whatever the first token is.
		{"@ var a_name_too_long_1 = 0; proc f() { } thread f(0);", api.ErrName}, {"@\nmutex a_name_too_long_1; proc f() { } thread f(0);", api.ErrName}, {"@ cond a_name_too_long_1; proc f() { } thread f(0);", api.ErrName},
		{"@ var x = 0; var x = 1; proc f() { } thread f(0);", api.ErrTwice}, {"@mutex m; mutex m; proc f() { } thread f(0);", api.ErrTwice}, {"@\tcond c; cond c; proc f() { } thread f(0);", api.ErrTwice},
		{"@", api.ErrLimit}, {"@ var x = 0;", api.ErrLimit}, {"@ proc f() { }", api.ErrLimit}, {"@ thread f(0);", api.ErrObject}, {"@ proc f() { } thread g(0);", api.ErrObject}, {"@ proc f() { } thread f(0); thread a_name_too_long_1(0);", api.ErrObject},
		// Errors that mention a procedure.
		{"proc f() { } @proc a_name_too_long_1() { } thread f(0);", api.ErrName}, {" @proc a_name_too_long_1() { } thread f(0);", api.ErrName}, {"proc f() { } proc g() { }\n@proc f() { } thread f(0);", api.ErrTwice},
		{"proc f() { } @proc g(a_name_too_long_1) { } thread f(0);", api.ErrName}, {"@proc f(a_name_too_long_1) { a = b; } thread f(0);", api.ErrName},
		{"proc g() { } # proc\n @proc f(p) { a = 0; b = 0; c = 0; d = 0; e = 0; } thread f(0);", api.ErrLimit}, {"@proc f() { a = 0; b = 0; c = 0; d = 0; e = 0; } thread f(0);", api.ErrLimit},
		// Errors that mention a statement.
		{"proc f() { @a = b; } thread f(0);", api.ErrObject}, {"proc f() { a = 1; @store x plain a; } thread f(0);", api.ErrObject}, {"proc f() { fence; if 1 { fence; @lock m; } unlock m; } thread f(0);", api.ErrObject},
		{"proc f() { while 1 { } if 1 { } else { fence; @signal c; } } thread f(0);", api.ErrObject}, {"cond c; proc f() { @wait c c; } thread f(0);", api.ErrObject}, {"proc f() { if 1 { } @broadcast c; } thread f(0);", api.ErrObject},
		{"proc f() { @a_name_too_long_1 = 1; } thread f(0);", api.ErrName}, {"var x = 0; proc f() { @a_name_too_long_1 = load x plain; } thread f(0);", api.ErrName}, {"proc f() { @a = a_name_too_long_1; } thread f(0);", api.ErrName},
		{"proc f() { a = 0; @a = (((1 add 2) add 3) add a); } thread f(0);", api.ErrLimit}, {"var x = 0; proc f() { @a = cas x plain 0, ((1 add 2) add 3); } thread f(0);", api.ErrLimit},
		{"proc f() { } proc g(p) { a = 1; while a { @if q { } } } thread f(0);", api.ErrObject}, {"proc f(p) { } proc g(q) { @a = p; } thread f(0);", api.ErrObject}, {"proc f() { @a = spawn h 1; } thread f(0);", api.ErrObject},
		{"var x = 0; proc f() { a = 1; @b = await x plain eq c; } thread f(0);", api.ErrObject}, {"proc f() { @while b { a = 1; } } thread f(0);", api.ErrObject}, {"proc f() { @a = trylock f; } thread f(0);", api.ErrObject},
		// The first error counts: names before numbers before procedures before threads.
		{"@ proc f() { a = b; } var x = 0; var x = 0;", api.ErrTwice}, {"proc f() { @a = b; } proc g(a_name_too_long_1) { }", api.ErrObject}, {"proc f() { @a = b; } thread g(0);", api.ErrObject}, {"proc f() { @lock m; a = b; } thread f(0);", api.ErrObject},
		{"proc f() { if 1 { @lock m; } else { lock n; } join b; }", api.ErrObject}, {"proc f() { if 1 { } else { @lock n; } join b; }", api.ErrObject}, {"proc f() { @if b { lock n; } }", api.ErrObject},
		// A fault of the syntax comes first.
		{"var x = 0; var x = 0; proc f() { a = b; } thread g(0); @;", api.ErrToken}, {"proc f() { a = b; @", api.ErrEnd}, {"proc f() { a = load x @acquire; }", api.ErrOrder}, {"proc f() { a = b; a = (b @plus c); }", api.ErrOp},
	} {
		failsAtMark(t, x.err, x.text)
		asReference(t, strings.Replace(x.text, "@", "", 1))
	}
}

// many repeats a text, in which each % is replaced by the number of the repetition.
func many(count int, s string) string {
	var b strings.Builder
	for k := range count {
		b.WriteString(strings.ReplaceAll(s, "%", fmt.Sprint(k)))
	}
	return b.String()
}

// TestLimits checks P17.2: the greatest numbers, levels and depths of a valid unit, and one more of each.
func TestLimits(t *testing.T) {
	const rest = "proc f() { } thread f(0);"
	nested := func(levels int) string {
		return strings.Repeat("if 1 { } else { ", levels-1) + "@fence;" + strings.Repeat(" }", levels-1)
	}
	for _, x := range []struct {
		most  int
		build func(n int) string
	}{
		{api.MaxVars, func(n int) string { return "@" + many(n, "var x% = %;") + rest }},
		{api.MaxMutexes, func(n int) string { return "@" + many(n, "mutex x%;") + rest }},
		{api.MaxConds, func(n int) string { return "@" + many(n, "cond x%;") + rest }},
		{api.MaxFuncs, func(n int) string { return "@ " + many(n-1, "proc x%(){}") + rest }},
		{api.MaxThreads, func(n int) string { return "@ proc f() { }" + many(n, "thread f(%);") }},
		{api.MaxStmts, func(n int) string { return "@proc f() { " + many(n, "fence;") + "} thread f(0);" }},
		{api.MaxStmts, func(n int) string {
			return "var x = 0; @proc f() { while 1 { if 2 { " + many(60, "fence;") + "} else { " + many(n-62, "return;") + "} } } thread f(0);"
		}},
		{api.MaxLocals - 1, func(n int) string { return "@proc f(p) { " + many(n, "x% = p; x0 = x%;") + " } thread f(0);" }},
		{api.MaxLocals - 1, func(n int) string { return "@proc f() { " + many(n, "x% = %;") + " } thread f(0);" }},
		{api.MaxNest, func(n int) string { return "proc f() { " + nested(n) + " } thread f(0);" }},
		{api.MaxExpr, func(n int) string {
			return "proc f() { fence; @if " + strings.Repeat("(1 add ", n-1) + "2" + strings.Repeat(")", n-1) + " { } } thread f(0);"
		}},
		{api.MaxExpr - 1, func(n int) string {
			return "var x = 1; proc f() { @a = cas x plain 1, " + strings.Repeat("(", n-1) + "2" + strings.Repeat(" mul 3)", n-1) + "; } thread f(0);"
		}},
	} {
		text, _ := marked(t, x.build(x.most))
		if u, f := Unit(text); f != (api.Fault{}) {
			t.Errorf("Unit of %s: %v, %v", short(text), u, f)
		}
		asReference(t, text)
		failsAtMark(t, api.ErrLimit, x.build(x.most+1))
		text, _ = marked(t, x.build(x.most+1))
		asReference(t, text)
	}
	failsAtMark(t, api.ErrLimit, "@ proc f() { }")
	long := strings.Repeat("n", api.MaxName)
	text := "var N = 0; mutex N; cond N; proc N(N) { N = load N plain; wait N N; N = (N add N); } thread N(0);"
	if _, f := Unit(strings.ReplaceAll(text, "N", long)); f != (api.Fault{}) {
		t.Errorf("a unit with the longest names: %v", f)
	}
	unitFails(t, strings.ReplaceAll(text, "N", long+"n"), api.ErrName, 0)
	unitFails(t, strings.ReplaceAll(text, "N", strings.Repeat("n", 1000)), api.ErrName, 0)
}

// TestMaxText checks P17.1 and P17.3: texts of MaxText bytes, and longer ones.
func TestMaxText(t *testing.T) {
	const unit = "proc f() { fence; } thread f(-1);"
	want := api.Unit{Procs: []api.Proc{{Name: "f", Body: []api.Stmt{{Kind: api.StFence}}}}, Threads: []api.Launch{{Proc: "f", Arg: -1}}}
	for _, fill := range []string{" ", "\t", "\n", "#", "# x\n"} {
		pad := func(size, used int) string { return strings.Repeat(fill, size)[:size-used] }
		unitIs(t, unit+pad(api.MaxText, len(unit)), want, api.Fault{})
		exprIs(t, "a"+pad(api.MaxText, 1), local("a"), api.Fault{})
		for _, size := range []int{api.MaxText + 1, api.MaxText + 2, 2 * api.MaxText, 1 << 20} {
			unitFails(t, unit+pad(size, len(unit)), api.ErrLimit, 0)
			exprFails(t, "a"+pad(size, 1), api.ErrLimit, 0)
			unitFails(t, "!"+pad(size, 1), api.ErrLimit, 0)
			exprFails(t, "!"+pad(size, 1), api.ErrLimit, 0)
		}
	}
	front := strings.Repeat("\n", api.MaxText-len(unit))
	unitIs(t, front+unit, want, api.Fault{})
	unitFails(t, "\n"+front+unit, api.ErrLimit, 0)
	unitFails(t, front+unit[:len(unit)-1]+",", api.ErrToken, api.MaxText-1)
	unitFails(t, front[1:]+unit[:len(unit)-1], api.ErrEnd, api.MaxText-2)
	statements := "proc f(){" + strings.Repeat("a=1;", (api.MaxText-10)/4)
	unitFails(t, statements+"}", api.ErrLimit, 0)
	unitFails(t, statements, api.ErrEnd, len(statements))
	elements := strings.Repeat("mutex m;", api.MaxText/8)
	unitFails(t, elements, api.ErrTwice, 0)
	unitFails(t, elements[:api.MaxText-1], api.ErrEnd, api.MaxText-1)
	unitFails(t, elements[:api.MaxText-1]+"=", api.ErrToken, api.MaxText-1)
	unitFails(t, "var "+strings.Repeat("v", api.MaxText-9)+"= 0;", api.ErrName, 0)
	exprFails(t, strings.Repeat("v", api.MaxText), api.ErrName, 0)
	exprFails(t, strings.Repeat("v ", api.MaxText/2), api.ErrToken, 2)
}

// TestDeep checks P17.1 to P17.3: the deepest expressions and blocks of a text, on a stack that is much smaller than the usual one.
func TestDeep(t *testing.T) {
	defer debug.SetMaxStack(debug.SetMaxStack(64 << 20))
	exprFails(t, strings.Repeat("(", api.MaxText), api.ErrEnd, api.MaxText)
	exprFails(t, strings.Repeat("(", api.MaxText-1)+";", api.ErrToken, api.MaxText-1)
	exprFails(t, strings.Repeat("(", api.MaxText-3)+"a b", api.ErrOp, api.MaxText-1)
	unitFails(t, "proc f(){a="+strings.Repeat("(", api.MaxText-11), api.ErrEnd, api.MaxText)
	unitFails(t, "proc f(){join"+strings.Repeat("(", api.MaxText-14)+"}", api.ErrToken, api.MaxText-1)
	// Each level of an expression takes 7 bytes.
	for _, x := range []string{strings.Repeat("(", 2300) + "a" + strings.Repeat(" or a)", 2300), strings.Repeat("(0 or ", 2300) + "a" + strings.Repeat(")", 2300)} {
		exprFails(t, x, api.ErrLimit, 0)
		exprFails(t, x+")", api.ErrToken, len(x))
		exprFails(t, x[:len(x)-1], api.ErrEnd, len(x)-1)
		unitFails(t, "proc f(){a=0;if "+x+"{}}thread f(0);", api.ErrLimit, 13)
		unitFails(t, "proc f(){a=0;if "+x+"{}}thread f(0);;", api.ErrToken, len(x)+len("proc f(){a=0;if {}}thread f(0);"))
	}
	for _, x := range []struct{ open, closing string }{{"if 0{", "}"}, {"while 0{", "}"}, {"if 0{}else{", "}"}, {"if 0{", "}else{}"}} {
		levels := (api.MaxText - 40) / len(x.open+x.closing)
		text := "proc f(){" + strings.Repeat(x.open, levels) + strings.Repeat(x.closing, levels) + "}"
		// There are too many statements before they are nested too deeply.
		unitFails(t, text+"thread f(0);", api.ErrLimit, 0)
		unitFails(t, " "+text+"thread f(0);", api.ErrLimit, 1)
		unitFails(t, text+"}", api.ErrToken, len(text))
		unitFails(t, text[:len(text)-1], api.ErrEnd, len(text)-1)
		levels = (api.MaxText - 9) / len(x.open)
		text = "proc f(){" + strings.Repeat(x.open, levels)
		unitFails(t, text, api.ErrEnd, len(text))
		text = "proc f(){" + strings.Repeat(x.open, api.MaxStmts) + strings.Repeat(x.closing, api.MaxStmts) + "}"
		unitFails(t, text, api.ErrLimit, 9+api.MaxNest*len(x.open))
	}
}

// TestRandomUnits checks P17.2: the texts of random units, valid ones and others.
func TestRandomUnits(t *testing.T) {
	random := rand.New(rand.NewSource(17))
	faults := map[api.Errno]int{}
	for n := range 3000 {
		m := maker{Rand: random, wild: n%2 == 1}
		u := m.unit()
		p := printed(u, random)
		s, offsets := laid(p.words, random)
		if len(s) > api.MaxText {
			continue
		}
		err, k, statement := ast.Check(u)
		want := api.Fault{Err: err}
		switch {
		case statement >= 0:
			want.At = offsets[p.statements[k][statement]]
		case k >= 0:
			want.At = offsets[p.procs[k]]
		}
		if err != api.OK {
			u = api.Unit{}
		}
		unitIs(t, s, u, want)
		faults[err]++
		if n%20 == 0 {
			asReference(t, s)
		}
	}
	for _, err := range []api.Errno{api.OK, api.ErrName, api.ErrTwice, api.ErrLimit, api.ErrObject} {
		if faults[err] < 10 {
			t.Errorf("only %d units have the error %d", faults[err], err)
		}
	}
	if faults[api.OK] < 1500 {
		t.Errorf("only %d units are valid", faults[api.OK])
	}
}

// TestRandomExprs checks P17.3: the texts of random expressions.
func TestRandomExprs(t *testing.T) {
	random := rand.New(rand.NewSource(18))
	for n := range 3000 {
		m := maker{Rand: random, wild: n%2 == 1, locals: []string{"a", "b", "A1", "z_"}}
		e := m.expr(1 + random.Intn(4))
		p := &printer{}
		p.expr(e)
		s, _ := laid(p.words, random)
		fault := api.Fault{Err: ast.CheckExpr(e, namesIn(e))}
		if fault.Err != api.OK {
			e = api.Expr{}
		}
		exprIs(t, s, e, fault)
	}
}

// changed returns some tokens with a few random changes.
func changed(words []string, random *rand.Rand) []string {
	all := vocabulary()
	changed := append([]string(nil), words...)
	for range 1 + random.Intn(3) {
		k := random.Intn(len(changed) + 1)
		word := all[random.Intn(len(all))]
		switch end := k == len(changed); {
		case end || random.Intn(4) == 0:
			changed = append(changed[:k:k], append([]string{word}, changed[k:]...)...)
		case random.Intn(3) == 0:
			changed = append(changed[:k:k], changed[k+1:]...)
		case random.Intn(2) == 0:
			changed[k] = word
		default:
			changed[k] = words[random.Intn(len(words))]
		}
	}
	if random.Intn(4) == 0 {
		changed = changed[:random.Intn(len(changed)+1)]
	}
	return changed
}

// randomTexts calls a function with the tokens of many texts: those of random units, of changed ones, and random tokens.
func randomTexts(seed int64, count int, examine func(words []string, random *rand.Rand)) {
	random := rand.New(rand.NewSource(seed))
	all := vocabulary()
	for n := range count {
		m := maker{Rand: random, wild: random.Intn(4) == 0}
		words := printed(m.unit(), random).words
		if len(words) > 600 {
			continue
		}
		switch n % 4 {
		case 0:
			examine(words, random)
		case 1, 2:
			examine(changed(words, random), random)
		case 3:
			var some []string
			for range random.Intn(12) {
				some = append(some, all[random.Intn(len(all))])
			}
			examine(some, random)
		}
	}
}

// TestRandomTexts checks P17.1 to P17.3: random texts with and without faults.
func TestRandomTexts(t *testing.T) {
	randomTexts(19, 1500, func(words []string, random *rand.Rand) {
		s, _ := laid(words, random)
		asReference(t, s)
	})
}

// TestSpacing checks P17.4: other spacing leaves the result as it is, and a fault at the same token.
func TestSpacing(t *testing.T) {
	randomTexts(20, 4000, func(words []string, random *rand.Rand) {
		first, from := laid(words, random)
		second, to := laid(words, random)
		if len(first) > api.MaxText || len(second) > api.MaxText {
			return
		}
		moved := func(f api.Fault) api.Fault {
			for k := range words {
				if f.At == from[k] {
					f.At = to[k]
					return f
				}
			}
			if f.At == len(first) {
				f.At = len(second)
			}
			return f
		}
		u, f := Unit(first)
		unitIs(t, second, u, moved(f))
		e, g := Expr(first)
		exprIs(t, second, e, moved(g))
	})
}

// TestResults checks P17.5: a unit without a fault is valid, a fault has a zero unit and an offset in the text, and a further token is a fault.
func TestResults(t *testing.T) {
	valid := 0
	randomTexts(21, 1000, func(words []string, random *rand.Rand) {
		s, _ := laid(words, random)
		u, f := Unit(s)
		e, g := Expr(s)
		for _, fault := range []api.Fault{f, g} {
			if fault.At < 0 || fault.At > len(s) || fault.Err < 0 || fault.Err > api.ErrCommand {
				t.Errorf("the fault of %s is %v", short(s), fault)
			}
		}
		if g.Err != api.OK && !reflect.ValueOf(e).IsZero() {
			t.Errorf("Expr of %s has the fault %v and returns %v", short(s), g, e)
		}
		if f.Err != api.OK {
			if !reflect.ValueOf(u).IsZero() {
				t.Errorf("Unit of %s has the fault %v and returns %v", short(s), f, u)
			}
			return
		}
		valid++
		if err, _, _ := ast.Check(u); err != api.OK || f.At != 0 {
			t.Errorf("Unit of %s is not valid: %d, %v", short(s), err, f)
		}
		for _, word := range vocabulary() {
			switch word {
			case "var", "mutex", "cond", "proc", "thread":
				unitFails(t, s+"\n"+word, api.ErrEnd, len(s)+1+len(word))
			default:
				unitFails(t, s+"\n"+word, api.ErrToken, len(s)+1)
				unitFails(t, s+"\n"+word+" x = 1; proc f(", api.ErrToken, len(s)+1)
			}
		}
	})
	if valid < 150 {
		t.Errorf("only %d units are valid", valid)
	}
}

// TestMemory checks that results are new memory: the lists of a result do not share any, and a result does not change later ones.
func TestMemory(t *testing.T) {
	random := rand.New(rand.NewSource(22))
	for range 300 {
		m := maker{Rand: random}
		p := printed(m.unit(), random)
		s, _ := laid(p.words, random)
		u, f := Unit(s)
		again, _ := Unit(s)
		if f != (api.Fault{}) || !ast.Equal(u, again) {
			t.Fatalf("two calls of Unit for %s differ", short(s))
		}
		scribble(&u)
		if third, _ := Unit(s); !ast.Equal(again, third) {
			t.Fatalf("a changed result of Unit for %s changes another one", short(s))
		}
		if err, _, _ := ast.Check(again); err != api.OK {
			t.Fatalf("a changed result of Unit for %s changes an earlier one", short(s))
		}
	}
	// What is appended to one list is not seen in another one.
	u, _ := Unit("proc f() { if 1 { fence; } else { return; } a = cas x plain 1, (2 add 3); } proc g() { fence; } var x = 0; var y = 0; thread f(0);")
	want := fmt.Sprint(u)
	_ = append(u.Procs[0].Body[0].Body, api.Stmt{})
	_ = append(u.Procs[0].Body[0].Else, api.Stmt{})
	_ = append(u.Procs[0].Body[0].Exprs, api.Expr{})
	_ = append(u.Procs[0].Body[1].Exprs, api.Expr{})
	_ = append(u.Procs[0].Body[1].Exprs[1].Args, api.Expr{})
	_ = append(u.Procs[0].Body, api.Stmt{})
	_ = append(u.Procs, api.Proc{})
	_ = append(u.Vars, api.Var{})
	if got := fmt.Sprint(u); got != want {
		t.Errorf("after appending to its lists: %s, want %s", got, want)
	}
}

// scribble overwrites all lists of a unit.
func scribble(u *api.Unit) {
	var expressions func(l []api.Expr)
	expressions = func(l []api.Expr) {
		for k := range l {
			expressions(l[k].Args)
			l[k] = api.Expr{Kind: 99}
		}
	}
	var statements func(l []api.Stmt)
	statements = func(l []api.Stmt) {
		for k := range l {
			expressions(l[k].Exprs)
			statements(l[k].Body)
			statements(l[k].Else)
			l[k] = api.Stmt{Kind: 99}
		}
	}
	for k := range u.Procs {
		statements(u.Procs[k].Body)
		u.Procs[k] = api.Proc{}
	}
	clear(u.Vars)
	clear(u.Mutexes)
	clear(u.Conds)
	clear(u.Threads)
}
