package compile

import (
	"fmt"
	"slices"
	"strconv"
	"strings"
	"testing"

	"modelcheck/api"
	"modelcheck/ast"
	"modelcheck/disasm"
	"modelcheck/parse"
	"modelcheck/program"
)

// of returns the valid unit with the given text.
func of(t *testing.T, text string) api.Unit {
	t.Helper()
	u, fault := parse.Unit(text)
	if fault != (api.Fault{}) {
		t.Fatalf("%s is no unit: %v", text, fault)
	}
	return u
}

// within is a unit with several objects, in whose procedure f(a) are the given statements.
func within(statements string) string {
	return "var x = 3; var y = -4; mutex m; mutex n; cond c; cond d; proc f(a) { " + statements + " } proc g() { } thread g(1); thread f(-1);"
}

// listing is the code of a function of a program, with a semicolon between two instructions.
func listing(t *testing.T, p api.Program, f int) string {
	t.Helper()
	var texts []string
	for _, i := range p.Funcs[f].Code {
		text, err := disasm.Instruction(p, i)
		if err != api.OK {
			t.Fatalf("the instruction %+v has the error %d", i, err)
		}
		texts = append(texts, text)
	}
	return strings.Join(texts, "; ")
}

// unitIs fails if Unit does not return the wanted program or error.
func unitIs(t *testing.T, u api.Unit, want api.Program, err api.Errno) {
	t.Helper()
	p, got := Unit(u)
	if got != err || !program.Equal(p, want) {
		t.Fatalf("Unit of %.2000s: %.2000s, %d, want %.2000s, %d", fmt.Sprint(u), fmt.Sprint(p), got, fmt.Sprint(want), err)
	}
}

// unitFails fails if Unit does not return the wanted error and no program.
func unitFails(t *testing.T, what string, u api.Unit, err api.Errno) {
	t.Helper()
	if p, got := Unit(u); got != err || !program.Equal(p, api.Program{}) {
		t.Errorf("Unit of a unit with %s: %.500s, %d, want the error %d", what, fmt.Sprint(p), got, err)
	}
}

// codeIs fails if the statements of a procedure f(a) do not have the wanted code.
func codeIs(t *testing.T, statements, want string) {
	t.Helper()
	p, err := Unit(of(t, within(statements)))
	if err != api.OK {
		t.Errorf("%s has the error %d", statements, err)
	} else if got := listing(t, p, 0); got != want {
		t.Errorf("%s has the code\n%s\nwant\n%s", statements, got, want)
	}
}

// sourceIs fails if Source does not return the wanted program or fault.
func sourceIs(t *testing.T, s string, want api.Program, fault api.Fault) {
	t.Helper()
	p, got := Source(s)
	if got != fault || !program.Equal(p, want) {
		t.Fatalf("Source of %.2000q: %.2000s, %v, want %.2000s, %v", s, fmt.Sprint(p), got, fmt.Sprint(want), fault)
	}
}

// TestExamples checks the examples of the chapter.
func TestExamples(t *testing.T) {
	codeIs(t, "b = (a add 2);", "copy r5 r0; const r6 2; calc add r5 r5 r6; copy r1 r5")
	codeIs(t, "while a { a = 0; }", "copy r5 r0; branch r5 3; jump 6; const r5 0; copy r0 r5; jump 0")
}

// samples has a statement of each kind, with its code.
var samples = []struct{ statement, code string }{
	{"b = -7;", "const r5 -7; copy r1 r5"},
	{"a = b; b = a;", "copy r5 r1; copy r0 r5; copy r5 r0; copy r1 r5"},
	{"b = load y relaxed;", "load r1 y relaxed"},
	{"store y relaxed (a sub 1);", "copy r5 r0; const r6 1; calc sub r5 r5 r6; store y r5 relaxed"},
	{"b = swap y relaxed a;", "copy r5 r0; swap r1 y r5 relaxed"},
	{"b = fetchadd y relaxed 2;", "const r5 2; fetchadd r1 y r5 relaxed"},
	{"b = cas y relaxed 5, a;", "const r5 5; copy r6 r0; cas r1 y r5 r6 relaxed"},
	{"fence;", "fence"},
	{"b = await y relaxed lt 3;", "const r5 3; await r1 y lt r5 relaxed"},
	{"lock n;", "lock n"},
	{"unlock n;", "unlock n"},
	{"b = trylock n;", "trylock r1 n"},
	{"wait d n;", "wait d n"},
	{"signal d;", "signal d"},
	{"broadcast d;", "broadcast d"},
	{"b = spawn g a;", "copy r5 r0; spawn r1 g r5"},
	{"join (a xor 8);", "copy r5 r0; const r6 8; calc xor r5 r5 r6; join r5"},
	{"assert a;", "copy r5 r0; assert r5"},
	{"if a { fence; }", "copy r5 r0; branch r5 3; jump 4; fence"},
	{"if a { fence; } else { lock n; }", "copy r5 r0; branch r5 4; lock n; jump 5; fence"},
	{"while (a ne 2) { fence; }", "copy r5 r0; const r6 2; calc ne r5 r5 r6; branch r5 5; jump 7; fence; jump 0"},
	{"return;", "stop"},
}

// TestStatements checks P19.1: the code of a statement of each kind, with each memory order and each function where the kind has one.
func TestStatements(t *testing.T) {
	for _, x := range samples {
		for _, order := range orders {
			for _, fn := range functions[1:] {
				change := strings.NewReplacer("relaxed", order, "lt", fn).Replace
				codeIs(t, change(x.statement), change(x.code))
				codeIs(t, "signal c; "+change(x.statement)+" return;", "signal c; "+shifted(change(x.code), 1)+"; stop")
			}
		}
	}
	// The first object of each kind.
	codeIs(t, "b = load x plain; lock m; wait c m; wait d m; b = spawn f 0; signal c;", "load r1 x plain; lock m; wait c m; wait d m; const r5 0; spawn r1 f r5; signal c")
}

// shifted is a code whose targets are larger by the given number.
func shifted(code string, by int) string {
	lines := strings.Split(code, "; ")
	for k, line := range lines {
		if strings.HasPrefix(line, "jump") || strings.HasPrefix(line, "branch") {
			blank := strings.LastIndex(line, " ")
			target, _ := strconv.Atoi(line[blank+1:])
			lines[k] = fmt.Sprint(line[:blank+1], target+by)
		}
	}
	return strings.Join(lines, "; ")
}

// TestExpressions checks P19.1: the code of expressions of each kind and depth, for both registers.
func TestExpressions(t *testing.T) {
	codeIs(t, "assert 2147483647; assert -2147483648; assert 0;", "const r5 2147483647; assert r5; const r5 -2147483648; assert r5; const r5 0; assert r5")
	for _, fn := range functions[1:] {
		codeIs(t, "assert (1 "+fn+" a);", "const r5 1; copy r6 r0; calc "+fn+" r5 r5 r6; assert r5")
	}
	codeIs(t, "assert ((1 add 2) sub 3);", "const r5 1; const r6 2; calc add r5 r5 r6; const r6 3; calc sub r5 r5 r6; assert r5")
	codeIs(t, "assert (1 sub (2 add 3));", "const r5 1; const r6 2; const r7 3; calc add r6 r6 r7; calc sub r5 r5 r6; assert r5")
	codeIs(t, "assert ((a add 2) lt (3 mul a));", "copy r5 r0; const r6 2; calc add r5 r5 r6; const r6 3; copy r7 r0; calc mul r6 r6 r7; calc lt r5 r5 r6; assert r5")
	codeIs(t, "a = cas x plain ((1 or 2) and (3 xor 4)), (5 le a);",
		"const r5 1; const r6 2; calc or r5 r5 r6; const r6 3; const r7 4; calc xor r6 r6 r7; calc and r5 r5 r6; const r6 5; copy r7 r0; calc le r6 r6 r7; cas r0 x r5 r6 plain")
	codeIs(t, "a = cas x plain a, -1;", "copy r5 r0; const r6 -1; cas r0 x r5 r6 plain")
}

// TestBlocks checks P19.1: if with and without else, while, blocks inside blocks, empty blocks and labels at the end.
func TestBlocks(t *testing.T) {
	codeIs(t, "", "")
	codeIs(t, "if 1 { }", "const r5 1; branch r5 3; jump 3")
	codeIs(t, "if 1 { } else { }", "const r5 1; branch r5 3; jump 3")
	codeIs(t, "if 1 { } else { fence; }", "const r5 1; branch r5 4; fence; jump 4")
	codeIs(t, "while 1 { }", "const r5 1; branch r5 3; jump 4; jump 0")
	codeIs(t, "fence; while a { } fence;", "fence; copy r5 r0; branch r5 4; jump 5; jump 1; fence")
	codeIs(t, "while a { while 1 { return; } }", "copy r5 r0; branch r5 3; jump 9; const r5 1; branch r5 6; jump 8; stop; jump 3; jump 0")
	codeIs(t, "if a { if 1 { fence; } else { b = 1; } } else { while 0 { return; } }",
		"copy r5 r0; branch r5 8; const r5 0; branch r5 5; jump 7; stop; jump 2; jump 14; const r5 1; branch r5 13; const r5 1; copy r1 r5; jump 14; fence")
	codeIs(t, "while a { if 1 { } else { } } return;", "copy r5 r0; branch r5 3; jump 7; const r5 1; branch r5 6; jump 6; jump 0; stop")
	codeIs(t, "if 0 { if 1 { if 2 { fence; } } }", "const r5 0; branch r5 3; jump 10; const r5 1; branch r5 6; jump 10; const r5 2; branch r5 9; jump 10; fence")
	// What follows a return has code too.
	codeIs(t, "return; fence; return;", "stop; fence; stop")
}

// TestRegisters checks P19.1: the registers of the local variables.
func TestRegisters(t *testing.T) {
	// The statements of Body come before those of Else, though their code comes later.
	codeIs(t, "if a { c = 1; } else { b = 2; }", "copy r5 r0; branch r5 5; const r5 2; copy r2 r5; jump 7; const r5 1; copy r1 r5")
	// A variable may be used before the statement that gives it its place.
	codeIs(t, "assert d; b = c; c = 1; d = a;", "copy r5 r3; assert r5; copy r5 r2; copy r1 r5; const r5 1; copy r2 r5; copy r5 r0; copy r3 r5")
	codeIs(t, "e = load x plain; d = trylock m; a = 0; c = e; e = c; b = d;",
		"load r1 x plain; trylock r2 m; const r5 0; copy r0 r5; copy r5 r1; copy r3 r5; copy r5 r3; copy r1 r5; copy r5 r2; copy r4 r5")
	for _, x := range []struct{ proc, code string }{
		{"f(p) { }", ""},
		{"f(p) { q = p; p = q; }", "copy r5 r0; copy r1 r5; copy r5 r1; copy r0 r5"},
		{"f() { q = 1; p = q; q = p; }", "const r5 1; copy r1 r5; copy r5 r1; copy r2 r5; copy r5 r2; copy r1 r5"},
		{"f() { fence; d = 1; c = d; b = c; a = b; }", "fence; const r5 1; copy r1 r5; copy r5 r1; copy r2 r5; copy r5 r2; copy r3 r5; copy r5 r3; copy r4 r5"},
		{"f(e) { d = e; c = d; b = c; a = b; e = a; }", "copy r5 r0; copy r1 r5; copy r5 r1; copy r2 r5; copy r5 r2; copy r3 r5; copy r5 r3; copy r4 r5; copy r5 r4; copy r0 r5"},
	} {
		p, err := Unit(of(t, "proc g(z) { y = z; } proc "+x.proc+" thread f(0);"))
		if err != api.OK || listing(t, p, 1) != x.code || listing(t, p, 0) != "copy r5 r0; copy r1 r5" {
			t.Errorf("%s has the code\n%s, %d\nwant\n%s", x.proc, listing(t, p, 1), err, x.code)
		}
	}
}

// TestUnit checks P19.1: the objects, functions and initial threads of a program.
func TestUnit(t *testing.T) {
	unitIs(t, of(t, "proc f() {} thread f(0);"), api.Program{Funcs: []api.Func{{Name: "f"}}, Threads: []api.Start{{}}}, api.OK)
	unitIs(t, of(t, "proc f() {} proc g() { fence; } proc h(a) {} thread h(-2147483648); thread g(2147483647); thread h(0); thread f(1);"), api.Program{
		Funcs:   []api.Func{{Name: "f"}, {Name: "g", Code: []api.Inst{{Op: api.OpFence}}}, {Name: "h"}},
		Threads: []api.Start{{Func: 2, Arg: api.MinValue}, {Func: 1, Arg: api.MaxValue}, {Func: 2}, {Func: 0, Arg: 1}},
	}, api.OK)
	unitIs(t, of(t, "cond d; var z = -2147483648; mutex n; thread g(7); proc g() { lock k; wait c n; store y relacq 5; } var x = 2147483647; cond c; mutex k; var y = 0; proc f() { a = spawn g 6; }"), api.Program{
		Vars:    []api.Var{{Name: "z", Init: api.MinValue}, {Name: "x", Init: api.MaxValue}, {Name: "y"}},
		Mutexes: []string{"n", "k"},
		Conds:   []string{"d", "c"},
		Funcs: []api.Func{
			{Name: "g", Code: []api.Inst{{Op: api.OpLock, Obj: 1}, {Op: api.OpWait, Obj: 1}, {Op: api.OpConst, A: 5, N: 5}, {Op: api.OpStore, B: 5, Obj: 2, Order: api.RelAcq}}},
			{Name: "f", Code: []api.Inst{{Op: api.OpConst, A: 5, N: 6}, {Op: api.OpSpawn, A: 1, B: 5}}},
		},
		Threads: []api.Start{{Arg: 7}},
	}, api.OK)
	// Objects of different kinds and local variables may have the same name.
	unitIs(t, of(t, "var b = 1; var a = 2; mutex a; mutex c; mutex b; cond c; cond b; cond d; cond a; proc c() {} proc b() {} proc d(b) {} proc e() {} proc a(a) { wait a b; lock c; a = spawn a a; b = load a plain; signal b; } thread a(3);"), api.Program{
		Vars:    []api.Var{{Name: "b", Init: 1}, {Name: "a", Init: 2}},
		Mutexes: []string{"a", "c", "b"},
		Conds:   []string{"c", "b", "d", "a"},
		Funcs: []api.Func{{Name: "c"}, {Name: "b"}, {Name: "d"}, {Name: "e"}, {Name: "a", Code: []api.Inst{
			{Op: api.OpWait, Obj: 3, N: 2}, {Op: api.OpLock, Obj: 1}, {Op: api.OpCopy, A: 5}, {Op: api.OpSpawn, B: 5, Obj: 4}, {Op: api.OpLoad, A: 1, Obj: 1}, {Op: api.OpSignal, Obj: 1},
		}}},
		Threads: []api.Start{{Func: 4, Arg: 3}},
	}, api.OK)
}

// TestCas checks P19.1 with all fields of an instruction that a unit can set.
func TestCas(t *testing.T) {
	u := of(t, "var x = 0; var y = 0; proc f() { a = cas y relacq 1, 2; b = await y relaxed xor 3; } thread f(0);")
	p, err := Unit(u)
	want := []api.Inst{
		{Op: api.OpConst, A: 5, N: 1}, {Op: api.OpConst, A: 6, N: 2}, {Op: api.OpCas, A: 1, B: 5, C: 6, Obj: 1, Order: api.RelAcq},
		{Op: api.OpConst, A: 5, N: 3}, {Op: api.OpAwait, A: 2, B: 5, Obj: 1, Fn: api.FnXor, Order: api.Relaxed},
	}
	if err != api.OK || !slices.Equal(p.Funcs[0].Code, want) {
		t.Errorf("the code is %+v, %d, want %+v", p.Funcs[0].Code, err, want)
	}
}

// fences are the given number of statements with one instruction each.
func fences(count int) string {
	return strings.Repeat("fence; ", count)
}

// TestMaxCode checks P19.1: procedures with MaxCode instructions, and with one more.
func TestMaxCode(t *testing.T) {
	for _, x := range []struct {
		text string
		size int // without the fences
	}{
		{"", 0},
		{"return;", 1},
		{"b = 1;", 2},
		{"a = cas x plain ((1 or 2) and (3 xor 4)), (5 le a);", 11},
		{"if a { }", 3},
		{"if a { } else { fence; }", 4},
		{"while (a lt 5) { fence; }", 7},
		{"while a { if a { while a { } } }", 11},
	} {
		for count := 64 - x.size - 2; count <= 64-x.size+3; count++ {
			for _, text := range []string{x.text + fences(count), fences(count) + x.text, "if 1 { " + fences(count-3) + " } " + x.text, "if 1 { " + x.text + " } else { " + fences(count-3) + " }"} {
				u := of(t, within(text))
				if x.size+count > 64 {
					unitFails(t, text, u, api.ErrLimit)
					continue
				}
				want, _ := reference(u)
				unitIs(t, u, want, api.OK)
				if got := len(want.Funcs[0].Code); got != x.size+count {
					t.Fatalf("%s has %d instructions", text, got)
				}
			}
		}
	}
	// Labels at the end of the longest code.
	codeIs(t, fences(61)+"if a { }", strings.Repeat("fence; ", 61)+"copy r5 r0; branch r5 64; jump 64")
	codeIs(t, fences(60)+"while a { }", strings.Repeat("fence; ", 60)+"copy r5 r0; branch r5 63; jump 64; jump 60")
}

// TestMaxCodeProcedures checks P19.1: each procedure has a code of its own.
func TestMaxCodeProcedures(t *testing.T) {
	for long := range 4 {
		text := "var x = 0;"
		for k := range 4 {
			count := 64
			if k == long {
				count = 65
			}
			text += fmt.Sprint("proc f", k, "() { ", fences(count), " }")
		}
		u := of(t, text+"thread f0(0);")
		unitFails(t, "one long procedure", u, api.ErrLimit)
		sourceIs(t, text+"thread f0(0);", api.Program{}, api.Fault{Err: api.ErrLimit})
		u.Procs[long].Body = u.Procs[long].Body[1:]
		want, err := reference(u)
		unitIs(t, u, want, api.OK)
		if program.Size(want) != 4*64 || err != api.OK {
			t.Errorf("the longest procedures have %d instructions, %d", program.Size(want), err)
		}
	}
	// The greatest number of statements, with the longest code of each.
	longest := "a = cas x plain ((1 or 2) and (3 xor 4)), (5 le a); "
	unitFails(t, "the longest statements", of(t, within(strings.Repeat(longest, 128))), api.ErrLimit)
	unitFails(t, "the most statements", of(t, within(fences(128))), api.ErrLimit)
}

// TestLargest checks P19.1 with the greatest numbers of objects, local variables, levels and threads, and the most statements that fit into the code.
func TestLargest(t *testing.T) {
	text := ""
	for k := range 8 {
		name := fmt.Sprint("a_name_of_size_", k)
		text += fmt.Sprint("var ", name, " = ", -2147483648+k, "; ")
		if k < 4 {
			text += "mutex " + name + "; cond " + name + "; "
		}
		// The twelve levels have 36 instructions, and the five statements on the local variables 10.
		body := strings.Repeat("if 0 { ", 11) + "store " + name + " plain 1; " + strings.Repeat("} ", 11)
		for n := range 4 {
			body += fmt.Sprint("l", n, " = ", n, "; ")
		}
		mutex := fmt.Sprint("a_name_of_size_", k%4)
		text += fmt.Sprint("proc ", name, "(a_param_of_16_by) { ", body, "a_param_of_16_by = l3; wait ", mutex, " ", mutex, "; ", fences(18), "} ")
		text += fmt.Sprint("thread a_name_of_size_", 7-k, "(", 2147483647-k, "); ")
	}
	u := of(t, text)
	want, err := reference(u)
	if err != api.OK || program.Size(want) != 8*64 || len(want.Vars) != api.MaxVars || len(want.Mutexes) != api.MaxMutexes || len(want.Conds) != api.MaxConds || len(want.Threads) != api.MaxThreads {
		t.Fatalf("the largest unit has the error %d and %d instructions", err, program.Size(want))
	}
	unitIs(t, u, want, api.OK)
	sourceIs(t, text, want, api.Fault{})
	if last := want.Funcs[7].Code; !slices.Equal(last[33:35], []api.Inst{{Op: api.OpConst, A: 5, N: 1}, {Op: api.OpStore, B: 5, Obj: 7}}) || want.Threads[0] != (api.Start{Func: 7, Arg: api.MaxValue}) {
		t.Errorf("the last function is %+v", last)
	}
}

// faults are changes of the unit of faulty, each with the error that it makes, in the order in which ast.Check finds them.
var faults = []struct {
	name string
	make func(u *api.Unit)
	want api.Errno
}{
	{"a variable without a name", func(u *api.Unit) { u.Vars[1].Name = "" }, api.ErrName},
	{"a variable twice", func(u *api.Unit) { u.Vars[2].Name = "x" }, api.ErrTwice},
	{"a mutex with the name of a keyword", func(u *api.Unit) { u.Mutexes[0] = "lock" }, api.ErrName},
	{"a mutex twice", func(u *api.Unit) { u.Mutexes[2] = u.Mutexes[1] }, api.ErrTwice},
	{"a condition variable with a long name", func(u *api.Unit) { u.Conds[0] = "a_name_of_17_byte" }, api.ErrName},
	{"a condition variable twice", func(u *api.Unit) { u.Conds[2] = u.Conds[1] }, api.ErrTwice},
	{"a procedure with a wrong name", func(u *api.Unit) { u.Procs[2].Name = "1" }, api.ErrName},
	{"a procedure twice", func(u *api.Unit) { u.Procs[3].Name = "f" }, api.ErrTwice},
	{"too many variables", func(u *api.Unit) {
		for k := range 6 {
			u.Vars = append(u.Vars, api.Var{Name: fmt.Sprint("v", k)})
		}
	}, api.ErrLimit},
	{"an initial value out of range", func(u *api.Unit) { u.Vars[0].Init = api.MaxValue + 1 }, api.ErrRange},
	{"a wrong parameter", func(u *api.Unit) { u.Procs[0].Param = "proc" }, api.ErrName},
	{"a kind that does not exist", func(u *api.Unit) { u.Procs[0].Body[0].Kind = 21 }, api.ErrOp},
	{"a field that is not used", func(u *api.Unit) { u.Procs[0].Body[1].Obj = "x" }, api.ErrField},
	{"no expression", func(u *api.Unit) { u.Procs[0].Body[2].Exprs = nil }, api.ErrField},
	{"a wrong name", func(u *api.Unit) { u.Procs[1].Body[0].Name = "if" }, api.ErrName},
	{"a wrong object", func(u *api.Unit) { u.Procs[1].Body[1].Obj = "m" }, api.ErrObject},
	{"another wrong object", func(u *api.Unit) { u.Procs[1].Body[2].Other = "c" }, api.ErrObject},
	{"a wrong function", func(u *api.Unit) { u.Procs[1].Body[3].Fn = 11 }, api.ErrOp},
	{"a wrong order", func(u *api.Unit) { u.Procs[1].Body[4].Order = 3 }, api.ErrOrder},
	{"a number out of range", func(u *api.Unit) { u.Procs[1].Body[5].Exprs[0].N = api.MinValue - 1 }, api.ErrRange},
	{"an expression of a wrong kind", func(u *api.Unit) { u.Procs[1].Body[6].Exprs[0].Kind = 0 }, api.ErrOp},
	{"an unknown local variable", func(u *api.Unit) { u.Procs[1].Body[7].Exprs[0].Name = "z" }, api.ErrObject},
	{"a calculation without a function", func(u *api.Unit) { u.Procs[1].Body[8].Exprs[0].Fn = 0 }, api.ErrOp},
	{"a deep expression", func(u *api.Unit) {
		e := &u.Procs[1].Body[9].Exprs[0]
		for range 3 {
			*e = api.Expr{Kind: api.ExCalc, Fn: api.FnAdd, Args: []api.Expr{*e, *e}}
		}
	}, api.ErrLimit},
	{"a second expression of a cas that is too deep", func(u *api.Unit) {
		e := &u.Procs[1].Body[10].Exprs[1]
		for range 2 {
			*e = api.Expr{Kind: api.ExCalc, Fn: api.FnAdd, Args: []api.Expr{*e, *e}}
		}
	}, api.ErrLimit},
	{"a wrong else", func(u *api.Unit) { u.Procs[1].Body[11].Else = u.Procs[1].Body[11].Body }, api.ErrField},
	{"too many levels", func(u *api.Unit) {
		for range 11 {
			body := &u.Procs[1].Body[12].Body
			*body = []api.Stmt{{Kind: api.StWhile, Exprs: u.Procs[1].Body[12].Exprs, Body: *body}}
		}
	}, api.ErrLimit},
	{"too many statements", func(u *api.Unit) { u.Procs[2].Body = slices.Repeat(u.Procs[2].Body, 129) }, api.ErrLimit},
	{"too many local variables", func(u *api.Unit) {
		for k := range 5 {
			u.Procs[3].Body = append(u.Procs[3].Body, api.Stmt{Kind: api.StTryLock, Obj: "n", Name: fmt.Sprint("l", k)})
		}
	}, api.ErrLimit},
	{"a thread of an unknown procedure", func(u *api.Unit) { u.Threads[0].Proc = "x" }, api.ErrObject},
	{"an argument out of range", func(u *api.Unit) { u.Threads[1].Arg = 1 << 40 }, api.ErrRange},
	{"too many threads", func(u *api.Unit) { u.Threads = append(u.Threads, slices.Repeat(u.Threads[2:], 6)...) }, api.ErrLimit},
}

// faulty is the text of a valid unit for faults. The procedures that are not the target of a fault name nothing that a fault changes.
const faulty = `
var x = 0; var y = 1; var zz = 2; mutex k; mutex n; mutex o; cond b; cond c; cond d;
proc f(p) { fence; q = 1; assert 2; }
proc g() { a = 1; store y plain 2; wait c n; a = await y plain eq 1; a = load y relaxed; join 3; join 4; join a; join (a add 1); join a; a = cas y plain 1, 2; while a { fence; } while a { fence; } }
proc h() { fence; }
proc i() { b = 1; }
thread f(1); thread g(2); thread h(3);`

// TestUnitErrors checks P19.1: each error of ast.Check alone, with every other one, and before ErrLimit.
func TestUnitErrors(t *testing.T) {
	for i, first := range faults {
		u := of(t, faulty)
		first.make(&u)
		unitFails(t, first.name, u, first.want)
		for _, second := range faults[i+1:] {
			u := of(t, faulty)
			first.make(&u)
			second.make(&u)
			if err, _, _ := ast.Check(u); err != first.want && !strings.Contains(second.name, "threads") {
				t.Errorf("%s and %s: %d", first.name, second.name, err)
			}
			want, _, _ := ast.Check(u)
			unitFails(t, first.name+" and "+second.name, u, want)
		}
		for k := range 4 {
			u := of(t, faulty)
			first.make(&u)
			u.Procs[k].Body = append(u.Procs[k].Body, slices.Repeat([]api.Stmt{{Kind: api.StFence}}, 64)...)
			want, _, _ := ast.Check(u)
			unitFails(t, first.name+" and long code", u, want)
			if want != first.want {
				t.Errorf("%s and long code: %d", first.name, want)
			}
		}
	}
	unitFails(t, "nothing", api.Unit{}, api.ErrLimit)
	unitFails(t, "no procedures", api.Unit{Threads: []api.Launch{{}}}, api.ErrObject)
	unitFails(t, "no threads", api.Unit{Procs: []api.Proc{{Name: "f"}}}, api.ErrLimit)
}
