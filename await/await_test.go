package await

import (
	"fmt"
	"math"
	"math/rand"
	"slices"
	"strings"
	"testing"

	"modelcheck/api"
	"modelcheck/asm"
	"modelcheck/inst"
	"modelcheck/program"
	"modelcheck/value"
)

// with returns a program whose functions have the instructions of the texts, between semicolons. They can name the variables x and y, the mutexes m and n, the condition variables c and d, and the functions f0, f1 and so on.
func with(texts ...string) api.Program {
	p := api.Program{
		Vars:    []api.Var{{Name: "x", Init: 7}, {Name: "y", Init: -7}},
		Mutexes: []string{"m", "n"},
		Conds:   []string{"c", "d"},
		Threads: []api.Start{{Arg: 4}, {Arg: -4}},
	}
	for f := range texts {
		p.Funcs = append(p.Funcs, api.Func{Name: fmt.Sprint("f", f)})
	}
	codes := make([][]api.Inst, len(texts))
	for f, text := range texts {
		for _, line := range strings.FieldsFunc(text, func(r rune) bool { return r == ';' }) {
			i, fault := asm.Instruction(p, line)
			if fault != (api.Fault{}) {
				panic(fmt.Sprint(line, " is no instruction: ", fault))
			}
			codes[f] = append(codes[f], i)
		}
	}
	for f, code := range codes {
		p.Funcs[f].Code = code
	}
	return p
}

// results returns the results of a call as one text, in which nil and empty slices are the same.
func results(all ...any) string {
	return fmt.Sprintf("%+v", all)
}

// same fails if the results of a call are not the ones that are wanted.
func same(t *testing.T, call string, got, want string) {
	t.Helper()
	if got != want {
		t.Fatalf("%s: %s, want %s", call, got, want)
	}
}

// finds fails if Find and Rewrite do not return the wanted spin loops and the wanted program.
func finds(t *testing.T, p api.Program, spins []api.Spin, rewritten api.Program) {
	t.Helper()
	got, err := Find(p)
	if err != api.OK || !slices.Equal(got, spins) {
		t.Fatalf("Find(%+v): %+v, %d, want %+v", p, got, err, spins)
	}
	q, err := Rewrite(p)
	if err != api.OK || !program.Equal(q, rewritten) {
		t.Fatalf("Rewrite(%+v): %+v, %d, want %+v", p, q, err, rewritten)
	}
}

// replaced fails unless the program with the functions of before has the wanted spin loops and is replaced by the one with those of after.
func replaced(t *testing.T, before, after []string, spins ...api.Spin) {
	t.Helper()
	finds(t, with(before...), spins, with(after...))
}

// unchanged fails if the program with the given functions has a spin loop, or is changed.
func unchanged(t *testing.T, texts ...string) {
	t.Helper()
	replaced(t, texts, texts)
}

// fails fails if Find and Rewrite do not return the given error with empty results.
func fails(t *testing.T, what string, p api.Program, want api.Errno) {
	t.Helper()
	spins, err := Find(p)
	same(t, "Find of a program with "+what, results(spins, err), results([]api.Spin{}, want))
	q, err := Rewrite(p)
	same(t, "Rewrite of a program with "+what, results(q, err), results(api.Program{}, want))
}

// TestExamples checks the examples of the chapter.
func TestExamples(t *testing.T) {
	replaced(t,
		[]string{"const r1 1; load r2 x relacq; calc ne r3 r2 r1; branch r3 1"},
		[]string{"const r1 1; await r2 x eq r1 relacq; calc ne r3 r2 r1; branch r3 1"},
		api.Spin{Func: 0, First: 1, Last: 3})
	unchanged(t, "const r1 1; load r2 x relacq; calc lt r3 r2 r1; branch r3 1")
}

// A form is a comparison that makes a spin loop: a function on values, whether the loaded value stands first, and the condition.
type form struct {
	fn    api.Fn
	first bool
	cond  api.Fn
}

// forms are the five comparisons of the chapter, of which two are listed once for each place of the loaded value.
var forms = []form{
	{api.FnEq, true, api.FnNe},
	{api.FnEq, false, api.FnNe},
	{api.FnNe, true, api.FnEq},
	{api.FnNe, false, api.FnEq},
	{api.FnLt, false, api.FnLe},
	{api.FnLe, false, api.FnLt},
}

// TestForms checks P14.1 and P14.2: every function on values, with the loaded value on either side.
func TestForms(t *testing.T) {
	for _, c := range []struct {
		calc, condition string
	}{
		{"eq r3 r2 r1", "ne"}, {"eq r3 r1 r2", "ne"},
		{"ne r3 r2 r1", "eq"}, {"ne r3 r1 r2", "eq"},
		{"lt r3 r1 r2", "le"}, {"lt r3 r2 r1", ""},
		{"le r3 r1 r2", "lt"}, {"le r3 r2 r1", ""},
		{"add r3 r2 r1", ""}, {"add r3 r1 r2", ""},
		{"sub r3 r2 r1", ""}, {"sub r3 r1 r2", ""},
		{"mul r3 r2 r1", ""}, {"mul r3 r1 r2", ""},
		{"and r3 r2 r1", ""}, {"and r3 r1 r2", ""},
		{"or r3 r2 r1", ""}, {"or r3 r1 r2", ""},
		{"xor r3 r2 r1", ""}, {"xor r3 r1 r2", ""},
	} {
		before := "load r2 y relaxed; calc " + c.calc + "; branch r3 0"
		if c.condition == "" {
			unchanged(t, before)
			continue
		}
		after := "await r2 y " + c.condition + " r1 relaxed; calc " + c.calc + "; branch r3 0"
		replaced(t, []string{before}, []string{after}, api.Spin{Last: 2})
	}
}

// TestOperands checks P14.2: the variable, the order and the registers of the await.
func TestOperands(t *testing.T) {
	for _, variable := range []string{"x", "y"} {
		for _, order := range []string{"plain", "relaxed", "relacq"} {
			before := fmt.Sprintf("load r0 %s %s; calc ne r7 r6 r0; branch r7 0", variable, order)
			after := fmt.Sprintf("await r0 %s eq r6 %s; calc ne r7 r6 r0; branch r7 0", variable, order)
			replaced(t, []string{before}, []string{after}, api.Spin{Last: 2})
		}
	}
	for v := range 8 {
		for k := range 8 {
			before := fmt.Sprintf("load r%d x plain; calc le r%d r%d r%d; branch r%d 0", v, v, k, v, v)
			after := fmt.Sprintf("await r%d x lt r%d plain; calc le r%d r%d r%d; branch r%d 0", v, k, v, k, v, v)
			if k == v {
				unchanged(t, before)
				continue
			}
			replaced(t, []string{before}, []string{after}, api.Spin{Last: 2})
		}
	}
}

// TestRegisters checks P14.1: which registers may be the same, and which have to be.
func TestRegisters(t *testing.T) {
	for _, c := range []struct {
		what, before, after string
	}{
		{"W equal to V", "load r2 x plain; calc ne r2 r2 r1; branch r2 0", "await r2 x eq r1 plain; calc ne r2 r2 r1; branch r2 0"},
		{"W equal to V, which is C", "load r2 x plain; calc lt r2 r1 r2; branch r2 0", "await r2 x le r1 plain; calc lt r2 r1 r2; branch r2 0"},
		{"K equal to W", "load r2 x plain; calc ne r1 r2 r1; branch r1 0", ""},
		{"K equal to W, which is B", "load r2 x plain; calc lt r1 r1 r2; branch r1 0", ""},
		{"V on both sides", "load r2 x plain; calc ne r3 r2 r2; branch r3 0", ""},
		{"V on both sides and in W", "load r2 x plain; calc le r2 r2 r2; branch r2 0", ""},
		{"V on no side", "load r2 x plain; calc ne r3 r1 r0; branch r3 0", ""},
		{"V on no side, but in W", "load r2 x plain; calc eq r2 r1 r0; branch r2 0", ""},
		{"one register on both sides", "load r2 x plain; calc eq r3 r1 r1; branch r3 0", ""},
		{"a branch on V", "load r2 x plain; calc ne r3 r2 r1; branch r2 0", ""},
		{"a branch on K", "load r2 x plain; calc ne r3 r2 r1; branch r1 0", ""},
		{"a branch on another register", "load r2 x plain; calc ne r3 r2 r1; branch r0 0", ""},
		{"register 0 as K", "load r2 x plain; calc ne r3 r2 r0; branch r3 0", "await r2 x eq r0 plain; calc ne r3 r2 r0; branch r3 0"},
		{"register 0 as V", "load r0 x plain; calc ne r3 r0 r1; branch r3 0", "await r0 x eq r1 plain; calc ne r3 r0 r1; branch r3 0"},
		{"register 0 as W", "load r2 x plain; calc ne r0 r2 r1; branch r0 0", "await r2 x eq r1 plain; calc ne r0 r2 r1; branch r0 0"},
	} {
		t.Run(c.what, func(t *testing.T) {
			if c.after == "" {
				unchanged(t, c.before)
				return
			}
			replaced(t, []string{c.before}, []string{c.after}, api.Spin{Last: 2})
		})
	}
}

// like returns an instruction with the given operation and, as far as it uses them, the fields of another instruction.
func like(i api.Inst, op api.Op) api.Inst {
	made := api.Inst{Op: op}
	for _, set := range []func(made *api.Inst){
		func(made *api.Inst) { made.A = i.A },
		func(made *api.Inst) { made.B = i.B },
		func(made *api.Inst) { made.C = i.C },
		func(made *api.Inst) { made.Obj = i.Obj },
		func(made *api.Inst) { made.N = i.N },
		func(made *api.Inst) { made.Fn = max(i.Fn, api.FnAdd) },
		func(made *api.Inst) { made.Order = i.Order },
	} {
		changed := made
		if set(&changed); inst.Check(changed) != api.ErrField {
			made = changed
		}
	}
	return made
}

// TestOperations checks P14.1: three instructions of which one has another operation are no spin loop, also where a field that is not used has the number that a spin loop would have there.
func TestOperations(t *testing.T) {
	tried := 0
	for _, c := range forms {
		for _, r := range [][3]int{{2, 1, 3}, {0, 1, 3}, {2, 0, 3}, {2, 1, 0}, {0, 1, 0}, {2, 1, 2}} {
			for n := range 2 {
				spin := with("fence; fence; fence; fence; fence")
				code := spin.Funcs[0].Code
				copy(code[n:], comparing(c, r[0], r[1], r[2]).Funcs[0].Code)
				code[n+2].N = n
				spins, q := definition(spin)
				finds(t, spin, []api.Spin{{First: n, Last: n + 2}}, q)
				same(t, "the definition", results(spins), results([]api.Spin{{First: n, Last: n + 2}}))
				for place := n; place < n+3; place++ {
					for op := api.OpConst; op <= api.OpJoin; op++ {
						p := program.Clone(spin)
						if p.Funcs[0].Code[place].Op == op {
							continue
						}
						p.Funcs[0].Code[place] = like(code[place], op)
						finds(t, p, nil, p)
						tried++
					}
				}
			}
		}
	}
	if tried != len(forms)*6*2*3*21 {
		t.Errorf("%d functions, want one for each other operation", tried)
	}
}

// TestMixed checks P14.1: instructions of a spin loop that do not follow one another as they have to.
func TestMixed(t *testing.T) {
	// An await in place of the load, as Rewrite leaves it, is none.
	unchanged(t, "await r2 x ne r1 plain; calc eq r3 r2 r1; branch r3 0")
	// Nor are its instructions in another order, or with one in between.
	for _, code := range []string{
		"calc eq r3 r2 r1; load r2 x plain; branch r3 0",
		"load r2 x plain; branch r3 0; calc eq r3 r2 r1",
		"calc eq r3 r2 r1; branch r3 0; load r2 x plain",
		"load r2 x plain; fence; calc eq r3 r2 r1; branch r3 0",
		"load r2 x plain; calc eq r3 r2 r1; fence; branch r3 0",
		"load r2 x plain; const r1 1; calc eq r3 r2 r1; branch r3 0",
		"load r2 x plain; calc eq r3 r2 r1; jump 0",
	} {
		unchanged(t, code)
	}
}

// TestLengths checks P14.1: functions that are too short for a spin loop, and spin loops at the ends of functions of up to MaxCode instructions.
func TestLengths(t *testing.T) {
	for _, code := range []string{"", "fence", "load r2 x plain", "calc eq r3 r2 r1", "branch r3 0", "branch r3 1",
		"load r2 x plain; calc eq r3 r2 r1", "calc eq r3 r2 r1; branch r3 0", "load r2 x plain; branch r2 0", "calc eq r3 r2 r1; branch r3 1"} {
		unchanged(t, code)
		unchanged(t, code, "", code)
	}
	for _, length := range []int{3, 4, 5, 6, 7, 31, 32, 33, 62, 63, 64} {
		for n := range length - 2 {
			spin := fmt.Sprintf("load r2 x plain; calc eq r3 r2 r1; branch r3 %d", n)
			wait := fmt.Sprintf("await r2 x ne r1 plain; calc eq r3 r2 r1; branch r3 %d", n)
			front, back := strings.Repeat("fence;", n), strings.Repeat(";fence", length-3-n)
			replaced(t, []string{front + spin + back}, []string{front + wait + back}, api.Spin{First: n, Last: n + 2})
			for _, target := range []int{n - 1, n + 1, n + 2, n + 3, 0, length} {
				if target >= 0 && target != n {
					unchanged(t, fmt.Sprintf("%sload r2 x plain; calc eq r3 r2 r1; branch r3 %d%s", front, target, back))
				}
			}
		}
	}
}

// TestTargets checks P14.1: jumps and branches that lead into three instructions, or past them, and the field N of other instructions.
func TestTargets(t *testing.T) {
	const spin, wait = "load r2 x plain; calc eq r3 r2 r1; branch r3 4", "await r2 x ne r1 plain; calc eq r3 r2 r1; branch r3 4"
	for target := range 12 {
		for _, op := range []string{"jump ", "branch r3 ", "branch r0 "} {
			jump := fmt.Sprint(op, target)
			for place := range 8 {
				others := slices.Repeat([]string{"fence"}, 8)
				others[place] = jump
				text := func(middle string) []string {
					return []string{strings.Join(others[:4], ";") + ";" + middle + ";" + strings.Join(others[4:], ";")}
				}
				if target == 5 || target == 6 {
					unchanged(t, text(spin)...)
					continue
				}
				replaced(t, text(spin), text(wait), api.Spin{First: 4, Last: 6})
			}
			// The targets of other functions do not matter.
			const fences = "fence;fence;fence;fence;"
			other := jump + strings.Repeat(";fence", 11)
			replaced(t, []string{fences + spin, other}, []string{fences + wait, other}, api.Spin{First: 4, Last: 6})
			replaced(t, []string{other, fences + spin}, []string{other, fences + wait}, api.Spin{Func: 1, First: 4, Last: 6})
			replaced(t, []string{fences + spin, "stop;" + other}, []string{fences + wait, "stop;" + other}, api.Spin{First: 4, Last: 6})
		}
	}
	// The N of a constant and the mutex of a wait are no targets.
	const first, await = "load r2 x plain; calc eq r3 r2 r1; branch r3 0", "await r2 x ne r1 plain; calc eq r3 r2 r1; branch r3 0"
	const rest = "; const r4 1; const r4 2; wait c n; wait d n; const r4 0"
	replaced(t, []string{first + rest}, []string{await + rest}, api.Spin{Last: 2})
	// A jump to the end of the function leads past the instructions, and one that is not reachable counts like any other one.
	replaced(t, []string{first + "; jump 4"}, []string{await + "; jump 4"}, api.Spin{Last: 2})
	replaced(t, []string{first + "; stop; jump 0"}, []string{await + "; stop; jump 0"}, api.Spin{Last: 2})
	unchanged(t, first+"; stop; jump 1")
	unchanged(t, first+"; stop; branch r5 2")
	// Two jumps, of which only one leads into the instructions.
	unchanged(t, first+"; branch r5 0; jump 1")
	unchanged(t, first+"; branch r5 2; jump 0")
}

// TestSeveral checks P14.1 and P14.2: several spin loops, also one directly behind another, in one function and in several.
func TestSeveral(t *testing.T) {
	replaced(t,
		[]string{"load r2 x plain; calc eq r3 r2 r1; branch r3 0; load r2 y relacq; calc lt r3 r1 r2; branch r3 3"},
		[]string{"await r2 x ne r1 plain; calc eq r3 r2 r1; branch r3 0; await r2 y le r1 relacq; calc lt r3 r1 r2; branch r3 3"},
		api.Spin{Last: 2}, api.Spin{First: 3, Last: 5})
	// Of three, the one in the middle is none.
	replaced(t,
		[]string{"load r2 x plain; calc eq r3 r2 r1; branch r3 0; load r2 y plain; calc add r3 r1 r2; branch r3 3; load r2 x plain; calc le r3 r1 r2; branch r3 6"},
		[]string{"await r2 x ne r1 plain; calc eq r3 r2 r1; branch r3 0; load r2 y plain; calc add r3 r1 r2; branch r3 3; await r2 x lt r1 plain; calc le r3 r1 r2; branch r3 6"},
		api.Spin{Last: 2}, api.Spin{First: 6, Last: 8})
	// The target of the second branch is in the first three instructions, so that neither is one.
	unchanged(t, "load r2 x plain; calc eq r3 r2 r1; branch r3 0; load r2 y plain; calc eq r3 r2 r1; branch r3 1")
	replaced(t,
		[]string{"load r2 x plain; calc eq r3 r2 r1; branch r3 0; load r2 y plain; calc eq r3 r2 r1; branch r3 0"},
		[]string{"await r2 x ne r1 plain; calc eq r3 r2 r1; branch r3 0; load r2 y plain; calc eq r3 r2 r1; branch r3 0"},
		api.Spin{Last: 2})
	// Two loads before the calculation, of which only the second one is read.
	replaced(t,
		[]string{"load r2 x plain; load r2 y plain; calc eq r3 r2 r1; branch r3 1"},
		[]string{"load r2 x plain; await r2 y ne r1 plain; calc eq r3 r2 r1; branch r3 1"},
		api.Spin{First: 1, Last: 3})
	replaced(t,
		[]string{"", "load r2 x plain; calc eq r3 r2 r1; branch r3 0", "fence", "fence; load r4 y relaxed; calc ne r4 r5 r4; branch r4 1; spawn r1 f1 r0"},
		[]string{"", "await r2 x ne r1 plain; calc eq r3 r2 r1; branch r3 0", "fence", "fence; await r4 y eq r5 relaxed; calc ne r4 r5 r4; branch r4 1; spawn r1 f1 r0"},
		api.Spin{Func: 1, Last: 2}, api.Spin{Func: 3, First: 1, Last: 3})
	// As many as there can be: 21 in each of 8 functions.
	var before, after []string
	var spins []api.Spin
	for f := range 8 {
		var spin, wait []string
		for k := range 21 {
			spin = append(spin, fmt.Sprintf("load r2 x plain; calc ne r3 r2 r1; branch r3 %d", 3*k))
			wait = append(wait, fmt.Sprintf("await r2 x eq r1 plain; calc ne r3 r2 r1; branch r3 %d", 3*k))
			spins = append(spins, api.Spin{Func: f, First: 3 * k, Last: 3*k + 2})
		}
		before, after = append(before, strings.Join(spin, ";")+"; stop"), append(after, strings.Join(wait, ";")+"; stop")
	}
	replaced(t, before, after, spins...)
}

// contents are values that registers contain and that loads return: those at which comparisons change, and others.
var contents = []int{0, 1, 2, -1, -2, 3, 1 << 30, math.MaxInt32, math.MaxInt32 - 1, math.MinInt32, math.MinInt32 + 1}

// run executes the three instructions of a spin loop for a loaded value, and reports whether its branch is taken.
func run(t *testing.T, code []api.Inst, registers *[8]int, loaded int) bool {
	t.Helper()
	registers[code[0].A] = loaded
	result, err := value.Apply(code[1].Fn, registers[code[1].B], registers[code[1].C])
	if err != api.OK {
		t.Fatalf("Apply for %+v: %d", code[1], err)
	}
	registers[code[1].A] = result
	return registers[code[2].B] != 0
}

// TestConditions checks P14.3 for every form, all kinds of registers, and many contents and loaded values.
func TestConditions(t *testing.T) {
	for _, c := range forms {
		for _, r := range [][3]int{{2, 1, 3}, {2, 1, 2}, {0, 7, 5}, {7, 0, 7}, {5, 6, 0}, {1, 0, 1}} {
			v, k, w := r[0], r[1], r[2]
			p := comparing(c, v, k, w)
			q, err := Rewrite(p)
			old, code := p.Funcs[0].Code, q.Funcs[0].Code
			if err != api.OK || code[0].Op != api.OpAwait {
				t.Fatalf("Rewrite(%+v): %+v, %d", p, q, err)
			}
			for _, content := range contents {
				for _, loaded := range contents {
					conditionHolds(t, old, code, content, loaded)
				}
			}
		}
	}
}

// comparing returns a program with one spin loop of a form, for the registers V, K and W.
func comparing(c form, v, k, w int) api.Program {
	p := with("load r0 x plain; calc eq r0 r0 r0; branch r0 0")
	code := p.Funcs[0].Code
	code[0].A, code[1].Fn, code[1].A, code[2].B = v, c.fn, w, w
	code[1].B, code[1].C = k, v
	if c.first {
		code[1].B, code[1].C = v, k
	}
	return p
}

// conditionHolds fails if a spin loop with the given content of its register K, after several earlier iterations, does not go on for a loaded value exactly where the await of the other code blocks, or leaves other registers than it.
func conditionHolds(t *testing.T, old, code []api.Inst, content, loaded int) {
	t.Helper()
	before := [8]int{11, 12, 13, 14, 15, 16, 17, 18}
	// This is K also if the await has a wrong one.
	k := old[1].B + old[1].C - old[0].A
	before[k] = content
	result, err := value.Apply(code[0].Fn, loaded, before[code[0].B])
	if err != api.OK {
		t.Fatalf("Apply for %+v: %d", code[0], err)
	}
	what := fmt.Sprintf("%+v with %d in its other register, for the loaded value %d", old, content, loaded)
	for iterations := range 3 {
		registers := before
		for j := range iterations {
			run(t, old, &registers, contents[j])
		}
		taken := run(t, old, &registers, loaded)
		if taken != (result == 0) {
			t.Fatalf("%s: the branch is taken: %v, but the condition is %d", what, taken, result)
		}
		if taken {
			continue
		}
		waiting := before
		waiting[code[0].A] = loaded
		if run(t, append([]api.Inst{code[0]}, code[1:]...), &waiting, loaded) || waiting != registers {
			t.Fatalf("%s: the registers are %v, and after the await %v", what, registers, waiting)
		}
	}
}

// A fault changes a program so that it has an error.
type fault struct {
	name string
	make func(p *api.Program)
	err  api.Errno
}

// faulty is the program that faults change: it has spin loops in two functions.
func faulty() api.Program {
	return with(
		"load r2 x plain; calc eq r3 r2 r1; branch r3 0; jump 4; const r2 5; lock m",
		"wait c m; spawn r1 f0 r0; load r2 y plain; calc ne r3 r1 r2; branch r3 2")
}

// faults are changes of the program faulty, each of a part that no other one changes, in the order in which program.Check finds them.
var faults = []fault{
	{"a wrong name of a variable", func(p *api.Program) { p.Vars[1].Name = "" }, api.ErrName},
	{"a mutex twice", func(p *api.Program) { p.Mutexes[1] = "m" }, api.ErrTwice},
	{"a wrong name of a condition variable", func(p *api.Program) { p.Conds[1] = "_" }, api.ErrName},
	{"a function twice", func(p *api.Program) { p.Funcs[1].Name = "f0" }, api.ErrTwice},
	{"too many variables", func(p *api.Program) {
		for k := range 7 {
			p.Vars = append(p.Vars, api.Var{Name: fmt.Sprint("a", k)})
		}
	}, api.ErrLimit},
	{"too many functions", func(p *api.Program) {
		for k := range 7 {
			p.Funcs = append(p.Funcs, api.Func{Name: fmt.Sprint("g", k)})
		}
	}, api.ErrLimit},
	{"a wrong initial value", func(p *api.Program) { p.Vars[0].Init = 1 << 31 }, api.ErrRange},
	{"no operation", func(p *api.Program) { p.Funcs[0].Code[5] = api.Inst{} }, api.ErrOp},
	{"a wrong field in function 1", func(p *api.Program) { p.Funcs[1].Code[0].A = 1 }, api.ErrField},
	{"a wrong function of a spawn", func(p *api.Program) { p.Funcs[1].Code[1].Obj = 100 }, api.ErrObject},
	{"a wrong variable of a spin loop", func(p *api.Program) { p.Funcs[1].Code[2].Obj = 8 }, api.ErrObject},
	{"a wrong register of a spin loop", func(p *api.Program) { p.Funcs[1].Code[3].A = 8 }, api.ErrRegister},
	{"a wrong target of a spin loop", func(p *api.Program) { p.Funcs[1].Code[4].N = -1 }, api.ErrTarget},
	{"a wrong function of a thread", func(p *api.Program) { p.Threads[0].Func = -1 }, api.ErrObject},
	{"a wrong argument", func(p *api.Program) { p.Threads[1].Arg = -1<<31 - 1 }, api.ErrRange},
}

// TestErrors checks the errors of P14.1 and P14.2: one fault, two and more, of which the first one counts.
func TestErrors(t *testing.T) {
	spins, err := Find(faulty())
	same(t, "Find without a fault", results(spins, err), results([]api.Spin{{Last: 2}, {Func: 1, First: 2, Last: 4}}, api.OK))
	for k, x := range faults {
		p := faulty()
		x.make(&p)
		fails(t, x.name, p, x.err)
		for _, y := range faults[k+1:] {
			p := faulty()
			y.make(&p)
			x.make(&p)
			fails(t, x.name+" and "+y.name, p, x.err)
		}
		p = faulty()
		for _, y := range faults[k:] {
			y.make(&p)
		}
		fails(t, "all faults from: "+x.name, p, x.err)
	}
}

// TestSpinErrors checks the errors of P14.1 and P14.2 for each fault of the instructions of a spin loop, and for programs that are wrong as a whole.
func TestSpinErrors(t *testing.T) {
	for _, c := range []struct {
		at  int
		i   api.Inst
		err api.Errno
	}{
		{0, api.Inst{Op: api.OpLoad, A: 2, B: 1}, api.ErrField},
		{0, api.Inst{Op: api.OpLoad, A: 2, N: 1}, api.ErrField},
		{0, api.Inst{Op: api.OpLoad, A: 2, Fn: api.FnEq}, api.ErrField},
		{0, api.Inst{Op: api.OpLoad, A: 8}, api.ErrRegister},
		{0, api.Inst{Op: api.OpLoad, A: 2, Order: 3}, api.ErrOrder},
		{0, api.Inst{Op: api.OpLoad, A: 2, Order: -1}, api.ErrOrder},
		{0, api.Inst{Op: api.OpLoad, A: 2, Obj: 2}, api.ErrObject},
		{0, api.Inst{Op: api.OpLoad, A: 2, Obj: -1}, api.ErrObject},
		{0, api.Inst{Op: api.OpLoad + 256, A: 2}, api.ErrOp},
		{1, api.Inst{Op: api.OpCalc, A: 3, B: 2, C: 1}, api.ErrOp},
		{1, api.Inst{Op: api.OpCalc, A: 3, B: 2, C: 1, Fn: 11}, api.ErrOp},
		{1, api.Inst{Op: api.OpCalc, A: 3, B: 2, C: 1, Fn: api.FnEq, Obj: 1}, api.ErrField},
		{1, api.Inst{Op: api.OpCalc, A: -1, B: 2, C: 1, Fn: api.FnEq}, api.ErrRegister},
		{1, api.Inst{Op: api.OpCalc, A: 3, B: 2, C: math.MaxInt, Fn: api.FnEq}, api.ErrRegister},
		{2, api.Inst{Op: api.OpBranch, A: 1, B: 3, N: 0}, api.ErrField},
		{2, api.Inst{Op: api.OpBranch, B: 8, N: 0}, api.ErrRegister},
		{2, api.Inst{Op: api.OpBranch, B: 3, N: -1}, api.ErrTarget},
		{2, api.Inst{Op: api.OpBranch, B: 3, N: 4}, api.ErrTarget},
		{2, api.Inst{Op: api.OpBranch, B: 3, N: math.MinInt}, api.ErrTarget},
	} {
		p := with("load r2 x plain; calc eq r3 r2 r1; branch r3 0", "load r2 x plain; calc eq r3 r2 r1; branch r3 0")
		p.Funcs[1].Code[c.at] = c.i
		fails(t, fmt.Sprintf("%+v", c.i), p, c.err)
	}
	long := with(strings.Repeat("fence;", 62)+"load r2 x plain; calc eq r3 r2 r1; branch r3 62", "load r2 x plain; calc eq r3 r2 r1; branch r3 0")
	fails(t, "65 instructions in a function", long, api.ErrLimit)
	fails(t, "nothing", api.Program{}, api.ErrLimit)
	short := faulty()
	short.Threads = nil
	fails(t, "no threads", short, api.ErrLimit)
	short.Threads = make([]api.Start, 9)
	fails(t, "too many threads", short, api.ErrLimit)
	short.Threads = []api.Start{{Func: 2}}
	fails(t, "a thread without a function", short, api.ErrObject)
}

// definition returns the spin loops of a program by the definition of the chapter, and the program with an await in place of their loads.
func definition(p api.Program) ([]api.Spin, api.Program) {
	var spins []api.Spin
	q := program.Clone(p)
	for f := range p.Funcs {
		code := p.Funcs[f].Code
		for n := 0; n+2 < len(code); n++ {
			if i, ok := waiting(code, n); ok {
				spins = append(spins, api.Spin{Func: f, First: n, Last: n + 2})
				q.Funcs[f].Code[n] = i
			}
		}
	}
	return spins, q
}

// waiting builds every spin loop that could be at instruction n, and returns the await for the one that is there.
func waiting(code []api.Inst, n int) (api.Inst, bool) {
	for _, i := range code {
		if (i.Op == api.OpJump || i.Op == api.OpBranch) && (i.N == n+1 || i.N == n+2) {
			return api.Inst{}, false
		}
	}
	v, w, variable, order := code[n].A, code[n+1].A, code[n].Obj, code[n].Order
	for k := range 8 {
		for _, c := range forms {
			load := api.Inst{Op: api.OpLoad, A: v, Obj: variable, Order: order}
			calc := api.Inst{Op: api.OpCalc, Fn: c.fn, A: w, B: k, C: v}
			if c.first {
				calc.B, calc.C = v, k
			}
			branch := api.Inst{Op: api.OpBranch, B: w, N: n}
			if k != v && k != w && slices.Equal(code[n:n+3], []api.Inst{load, calc, branch}) {
				return api.Inst{Op: api.OpAwait, A: v, Obj: variable, Fn: c.cond, B: k, Order: order}, true
			}
		}
	}
	return api.Inst{}, false
}

// TestEveryTriple compares both functions with the definition for all spin loops and near ones with four registers.
func TestEveryTriple(t *testing.T) {
	registers := []int{0, 1, 2, 7}
	p := with("load r0 x relacq; calc eq r0 r0 r0; branch r0 0")
	code := p.Funcs[0].Code
	spins := 0
	for fn := api.FnAdd; fn <= api.FnLe; fn++ {
		for choice := range 1024 {
			code[0].A, code[1].A = registers[choice%4], registers[choice/4%4]
			code[1].Fn, code[1].B, code[1].C = fn, registers[choice/16%4], registers[choice/64%4]
			code[2].B = registers[choice/256]
			want, q := definition(p)
			finds(t, p, want, q)
			spins += len(want)
		}
	}
	// 4 registers V, 3 others as K, and 3 others than K as W, for each of the forms.
	if spins != 36*len(forms) {
		t.Errorf("%d of the functions are spin loops, want %d", spins, 36*len(forms))
	}
}

// TestEveryFunction compares both functions with the definition for all functions of up to five instructions of a few forms.
func TestEveryFunction(t *testing.T) {
	seen := map[string]bool{}
	for length := range 6 {
		choices := with("load r2 x plain; calc ne r3 r2 r1; calc lt r3 r2 r1; fence").Funcs[0].Code
		for n := range length + 1 {
			choices = append(choices, api.Inst{Op: api.OpBranch, B: 3, N: n})
			if n < 3 {
				choices = append(choices, api.Inst{Op: api.OpJump, N: n})
			}
		}
		p := with(strings.Repeat("fence;", length))
		code := p.Funcs[0].Code
		var build func(at int)
		build = func(at int) {
			if at < length {
				for _, i := range choices {
					code[at] = i
					build(at + 1)
				}
				return
			}
			spins, q := definition(p)
			finds(t, p, spins, q)
			seen[results(spins)] = true
		}
		build(0)
	}
	// None, or one that begins with instruction 0, 1 or 2.
	if len(seen) != 4 {
		t.Errorf("the functions have %d different results: %v", len(seen), seen)
	}
}

// near returns a random function: instructions of all operations, spin loops, and loops that differ in one field from one.
func near(random *rand.Rand) []api.Inst {
	var code []api.Inst
	length := random.Intn(65)
	for len(code) < length {
		n := len(code)
		if random.Intn(3) == 0 || n+3 > length {
			i := like(api.Inst{A: random.Intn(8), B: random.Intn(8), C: random.Intn(8), N: random.Intn(2), Fn: api.Fn(random.Intn(11))}, api.Op(1+random.Intn(22)))
			if i.Op == api.OpJump || i.Op == api.OpBranch {
				i.N = min(max(n-6+random.Intn(12), 0), length)
			}
			code = append(code, i)
			continue
		}
		c := forms[random.Intn(len(forms))]
		loop := comparing(c, random.Intn(8), random.Intn(8), random.Intn(8)).Funcs[0].Code
		loop[0].Obj, loop[0].Order, loop[2].N = random.Intn(2), api.Order(random.Intn(3)), n
		if random.Intn(2) == 0 {
			fields := []*int{&loop[0].A, &loop[1].A, &loop[1].B, &loop[1].C, &loop[2].B, &loop[2].N, (*int)(&loop[1].Fn)}
			// Every number of this range is a register, a target and a function on values.
			*fields[random.Intn(len(fields))] = 1 + random.Intn(min(length, 7))
		}
		code = append(code, loop...)
	}
	return code
}

// samples returns random programs with up to eight functions.
func samples(count int) []api.Program {
	random := rand.New(rand.NewSource(14))
	var all []api.Program
	for range count {
		p := with(slices.Repeat([]string{""}, 1+random.Intn(8))...)
		for f := range p.Funcs {
			p.Funcs[f].Code = near(random)
		}
		all = append(all, p)
	}
	return all
}

// TestSamples compares both functions with the definition for random programs, and checks P14.4.
func TestSamples(t *testing.T) {
	loops, most := 0, 0
	for _, p := range samples(800) {
		spins, q := definition(p)
		finds(t, p, spins, q)
		rewriting(t, p)
		loops, most = loops+len(spins), max(most, len(spins))
	}
	if loops < 3000 || most < 15 {
		t.Errorf("only %d spin loops, and at most %d in a program", loops, most)
	}
}

// awaits returns the number of instructions of a program that are an OpAwait.
func awaits(p api.Program) int {
	count := 0
	for _, f := range p.Funcs {
		for _, i := range f.Code {
			if i.Op == api.OpAwait {
				count++
			}
		}
	}
	return count
}

// rewriting fails if P14.4 does not hold for a program.
func rewriting(t *testing.T, p api.Program) {
	t.Helper()
	spins, err := Find(p)
	if err != api.OK {
		t.Fatalf("Find(%+v): %d", p, err)
	}
	for k, s := range spins {
		if k > 0 && s.Func == spins[k-1].Func && s.First <= spins[k-1].Last {
			t.Fatalf("Find(%+v): %+v and %+v overlap", p, spins[k-1], s)
		}
	}
	q, err := Rewrite(p)
	same(t, fmt.Sprintf("the error and Valid of Rewrite(%+v)", p), results(err, program.Valid(q)), results(api.OK, true))
	same(t, fmt.Sprintf("Size of Rewrite(%+v)", p), results(program.Size(q)), results(program.Size(p)))
	same(t, fmt.Sprintf("awaits of Rewrite(%+v)", p), results(awaits(q)), results(awaits(p)+len(spins)))
	finds(t, q, nil, q)
	for f := range p.Funcs {
		for n, i := range p.Funcs[f].Code {
			if !slices.Contains(spins, api.Spin{Func: f, First: n, Last: n + 2}) && q.Funcs[f].Code[n] != i {
				t.Fatalf("Rewrite(%+v): instruction %d of function %d is %+v", p, n, f, q.Funcs[f].Code[n])
			}
		}
		same(t, "the name of a function", q.Funcs[f].Name, p.Funcs[f].Name)
	}
	same(t, "the other parts of the program", results(q.Vars, q.Mutexes, q.Conds, q.Threads), results(p.Vars, p.Mutexes, p.Conds, p.Threads))
}

// TestRenaming checks that spin loops do not depend on the numbers of registers.
func TestRenaming(t *testing.T) {
	random := rand.New(rand.NewSource(7))
	for _, p := range samples(60) {
		to := random.Perm(8)
		rename := func(p api.Program) api.Program {
			p = program.Clone(p)
			for f := range p.Funcs {
				for n, i := range p.Funcs[f].Code {
					renamed, err := inst.Rename(i, to)
					if err != api.OK {
						t.Fatalf("Rename(%+v, %v): %d", i, to, err)
					}
					p.Funcs[f].Code[n] = renamed
				}
			}
			return p
		}
		spins, _ := Find(p)
		q, _ := Rewrite(p)
		finds(t, rename(p), spins, rename(q))
	}
}

// spacious returns a copy of a program whose lists have memory behind their ends.
func spacious(p api.Program) api.Program {
	p.Vars = append(append(make([]api.Var, 0, len(p.Vars)+3), p.Vars...), api.Var{Name: "hidden"})[:len(p.Vars)]
	p.Mutexes = append(append(make([]string, 0, len(p.Mutexes)+3), p.Mutexes...), "hidden")[:len(p.Mutexes)]
	p.Conds = append(append(make([]string, 0, len(p.Conds)+3), p.Conds...), "hidden")[:len(p.Conds)]
	p.Threads = append(append(make([]api.Start, 0, len(p.Threads)+3), p.Threads...), api.Start{Func: 9})[:len(p.Threads)]
	funcs := make([]api.Func, 0, len(p.Funcs)+3)
	for _, f := range p.Funcs {
		f.Code = append(append(make([]api.Inst, 0, len(f.Code)+3), f.Code...), api.Inst{Op: api.OpJump, N: 1})[:len(f.Code)]
		funcs = append(funcs, f)
	}
	p.Funcs = append(funcs, api.Func{Name: "hidden", Code: with("stop").Funcs[0].Code})[:len(funcs)]
	return p
}

// whole is the text of a program with the memory behind the ends of its lists.
func whole(p api.Program) string {
	text := results(p.Vars[:cap(p.Vars)], p.Mutexes[:cap(p.Mutexes)], p.Conds[:cap(p.Conds)], p.Threads[:cap(p.Threads)])
	for _, f := range p.Funcs[:cap(p.Funcs)] {
		text += results(f.Name, len(f.Code), f.Code[:cap(f.Code)])
	}
	return text
}

// fill overwrites a list and the memory behind it.
func fill[T any](list []T, element T) {
	for k := range list[:cap(list)] {
		list[:cap(list)][k] = element
	}
}

// overwrite changes all memory of a program, also that behind the ends of its lists.
func overwrite(p api.Program) {
	for _, f := range p.Funcs[:cap(p.Funcs)] {
		fill(f.Code, api.Inst{Op: 55, A: 55, B: 55, C: 55, Obj: 55, N: 55, Fn: 55, Order: 55})
	}
	fill(p.Vars, api.Var{Name: "other", Init: 55})
	fill(p.Mutexes, "other")
	fill(p.Conds, "other")
	fill(p.Funcs, api.Func{Name: "other"})
	fill(p.Threads, api.Start{Func: 55, Arg: 55})
}

// TestMemory checks that programs stay as they are, that results are new memory, and that nothing is kept.
func TestMemory(t *testing.T) {
	all := append(samples(40), faulty(), with(""), with("fence"))
	for _, x := range faults {
		p := faulty()
		x.make(&p)
		all = append(all, p)
	}
	for _, original := range all {
		p := spacious(original)
		kept := whole(p)
		spins, err := Find(p)
		want := results(spins, err)
		fill(spins, api.Spin{Func: 55, First: 55, Last: 55})
		q, err := Rewrite(p)
		wantRewritten := results(q, err)
		overwrite(q)
		same(t, "the program after both calls", whole(p), kept)
		spins, err = Find(p)
		q, errRewrite := Rewrite(p)
		overwrite(p)
		same(t, "Find after the results were overwritten, and its result after the program was", results(spins, err), want)
		same(t, "Rewrite after the results were overwritten, and its result after the program was", results(q, errRewrite), wantRewritten)
	}
}

// TestSharedCode checks P14.2 for functions that share memory: they do not share it in the result.
func TestSharedCode(t *testing.T) {
	p := with("load r2 x plain; calc eq r3 r2 r1; branch r3 0; jump 1", "", "")
	code := p.Funcs[0].Code
	// The jump makes a difference, so only the functions without it have a spin loop.
	p.Funcs[1].Code, p.Funcs[2].Code = code[:3], code[:3]
	kept := results(p)
	const wait = "await r2 x ne r1 plain; calc eq r3 r2 r1; branch r3 0"
	finds(t, p, []api.Spin{{Func: 1, Last: 2}, {Func: 2, Last: 2}}, with("load r2 x plain; calc eq r3 r2 r1; branch r3 0; jump 1", wait, wait))
	same(t, "the program", results(p), kept)
	q, _ := Rewrite(p)
	fill(q.Funcs[1].Code, api.Inst{Op: 55})
	same(t, "a function after another one was overwritten", results(q.Funcs[2].Code), results(with(wait).Funcs[0].Code))
}

// FuzzAwait compares both functions with the definition for the functions whose instructions are triples of bytes: an operation, registers and a function on values, and a number.
func FuzzAwait(f *testing.F) {
	// A spin loop, one behind a fence that a jump enters, and one with an invalid instruction behind it.
	f.Add([]byte{8, 2, 0, 3, 83, 7, 5, 24, 0})
	f.Add([]byte{13, 0, 0, 8, 1, 1, 3, 90, 9, 5, 16, 1, 4, 0, 2})
	f.Add([]byte{8, 2, 0, 3, 83, 7, 5, 24, 0, 9, 255, 255})
	f.Fuzz(func(t *testing.T, data []byte) {
		p := with("")
		for bytes := range slices.Chunk(data, 3) {
			bytes = append(slices.Clone(bytes), 0, 0)
			registers, last := int(bytes[1]), int(bytes[2])
			i := api.Inst{A: registers % 8, B: registers / 8 % 8, C: registers / 64, N: int(int8(bytes[2])), Fn: api.Fn(last), Order: api.Order(last % 4)}
			i = like(i, api.Op(bytes[0]))
			p.Funcs[0].Code = append(p.Funcs[0].Code, i)
		}
		if err, _, _ := program.Check(p); err != api.OK {
			fails(t, "random instructions", p, err)
			return
		}
		spins, q := definition(p)
		finds(t, p, spins, q)
		rewriting(t, p)
	})
}
