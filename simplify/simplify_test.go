package simplify

import (
	"fmt"
	"math"
	"math/rand"
	"slices"
	"strings"
	"testing"

	"modelcheck/api"
	"modelcheck/asm"
	"modelcheck/inst"
	"modelcheck/program"
)

// with returns a program whose functions have the instructions of the texts, between semicolons. They can name the variables x and y, the mutexes m and n, the condition variables c and d, and the functions f0, f1 and so on.
func with(texts ...string) api.Program {
	p := api.Program{
		Vars:    []api.Var{{Name: "x", Init: 7}, {Name: "y", Init: -7}},
		Mutexes: []string{"m", "n"},
		Conds:   []string{"c", "d"},
		Threads: []api.Start{{Arg: 4}, {Arg: -4}},
	}
	for f := range texts {
		p.Funcs = append(p.Funcs, api.Func{Name: fmt.Sprint("f", f)})
	}
	codes := make([][]api.Inst, len(texts))
	for f, text := range texts {
		for _, line := range strings.FieldsFunc(text, func(r rune) bool { return r == ';' }) {
			i, fault := asm.Instruction(p, line)
			if fault != (api.Fault{}) {
				panic(fmt.Sprint(line, " is no instruction: ", fault))
			}
			codes[f] = append(codes[f], i)
		}
	}
	for f, code := range codes {
		p.Funcs[f].Code = code
	}
	return p
}

// of returns the function with the instructions of a text.
func of(text string) api.Func {
	return with(text).Funcs[0]
}

// results returns the results of a call as one text, in which nil and empty slices are the same.
func results(all ...any) string {
	return fmt.Sprintf("%+v", all)
}

// same fails if the results of a call are not the ones that are wanted.
func same(t *testing.T, call string, got, want string) {
	t.Helper()
	if got != want {
		t.Fatalf("%s: %s, want %s", call, got, want)
	}
}

// A change is a function of the package that changes a function of a program.
type change struct {
	name  string
	apply func(f api.Func) (api.Func, api.Errno)
}

// changes are Fold, Thread and Prune.
var changes = []change{{"Fold", Fold}, {"Thread", Thread}, {"Prune", Prune}}

// changed fails if a change of f does not return a function with the wanted code.
func changed(t *testing.T, c change, f api.Func, want []api.Inst) {
	t.Helper()
	g, err := c.apply(f)
	if err != api.OK || g.Name != f.Name || !slices.Equal(g.Code, want) {
		t.Fatalf("%s(%+v): %+v, %d, want the code %+v", c.name, f, g, err, want)
	}
}

// folds fails if Fold does not replace the code of the one text by that of the other one.
func folds(t *testing.T, before, after string) {
	t.Helper()
	changed(t, changes[0], of(before), of(after).Code)
}

// threads fails if Thread does not replace the code of the one text by that of the other one.
func threads(t *testing.T, before, after string) {
	t.Helper()
	changed(t, changes[1], of(before), of(after).Code)
}

// prunes fails if Prune does not replace the code of the one text by that of the other one.
func prunes(t *testing.T, before, after string) {
	t.Helper()
	changed(t, changes[2], of(before), of(after).Code)
}

// simplified fails if Program does not return the wanted program.
func simplified(t *testing.T, p, want api.Program) {
	t.Helper()
	q, err := Program(p)
	if err != api.OK || !program.Equal(q, want) {
		t.Fatalf("Program(%+v): %+v, %d, want %+v", p, q, err, want)
	}
}

// simplifies fails if Program does not replace the code of the one text by that of the other one.
func simplifies(t *testing.T, before, after string) {
	t.Helper()
	simplified(t, with(before), with(after))
	simplified(t, with("stop", before, before), with("stop", after, after))
}

// failsFunc fails if Fold, Thread and Prune do not return the given error with an empty result.
func failsFunc(t *testing.T, what string, f api.Func, want api.Errno) {
	t.Helper()
	for _, c := range changes {
		g, err := c.apply(f)
		same(t, c.name+" of a function with "+what, results(g, err), results(api.Func{}, want))
	}
}

// failsProgram fails if Program does not return the given error with an empty result.
func failsProgram(t *testing.T, what string, p api.Program, want api.Errno) {
	t.Helper()
	q, err := Program(p)
	same(t, "Program of a program with "+what, results(q, err), results(api.Program{}, want))
}

// TestExample checks the example of the chapter.
func TestExample(t *testing.T) {
	const before, after = "const r0 2; const r1 3; calc add r2 r0 r1; branch r2 0; stop", "const r0 2; const r1 3; const r2 5; jump 0; stop"
	folds(t, before, after)
	prunes(t, after, "const r0 2; const r1 3; const r2 5; jump 0")
	simplifies(t, before, "const r0 2; const r1 3; const r2 5; jump 0")
}

// TestFunctions checks P15.1: every function on values, also at the limits, with both operands known, one of them, and none.
func TestFunctions(t *testing.T) {
	const most, least = math.MaxInt32, math.MinInt32
	for _, c := range []struct {
		fn           string
		b, c, result int
	}{
		{"add", 2, 3, 5}, {"add", most, 1, least}, {"add", least, -1, most}, {"add", least, least, 0}, {"add", -7, 7, 0},
		{"sub", 2, 3, -1}, {"sub", least, 1, most}, {"sub", 0, least, least}, {"sub", most, -1, least}, {"sub", 9, 9, 0},
		{"mul", -2, 3, -6}, {"mul", 65536, 65536, 0}, {"mul", least, -1, least}, {"mul", most, most, 1}, {"mul", 65536, 32768, least},
		{"and", 6, 3, 2}, {"and", -1, least, least}, {"and", most, least, 0},
		{"or", 6, 3, 7}, {"or", most, least, -1}, {"or", 0, 0, 0},
		{"xor", 6, 3, 5}, {"xor", -1, most, least}, {"xor", 5, 5, 0},
		{"eq", 4, 4, 1}, {"eq", 4, 5, 0}, {"eq", least, least, 1}, {"eq", most, least, 0},
		{"ne", 4, 4, 0}, {"ne", 4, 5, 1}, {"ne", most, least, 1},
		{"lt", 4, 5, 1}, {"lt", 5, 4, 0}, {"lt", 4, 4, 0}, {"lt", least, most, 1}, {"lt", most, least, 0}, {"lt", -1, 0, 1},
		{"le", 4, 5, 1}, {"le", 5, 4, 0}, {"le", 4, 4, 1}, {"le", least, most, 1}, {"le", most, least, 0}, {"le", 0, -1, 0},
	} {
		left, right, calc := fmt.Sprint("const r1 ", c.b, ";"), fmt.Sprint("const r2 ", c.c, ";"), "calc "+c.fn+" r3 r1 r2"
		folds(t, left+right+calc, left+right+fmt.Sprint("const r3 ", c.result))
		folds(t, right+left+calc, right+left+fmt.Sprint("const r3 ", c.result))
		for _, before := range []string{"", left, right, left + "load r2 x plain;", right + "load r1 x plain;"} {
			folds(t, before+calc, before+calc)
		}
		// The result may be written to a register that is read, and be read by the next instruction.
		folds(t, left+right+"calc "+c.fn+" r1 r1 r2; copy r4 r1", left+right+fmt.Sprintf("const r1 %d; const r4 %d", c.result, c.result))
		folds(t, left+right+"calc "+c.fn+" r2 r1 r2; copy r4 r2", left+right+fmt.Sprintf("const r2 %d; const r4 %d", c.result, c.result))
		folds(t, left+right+calc+"; copy r4 r3; copy r5 r2", left+right+fmt.Sprintf("const r3 %d; const r4 %d; const r5 %d", c.result, c.result, c.c))
		if c.b == c.c {
			folds(t, left+"calc "+c.fn+" r3 r1 r1", left+fmt.Sprint("const r3 ", c.result))
		}
	}
	// An operand that would not change the result has to be known nevertheless.
	for _, code := range []string{
		"calc sub r3 r1 r1", "calc xor r3 r1 r1", "calc eq r3 r1 r1", "calc le r1 r1 r1", "calc ne r1 r1 r1; branch r1 0",
		"const r2 0; calc mul r3 r1 r2", "const r2 0; calc and r3 r2 r1", "const r2 -1; calc or r3 r1 r2; assert r3", "const r2 -2147483648; calc le r3 r2 r1",
	} {
		folds(t, code, code)
	}
}

// limits are values at which there is something to do wrong.
var limits = []int{0, 1, 2, -1, 7, 100, 1 << 16, math.MaxInt32, math.MaxInt32 - 1, math.MinInt32, math.MinInt32 + 1}

// TestCopies checks P15.1: an OpCopy whose register is known, and one whose register is not.
func TestCopies(t *testing.T) {
	for _, v := range limits {
		set := fmt.Sprint("const r1 ", v)
		folds(t, set+"; copy r2 r1", set+fmt.Sprint("; const r2 ", v))
		folds(t, set+"; copy r1 r1", set+fmt.Sprint("; const r1 ", v))
		folds(t, set+"; copy r2 r1; copy r3 r2; copy r0 r3", set+fmt.Sprintf("; const r2 %d; const r3 %d; const r0 %d", v, v, v))
		folds(t, set+"; copy r2 r0; copy r3 r2", set+"; copy r2 r0; copy r3 r2")
		// A copy of a register that is not known makes its register unknown.
		folds(t, set+"; copy r1 r0; copy r3 r1", set+"; copy r1 r0; copy r3 r1")
		folds(t, set+"; calc add r1 r0 r1; copy r3 r1; assert r1", set+"; calc add r1 r0 r1; copy r3 r1; assert r1")
		// The value that counts is the last one.
		folds(t, "const r1 5;"+set+"; copy r2 r1; const r1 6; copy r3 r1", "const r1 5;"+set+fmt.Sprintf("; const r2 %d; const r1 6; const r3 6", v))
	}
	for r := range api.Registers {
		for s := range api.Registers {
			set, copied := fmt.Sprintf("const r%d 9;", r), fmt.Sprintf("copy r%d r%d;", s, r)
			folds(t, set+copied, set+fmt.Sprintf("const r%d 9", s))
			folds(t, copied, copied)
			if r != s {
				folds(t, fmt.Sprintf("const r%d 9;", s)+copied, fmt.Sprintf("const r%d 9;", s)+copied)
			}
		}
	}
	// Register 0 contains the argument, which is not known, and the others contain 0 when a thread begins, which does not count.
	folds(t, "copy r1 r0; copy r2 r3", "copy r1 r0; copy r2 r3")
	folds(t, "assert r0; branch r1 0", "assert r0; branch r1 0")
}

// TestBranches checks P15.1: an OpBranch and an OpAssert whose register is known to be 0, or another value, or not known, also as the last instruction.
func TestBranches(t *testing.T) {
	for _, v := range limits {
		set := fmt.Sprint("const r1 ", v, ";")
		for target := range 5 {
			branch := fmt.Sprint("branch r1 ", target)
			taken := target
			if v == 0 {
				taken = 2
			}
			// A register before the target of the branch is not known, since the target is a leader.
			if target != 1 {
				folds(t, set+branch+"; stop; stop", set+fmt.Sprintf("jump %d; stop; stop", taken))
				if target < 3 {
					folds(t, set+branch, set+fmt.Sprint("jump ", taken))
				}
			} else {
				folds(t, set+branch+"; stop; stop", set+branch+"; stop; stop")
			}
			if target < 4 {
				folds(t, "const r2 1;"+branch+";"+branch, "const r2 1;"+branch+";"+branch)
			}
		}
		if v == 0 {
			folds(t, set+"assert r1", set+"assert r1")
			folds(t, set+"assert r1; copy r2 r1; stop", set+"assert r1; const r2 0; stop")
		} else {
			folds(t, set+"assert r1", set+"jump 2")
			folds(t, set+"assert r1; copy r2 r1; stop", set+fmt.Sprintf("jump 2; const r2 %d; stop", v))
		}
	}
	for _, code := range []string{"branch r1 0", "branch r1 1", "branch r0 1; stop", "assert r1", "assert r0; stop", "const r0 1; assert r1", "const r0 1; branch r1 0", "const r0 0; branch r1 2; stop"} {
		folds(t, code, code)
	}
	// Neither writes a register.
	folds(t, "const r1 0; assert r2; copy r3 r1", "const r1 0; assert r2; const r3 0")
	folds(t, "const r0 3; const r1 0; assert r1; copy r2 r0; copy r3 r1", "const r0 3; const r1 0; assert r1; const r2 3; const r3 0")
	// The instruction behind a branch is a leader also if the branch is folded; the one behind an assertion is none, even if it becomes a jump.
	folds(t, "const r1 0; branch r1 0; copy r2 r1", "const r1 0; jump 2; copy r2 r1")
	folds(t, "const r1 4; assert r1; assert r1; copy r2 r1", "const r1 4; jump 2; jump 3; const r2 4")
	// The last of 64 instructions leads to the exit.
	fences := strings.Repeat("fence;", 62)
	folds(t, fences+"const r1 0; branch r1 3", fences+"const r1 0; jump 64")
	folds(t, fences+"const r1 1; branch r1 3", fences+"const r1 1; jump 3")
	folds(t, fences+"const r1 1; branch r1 64", fences+"const r1 1; jump 64")
	folds(t, fences+"const r1 1; assert r1", fences+"const r1 1; jump 64")
	folds(t, fences+"const r1 0; assert r1", fences+"const r1 0; assert r1")
}

// TestWrites checks P15.1 for an instruction of each operation between a constant and the instructions that read it: it makes unknown the register that it writes, and no other one, and it is unchanged.
func TestWrites(t *testing.T) {
	for _, c := range []struct {
		text  string
		write bool
	}{
		{"load r1 x relaxed", true},
		{"store x r1 plain", false},
		{"swap r1 x r2 relacq", true},
		{"fetchadd r1 x r2 plain", true},
		{"cas r1 x r2 r3 relaxed", true},
		{"cas r1 x r1 r1 relaxed", true},
		{"cas r2 x r1 r1 relaxed", false},
		{"fence", false},
		{"await r1 x eq r2 relacq", true},
		{"await r2 x eq r1 relacq", false},
		{"lock m", false},
		{"unlock m", false},
		{"trylock r1 m", true},
		{"wait c m", false},
		{"signal c", false},
		{"broadcast c", false},
		{"spawn r1 f0 r2", true},
		{"spawn r2 f0 r1", false},
		{"join r1", false},
		{"copy r1 r4", true},
		{"calc sub r1 r4 r1", true},
		{"calc sub r1 r1 r4", true},
		{"assert r4", false},
	} {
		set := "const r1 5; const r2 6; const r3 7;"
		after := ";const r5 5; jump 6"
		if c.write {
			after = ";copy r5 r1; assert r1"
		}
		folds(t, set+c.text+"; copy r5 r1; assert r1; copy r6 r3; join r6", set+c.text+after+"; const r6 7; join r6")
		// It is the same behind the constant that follows it.
		folds(t, c.text+";"+set+"copy r5 r1; assert r1", c.text+";"+set+"const r5 5; jump 6")
	}
}

// TestLeaders checks P15.1: before a leader no register is known, and behind it only those that the same block makes known.
func TestLeaders(t *testing.T) {
	for _, c := range []struct {
		before, after string
	}{
		// The target of a jump that is not reachable, of one that comes later, and of a branch.
		{"const r0 1; copy r1 r0; stop; jump 1", "const r0 1; copy r1 r0; stop; jump 1"},
		{"const r0 1; copy r1 r0; stop; jump 2", "const r0 1; const r1 1; stop; jump 2"},
		{"const r0 1; copy r1 r0; branch r7 1", "const r0 1; copy r1 r0; branch r7 1"},
		{"const r0 1; copy r1 r0; branch r7 0", "const r0 1; const r1 1; branch r7 0"},
		{"jump 2; const r0 1; copy r1 r0", "jump 2; const r0 1; copy r1 r0"},
		{"jump 1; const r0 1; copy r1 r0", "jump 1; const r0 1; const r1 1"},
		{"branch r7 2; const r0 1; copy r1 r0; copy r2 r1", "branch r7 2; const r0 1; copy r1 r0; copy r2 r1"},
		{"branch r7 3; const r0 1; copy r1 r0; copy r2 r1", "branch r7 3; const r0 1; const r1 1; copy r2 r1"},
		// The instruction behind a jump, a branch and a stop.
		{"const r0 1; jump 0; copy r1 r0", "const r0 1; jump 0; copy r1 r0"},
		{"const r0 1; jump 2; copy r1 r0", "const r0 1; jump 2; copy r1 r0"},
		{"const r0 1; branch r7 0; copy r1 r0; const r0 2; copy r1 r0", "const r0 1; branch r7 0; copy r1 r0; const r0 2; const r1 2"},
		{"const r0 1; stop; copy r1 r0", "const r0 1; stop; copy r1 r0"},
		{"const r0 1; fence; copy r1 r0", "const r0 1; fence; const r1 1"},
		// A branch to itself is a leader, and so is a jump.
		{"const r0 1; branch r0 1", "const r0 1; branch r0 1"},
		{"const r0 1; branch r0 2", "const r0 1; jump 2"},
		{"const r0 1; jump 1; copy r1 r0", "const r0 1; jump 1; copy r1 r0"},
		// What all paths to a leader have in common does not count either.
		{"const r0 1; branch r7 3; fence; copy r1 r0", "const r0 1; branch r7 3; fence; copy r1 r0"},
		// The leaders are those of the code that is folded, also where it becomes another one.
		{"const r0 0; branch r0 3; const r1 1; copy r2 r1", "const r0 0; jump 2; const r1 1; copy r2 r1"},
		{"const r0 1; assert r0; copy r1 r0", "const r0 1; jump 2; const r1 1"},
		// The N of a constant and the mutex of a wait are no targets.
		{"const r0 2; wait c n; copy r1 r0; copy r2 r0", "const r0 2; wait c n; const r1 2; const r2 2"},
		{"wait c n; const r0 3; copy r1 r0; copy r2 r0; wait d m", "wait c n; const r0 3; const r1 3; const r2 3; wait d m"},
	} {
		folds(t, c.before, c.after)
	}
}

// TestThread checks P15.2: chains of jumps, from a jump and from a branch, to the exit, in a circle, and of one jump alone.
func TestThread(t *testing.T) {
	for _, c := range []struct {
		before, after string
	}{
		{"", ""},
		{"fence", "fence"},
		{"jump 1; jump 2; jump 3; stop", "jump 3; jump 3; jump 3; stop"},
		{"jump 1; jump 2", "jump 2; jump 2"},
		{"jump 1", "jump 1"},
		{"branch r0 1", "branch r0 1"},
		{"branch r0 0", "branch r0 0"},
		{"jump 2; stop; jump 4; fence; jump 1", "jump 1; stop; jump 1; fence; jump 1"},
		{"branch r3 2; stop; jump 1", "branch r3 1; stop; jump 1"},
		{"branch r3 2; stop; jump 3", "branch r3 3; stop; jump 3"},
		{"stop; jump 0; jump 1; branch r3 2", "stop; jump 0; jump 0; branch r3 0"},
		// A branch ends a chain, and so does a jump that is no target.
		{"jump 1; branch r0 2; jump 3; stop", "jump 1; branch r0 3; jump 3; stop"},
		{"branch r0 1; branch r1 2; stop", "branch r0 1; branch r1 2; stop"},
		{"branch r0 1; jump 0", "branch r0 0; jump 0"},
		{"branch r0 2; fence; jump 0", "branch r0 0; fence; jump 0"},
		// Circles, and chains that lead into one.
		{"jump 0", "jump 0"},
		{"jump 1; jump 0", "jump 1; jump 0"},
		{"jump 1; jump 2; jump 0", "jump 1; jump 2; jump 0"},
		{"fence; jump 1; jump 1", "fence; jump 1; jump 1"},
		{"jump 1; jump 2; jump 2", "jump 1; jump 2; jump 2"},
		{"jump 1; jump 2; jump 3; jump 2", "jump 1; jump 2; jump 3; jump 2"},
		{"branch r0 2; stop; jump 3; jump 4; jump 3", "branch r0 2; stop; jump 3; jump 4; jump 3"},
		{"branch r0 1; jump 1", "branch r0 1; jump 1"},
		// One chain that ends beside one that does not.
		{"branch r0 3; branch r1 4; stop; jump 3; jump 5; jump 2", "branch r0 3; branch r1 2; stop; jump 3; jump 2; jump 2"},
		// Instructions that are not reachable are changed like others; numbers that are no targets are not.
		{"stop; jump 2; jump 0", "stop; jump 0; jump 0"},
		{"const r0 1; jump 0; wait c n; const r0 -1; const r0 100", "const r0 1; jump 0; wait c n; const r0 -1; const r0 100"},
		// A known register does not matter.
		{"const r0 1; branch r0 2; jump 0", "const r0 1; branch r0 0; jump 0"},
		{"const r0 1; assert r0; calc add r0 r0 r0; copy r1 r0", "const r0 1; assert r0; calc add r0 r0 r0; copy r1 r0"},
	} {
		threads(t, c.before, c.after)
	}
	// Chains through all instructions, up and down, to the exit, to the first instruction and in a circle.
	for length := 1; length <= 64; length++ {
		var up, down, circle, ups, downs []string
		for k := range length {
			up, ups = append(up, fmt.Sprint("jump ", k+1)), append(ups, fmt.Sprint("jump ", length))
			circle = append(circle, fmt.Sprint("jump ", (k+1)%length))
			down, downs = append(down, fmt.Sprint("jump ", k-1)), append(downs, "jump 0")
		}
		down[0], downs[0] = "fence", "fence"
		threads(t, strings.Join(up, ";"), strings.Join(ups, ";"))
		threads(t, strings.Join(down, ";"), strings.Join(downs, ";"))
		threads(t, strings.Join(circle, ";"), strings.Join(circle, ";"))
		up[0], ups[0] = "branch r5 1", fmt.Sprint("branch r5 ", length)
		threads(t, strings.Join(up, ";"), strings.Join(ups, ";"))
	}
}

// TestPrune checks P15.3: code that is not reachable before, between and behind code that is, and the targets of the rest.
func TestPrune(t *testing.T) {
	for _, c := range []struct {
		before, after string
	}{
		{"", ""},
		{"fence", "fence"},
		{"stop", "stop"},
		{"jump 0", "jump 0"},
		{"jump 1", "jump 1"},
		{"fence; stop", "fence; stop"},
		{"fence; stop; fence", "fence; stop"},
		{"jump 2; fence; stop; lock m", "jump 1; stop"},
		{"jump 0; fence; stop; lock m", "jump 0"},
		{"jump 4; fence; stop; lock m", "jump 1"},
		{"jump 3; fence; jump 5; lock m; jump 2; signal c; stop", "jump 2; jump 4; lock m; jump 1; signal c; stop"},
		{"jump 3; fence; jump 1; lock m; jump 3; signal c", "jump 1; lock m; jump 1"},
		{"jump 3; fence; unlock m; branch r1 0; branch r2 7; jump 3; fence", "jump 1; branch r1 0; branch r2 4; jump 1"},
		{"branch r1 3; stop; fence; assert r2", "branch r1 2; stop; assert r2"},
		{"branch r1 3; jump 6; fence; jump 5; fence; lock m; unlock m; stop; fence", "branch r1 2; jump 4; jump 3; lock m; unlock m; stop"},
		// A branch and an assertion whose register is known lead on in both ways.
		{"const r1 1; branch r1 3; stop; stop", "const r1 1; branch r1 3; stop; stop"},
		{"const r1 0; assert r1; stop; fence", "const r1 0; assert r1; stop"},
		// A chain of jumps stays one, without the others.
		{"jump 2; jump 1; jump 4; jump 2; jump 6; fence", "jump 1; jump 2; jump 3"},
		// Numbers that are no targets stay as they are.
		{"jump 2; fence; const r0 2; wait d n; const r1 9; stop; const r0 2", "jump 1; const r0 2; wait d n; const r1 9; stop"},
		// Jumps that are not reachable do not make their targets reachable, also in a circle.
		{"stop; jump 2; jump 1; branch r0 1", "stop"},
	} {
		prunes(t, c.before, c.after)
	}
	for n := range 63 {
		fences := strings.Repeat("fence;", n)
		prunes(t, fmt.Sprint("jump ", n+1, ";", fences, "branch r1 ", n+2), "jump 1; branch r1 2")
		prunes(t, fmt.Sprint(fences, "jump ", n/2, ";", strings.Repeat("branch r1 64;", 63-n)), fmt.Sprint(fences, "jump ", n/2))
	}
}

// TestProgram checks P15.4: functions on which one round is enough, and such on which it is not.
func TestProgram(t *testing.T) {
	for _, c := range []struct {
		before, after string
	}{
		{"", ""},
		{"stop", "stop"},
		{"load r1 x plain; branch r1 0", "load r1 x plain; branch r1 0"},
		{"const r0 0; branch r0 0", "const r0 0; jump 2"},
		{"const r0 1; branch r0 0", "const r0 1; jump 0"},
		{"const r0 1; branch r0 3; fence; jump 5; fence; jump 7; fence; lock m", "const r0 1; jump 2; lock m"},
		// A target that no reachable jump has is not a leader in the second round.
		{"const r0 1; copy r1 r0; stop; jump 1", "const r0 1; const r1 1; stop"},
		{"const r0 1; copy r1 r0; assert r1; fence; jump 6; jump 1; stop", "const r0 1; const r1 1; jump 3; fence; jump 5; stop"},
		// A jump that is no target any more is not reachable, unless the instruction before it leads to it.
		{"branch r7 3; const r0 1; stop; jump 4; copy r1 r0; stop", "branch r7 3; const r0 1; stop; copy r1 r0; stop"},
		{"branch r7 3; const r0 1; lock m; jump 4; copy r1 r0; stop", "branch r7 4; const r0 1; lock m; jump 4; copy r1 r0; stop"},
		{"branch r7 4; const r0 0; branch r0 6; stop; jump 0; fence; fence", "branch r7 0; const r0 0; jump 3; stop"},
		// Three rounds: the branch that the second one folds is the last way to the jump to the copy.
		{"const r0 1; copy r1 r0; branch r1 4; jump 5; const r2 3; copy r3 r2; stop; jump 1", "const r0 1; const r1 1; jump 3; const r2 3; const r3 3; stop"},
		// The jump that was an assertion leads to the one that was a branch.
		{"const r0 1; assert r0; branch r0 4; stop; lock m", "const r0 1; jump 2; lock m"},
		{"const r0 1; assert r0; assert r0; fence", "const r0 1; jump 2; fence"},
		// A circle of jumps stays one.
		{"const r0 1; branch r0 3; stop; jump 4; jump 3", "const r0 1; jump 2; jump 3; jump 2"},
		// An assertion that fails is kept, with what follows it.
		{"const r0 0; assert r0; copy r1 r0; stop; stop", "const r0 0; assert r0; const r1 0; stop"},
	} {
		simplifies(t, c.before, c.after)
	}
	var before, after []string
	for k := range 21 {
		// The branch is a leader as long as the jump of the part before it is there, which the branch before that skips.
		before = append(before, fmt.Sprintf("const r0 1; branch r0 %d; jump %d", 3*k+3, min(3*k+4, 63)))
		after = append(after, fmt.Sprintf("const r0 1; jump %d", 2*k+2))
	}
	simplifies(t, strings.Join(before, ";"), strings.Join(after, ";"))
}

// TestParts checks P15.4: the other parts of a program stay as they are, and functions do not influence each other.
func TestParts(t *testing.T) {
	texts := []string{"const r0 1; assert r0; spawn r1 f2 r0", "", "fence; stop; fence", "jump 2; fence; jump 3; stop; jump 0"}
	p := with(texts...)
	p.Threads = []api.Start{{Func: 3, Arg: 9}, {Func: 0, Arg: math.MinInt32}, {Func: 1}}
	want := with("const r0 1; jump 2; spawn r1 f2 r0", "", "fence; stop", "jump 1; stop")
	want.Threads = []api.Start{{Func: 3, Arg: 9}, {Func: 0, Arg: math.MinInt32}, {Func: 1}}
	simplified(t, p, want)
	for f, text := range texts {
		alone := with("", "", "", "")
		alone.Funcs[f].Code = with("", "", text).Funcs[2].Code
		q, err := Program(alone)
		same(t, "a function alone", results(q.Funcs[f], err), results(want.Funcs[f], api.OK))
	}
	// A function may have any name where it is not part of a program.
	for _, name := range []string{"", "f", "no name", strings.Repeat("long", 100)} {
		for _, c := range changes {
			changed(t, c, api.Func{Name: name, Code: of("jump 0").Code}, of("jump 0").Code)
		}
	}
}

// like returns an instruction with the given operation and, as far as it uses them, the fields of another instruction.
func like(i api.Inst, op api.Op) api.Inst {
	made := api.Inst{Op: op}
	for _, set := range []func(made *api.Inst){
		func(made *api.Inst) { made.A = i.A },
		func(made *api.Inst) { made.B = i.B },
		func(made *api.Inst) { made.C = i.C },
		func(made *api.Inst) { made.Obj = i.Obj },
		func(made *api.Inst) { made.N = i.N },
		func(made *api.Inst) { made.Fn = max(i.Fn, api.FnAdd) },
		func(made *api.Inst) { made.Order = i.Order },
	} {
		changed := made
		if set(&changed); inst.Check(changed) != api.ErrField {
			made = changed
		}
	}
	return made
}

// wrongs are instructions with an error in a function of three instructions, in a program with two variables, and one function at least.
var wrongs = []struct {
	i   api.Inst
	err api.Errno
}{
	{api.Inst{}, api.ErrOp},
	{api.Inst{Op: api.OpJoin + 1}, api.ErrOp},
	{api.Inst{Op: -1, N: 9}, api.ErrOp},
	{api.Inst{Op: api.OpConst + 256}, api.ErrOp},
	{api.Inst{Op: api.OpConst, B: 1}, api.ErrField},
	{api.Inst{Op: api.OpConst, A: 8}, api.ErrRegister},
	{api.Inst{Op: api.OpConst, A: -1, N: 1 << 31}, api.ErrRegister},
	{api.Inst{Op: api.OpConst, N: 1 << 31}, api.ErrRange},
	{api.Inst{Op: api.OpConst, N: -1<<31 - 1}, api.ErrRange},
	{api.Inst{Op: api.OpCopy, C: 1}, api.ErrField},
	{api.Inst{Op: api.OpCopy, B: 8}, api.ErrRegister},
	{api.Inst{Op: api.OpCalc}, api.ErrOp},
	{api.Inst{Op: api.OpCalc, Fn: 11}, api.ErrOp},
	{api.Inst{Op: api.OpCalc, Fn: -1}, api.ErrOp},
	{api.Inst{Op: api.OpCalc, Fn: api.FnAdd, N: 1}, api.ErrField},
	{api.Inst{Op: api.OpCalc, Fn: api.FnAdd, C: math.MaxInt}, api.ErrRegister},
	{api.Inst{Op: api.OpJump, A: 1}, api.ErrField},
	{api.Inst{Op: api.OpJump, N: -1}, api.ErrTarget},
	{api.Inst{Op: api.OpJump, N: 4}, api.ErrTarget},
	{api.Inst{Op: api.OpJump, N: math.MaxInt}, api.ErrTarget},
	{api.Inst{Op: api.OpJump, N: math.MinInt}, api.ErrTarget},
	{api.Inst{Op: api.OpBranch, B: 1, N: 4}, api.ErrTarget},
	{api.Inst{Op: api.OpBranch, B: 1, N: -1}, api.ErrTarget},
	{api.Inst{Op: api.OpBranch, B: 8, N: -1}, api.ErrRegister},
	{api.Inst{Op: api.OpBranch, A: 1, B: 8, N: -1}, api.ErrField},
	{api.Inst{Op: api.OpAssert, B: -1}, api.ErrRegister},
	{api.Inst{Op: api.OpAssert, N: 1}, api.ErrField},
	{api.Inst{Op: api.OpStop, N: 1}, api.ErrField},
	{api.Inst{Op: api.OpLoad, Order: 3}, api.ErrOrder},
	{api.Inst{Op: api.OpAwait}, api.ErrOp},
	{api.Inst{Op: api.OpFence, Order: 1}, api.ErrField},
}

// TestFunctionErrors checks the errors of P15.1 to P15.3: every faulty instruction at every place, two of which the first one counts, and too many instructions.
func TestFunctionErrors(t *testing.T) {
	for at := range 3 {
		for _, w := range wrongs {
			f := of("const r0 1; assert r0; jump 3")
			f.Code[at] = w.i
			failsFunc(t, fmt.Sprintf("%+v at %d", w.i, at), f, w.err)
			for _, v := range wrongs {
				for behind := at + 1; behind < 3; behind++ {
					f.Code[behind] = v.i
				}
				failsFunc(t, fmt.Sprintf("%+v at %d and %+v", w.i, at, v.i), f, w.err)
			}
		}
	}
	// An error counts also where no path leads to the instruction.
	f := of("stop; jump 0; jump 1")
	f.Code[2].N = 4
	failsFunc(t, "a wrong target that is not reachable", f, api.ErrTarget)
	long := of(strings.Repeat("stop;", 65))
	failsFunc(t, "65 instructions", long, api.ErrLimit)
	long.Code[0] = api.Inst{}
	failsFunc(t, "65 instructions, of which the first one is wrong", long, api.ErrLimit)
	failsFunc(t, "many instructions", api.Func{Code: make([]api.Inst, 100000)}, api.ErrLimit)
	for _, c := range changes {
		changed(t, c, of(strings.Repeat("fence;", 64)), of(strings.Repeat("fence;", 64)).Code)
	}
	// Functions do not know the objects of a program.
	f = of("load r1 x plain; lock m")
	f.Code[0].Obj, f.Code[1].Obj = 100, -1
	for _, c := range changes {
		changed(t, c, f, f.Code)
	}
}

// A fault changes a program so that it has an error.
type fault struct {
	name string
	make func(p *api.Program)
	err  api.Errno
}

// faulty is the program that faults change: its functions can be simplified.
func faulty() api.Program {
	return with("const r0 1; assert r0; branch r0 5; stop; jump 0; lock m", "wait c m; spawn r1 f0 r0; load r2 y plain; jump 5; stop; jump 6; fence")
}

// faults are changes of the program faulty, each of a part that no other one changes, in the order in which program.Check finds them.
var faults = []fault{
	{"a wrong name of a variable", func(p *api.Program) { p.Vars[1].Name = "" }, api.ErrName},
	{"a mutex twice", func(p *api.Program) { p.Mutexes[1] = "m" }, api.ErrTwice},
	{"a wrong name of a condition variable", func(p *api.Program) { p.Conds[1] = "_" }, api.ErrName},
	{"a function twice", func(p *api.Program) { p.Funcs[1].Name = "f0" }, api.ErrTwice},
	{"too many variables", func(p *api.Program) {
		for k := range 7 {
			p.Vars = append(p.Vars, api.Var{Name: fmt.Sprint("a", k)})
		}
	}, api.ErrLimit},
	{"too many functions", func(p *api.Program) {
		for k := range 7 {
			p.Funcs = append(p.Funcs, api.Func{Name: fmt.Sprint("g", k)})
		}
	}, api.ErrLimit},
	{"a wrong initial value", func(p *api.Program) { p.Vars[0].Init = 1 << 31 }, api.ErrRange},
	{"a wrong constant", func(p *api.Program) { p.Funcs[0].Code[0].N = -1<<31 - 1 }, api.ErrRange},
	{"a wrong register of a branch", func(p *api.Program) { p.Funcs[0].Code[2].B = 8 }, api.ErrRegister},
	{"a wrong target that is not reachable", func(p *api.Program) { p.Funcs[0].Code[4].N = 7 }, api.ErrTarget},
	{"no operation", func(p *api.Program) { p.Funcs[0].Code[5] = api.Inst{} }, api.ErrOp},
	{"a wrong field in function 1", func(p *api.Program) { p.Funcs[1].Code[0].A = 1 }, api.ErrField},
	{"a wrong function of a spawn", func(p *api.Program) { p.Funcs[1].Code[1].Obj = 100 }, api.ErrObject},
	{"a wrong order", func(p *api.Program) { p.Funcs[1].Code[2].Order = -1 }, api.ErrOrder},
	{"a wrong target", func(p *api.Program) { p.Funcs[1].Code[3].N = -1 }, api.ErrTarget},
	{"a wrong function of a thread", func(p *api.Program) { p.Threads[0].Func = -1 }, api.ErrObject},
	{"a wrong argument", func(p *api.Program) { p.Threads[1].Arg = -1<<31 - 1 }, api.ErrRange},
}

// TestProgramErrors checks the errors of P15.4: one fault, two and more, of which the first one counts.
func TestProgramErrors(t *testing.T) {
	simplified(t, faulty(), with("const r0 1; jump 2; lock m", "wait c m; spawn r1 f0 r0; load r2 y plain; jump 4; fence"))
	for k, x := range faults {
		p := faulty()
		x.make(&p)
		failsProgram(t, x.name, p, x.err)
		for _, y := range faults[k+1:] {
			p := faulty()
			y.make(&p)
			x.make(&p)
			failsProgram(t, x.name+" and "+y.name, p, x.err)
		}
		p = faulty()
		for _, y := range faults[k:] {
			y.make(&p)
		}
		failsProgram(t, "all faults from: "+x.name, p, x.err)
	}
	for _, w := range wrongs {
		p := with("jump 0", "const r0 1; assert r0; jump 3")
		p.Funcs[1].Code[1] = w.i
		failsProgram(t, fmt.Sprintf("%+v", w.i), p, w.err)
	}
	failsProgram(t, "65 instructions in a function", with("stop", strings.Repeat("stop;", 65)), api.ErrLimit)
	failsProgram(t, "nothing", api.Program{}, api.ErrLimit)
	short := faulty()
	short.Threads = nil
	failsProgram(t, "no threads", short, api.ErrLimit)
	short.Threads = make([]api.Start, 9)
	failsProgram(t, "too many threads", short, api.ErrLimit)
	short.Threads = []api.Start{{Func: 2}}
	failsProgram(t, "a thread without a function", short, api.ErrObject)
}

// jumps reports whether an instruction has a target.
func jumps(i api.Inst) bool {
	return i.Op == api.OpJump || i.Op == api.OpBranch
}

// isLeader reports whether instruction n of a code is a leader.
func isLeader(code []api.Inst, n int) bool {
	return n == 0 || jumps(code[n-1]) || code[n-1].Op == api.OpStop ||
		slices.ContainsFunc(code, func(i api.Inst) bool { return jumps(i) && i.N == n })
}

// before returns the registers that are known before instruction n of a code, by the definition: the instructions of its block are executed from its leader on.
func before(code []api.Inst, n int) [8]*int32 {
	first := n
	for !isLeader(code, first) {
		first--
	}
	var contents [8]*int32
	for _, i := range code[first:n] {
		result := (*int32)(nil)
		switch {
		case i.Op == api.OpConst:
			result = number(i.N)
		case i.Op == api.OpCopy:
			result = contents[i.B]
		case i.Op == api.OpCalc && contents[i.B] != nil && contents[i.C] != nil:
			result = number(calculate(i.Fn, *contents[i.B], *contents[i.C]))
		}
		if writes(i.Op) {
			contents[i.A] = result
		}
	}
	return contents
}

// number returns a place that contains a value.
func number(n int) *int32 {
	content := int32(n)
	return &content
}

// writes reports whether the operation uses A.
func writes(op api.Op) bool {
	return slices.Contains([]api.Op{api.OpConst, api.OpCopy, api.OpCalc, api.OpLoad, api.OpSwap, api.OpFetchAdd, api.OpCas, api.OpAwait, api.OpTryLock, api.OpSpawn}, op)
}

// calculate returns the result of a function on values.
func calculate(fn api.Fn, a, b int32) int {
	switch fn {
	case api.FnAdd:
		return int(a + b)
	case api.FnSub:
		return int(a - b)
	case api.FnMul:
		return int(a * b)
	case api.FnAnd:
		return int(a & b)
	case api.FnOr:
		return int(a | b)
	case api.FnXor:
		return int(a ^ b)
	}
	holds := map[api.Fn]bool{api.FnEq: a == b, api.FnNe: a != b, api.FnLt: a < b, api.FnLe: a <= b}
	if holds[fn] {
		return 1
	}
	return 0
}

// folded returns the code that Fold has to return, by P15.1.
func folded(code []api.Inst) []api.Inst {
	var all []api.Inst
	for n, i := range code {
		contents := before(code, n)
		b, c := contents[i.B], contents[i.C]
		switch {
		case i.Op == api.OpCopy && b != nil:
			i = api.Inst{Op: api.OpConst, A: i.A, N: int(*b)}
		case i.Op == api.OpCalc && b != nil && c != nil:
			i = api.Inst{Op: api.OpConst, A: i.A, N: calculate(i.Fn, *b, *c)}
		case i.Op == api.OpBranch && b != nil && *b != 0:
			i = api.Inst{Op: api.OpJump, N: i.N}
		case (i.Op == api.OpBranch && b != nil) || (i.Op == api.OpAssert && b != nil && *b != 0):
			i = api.Inst{Op: api.OpJump, N: n + 1}
		}
		all = append(all, i)
	}
	return all
}

// threaded returns the code that Thread has to return, by P15.2.
func threaded(code []api.Inst) []api.Inst {
	all := slices.Clone(code)
	for n, i := range code {
		if !jumps(i) {
			continue
		}
		seen := map[int]bool{}
		target := i.N
		for !seen[target] && target < len(code) && code[target].Op == api.OpJump {
			seen[target] = true
			target = code[target].N
		}
		if !seen[target] {
			all[n].N = target
		}
	}
	return all
}

// pruned returns the code that Prune has to return, by P15.3.
func pruned(code []api.Inst) []api.Inst {
	// The exit is the last one.
	reached := make([]bool, len(code)+1)
	reached[0] = true
	for range code {
		for n, i := range code {
			if !reached[n] {
				continue
			}
			if jumps(i) {
				reached[i.N] = true
			}
			if i.Op != api.OpJump && i.Op != api.OpStop {
				reached[n+1] = true
			}
		}
	}
	var all []api.Inst
	for n, i := range code {
		if !reached[n] {
			continue
		}
		if jumps(i) {
			removed := 0
			for k := range i.N {
				if !reached[k] {
					removed++
				}
			}
			i.N -= removed
		}
		all = append(all, i)
	}
	return all
}

// simple returns the code that Program has to give a function, by P15.4, and the number of rounds that changed it.
func simple(code []api.Inst) ([]api.Inst, int) {
	for rounds := 0; ; rounds++ {
		next := pruned(threaded(folded(code)))
		if slices.Equal(next, code) {
			return code, rounds
		}
		code = next
	}
}

// compare compares all functions of the package with their definitions for a function and for a program that contains it, and returns the number of rounds that change the function.
func compare(t *testing.T, f api.Func) int {
	t.Helper()
	changed(t, changes[0], f, folded(f.Code))
	changed(t, changes[1], f, threaded(f.Code))
	changed(t, changes[2], f, pruned(f.Code))
	p := with("", "")
	p.Funcs[1].Code = f.Code
	want := program.Clone(p)
	code, rounds := simple(f.Code)
	want.Funcs[1].Code = code
	simplified(t, p, want)
	return rounds
}

// everyFunction visits all functions of up to length instructions, of the given ones and of jumps and branches to all targets.
func everyFunction(length int, text string, visit func(f api.Func)) {
	for n := range length + 1 {
		choices := of(text).Code
		for target := range n + 1 {
			choices = append(choices, api.Inst{Op: api.OpJump, N: target}, api.Inst{Op: api.OpBranch, B: 2, N: target})
		}
		f := api.Func{Name: "g", Code: make([]api.Inst, n)}
		var build func(at int)
		build = func(at int) {
			if at == n {
				visit(f)
				return
			}
			for _, i := range choices {
				f.Code[at] = i
				build(at + 1)
			}
		}
		build(0)
	}
}

// TestEveryFunction compares all functions with their definitions for all functions of a few instructions, and checks P15.5 and P15.6 for them.
func TestEveryFunction(t *testing.T) {
	rounds := map[int]int{}
	everyFunction(3, "const r2 0; const r2 1; copy r3 r2; calc sub r2 r3 r2; assert r2; stop; load r2 x plain; store y r3 relaxed", func(f api.Func) {
		rounds[compare(t, f)]++
		unchangedAgain(t, f)
		behavesSame(t, f)
	})
	everyFunction(4, "const r2 1; assert r2; load r2 x plain", func(f api.Func) {
		rounds[compare(t, f)]++
	})
	if rounds[0] < 1000 || rounds[1] < 1000 || rounds[2] < 5 {
		t.Errorf("the functions with each number of rounds: %v", rounds)
	}
}

// TestEveryCircle checks Thread and Prune for all functions of a few jumps and branches.
func TestEveryCircle(t *testing.T) {
	functions := 0
	everyFunction(5, "stop", func(f api.Func) {
		// A function with a branch is one without it as well, as far as circles are concerned.
		if slices.IndexFunc(f.Code, func(i api.Inst) bool { return i.Op == api.OpBranch }) > 0 {
			return
		}
		changed(t, changes[1], f, threaded(f.Code))
		changed(t, changes[2], f, pruned(f.Code))
		functions++
	})
	if functions < 20000 {
		t.Errorf("only %d functions", functions)
	}
}

// random returns a random function with few registers, in which many registers are known and many jumps lead to others.
func random(source *rand.Rand) api.Func {
	length := source.Intn(source.Intn(65) + 1)
	f := api.Func{Name: fmt.Sprint("f", length)}
	values := limits
	if source.Intn(2) == 0 {
		values = []int{0, 0, 1, 2}
	}
	// Functions of many jumps and of few.
	bias := 3 + source.Intn(12)
	for n := range length {
		i := api.Inst{A: source.Intn(3), B: source.Intn(3), C: source.Intn(3), Fn: api.Fn(1 + source.Intn(10)), Order: api.Order(source.Intn(3)), Obj: source.Intn(2)}
		op := api.OpConst
		switch source.Intn(bias) {
		case 0:
			op = api.OpJump
		case 1:
			op = api.OpBranch
		case 2:
			op = []api.Op{api.OpAssert, api.OpStop, api.OpLoad, api.OpStore, api.Op(1 + source.Intn(22))}[source.Intn(5)]
		case 3, 4:
			op = api.OpCopy
		case 5, 6, 7:
			op = api.OpCalc
		}
		switch {
		case op == api.OpConst:
			i.N = values[source.Intn(len(values))]
		case op != api.OpJump && op != api.OpBranch:
			i.N = source.Intn(2)
		case source.Intn(3) == 0:
			i.N = source.Intn(length + 1)
		default:
			i.N = min(n+1+source.Intn(5), length)
		}
		i = like(i, op)
		if op == api.OpSpawn {
			i.Obj = 0
		}
		f.Code = append(f.Code, i)
	}
	return f
}

// skips inserts branches into a random function that always skip a jump to what follows, which is thus a leader only at first.
func skips(source *rand.Rand, f api.Func) api.Func {
	for at := 0; at+3 < len(f.Code); at += 1 + source.Intn(6) {
		r, next := source.Intn(3), min(at+3+source.Intn(4), len(f.Code))
		copy(f.Code[at:], []api.Inst{{Op: api.OpConst, A: r, N: 1}, {Op: api.OpBranch, B: r, N: at + 3}, {Op: api.OpJump, N: next}})
	}
	return f
}

// samples returns random functions.
func samples(count int) []api.Func {
	source := rand.New(rand.NewSource(15))
	var all []api.Func
	for k := range count {
		f := random(source)
		if k%4 == 0 {
			f = skips(source, f)
		}
		all = append(all, f)
	}
	return all
}

// TestSamples compares all functions with their definitions for random functions, and checks P15.5 and P15.6 for them.
func TestSamples(t *testing.T) {
	rounds, runs := map[int]int{}, 0
	for _, f := range samples(6000) {
		rounds[compare(t, f)]++
		unchangedAgain(t, f)
		runs += behavesSame(t, f)
	}
	if rounds[1] < 1000 || rounds[2] < 100 || rounds[3] < 3 {
		t.Errorf("the functions with each number of rounds: %v", rounds)
	}
	if runs < 10000 {
		t.Errorf("only %d runs end without ErrLoop", runs)
	}
}

// TestPrograms compares Program with the definition for random programs of several functions.
func TestPrograms(t *testing.T) {
	all := samples(1000)
	for k := range slices.Chunk(all, 8) {
		p := with(slices.Repeat([]string{""}, len(k))...)
		want := program.Clone(p)
		for f := range p.Funcs {
			p.Funcs[f].Code = k[f].Code
			want.Funcs[f].Code, _ = simple(k[f].Code)
		}
		simplified(t, p, want)
	}
}

// unchangedAgain fails if P15.6 does not hold for a function.
func unchangedAgain(t *testing.T, f api.Func) {
	t.Helper()
	for _, c := range changes[1:] {
		g, _ := c.apply(f)
		changed(t, c, g, g.Code)
	}
	p := with("")
	p.Funcs[0].Code = f.Code
	q, err := Program(p)
	if err != api.OK || !program.Valid(q) || len(q.Funcs[0].Code) > len(f.Code) {
		t.Fatalf("Program(%+v): %+v, %d", p, q, err)
	}
	simplified(t, q, q)
	// Nothing is left to do for any of the three.
	for _, c := range changes {
		changed(t, c, q.Funcs[0], q.Funcs[0].Code)
	}
}

// A step is a visible instruction with the registers before it.
type step struct {
	inst      api.Inst
	registers [8]int
}

// A history is what an execution of a function shows: its visible instructions, how it ends, and the registers then.
type history struct {
	steps     []step
	end       string
	registers [8]int
}

// execute executes a function from the given registers. A visible instruction that writes a register writes the next one of the answers, and after the last answer the execution ends.
func execute(code []api.Inst, registers [8]int, answers []int) history {
	var h history
	locals := 0
	for at := 0; h.end == ""; {
		if at == len(code) {
			h.end = "exit"
			break
		}
		i := code[at]
		at++
		if locals++; inst.Visible(i.Op) {
			locals = 0
		}
		switch {
		case locals > api.MaxLocal:
			h.end = "loop"
		case inst.Visible(i.Op) && len(h.steps) == len(answers):
			h.end = "cut"
		case inst.Visible(i.Op):
			h.steps = append(h.steps, step{i, registers})
			if writes(i.Op) {
				registers[i.A] = answers[len(h.steps)-1]
			}
		case i.Op == api.OpConst:
			registers[i.A] = i.N
		case i.Op == api.OpCopy:
			registers[i.A] = registers[i.B]
		case i.Op == api.OpCalc:
			registers[i.A] = calculate(i.Fn, int32(registers[i.B]), int32(registers[i.C]))
		case i.Op == api.OpJump, i.Op == api.OpBranch && registers[i.B] != 0:
			at = i.N
		case i.Op == api.OpAssert && registers[i.B] == 0:
			h.end = "assert"
		case i.Op == api.OpStop:
			h.end = "stop"
		}
	}
	h.registers = registers
	// A function that stops and one that comes to its end finish alike.
	if h.end == "stop" {
		h.end = "exit"
	}
	return h
}

// behavesSame fails if P15.5 does not hold for a function, and returns the number of executions that did not fail with ErrLoop.
func behavesSame(t *testing.T, f api.Func) int {
	t.Helper()
	p := with("")
	p.Funcs[0].Code = f.Code
	q, err := Program(p)
	if err != api.OK {
		t.Fatalf("Program(%+v): %d", p, err)
	}
	executions := 0
	for k := range 6 {
		registers := [8]int{limits[k], limits[k*2%11], limits[(k+3)%11], 0, 0, k, -k, 4}
		var answers []int
		for j := range 20 {
			answers = append(answers, limits[(j*k+j)%11])
		}
		want := execute(f.Code, registers, answers)
		if want.end == "loop" {
			continue
		}
		executions++
		for _, c := range append(changes, change{"Program", func(api.Func) (api.Func, api.Errno) { return q.Funcs[0], api.OK }}) {
			g, _ := c.apply(f)
			got := execute(g.Code, registers, answers)
			if !slices.Equal(got.steps, want.steps) || got.end != want.end || got.registers != want.registers {
				t.Fatalf("%s(%+v): %+v, executed from %v: %+v, want %+v", c.name, f, g, registers, got, want)
			}
		}
	}
	return executions
}

// TestLoop checks P15.5 for executions at the bound of local instructions: a simplification has no more of them than its function.
func TestLoop(t *testing.T) {
	// Every round has five local instructions, of which the simplification saves one. There are as many rounds as register 0 says.
	f := of("const r1 1; jump 3; stop; jump 4; calc sub r0 r0 r1; branch r0 0; stop")
	for rounds := 1; rounds < 80; rounds++ {
		registers := [8]int{rounds}
		want := execute(f.Code, registers, nil)
		q, _ := Program(api.Program{Funcs: []api.Func{f}, Threads: []api.Start{{}}})
		got := execute(q.Funcs[0].Code, registers, nil)
		if want.end == "exit" && results(got) != results(want) || (want.end == "loop") != (rounds > 51) {
			t.Fatalf("%d rounds: %+v, want %+v", rounds, got, want)
		}
	}
}

// spacious returns a copy of a program whose lists have memory behind their ends.
func spacious(p api.Program) api.Program {
	p.Vars = append(append(make([]api.Var, 0, len(p.Vars)+3), p.Vars...), api.Var{Name: "hidden"})[:len(p.Vars)]
	p.Mutexes = append(append(make([]string, 0, len(p.Mutexes)+3), p.Mutexes...), "hidden")[:len(p.Mutexes)]
	p.Conds = append(append(make([]string, 0, len(p.Conds)+3), p.Conds...), "hidden")[:len(p.Conds)]
	p.Threads = append(append(make([]api.Start, 0, len(p.Threads)+3), p.Threads...), api.Start{Func: 9})[:len(p.Threads)]
	funcs := make([]api.Func, 0, len(p.Funcs)+3)
	for _, f := range p.Funcs {
		f.Code = append(append(make([]api.Inst, 0, len(f.Code)+3), f.Code...), api.Inst{Op: api.OpJump, N: 1})[:len(f.Code)]
		funcs = append(funcs, f)
	}
	p.Funcs = append(funcs, api.Func{Name: "hidden", Code: of("stop").Code})[:len(funcs)]
	return p
}

// whole is the text of a program with the memory behind the ends of its lists.
func whole(p api.Program) string {
	text := results(p.Vars[:cap(p.Vars)], p.Mutexes[:cap(p.Mutexes)], p.Conds[:cap(p.Conds)], p.Threads[:cap(p.Threads)])
	for _, f := range p.Funcs[:cap(p.Funcs)] {
		text += results(f.Name, len(f.Code), f.Code[:cap(f.Code)])
	}
	return text
}

// fill overwrites a list and the memory behind it.
func fill[T any](list []T, element T) {
	for k := range list[:cap(list)] {
		list[:cap(list)][k] = element
	}
}

// overwrite changes all memory of a program, also that behind the ends of its lists.
func overwrite(p api.Program) {
	for _, f := range p.Funcs[:cap(p.Funcs)] {
		fill(f.Code, api.Inst{Op: 55, A: 55, B: 55, C: 55, Obj: 55, N: 55, Fn: 55, Order: 55})
	}
	fill(p.Vars, api.Var{Name: "other", Init: 55})
	fill(p.Mutexes, "other")
	fill(p.Conds, "other")
	fill(p.Funcs, api.Func{Name: "other"})
	fill(p.Threads, api.Start{Func: 55, Arg: 55})
}

// programs returns random programs, small ones and such with a fault.
func programs() []api.Program {
	all := []api.Program{faulty(), with(""), with("fence"), with("stop; stop"), with("jump 0"), with("load r1 x plain", "const r0 1; branch r0 0")}
	for k := range slices.Chunk(samples(240), 6) {
		p := with(slices.Repeat([]string{""}, len(k))...)
		for f := range p.Funcs {
			p.Funcs[f].Code = k[f].Code
		}
		all = append(all, p)
	}
	for _, x := range faults {
		p := faulty()
		x.make(&p)
		all = append(all, p)
	}
	return all
}

// TestMemory checks that programs stay as they are, that results are new memory, and that nothing is kept.
func TestMemory(t *testing.T) {
	for _, original := range programs() {
		p := spacious(original)
		kept := whole(p)
		q, err := Program(p)
		want := results(q, err)
		overwrite(q)
		same(t, "the program after Program and after its result was overwritten", whole(p), kept)
		q, err = Program(p)
		overwrite(p)
		same(t, "Program after its result was overwritten, and its result after the program was", results(q, err), want)
		for _, c := range changes {
			p := spacious(original)
			kept := whole(p)
			for _, f := range p.Funcs {
				g, err := c.apply(f)
				want := results(g, err)
				fill(g.Code, api.Inst{Op: 55})
				same(t, "the program after "+c.name+" and after its result was overwritten", whole(p), kept)
				g, err = c.apply(f)
				h, _ := c.apply(f)
				fill(h.Code, api.Inst{Op: 55})
				code := slices.Clone(f.Code)
				fill(f.Code, api.Inst{Op: 55})
				same(t, c.name+" after its result was overwritten, and its result after its argument was", results(g, err), want)
				copy(f.Code[:len(code)], code)
				kept = whole(p)
			}
		}
	}
}

// TestSharedCode checks P15.4 for functions that share memory: they do not share it in the result.
func TestSharedCode(t *testing.T) {
	p := with("const r0 1; copy r1 r0; stop; jump 1", "", "")
	code := p.Funcs[0].Code
	p.Funcs[1].Code, p.Funcs[2].Code = code[:2], code[:2]
	kept := results(p)
	want := with("const r0 1; const r1 1; stop", "const r0 1; const r1 1", "const r0 1; const r1 1")
	simplified(t, p, want)
	same(t, "the program", results(p), kept)
	q, _ := Program(p)
	fill(q.Funcs[1].Code, api.Inst{Op: 55})
	same(t, "a function after another one was overwritten", results(q.Funcs[2].Code), results(want.Funcs[2].Code))
}

// FuzzSimplify compares all functions with their definitions for the functions whose instructions are triples of bytes: an operation, registers and a function on values, and a number.
func FuzzSimplify(f *testing.F) {
	// The example of the chapter, jumps in a circle, and an invalid instruction.
	f.Add([]byte{1, 0, 2, 1, 1, 3, 3, 66, 1, 5, 16, 0, 7, 0, 0})
	f.Add([]byte{4, 0, 1, 4, 0, 2, 4, 0, 1, 5, 8, 0, 1, 0, 1, 6, 0, 0})
	f.Add([]byte{1, 0, 1, 9, 255, 255})
	f.Fuzz(func(t *testing.T, data []byte) {
		g := api.Func{Name: "g"}
		for bytes := range slices.Chunk(data, 3) {
			bytes = append(slices.Clone(bytes), 0, 0)
			registers, last := int(bytes[1]), int(bytes[2])
			i := api.Inst{A: registers % 8, B: registers / 8 % 8, C: registers / 64, N: int(int8(bytes[2])), Fn: api.Fn(last), Order: api.Order(last % 4)}
			g.Code = append(g.Code, like(i, api.Op(bytes[0])))
		}
		p := with("", "")
		p.Funcs[1].Code = g.Code
		if err, _, _ := program.Check(p); err != api.OK {
			failsProgram(t, "random instructions", p, err)
			return
		}
		compare(t, g)
		unchangedAgain(t, g)
		behavesSame(t, g)
	})
}
