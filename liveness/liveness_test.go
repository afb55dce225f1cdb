package liveness

import (
	"fmt"
	"math"
	"math/rand"
	"slices"
	"strings"
	"testing"

	"modelcheck/api"
	"modelcheck/asm"
	"modelcheck/cfg"
	"modelcheck/inst"
)

// of returns the function with the instructions of a text, between semicolons. They can name the variables x and y, the mutex m, the condition variable c and the function f.
func of(text string) api.Func {
	p := api.Program{
		Vars:    []api.Var{{Name: "x"}, {Name: "y"}},
		Mutexes: []string{"m"},
		Conds:   []string{"c"},
		Funcs:   []api.Func{{Name: "f"}},
		Threads: []api.Start{{}},
	}
	f := api.Func{Name: "f"}
	for _, line := range strings.FieldsFunc(text, func(r rune) bool { return r == ';' }) {
		i, fault := asm.Instruction(p, line)
		if fault != (api.Fault{}) {
			panic(fmt.Sprint(line, " is no instruction: ", fault))
		}
		f.Code = append(f.Code, i)
	}
	return f
}

// results returns the results of a call as one text, in which nil and empty slices are the same.
func results(all ...any) string {
	return fmt.Sprint(all...)
}

// same fails if the results of a call are not the ones that are wanted.
func same(t *testing.T, call string, got, want string) {
	t.Helper()
	if got != want {
		t.Fatalf("%s: %s, want %s", call, got, want)
	}
}

// upTo returns the numbers from 0 to n - 1.
func upTo(n int) []int {
	var all []int
	for k := range n {
		all = append(all, k)
	}
	return all
}

// A call is a call of a function of the package, by its name, with its results.
type call struct {
	name, results string
}

// calls returns the calls of all functions of the package for f, After for the given instructions.
func calls(f api.Func, at ...int) []call {
	before, err := Before(f)
	all := []call{{"Before", results(before, err)}}
	for _, k := range at {
		after, err := After(f, k)
		all = append(all, call{results("After ", k), results(after, err)})
	}
	dead, err := Dead(f)
	all = append(all, call{"Dead", results(dead, err)})
	pressure, err := Pressure(f)
	return append(all, call{"Pressure", results(pressure, err)})
}

// sameCalls fails if the calls for f are not the ones that are wanted.
func sameCalls(t *testing.T, f api.Func, got, want []call) {
	t.Helper()
	if slices.Equal(got, want) {
		return
	}
	for k := range got {
		same(t, fmt.Sprintf("%s of %v", got[k].name, f.Code), got[k].results, want[k].results)
	}
	t.Fatalf("%d calls of %v, want %d", len(got), f.Code, len(want))
}

// failed returns the calls for a function with the given error.
func failed(err api.Errno, at ...int) []call {
	all := []call{{"Before", results([][]int{}, err)}}
	for _, k := range at {
		all = append(all, call{results("After ", k), results([]int{}, err)})
	}
	return append(all, call{"Dead", results([]int{}, err)}, call{"Pressure", results(0, err)})
}

// TestExample checks the example of the chapter, with and without instruction 1.
func TestExample(t *testing.T) {
	f := of("const r0 1; copy r1 r0; const r0 2")
	sameCalls(t, f, calls(f, 0, 1, 2), []call{
		{"Before", "[[] [0] []] 0"}, {"After 0", "[0] 0"}, {"After 1", "[] 0"}, {"After 2", "[] 0"}, {"Dead", "[] 0"}, {"Pressure", "1 0"},
	})
	f = of("const r0 1; const r0 2")
	sameCalls(t, f, calls(f, 0, 1), []call{
		{"Before", "[[] []] 0"}, {"After 0", "[] 0"}, {"After 1", "[] 0"}, {"Dead", "[0] 0"}, {"Pressure", "0 0"},
	})
}

// An operation is an instruction, as the text of the first one of a function, with the registers that it reads and those that it writes.
type operation struct {
	text          string
	reads, writes []int
}

// operations returns an instruction of each operation, and some that read a register that they also write.
func operations() []operation {
	return []operation{
		{"const r5 3", nil, []int{5}},
		{"copy r5 r2", []int{2}, []int{5}},
		{"calc sub r5 r6 r2", []int{2, 6}, []int{5}},
		{"jump 1", nil, nil},
		{"branch r2 1", []int{2}, nil},
		{"assert r2", []int{2}, nil},
		{"stop", nil, nil},
		{"load r5 x relaxed", nil, []int{5}},
		{"store x r2 plain", []int{2}, nil},
		{"swap r5 x r2 relacq", []int{2}, []int{5}},
		{"fetchadd r5 x r2 plain", []int{2}, []int{5}},
		{"cas r5 x r6 r2 relaxed", []int{2, 6}, []int{5}},
		{"fence", nil, nil},
		{"await r5 x eq r2 relacq", []int{2}, []int{5}},
		{"lock m", nil, nil},
		{"unlock m", nil, nil},
		{"trylock r5 m", nil, []int{5}},
		{"wait c m", nil, nil},
		{"signal c", nil, nil},
		{"broadcast c", nil, nil},
		{"spawn r5 f r2", []int{2}, []int{5}},
		{"join r2", []int{2}, nil},
		{"const r0 0", nil, []int{0}},
		{"copy r0 r7", []int{7}, []int{0}},
		{"copy r4 r4", []int{4}, []int{4}},
		{"calc add r4 r4 r1", []int{1, 4}, []int{4}},
		{"calc add r4 r1 r4", []int{1, 4}, []int{4}},
		{"calc xor r4 r4 r4", []int{4}, []int{4}},
		{"calc le r4 r3 r3", []int{3}, []int{4}},
		{"swap r7 y r7 plain", []int{7}, []int{7}},
		{"fetchadd r0 y r0 plain", []int{0}, []int{0}},
		{"cas r3 y r3 r2 plain", []int{2, 3}, []int{3}},
		{"cas r3 y r2 r3 plain", []int{2, 3}, []int{3}},
		{"cas r3 y r3 r3 plain", []int{3}, []int{3}},
		{"await r6 y le r6 plain", []int{6}, []int{6}},
		{"spawn r1 f r1", []int{1}, []int{1}},
	}
}

// first fails if other registers are live before and after the first instruction of a function than those that are wanted, or if it is dead and should not be, or the other way round.
func first(t *testing.T, text string, before, after []int, isDead bool) {
	t.Helper()
	f := of(text)
	sets, err := Before(f)
	same(t, "Before "+text, results(sets[:1], err), results([][]int{before}, api.OK))
	behind, err := After(f, 0)
	same(t, "After 0 of "+text, results(behind, err), results(after, api.OK))
	dead, err := Dead(f)
	same(t, "whether Dead has the first instruction of "+text, results(slices.Contains(dead, 0), err), results(isDead, api.OK))
}

// TestOperations checks P13.1 to P13.3 for an instruction of each operation: before others that read all registers, before others that write all of them, and at the exit.
func TestOperations(t *testing.T) {
	reading := "; assert r0; assert r1; assert r2; assert r3; assert r4; assert r5; assert r6; assert r7; const r0 0"
	writing := "; load r0 x plain; load r1 x plain; load r2 x plain; load r3 x plain; load r4 x plain; load r5 x plain; load r6 x plain; load r7 x plain"
	seen := map[string]bool{}
	for _, o := range operations() {
		name, _, _ := strings.Cut(o.text, " ")
		seen[name] = true
		if name == "stop" {
			first(t, o.text+reading, nil, nil, false)
		} else {
			isLive := func(r int) bool { return slices.Contains(o.reads, r) || !slices.Contains(o.writes, r) }
			before := slices.DeleteFunc(upTo(8), func(r int) bool { return !isLive(r) })
			first(t, o.text+reading, before, upTo(8), false)
		}
		first(t, o.text+writing, o.reads, nil, slices.Contains([]string{"const", "copy", "calc"}, name))
		first(t, o.text, o.reads, nil, false)
	}
	for op := api.OpConst; op <= api.OpJoin; op++ {
		if !seen[inst.Mnemonic(op)] {
			t.Errorf("there is no instruction with the operation %s", inst.Mnemonic(op))
		}
	}
}

// wanted returns the calls of a function, given the registers that are live before and after each instruction, the dead instructions and the pressure.
func wanted(before, after, dead string, pressure int) []call {
	all := []call{{"Before", "[" + before + "] 0"}}
	for k, registers := range strings.SplitAfter(after, "]") {
		if registers != "" {
			all = append(all, call{results("After ", k), strings.TrimSpace(registers) + " 0"})
		}
	}
	return append(all, call{"Dead", "[" + dead + "] 0"}, call{"Pressure", results(pressure, api.OK)})
}

// TestFunctions checks P13.1 to P13.4 for functions of each form.
func TestFunctions(t *testing.T) {
	for _, c := range []struct {
		form, code, before, after, dead string
		pressure                        int
	}{
		{"no instructions", "", "", "", "", 0},
		{"one that reads", "assert r3", "[3]", "[]", "", 1},
		{"one that writes, at the exit", "const r0 1", "[]", "[]", "", 0},
		{"one that reads and writes, at the exit", "calc add r0 r0 r1", "[0 1]", "[]", "", 2},
		{"a stop", "stop", "[]", "[]", "", 0},
		{"a jump to itself", "jump 0", "[]", "[]", "", 0},
		{"a branch to itself", "branch r5 0", "[5]", "[5]", "", 1},
		{"a line", "const r1 5; const r2 6; calc add r3 r1 r2; assert r3", "[] [1] [1 2] [3]", "[1] [1 2] [3] []", "", 2},
		{"a register that becomes live before others", "copy r7 r6; copy r6 r7; calc add r6 r7 r0", "[0 6] [0 7] [0 7]", "[0 7] [0 7] []", "1", 2},
		{"a register that is read and written again and again", "calc add r1 r1 r2; copy r1 r1; calc mul r1 r1 r1; assert r1", "[1 2] [1] [1] [1]", "[1] [1] [1] []", "", 2},
		{"a register that is never read", "const r1 1; load r2 x plain; assert r2", "[] [] [2]", "[] [2] []", "", 1},
		{"a register that is never read, before a stop", "const r1 1; stop", "[] []", "[] []", "", 0},
		{"a register that is never read, before a jump to the exit", "const r1 1; jump 2", "[] []", "[] []", "", 0},
		{"overwritten by a local instruction", "const r1 1; fence; const r1 2; assert r1", "[] [] [] [1]", "[] [] [1] []", "0", 1},
		{"overwritten by a visible instruction", "const r1 1; load r1 x plain; assert r1", "[] [] [1]", "[] [1] []", "0", 1},
		{"overwritten after the last reading", "const r1 1; assert r1; const r1 2", "[] [1] []", "[1] [] []", "", 1},
		{"overwritten by an instruction that reads it", "const r1 1; cas r1 x r1 r2 relacq; const r1 2", "[2] [1 2] []", "[1 2] [] []", "", 2},
		{"overwritten by a copy to itself", "const r1 1; copy r1 r1; const r1 2", "[] [1] []", "[1] [] []", "1", 1},
		{"overwritten twice", "const r1 1; copy r1 r0; calc eq r1 r0 r0; const r1 4", "[0] [0] [0] []", "[0] [0] [] []", "0 1 2", 1},
		{"visible instructions without a use", "load r1 x plain; trylock r1 m; await r1 x eq r2 plain; spawn r1 f r2; const r1 1", "[2] [2] [2] [2] []", "[2] [2] [2] [] []", "", 1},
		{"read only by a dead one", "const r0 1; copy r1 r0; const r1 2; const r0 3", "[] [0] [] []", "[0] [] [] []", "1", 1},
		{"every register at once", "copy r0 r1; copy r1 r0; cas r2 x r3 r4 plain; calc add r5 r5 r0; calc add r6 r6 r7; calc add r7 r1 r2; calc add r7 r3 r4; calc add r7 r5 r6",
			"[1 3 4 5 6 7] [0 3 4 5 6 7] [0 1 3 4 5 6 7] [0 1 2 3 4 5 6 7] [1 2 3 4 5 6 7] [1 2 3 4 5 6] [3 4 5 6] [5 6]",
			"[0 3 4 5 6 7] [0 1 3 4 5 6 7] [0 1 2 3 4 5 6 7] [1 2 3 4 5 6 7] [1 2 3 4 5 6] [3 4 5 6] [5 6] []", "5 6", 8},
		{"many registers", "calc add r0 r1 r2; calc add r3 r4 r5; calc add r6 r7 r0; calc add r0 r3 r6; assert r0", "[1 2 4 5 7] [0 4 5 7] [0 3 7] [3 6] [0]", "[0 4 5 7] [0 3 7] [3 6] [0] []", "", 5},
		{"two sides", "branch r0 3; assert r1; stop; assert r2", "[0 1 2] [1] [] [2]", "[1 2] [] [] []", "", 3},
		{"two sides that read the same", "const r3 1; branch r0 4; assert r3; stop; assert r3", "[0] [0 3] [3] [] [3]", "[0 3] [3] [] [] []", "", 2},
		{"two sides, of which one writes", "const r3 1; branch r0 3; const r3 2; assert r3", "[0] [0 3] [] [3]", "[0 3] [3] [3] []", "", 2},
		{"two sides, of which both write", "const r3 1; branch r0 4; const r3 2; jump 5; load r3 y plain; assert r3", "[0] [0] [] [3] [] [3]", "[0] [] [3] [3] [3] []", "0", 1},
		{"two sides, of which the near one reaches the exit", "const r3 1; branch r0 3; stop; const r3 2", "[0] [0] [] []", "[0] [] [] []", "", 1},
		{"two sides, of which the far one reaches the exit", "const r3 1; branch r0 3; const r3 2", "[0] [0] []", "[0] [] []", "", 1},
		{"two sides, of which one has no end and the other writes", "const r3 1; branch r0 3; jump 2; const r3 2", "[0] [0] [] []", "[0] [] [] []", "0", 1},
		{"two sides, of which one has no end and the other reads", "const r3 1; branch r0 3; jump 2; assert r3", "[0] [0 3] [] [3]", "[0 3] [3] [] []", "", 2},
		{"a branch to the next", "const r3 1; branch r3 2; const r3 2", "[] [3] []", "[3] [] []", "", 1},
		{"a jump over a reading", "const r3 1; jump 3; assert r3; const r3 2", "[] [] [3] []", "[] [] [] []", "0", 1},
		{"a jump over a writing", "const r3 1; jump 3; const r3 2; assert r3", "[] [3] [] [3]", "[3] [3] [3] []", "", 1},
		{"a jump back", "jump 3; assert r1; stop; const r1 1; jump 1", "[] [1] [] [] [1]", "[] [] [] [1] [1]", "", 1},
		{"a counter in a loop", "const r1 1; calc sub r0 r0 r1; branch r0 1; stop", "[0] [0 1] [0 1] []", "[0 1] [0 1] [0 1] []", "", 2},
		{"live around the back edge", "branch r0 4; assert r1; const r1 7; jump 0; stop", "[0 1] [0 1] [0] [0 1] []", "[0 1] [0] [0 1] [0 1] []", "", 2},
		{"live around the back edges of nested loops", "assert r6; branch r0 0; assert r5; branch r1 0; assert r4; branch r2 0", "[0 1 2 4 5 6] [0 1 2 4 5 6] [0 1 2 4 5 6] [0 1 2 4 5 6] [0 1 2 4 5 6] [0 1 2 4 5 6]",
			"[0 1 2 4 5 6] [0 1 2 4 5 6] [0 1 2 4 5 6] [0 1 2 4 5 6] [0 1 2 4 5 6] [0 1 2 4 5 6]", "", 6},
		{"written first in a loop", "const r1 1; load r1 x plain; branch r1 1; stop", "[] [] [1] []", "[] [1] [] []", "0", 1},
		{"written last in a loop", "assert r1; const r1 1; jump 0", "[1] [] [1]", "[] [1] [1]", "", 1},
		{"written twice in a loop", "const r1 1; assert r2; const r1 2; jump 0", "[2] [2] [2] [2]", "[2] [2] [2] [2]", "0 2", 1},
		{"a loop without end", "const r0 1; jump 1", "[] []", "[] []", "0", 0},
		{"a loop without end around it", "const r0 1; jump 0", "[] []", "[] []", "0", 0},
		{"a loop without end that reads it", "const r0 1; assert r0; jump 1", "[] [0] [0]", "[0] [0] [0]", "", 1},
		{"a loop without end that reads another one", "const r0 1; assert r1; jump 1", "[1] [1] [1]", "[1] [1] [1]", "0", 1},
		{"a visible one before a loop without end", "load r0 x plain; jump 1", "[] []", "[] []", "", 0},
		{"not reachable", "stop; assert r4; const r2 1; const r2 2; copy r3 r2", "[] [4] [] [] [2]", "[] [] [] [2] []", "2", 1},
		{"a reading that is not reachable", "const r4 1; jump 3; assert r4; const r4 2", "[] [] [4] []", "[] [] [] []", "0", 1},
		{"a loop that is not reachable", "stop; assert r1; calc add r2 r3 r2; jump 1", "[] [1 2 3] [1 2 3] [1 2 3]", "[] [1 2 3] [1 2 3] [1 2 3]", "", 3},
	} {
		t.Run(c.form, func(t *testing.T) {
			f := of(c.code)
			sameCalls(t, f, calls(f, upTo(len(f.Code))...), wanted(c.before, c.after, c.dead, c.pressure))
		})
	}
}

// TestLengths checks functions of up to MaxCode instructions, and that longer ones are refused.
func TestLengths(t *testing.T) {
	for _, length := range []int{2, 3, 4, 7, 31, 32, 33, 62, 63, 64} {
		// The sets of all instructions but one.
		none, live := strings.Repeat("[] ", length-1), strings.Repeat("[7] ", length-1)
		back := of("assert r7")
		for k := range length - 1 {
			back.Code = append(back.Code, api.Inst{Op: api.OpJump, N: k})
		}
		for _, c := range []struct {
			f    api.Func
			want []call
		}{
			{long("const r7 1", length-2, "assert r7"), wanted("[] "+live[:len(live)-1], live+"[]", "", 1)},
			{long("const r7 1", length-2, "const r7 1"), wanted(none+"[]", none+"[]", "0", 0)},
			{long("const r7 1", length-2, "stop"), wanted(none+"[]", none+"[]", "", 0)},
			{long("const r7 1", length-2, "jump 0"), wanted(none+"[]", none+"[]", "0", 0)},
			{long("const r7 1", length-2, "branch r7 0"), wanted("[] "+live[:len(live)-1], live+"[]", "", 1)},
			{long("assert r7", length-2, "const r7 1"), wanted("[7] "+none[:len(none)-1], none+"[]", "", 1)},
			{long("assert r7", length-2, "jump 0"), wanted(live+"[7]", live+"[7]", "", 1)},
			{back, wanted(live+"[7]", live+"[7]", "", 1)},
		} {
			sameCalls(t, c.f, calls(c.f, upTo(length)...), c.want)
		}
	}
	for _, length := range []int{65, 66, 128, 1000, 100000} {
		f := long("const r7 1", length-2, "assert r7")
		sameCalls(t, f, calls(f, 0, length-1, length, -1), failed(api.ErrLimit, 0, length-1, length, -1))
	}
}

// long returns a function with the given number of fences between its first and its last instruction.
func long(first string, fences int, last string) api.Func {
	f := of(first)
	f.Code = append(f.Code, slices.Repeat(of("fence").Code, fences)...)
	f.Code = append(f.Code, of(last).Code...)
	return f
}

// outside returns numbers that are not from 0 to count - 1, where count is at most 64.
func outside(count int) []int {
	return []int{-1, -2, -count - 1, count, count + 1, 2*count + 1, 64, 65, 1 << 32, math.MinInt, math.MaxInt, math.MinInt + 1}
}

// TestAfterOutside checks P13.2: numbers that are no instructions.
func TestAfterOutside(t *testing.T) {
	for _, f := range []api.Func{of(""), of("stop"), of("assert r0; branch r1 0"), of("jump 3; jump 0; jump 1"), long("assert r1", 61, "jump 0"), long("assert r1", 62, "jump 0")} {
		for _, at := range outside(len(f.Code)) {
			after, err := After(f, at)
			same(t, fmt.Sprintf("After(%v, %d)", f.Code, at), results(after, err), results([]int{}, api.ErrRange))
		}
		for at := range f.Code {
			if after, err := After(f, at); err != api.OK {
				t.Errorf("After(%v, %d): %v, %v", f.Code, at, after, err)
			}
		}
	}
}

// A fault is an instruction with an error, by the length of the function.
type fault struct {
	i   func(length int) api.Inst
	err api.Errno
}

// faults are instructions with each error.
func faults() []fault {
	var all []fault
	add := func(err api.Errno, wrong ...api.Inst) {
		for _, i := range wrong {
			all = append(all, fault{func(int) api.Inst { return i }, err})
		}
	}
	add(api.ErrOp, api.Inst{}, api.Inst{Op: -1}, api.Inst{Op: 23}, api.Inst{Op: 256 + 1}, api.Inst{Op: math.MaxInt}, api.Inst{Op: math.MinInt})
	add(api.ErrField, api.Inst{Op: api.OpConst, B: 1}, api.Inst{Op: api.OpAssert, A: 1}, api.Inst{Op: api.OpStop, N: 1}, api.Inst{Op: api.OpLock, C: 1})
	add(api.ErrRegister, api.Inst{Op: api.OpCopy, A: 8}, api.Inst{Op: api.OpCopy, B: -1}, api.Inst{Op: api.OpConst, A: -8}, api.Inst{Op: api.OpCas, C: 8})
	add(api.ErrOrder, api.Inst{Op: api.OpLoad, Order: 3}, api.Inst{Op: api.OpStore, Order: -1})
	add(api.ErrOp, api.Inst{Op: api.OpCalc}, api.Inst{Op: api.OpAwait, Fn: 11})
	add(api.ErrRange, api.Inst{Op: api.OpConst, N: 1 << 31}, api.Inst{Op: api.OpConst, N: -1<<31 - 1})
	for _, op := range []api.Op{api.OpJump, api.OpBranch} {
		add(api.ErrTarget, api.Inst{Op: op, N: -1}, api.Inst{Op: op, N: 65}, api.Inst{Op: op, N: math.MaxInt}, api.Inst{Op: op, N: math.MinInt})
		all = append(all, fault{func(length int) api.Inst { return api.Inst{Op: op, N: length + 1} }, api.ErrTarget})
	}
	// Two faults of one instruction, of which that of inst.Check comes first.
	add(api.ErrField, api.Inst{Op: api.OpJump, C: 1, N: -1})
	add(api.ErrRegister, api.Inst{Op: api.OpBranch, B: 8, N: 65})
	return all
}

// TestErrors checks the errors of functions with one fault and with two, also together with numbers that are no instructions.
func TestErrors(t *testing.T) {
	all := faults()
	for _, x := range all {
		for _, length := range []int{1, 2, 3, 5, 63, 64} {
			at := append([]int{0, length - 1, length / 2}, outside(length)...)
			for _, place := range at[:3] {
				f := api.Func{Code: slices.Repeat(of("assert r1").Code, length)}
				f.Code[place] = x.i(length)
				sameCalls(t, f, calls(f, at...), failed(x.err, at...))
			}
		}
		for _, y := range all {
			for _, length := range []int{2, 64} {
				f := api.Func{Code: slices.Repeat(of("assert r1").Code, length)}
				f.Code[0], f.Code[length-1] = x.i(length), y.i(length)
				sameCalls(t, f, calls(f, 0, length, -1), failed(x.err, 0, length, -1))
			}
		}
		for _, place := range []int{0, 64, 65} {
			f := api.Func{Code: slices.Repeat(of("assert r1").Code, 66)}
			f.Code[place] = x.i(66)
			sameCalls(t, f, calls(f, 0, 65, 66, -1), failed(api.ErrLimit, 0, 65, 66, -1))
		}
	}
}

// TestNotExamined checks that names, objects and the uses of N that are no targets are no errors.
func TestNotExamined(t *testing.T) {
	f := api.Func{Name: "no name!", Code: []api.Inst{
		{Op: api.OpLoad, A: 1, Obj: 100}, {Op: api.OpLock, Obj: -1}, {Op: api.OpWait, Obj: 9, N: 99}, {Op: api.OpWait, N: -99},
		{Op: api.OpSpawn, A: 2, Obj: math.MaxInt, B: 1}, {Op: api.OpConst, A: 2, N: -1 << 31}, {Op: api.OpConst, A: 2, N: 1<<31 - 1},
	}}
	want := wanted("[] [1] [1] [1] [1] [] []", "[1] [1] [1] [1] [] [] []", "5", 1)
	sameCalls(t, f, calls(f, upTo(7)...), want)
}

// A reader reports whether there is a path that begins with an instruction or the exit, and ends with an instruction that reads a register, or also with the exit if that is asked for, and of which no earlier instruction writes the register.
type reader func(from, register int, atExit bool) bool

// uses reports whether an instruction reads a register.
func uses(i api.Inst, register int) bool {
	return slices.Contains(inst.Uses(i), register)
}

// defines reports whether an instruction writes a register.
func defines(i api.Inst, register int) bool {
	r, writes := inst.Defines(i)
	return writes && r == register
}

// successors returns the successors of an instruction.
func successors(f api.Func, at int) []int {
	next, err := cfg.Next(f, at)
	if err != api.OK {
		panic(fmt.Sprint("a function with an error: ", f.Code))
	}
	return next
}

// byPaths searches all paths that contain no instruction twice. From any other path a part can be left out that begins with an instruction and ends before the same one, so no others are needed.
func byPaths(f api.Func) reader {
	exit := len(f.Code)
	paths := map[int][][]int{}
	var search func(path []int)
	search = func(path []int) {
		paths[path[0]] = append(paths[path[0]], slices.Clone(path))
		end := path[len(path)-1]
		if end == exit {
			return
		}
		for _, k := range successors(f, end) {
			if !slices.Contains(path, k) {
				search(append(path, k))
			}
		}
	}
	for k := range exit + 1 {
		search([]int{k})
	}
	return func(from, register int, atExit bool) bool {
		return slices.ContainsFunc(paths[from], func(path []int) bool {
			end, earlier := path[len(path)-1], path[:len(path)-1]
			ends := end == exit && atExit || end != exit && uses(f.Code[end], register)
			return ends && !slices.ContainsFunc(earlier, func(k int) bool { return defines(f.Code[k], register) })
		})
	}
}

// byWalks visits the instructions that can be reached without a writing of the register, for functions with too many paths.
func byWalks(f api.Func) reader {
	next := map[int][]int{}
	for at := range f.Code {
		next[at] = successors(f, at)
	}
	return func(from, register int, atExit bool) bool {
		visited := map[int]bool{}
		for work := []int{from}; len(work) > 0; {
			at := work[0]
			work = work[1:]
			switch {
			case visited[at]:
			case at == len(f.Code):
				if atExit {
					return true
				}
			case uses(f.Code[at], register):
				return true
			case !defines(f.Code[at], register):
				work = append(work, next[at]...)
			}
			visited[at] = true
		}
		return false
	}
}

// definition returns the calls for a function by the definitions of the chapter.
func definition(f api.Func, read reader) []call {
	var sets [][]int
	var all []call
	var dead []int
	pressure := 0
	for at, i := range f.Code {
		var before, after []int
		isDead := slices.Contains([]api.Op{api.OpConst, api.OpCopy, api.OpCalc}, i.Op)
		for r := range 8 {
			if read(at, r, false) {
				before = append(before, r)
			}
			if slices.ContainsFunc(successors(f, at), func(k int) bool { return read(k, r, false) }) {
				after = append(after, r)
			}
			if defines(i, r) && slices.ContainsFunc(successors(f, at), func(k int) bool { return read(k, r, true) }) {
				isDead = false
			}
		}
		sets = append(sets, before)
		all = append(all, call{results("After ", at), results(after, api.OK)})
		if isDead {
			dead = append(dead, at)
		}
		pressure = max(pressure, len(before))
	}
	all = append([]call{{"Before", results(sets, api.OK)}}, all...)
	return append(all, call{"Dead", results(dead, api.OK)}, call{"Pressure", results(pressure, api.OK)})
}

// TestEveryFunction compares all calls with a search of paths, for all functions of up to four instructions with two registers.
func TestEveryFunction(t *testing.T) {
	forms := map[string]bool{}
	for length := range 5 {
		choices := of("const r0 1; copy r1 r0; load r1 x plain; swap r0 x r0 plain; assert r1; stop").Code
		for n := range length + 1 {
			choices = append(choices, of(fmt.Sprintf("jump %d; branch r0 %d", n, n)).Code...)
		}
		f := api.Func{Name: "f", Code: make([]api.Inst, length)}
		var build func(at int)
		build = func(at int) {
			if at < length {
				for _, i := range choices {
					f.Code[at] = i
					build(at + 1)
				}
				return
			}
			got := calls(f, upTo(length)...)
			sameCalls(t, f, got, definition(f, byPaths(f)))
			forms[results(got)] = true
		}
		build(0)
	}
	if len(forms) < 1000 {
		t.Errorf("only %d functions have different results", len(forms))
	}
}

// anyOf returns a random instruction of an operation, with registers below the given number and the given N, as far as it uses them.
func anyOf(random *rand.Rand, op api.Op, registers, n int) api.Inst {
	i := api.Inst{Op: op}
	for _, set := range []func(i *api.Inst){
		func(i *api.Inst) { i.A = random.Intn(registers) },
		func(i *api.Inst) { i.B = random.Intn(registers) },
		func(i *api.Inst) { i.C = random.Intn(registers) },
		func(i *api.Inst) { i.Fn = api.FnAdd },
		func(i *api.Inst) { i.N = n },
	} {
		changed := i
		if set(&changed); inst.Check(changed) != api.ErrField {
			i = changed
		}
	}
	return i
}

// mixed returns a random function of the given length with registers below the given number. The larger near is, the more of its jumps and branches lead to near instructions.
func mixed(random *rand.Rand, length, registers, near int) api.Func {
	f := api.Func{Name: "f"}
	for at := range length {
		target := random.Intn(length + 1)
		if random.Intn(4) < near {
			target = min(max(at-3+random.Intn(8), 0), length)
		}
		op := api.Op(1 + random.Intn(22))
		switch choice := random.Intn(20); {
		case choice < 5:
			op = api.OpBranch
		case choice < 7:
			op = api.OpJump
		case choice < 13:
			op = api.OpConst + api.Op(random.Intn(3))
		}
		f.Code = append(f.Code, anyOf(random, op, registers, target))
	}
	return f
}

// TestRandomFunctions compares all calls with a search of paths for random functions, and with walks for those that have too many paths.
func TestRandomFunctions(t *testing.T) {
	random := rand.New(rand.NewSource(13))
	forms := map[string]bool{}
	for k := range 4000 {
		f := mixed(random, random.Intn(10), 1+k%8, k%5)
		want := definition(f, byPaths(f))
		sameCalls(t, f, calls(f, upTo(len(f.Code))...), want)
		sameCalls(t, f, definition(f, byWalks(f)), want)
		forms[results(want)] = true
	}
	mostDead := 0
	for k := range 250 {
		length := 10 + random.Intn(55)
		f := mixed(random, length, 1+k%8, k%5)
		sameCalls(t, f, calls(f, upTo(length)...), definition(f, byWalks(f)))
		dead, _ := Dead(f)
		mostDead = max(mostDead, len(dead))
	}
	if len(forms) < 2000 || mostDead < 10 {
		t.Errorf("only %d functions have different results, and at most %d instructions are dead", len(forms), mostDead)
	}
}

// samples returns random functions, among them some of the greatest length.
func samples() []api.Func {
	random := rand.New(rand.NewSource(3))
	var all []api.Func
	for _, length := range append(upTo(24), 40, 63, 64) {
		for k := range 8 {
			all = append(all, mixed(random, length, 1+random.Intn(8), k%5))
		}
	}
	return all
}

// TestPaths checks P13.5: the sets of instructions that follow one another.
func TestPaths(t *testing.T) {
	for _, f := range samples() {
		before, err := Before(f)
		if err != api.OK || len(before) != len(f.Code) {
			t.Fatalf("Before(%v): %v, %v", f.Code, before, err)
		}
		read := byWalks(f)
		for at, i := range f.Code {
			after, err := After(f, at)
			var behind, front, found []int
			for r := range 8 {
				for _, k := range successors(f, at) {
					if k < len(f.Code) && slices.Contains(before[k], r) && !slices.Contains(behind, r) {
						behind = append(behind, r)
					}
				}
				if uses(i, r) || slices.Contains(after, r) && !defines(i, r) {
					front = append(front, r)
				}
				if read(at, r, false) {
					found = append(found, r)
				}
			}
			same(t, fmt.Sprintf("After(%v, %d)", f.Code, at), results(after, err), results(behind, api.OK))
			same(t, fmt.Sprintf("Before(%v), element %d", f.Code, at), results(before[at]), results(front))
			same(t, fmt.Sprintf("Before(%v), element %d", f.Code, at), results(before[at]), results(found))
		}
	}
}

// renamed returns the function in which each register r is replaced by to[r].
func renamed(t *testing.T, f api.Func, to []int) api.Func {
	t.Helper()
	g := api.Func{Name: f.Name}
	for _, i := range f.Code {
		j, err := inst.Rename(i, to)
		if err != api.OK {
			t.Fatalf("Rename(%v, %v): %v", i, to, err)
		}
		g.Code = append(g.Code, j)
	}
	return g
}

// image returns the registers to[r] for all r of a list, in increasing order.
func image(list, to []int) []int {
	var all []int
	for _, r := range list {
		all = append(all, to[r])
	}
	slices.Sort(all)
	return all
}

// TestRenaming checks P13.6.
func TestRenaming(t *testing.T) {
	random := rand.New(rand.NewSource(6))
	for _, f := range samples() {
		for _, to := range [][]int{{1, 0, 2, 3, 4, 5, 6, 7}, {7, 6, 5, 4, 3, 2, 1, 0}, {1, 2, 3, 4, 5, 6, 7, 0}, random.Perm(8)} {
			before, err := Before(f)
			for k := range before {
				before[k] = image(before[k], to)
			}
			want := []call{{"Before", results(before, err)}}
			for at := range f.Code {
				after, err := After(f, at)
				want = append(want, call{results("After ", at), results(image(after, to), err)})
			}
			dead, err := Dead(f)
			want = append(want, call{"Dead", results(dead, err)})
			pressure, err := Pressure(f)
			want = append(want, call{"Pressure", results(pressure, err)})
			g := renamed(t, f, to)
			sameCalls(t, g, calls(g, upTo(len(g.Code))...), want)
		}
	}
}

// spacious returns a function with instructions in the memory behind its code.
func spacious(f api.Func) api.Func {
	code := append(slices.Clone(f.Code), of("assert r0; jump 77; const r5 5").Code...)
	f.Code = code[:len(f.Code)]
	return f
}

// whole returns a function and what is in the memory behind its code as a text.
func whole(f api.Func) string {
	return results(f, f.Code[:cap(f.Code)])
}

// fill overwrites a slice and the memory behind it.
func fill[T any](list []T, element T) {
	for k := range list[:cap(list)] {
		list[:cap(list)][k] = element
	}
}

// TestMemory checks that functions stay as they are, that results are new memory, and that nothing is kept.
func TestMemory(t *testing.T) {
	for _, f := range append(samples(), of("jump 5"), long("assert r1", 63, "assert r2"), of("branch r1 0; calc add r2 r3 r4; jump 0")) {
		f := spacious(f)
		kept := whole(f)
		at := append(upTo(len(f.Code)), -1, len(f.Code))
		want := calls(f, at...)
		before, _ := Before(f)
		for k := range before {
			// The other sets must stay as they are.
			rest := results(before[k+1:])
			fill(before[k], 55)
			same(t, "the sets after one that was overwritten", results(before[k+1:]), rest)
		}
		fill(before, []int{55})
		for _, k := range at {
			after, _ := After(f, k)
			fill(after, 55)
		}
		dead, _ := Dead(f)
		fill(dead, 55)
		same(t, "the function after all calls", whole(f), kept)
		sameCalls(t, f, calls(f, at...), want)
	}
}

// TestNothingKept checks that results do not change with the function that was passed.
func TestNothingKept(t *testing.T) {
	f := of("const r1 1; branch r0 4; load r1 x plain; const r2 3; assert r1; const r2 4")
	before, _ := Before(f)
	after, _ := After(f, 1)
	dead, _ := Dead(f)
	kept := results(before, after, dead)
	fill(f.Code, api.Inst{Op: api.OpAssert, B: 7})
	same(t, "the results after their function was overwritten", results(before, after, dead), kept)
	sameCalls(t, f, calls(f, 0), []call{{"Before", "[[7] [7] [7] [7] [7] [7]] 0"}, {"After 0", "[7] 0"}, {"Dead", "[] 0"}, {"Pressure", "1 0"}})
}

// FuzzLiveness compares all calls with their definitions for the functions whose instructions are triples of bytes: an operation, registers and a number.
func FuzzLiveness(f *testing.F) {
	f.Add([]byte{1, 0, 1, 2, 1, 0, 1, 0, 2})
	f.Add([]byte{5, 3, 3, 6, 1, 0, 4, 0, 0, 7, 0, 0})
	f.Add([]byte{3, 201, 0, 5, 9, 255})
	f.Add(slices.Repeat([]byte{5, 30, 7}, 64))
	f.Add(slices.Repeat([]byte{4, 0, 0}, 65))
	f.Fuzz(func(t *testing.T, data []byte) {
		function := api.Func{Name: "f"}
		for bytes := range slices.Chunk(data, 3) {
			bytes = append(slices.Clone(bytes), 0, 0)
			random := rand.New(rand.NewSource(int64(bytes[1])))
			function.Code = append(function.Code, anyOf(random, api.Op(bytes[0]), 8, int(int8(bytes[2]))))
		}
		at := append(upTo(len(function.Code)), -1, len(function.Code))
		if _, err := cfg.Leaders(function); err != api.OK {
			sameCalls(t, function, calls(function, at...), failed(err, at...))
			return
		}
		at = at[:len(function.Code)]
		sameCalls(t, function, calls(function, at...), definition(function, byWalks(function)))
	})
}
