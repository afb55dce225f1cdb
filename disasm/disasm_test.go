package disasm

import (
	"fmt"
	"math"
	"math/rand"
	"reflect"
	"slices"
	"strconv"
	"strings"
	"testing"

	"modelcheck/api"
	"modelcheck/asm"
	"modelcheck/inst"
	"modelcheck/program"
)

// A result is what a function of the package returns.
type result struct {
	text string
	err  api.Errno
}

// fine is the result with a text and without an error.
func fine(text string) result { return result{text, api.OK} }

// failed is the result with an error, which comes with the empty text.
func failed(err api.Errno) result { return result{"", err} }

// same fails if a call does not return what is wanted.
func same(t *testing.T, call string, got, want result) {
	t.Helper()
	if got != want {
		t.Errorf("%.400s: %.600q, error %d, want %.600q, error %d", call, got.text, got.err, want.text, want.err)
	}
}

// unchanged fails if a call changes a program.
func unchanged(t *testing.T, p api.Program, call func()) {
	t.Helper()
	before := program.Clone(p)
	call()
	if !program.Equal(p, before) {
		t.Errorf("the program is %+v after the call, was %+v", p, before)
	}
}

// prints fails if Program does not return what is wanted.
func prints(t *testing.T, what string, p api.Program, want result) {
	t.Helper()
	unchanged(t, p, func() {
		text, err := Program(p)
		same(t, "Program of "+what, result{text, err}, want)
	})
}

// reads fails if Instruction does not return what is wanted.
func reads(t *testing.T, p api.Program, i api.Inst, want result) {
	t.Helper()
	unchanged(t, p, func() {
		text, err := Instruction(p, i)
		same(t, fmt.Sprintf("Instruction(%+v)", i), result{text, err}, want)
	})
}

// tells fails if Event does not return what is wanted.
func tells(t *testing.T, p api.Program, e api.Event, want result) {
	t.Helper()
	unchanged(t, p, func() {
		text, err := Event(p, e)
		same(t, fmt.Sprintf("Event(%+v)", e), result{text, err}, want)
	})
}

// simple is a valid program with objects of each kind in different numbers, and the given code in its last function.
func simple(code ...api.Inst) api.Program {
	return api.Program{
		Vars:    []api.Var{{Name: "x"}, {Name: "y", Init: -1}, {Name: "z", Init: 7}, {Name: "w"}},
		Mutexes: []string{"m", "n", "o"},
		Conds:   []string{"c", "d"},
		Funcs:   []api.Func{{Name: "f"}, {Name: "g"}, {Name: "h"}, {Name: "i"}, {Name: "main", Code: code}},
		Threads: []api.Start{{}},
	}
}

// instructionRows are the mnemonics and operands of the table of instructions in DOC.md, in the order of the operations.
var instructionRows = []string{
	"const A N", "copy A B", "calc Fn A B C", "jump N", "branch B N", "assert B", "stop",
	"load A Obj Order", "store Obj B Order", "swap A Obj B Order", "fetchadd A Obj B Order", "cas A Obj B C Order", "fence", "await A Obj Fn B Order",
	"lock Obj", "unlock Obj", "trylock A Obj", "wait Obj N", "signal Obj", "broadcast Obj", "spawn A Obj B", "join B",
}

// eventRows are the words of the table of events in the chapter, in the order of the kinds. The words entry N of load and await are left out.
var eventRows = []string{
	"load X O R", "store X O W", "buffer X O W N", "flush X W N", "update X O R W", "miss X O R", "fence", "await X O R",
	"lock X", "unlock X", "trylock X R", "wait X M", "wake X", "signal X R", "broadcast X R", "spawn Obj", "join Obj",
}

var (
	calcNames  = []string{"add", "sub", "mul", "and", "or", "xor", "eq", "ne", "lt", "le"}
	orderNames = []string{"plain", "relaxed", "relacq"}
)

// variables returns the names of the variables of a program.
func variables(p api.Program) []string {
	var names []string
	for _, v := range p.Vars {
		names = append(names, v.Name)
	}
	return names
}

// functions returns the names of the functions of a program.
func functions(p api.Program) []string {
	var names []string
	for _, f := range p.Funcs {
		names = append(names, f.Name)
	}
	return names
}

// objects returns the names of the objects among which the field Obj of an operation has its number.
func objects(p api.Program, op api.Op) []string {
	switch op {
	case api.OpLoad, api.OpStore, api.OpSwap, api.OpFetchAdd, api.OpCas, api.OpAwait:
		return variables(p)
	case api.OpLock, api.OpUnlock, api.OpTryLock:
		return p.Mutexes
	case api.OpWait, api.OpSignal, api.OpBroadcast:
		return p.Conds
	case api.OpSpawn:
		return functions(p)
	}
	return nil
}

// subjects returns the names of the objects among which the field Obj of an event of a kind has its number.
func subjects(p api.Program, kind api.Kind) []string {
	switch kind {
	case api.EvLoad, api.EvStore, api.EvBuffer, api.EvFlush, api.EvUpdate, api.EvMiss, api.EvAwait:
		return variables(p)
	case api.EvLock, api.EvUnlock, api.EvTry:
		return p.Mutexes
	}
	return p.Conds
}

// nth returns the name with a number, and the given error if there is none.
func nth(names []string, n int, missing api.Errno) result {
	if n < 0 || n >= len(names) {
		return failed(missing)
	}
	return fine(names[n])
}

// between returns a number as a word, and the given error if it is not from low to high.
func between(n, low, high int, outside api.Errno) result {
	if n < low || n > high {
		return failed(outside)
	}
	return fine(strconv.Itoa(n))
}

// joined returns the words with blanks between them, or the first of the errors that one of them has.
func joined(words []result, errors ...api.Errno) result {
	var texts []string
	for _, w := range words {
		texts = append(texts, w.text)
	}
	for _, err := range errors {
		if slices.Contains(words, failed(err)) {
			return failed(err)
		}
	}
	return fine(strings.Join(texts, " "))
}

// wantedInstruction is the result of Instruction for a valid program by its definition.
func wantedInstruction(p api.Program, i api.Inst) result {
	if err := inst.Check(i); err != api.OK {
		return failed(err)
	}
	row := strings.Fields(instructionRows[i.Op-1])
	words := []result{fine(row[0])}
	for _, operand := range row[1:] {
		var w result
		switch operand {
		case "A":
			w = fine("r" + strconv.Itoa(i.A))
		case "B":
			w = fine("r" + strconv.Itoa(i.B))
		case "C":
			w = fine("r" + strconv.Itoa(i.C))
		case "Fn":
			w = fine(calcNames[i.Fn-1])
		case "Order":
			w = fine(orderNames[i.Order])
		case "Obj":
			w = nth(objects(p, i.Op), i.Obj, api.ErrObject)
		case "N":
			switch i.Op {
			case api.OpConst:
				w = fine(strconv.Itoa(i.N))
			case api.OpWait:
				w = nth(p.Mutexes, i.N, api.ErrObject)
			default:
				w = between(i.N, 0, 64, api.ErrTarget)
			}
		}
		words = append(words, w)
	}
	return joined(words, api.ErrObject, api.ErrTarget)
}

// wantedEvent is the result of Event for a valid program by its definition.
func wantedEvent(p api.Program, e api.Event) result {
	if e.Kind < 1 || e.Kind > 17 {
		return failed(api.ErrOp)
	}
	number := func(n int) result { return between(n, -1<<31, 1<<31-1, api.ErrRange) }
	thread := number(e.Agent)
	if e.Agent < 0 && thread.err == api.OK {
		thread.text = strconv.Itoa(-1-e.Agent) + "b"
	}
	index := between(e.Index, 0, 1<<31-1, api.ErrRange)
	stamp := fine(thread.text + "." + index.text)
	if thread.err != api.OK || index.err != api.OK {
		stamp = failed(api.ErrRange)
	}
	row := strings.Fields(eventRows[e.Kind-1])
	words := []result{stamp, fine(row[0])}
	if (e.Kind == api.EvLoad || e.Kind == api.EvAwait) && e.Entry != -1 {
		row = append(row, "entry", "N")
	}
	for _, name := range row[1:] {
		w := fine(name)
		switch name {
		case "X":
			w = nth(subjects(p, e.Kind), e.Obj, api.ErrObject)
		case "M":
			w = nth(p.Mutexes, e.Mutex, api.ErrObject)
		case "O":
			w = nth(orderNames, int(e.Order), api.ErrOrder)
		case "R":
			w = number(e.Read)
		case "W":
			w = number(e.Wrote)
		case "N":
			w = number(e.Entry)
		case "Obj":
			w = number(e.Obj)
		}
		words = append(words, w)
	}
	return joined(words, api.ErrObject, api.ErrOrder, api.ErrRange)
}

// wantedProgram is the text of a valid program by its definition.
func wantedProgram(p api.Program) string {
	var lines []string
	for _, v := range p.Vars {
		lines = append(lines, fmt.Sprintf("var %s %d", v.Name, v.Init))
	}
	for _, name := range p.Mutexes {
		lines = append(lines, "mutex "+name)
	}
	for _, name := range p.Conds {
		lines = append(lines, "cond "+name)
	}
	for _, f := range p.Funcs {
		lines = append(lines, "func "+f.Name)
		for _, i := range f.Code {
			lines = append(lines, "  "+wantedInstruction(p, i).text)
		}
		lines = append(lines, "end")
	}
	for _, start := range p.Threads {
		lines = append(lines, fmt.Sprintf("thread %s %d", functions(p)[start.Func], start.Arg))
	}
	return strings.Join(append(lines, ""), "\n")
}

// TestExamples checks the examples of the chapter.
func TestExamples(t *testing.T) {
	p := api.Program{
		Vars: []api.Var{{Name: "x"}},
		Funcs: []api.Func{{Name: "f", Code: []api.Inst{
			{Op: api.OpLoad, A: 1, Order: api.RelAcq}, {Op: api.OpBranch, B: 1},
		}}},
		Threads: []api.Start{{Arg: 3}},
	}
	prints(t, "the example", p, fine("var x 0\nfunc f\n  load r1 x relacq\n  branch r1 0\nend\nthread f 3\n"))
	tells(t, p, api.Event{Agent: 0, Index: 2, Kind: api.EvBuffer, Mutex: -1, Entry: 1, Wrote: 5}, fine("0.2 buffer x plain 5 1"))
	tells(t, p, api.Event{Agent: -1, Index: 0, Kind: api.EvFlush, Mutex: -1, Entry: 1, Wrote: 5}, fine("0b.0 flush x 5 1"))
}

// instructionTexts are instructions of the program simple, in the order of the operations, and their texts.
var instructionTexts = []struct {
	i    api.Inst
	text string
}{
	{api.Inst{Op: api.OpConst, A: 1, N: -5}, "const r1 -5"},
	{api.Inst{Op: api.OpCopy, A: 1, B: 2}, "copy r1 r2"},
	{api.Inst{Op: api.OpCalc, Fn: api.FnXor, A: 1, B: 2, C: 3}, "calc xor r1 r2 r3"},
	{api.Inst{Op: api.OpJump, N: 3}, "jump 3"},
	{api.Inst{Op: api.OpBranch, B: 2, N: 4}, "branch r2 4"},
	{api.Inst{Op: api.OpAssert, B: 7}, "assert r7"},
	{api.Inst{Op: api.OpStop}, "stop"},
	{api.Inst{Op: api.OpLoad, A: 1, Obj: 2, Order: api.RelAcq}, "load r1 z relacq"},
	{api.Inst{Op: api.OpStore, Obj: 2, B: 1, Order: api.Relaxed}, "store z r1 relaxed"},
	{api.Inst{Op: api.OpSwap, A: 1, Obj: 3, B: 2, Order: api.Plain}, "swap r1 w r2 plain"},
	{api.Inst{Op: api.OpFetchAdd, A: 4, Obj: 1, B: 5, Order: api.Relaxed}, "fetchadd r4 y r5 relaxed"},
	{api.Inst{Op: api.OpCas, A: 1, Obj: 0, B: 5, C: 4, Order: api.RelAcq}, "cas r1 x r5 r4 relacq"},
	{api.Inst{Op: api.OpFence}, "fence"},
	{api.Inst{Op: api.OpAwait, A: 1, Obj: 2, Fn: api.FnLe, B: 3, Order: api.RelAcq}, "await r1 z le r3 relacq"},
	{api.Inst{Op: api.OpLock, Obj: 2}, "lock o"},
	{api.Inst{Op: api.OpUnlock, Obj: 1}, "unlock n"},
	{api.Inst{Op: api.OpTryLock, A: 3, Obj: 1}, "trylock r3 n"},
	{api.Inst{Op: api.OpWait, Obj: 0, N: 2}, "wait c o"},
	{api.Inst{Op: api.OpSignal, Obj: 1}, "signal d"},
	{api.Inst{Op: api.OpBroadcast, Obj: 1}, "broadcast d"},
	{api.Inst{Op: api.OpSpawn, A: 1, Obj: 4, B: 2}, "spawn r1 main r2"},
	{api.Inst{Op: api.OpJoin, B: 2}, "join r2"},
}

// variations returns the numbers that a field of an instruction of the program simple can have without a fault.
func variations(operand string, op api.Op) []int {
	upTo := func(count int) []int {
		var all []int
		for n := range count {
			all = append(all, n)
		}
		return all
	}
	switch operand {
	case "A", "B", "C":
		return upTo(8)
	case "Fn":
		return upTo(11)[1:]
	case "Order":
		return upTo(3)
	case "Obj":
		return upTo(len(objects(simple(), op)))
	}
	switch op {
	case api.OpConst:
		return []int{0, 1, -1, 9, 10, -10, 65, math.MaxInt32, math.MaxInt32 - 1, math.MinInt32, math.MinInt32 + 1}
	case api.OpWait:
		return upTo(3)
	}
	return upTo(65)
}

// set returns an instruction in which a field has another content.
func set(i api.Inst, operand string, n int) api.Inst {
	switch operand {
	case "Op":
		i.Op = api.Op(n)
	case "A":
		i.A = n
	case "B":
		i.B = n
	case "C":
		i.C = n
	case "Obj":
		i.Obj = n
	case "N":
		i.N = n
	case "Fn":
		i.Fn = api.Fn(n)
	case "Order":
		i.Order = api.Order(n)
	}
	return i
}

// TestInstructions checks P11.2: each instruction, with each content of each of its fields.
func TestInstructions(t *testing.T) {
	p := simple()
	for k, x := range instructionTexts {
		if x.i.Op != api.Op(k+1) {
			t.Fatalf("instruction %d is %+v", k, x.i)
		}
		reads(t, p, x.i, fine(x.text))
		for _, operand := range strings.Fields(instructionRows[k])[1:] {
			for _, n := range variations(operand, x.i.Op) {
				i := set(x.i, operand, n)
				want := wantedInstruction(p, i)
				if want.err != api.OK {
					t.Fatalf("%+v has the error %d", i, want.err)
				}
				reads(t, p, i, want)
			}
		}
	}
}

// TestInstructionWords checks P11.2: the words for registers, functions on values, orders, numbers and targets.
func TestInstructionWords(t *testing.T) {
	p := simple()
	for r := range 8 {
		s := "r" + strconv.Itoa(r)
		reads(t, p, api.Inst{Op: api.OpCopy, A: r, B: 7 - r}, fine("copy "+s+" r"+strconv.Itoa(7-r)))
		reads(t, p, api.Inst{Op: api.OpJoin, B: r}, fine("join "+s))
		reads(t, p, api.Inst{Op: api.OpCalc, Fn: api.FnAdd, C: r}, fine("calc add r0 r0 "+s))
	}
	for k, name := range calcNames {
		reads(t, p, api.Inst{Op: api.OpCalc, Fn: api.Fn(k + 1)}, fine("calc "+name+" r0 r0 r0"))
		reads(t, p, api.Inst{Op: api.OpAwait, Fn: api.Fn(k + 1)}, fine("await r0 x "+name+" r0 plain"))
	}
	for k, name := range orderNames {
		reads(t, p, api.Inst{Op: api.OpLoad, Order: api.Order(k)}, fine("load r0 x "+name))
		reads(t, p, api.Inst{Op: api.OpCas, Order: api.Order(k)}, fine("cas r0 x r0 r0 "+name))
	}
	for n, s := range map[int]string{0: "0", 7: "7", -1: "-1", 10: "10", 2147483647: "2147483647", -2147483648: "-2147483648", -2147483647: "-2147483647"} {
		reads(t, p, api.Inst{Op: api.OpConst, N: n}, fine("const r0 "+s))
	}
	for n, s := range map[int]string{0: "0", 1: "1", 63: "63", 64: "64"} {
		// The functions of p have no code, but a target belongs to any function.
		reads(t, p, api.Inst{Op: api.OpJump, N: n}, fine("jump "+s))
		reads(t, p, api.Inst{Op: api.OpBranch, B: 6, N: n}, fine("branch r6 "+s))
	}
}

// TestOneName checks P11.1 to P11.3: objects of different kinds with the same names, in another order for each kind.
func TestOneName(t *testing.T) {
	p := api.Program{
		Vars:    []api.Var{{Name: "a", Init: 1}, {Name: "b", Init: 2}, {Name: "c", Init: 3}, {Name: "d", Init: 4}},
		Mutexes: []string{"b", "c", "d", "a"},
		Conds:   []string{"c", "d", "a", "b"},
		Funcs: []api.Func{{Name: "d", Code: []api.Inst{
			{Op: api.OpLoad}, {Op: api.OpLock}, {Op: api.OpSignal}, {Op: api.OpSpawn}, {Op: api.OpWait}, {Op: api.OpWait, Obj: 1}, {Op: api.OpWait, N: 1},
		}}, {Name: "a"}, {Name: "b"}, {Name: "c"}},
		Threads: []api.Start{{Func: 0}, {Func: 1}, {Func: 3}},
	}
	prints(t, "objects with the same names", p, fine("var a 1\nvar b 2\nvar c 3\nvar d 4\nmutex b\nmutex c\nmutex d\nmutex a\ncond c\ncond d\ncond a\ncond b\n"+
		"func d\n  load r0 a plain\n  lock b\n  signal c\n  spawn r0 d r0\n  wait c b\n  wait d b\n  wait c c\nend\nfunc a\nend\nfunc b\nend\nfunc c\nend\nthread d 0\nthread a 0\nthread c 0\n"))
	for n := range 4 {
		reads(t, p, api.Inst{Op: api.OpStore, Obj: n}, fine("store "+string("abcd"[n])+" r0 plain"))
		reads(t, p, api.Inst{Op: api.OpTryLock, Obj: n}, fine("trylock r0 "+string("bcda"[n])))
		reads(t, p, api.Inst{Op: api.OpBroadcast, Obj: n}, fine("broadcast "+string("cdab"[n])))
		reads(t, p, api.Inst{Op: api.OpSpawn, Obj: n}, fine("spawn r0 "+string("dabc"[n])+" r0"))
		reads(t, p, api.Inst{Op: api.OpWait, Obj: n, N: 3 - n}, fine("wait "+string("cdab"[n])+" "+string("adcb"[n])))
		tells(t, p, api.Event{Kind: api.EvStore, Obj: n}, fine("0.0 store "+string("abcd"[n])+" plain 0"))
		tells(t, p, api.Event{Kind: api.EvTry, Obj: n}, fine("0.0 trylock "+string("bcda"[n])+" 0"))
		tells(t, p, api.Event{Kind: api.EvWake, Obj: n}, fine("0.0 wake "+string("cdab"[n])))
		tells(t, p, api.Event{Kind: api.EvWait, Obj: n, Mutex: 3 - n}, fine("0.0 wait "+string("cdab"[n])+" "+string("adcb"[n])))
	}
	// Words of the assembler are names like any other ones.
	prints(t, "names that are words", api.Program{
		Vars: []api.Var{{Name: "var"}, {Name: "r0"}}, Mutexes: []string{"end"}, Conds: []string{"plain"},
		Funcs:   []api.Func{{Name: "func", Code: []api.Inst{{Op: api.OpLoad, Obj: 1}, {Op: api.OpWait}}}},
		Threads: []api.Start{{}},
	}, fine("var var 0\nvar r0 0\nmutex end\ncond plain\nfunc func\n  load r0 r0 plain\n  wait plain end\nend\nthread func 0\n"))
}

// wrongNumbers are numbers that are not from 0 to below.
func wrongNumbers(below int) []int {
	return []int{-1, -2, below, below + 1, 1 << 31, 1 << 32, -1 << 31, -1<<31 - 1, 1<<32 + below - 1, math.MaxInt, math.MinInt}
}

// TestInstructionErrors checks P11.2: the errors of inst.Check, and objects, mutexes and targets that do not exist.
func TestInstructionErrors(t *testing.T) {
	p := simple()
	for _, op := range []api.Op{0, -1, 23, 24, 1 << 32, math.MaxInt, math.MinInt} {
		reads(t, p, api.Inst{Op: op}, failed(api.ErrOp))
	}
	for k, x := range instructionTexts {
		used := strings.Fields(instructionRows[k])[1:]
		for _, field := range []string{"A", "B", "C", "Obj", "N", "Fn", "Order"} {
			if !slices.Contains(used, field) {
				for _, n := range []int{1, -1, math.MaxInt} {
					reads(t, p, set(x.i, field, n), failed(api.ErrField))
				}
				continue
			}
			wrong := map[string]api.Errno{"A": api.ErrRegister, "B": api.ErrRegister, "C": api.ErrRegister, "Obj": api.ErrObject, "N": api.ErrTarget, "Fn": api.ErrOp, "Order": api.ErrOrder}[field]
			below := map[string]int{"A": 8, "B": 8, "C": 8, "Obj": len(objects(p, x.i.Op)), "N": 65, "Fn": 11, "Order": 3}[field]
			switch {
			case field == "N" && x.i.Op == api.OpConst:
				for _, n := range []int{1 << 31, -1<<31 - 1, 1 << 32, math.MaxInt, math.MinInt} {
					reads(t, p, set(x.i, field, n), failed(api.ErrRange))
				}
				continue
			case field == "N" && x.i.Op == api.OpWait:
				wrong, below = api.ErrObject, 3
			case field == "Fn":
				reads(t, p, set(x.i, field, 0), failed(api.ErrOp))
			}
			for _, n := range wrongNumbers(below) {
				reads(t, p, set(x.i, field, n), failed(wrong))
			}
		}
	}
}

// TestMissingObjects checks P11.2 and P11.3: programs without objects of a kind.
func TestMissingObjects(t *testing.T) {
	p := api.Program{Funcs: []api.Func{{Name: "f"}}, Threads: []api.Start{{}}}
	for k := range instructionTexts {
		i := api.Inst{Op: api.Op(k + 1)}
		if strings.Contains(instructionRows[k], "Fn") {
			i.Fn = api.FnEq
		}
		want := failed(api.ErrObject)
		if i.Op == api.OpSpawn || !strings.Contains(instructionRows[k], "Obj") {
			want = wantedInstruction(p, i)
		}
		reads(t, p, i, want)
	}
	for k, row := range eventRows {
		e := api.Event{Kind: api.Kind(k + 1), Entry: -1}
		want := failed(api.ErrObject)
		if !strings.Contains(row, "X") {
			want = wantedEvent(p, e)
		}
		tells(t, p, e, want)
	}
	// Each of the two objects of a wait can be the one that is missing.
	for _, missing := range []int{0, 1, 2} {
		p := simple()
		if missing != 1 {
			p.Mutexes = nil
		}
		if missing != 0 {
			p.Conds = nil
		}
		reads(t, p, api.Inst{Op: api.OpWait}, failed(api.ErrObject))
		tells(t, p, api.Event{Kind: api.EvWait}, failed(api.ErrObject))
	}
}

// TestInstructionOrder checks P11.2: instructions with two faults, of which the first one counts.
func TestInstructionOrder(t *testing.T) {
	p := simple()
	for _, x := range []struct {
		i   api.Inst
		err api.Errno
	}{
		{api.Inst{Op: api.OpLoad, B: 1, Obj: 9}, api.ErrField},
		{api.Inst{Op: api.OpLoad, A: 8, Obj: 9}, api.ErrRegister},
		{api.Inst{Op: api.OpLoad, Obj: 9, Order: 3}, api.ErrOrder},
		{api.Inst{Op: api.OpAwait, Obj: 9}, api.ErrOp},
		{api.Inst{Op: api.OpAwait, Obj: 9, Fn: 1, Order: -1}, api.ErrOrder},
		{api.Inst{Op: api.OpSpawn, A: -1, Obj: -1}, api.ErrRegister},
		{api.Inst{Op: api.OpWait, A: 1, Obj: 9, N: 9}, api.ErrField},
		{api.Inst{Op: api.OpWait, Obj: 9, N: 9}, api.ErrObject},
		{api.Inst{Op: api.OpJump, B: 1, N: 65}, api.ErrField},
		{api.Inst{Op: api.OpJump, Obj: 9, N: 65}, api.ErrField},
		{api.Inst{Op: api.OpBranch, B: 8, N: -1}, api.ErrRegister},
		{api.Inst{Op: api.OpConst, A: 8, N: 1 << 31}, api.ErrRegister},
		{api.Inst{Op: 23, Obj: 9, N: 65}, api.ErrOp},
	} {
		reads(t, p, x.i, failed(x.err))
	}
}

// A broken program is one that program.Check refuses, with its error.
type broken struct {
	what string
	p    api.Program
	err  api.Errno
}

// brokenPrograms returns a program for each error of program.Check.
func brokenPrograms() []broken {
	var all []broken
	add := func(what string, err api.Errno, change func(p *api.Program)) {
		p := simple(api.Inst{Op: api.OpStop})
		change(&p)
		all = append(all, broken{what, p, err})
	}
	code := func(err api.Errno, i api.Inst) {
		add(fmt.Sprintf("a program with %+v", i), err, func(p *api.Program) { p.Funcs[4].Code = append(p.Funcs[4].Code, i) })
	}
	add("the empty program", api.ErrLimit, func(p *api.Program) { *p = api.Program{} })
	add("a program of empty lists", api.ErrLimit, func(p *api.Program) { *p = api.Program{Vars: []api.Var{}, Funcs: []api.Func{}, Threads: []api.Start{}} })
	add("no functions", api.ErrObject, func(p *api.Program) { p.Funcs = nil })
	add("no functions and no threads", api.ErrLimit, func(p *api.Program) { p.Funcs, p.Threads = nil, nil })
	add("no threads", api.ErrLimit, func(p *api.Program) { p.Threads = nil })
	add("nine threads", api.ErrLimit, func(p *api.Program) { p.Threads = make([]api.Start, 9) })
	for _, name := range []string{"", "9", "a b", "é", "a\n", "abcdefghijklmnopq"} {
		add("a variable with a wrong name", api.ErrName, func(p *api.Program) { p.Vars[3].Name = name })
		add("a mutex with a wrong name", api.ErrName, func(p *api.Program) { p.Mutexes[2] = name })
		add("a condition variable with a wrong name", api.ErrName, func(p *api.Program) { p.Conds[1] = name })
		add("a function with a wrong name", api.ErrName, func(p *api.Program) { p.Funcs[4].Name = name })
	}
	add("two variables with one name", api.ErrTwice, func(p *api.Program) { p.Vars[3].Name = "x" })
	add("two mutexes with one name", api.ErrTwice, func(p *api.Program) { p.Mutexes[2] = "m" })
	add("two condition variables with one name", api.ErrTwice, func(p *api.Program) { p.Conds[1] = "c" })
	add("two functions with one name", api.ErrTwice, func(p *api.Program) { p.Funcs[4].Name = "f" })
	add("nine variables", api.ErrLimit, func(p *api.Program) {
		for k := range 5 {
			p.Vars = append(p.Vars, api.Var{Name: "v" + strconv.Itoa(k)})
		}
	})
	add("five mutexes", api.ErrLimit, func(p *api.Program) { p.Mutexes = append(p.Mutexes, "p", "q") })
	add("five condition variables", api.ErrLimit, func(p *api.Program) { p.Conds = append(p.Conds, "p", "q", "r") })
	add("nine functions", api.ErrLimit, func(p *api.Program) {
		for k := range 4 {
			p.Funcs = append(p.Funcs, api.Func{Name: "f" + strconv.Itoa(k)})
		}
	})
	add("65 instructions", api.ErrLimit, func(p *api.Program) { p.Funcs[4].Code = slices.Repeat(p.Funcs[4].Code, 65) })
	for _, n := range []int{1 << 31, -1<<31 - 1} {
		add("an Init that is no value", api.ErrRange, func(p *api.Program) { p.Vars[3].Init = n })
		add("an argument that is no value", api.ErrRange, func(p *api.Program) { p.Threads[0].Arg = n })
	}
	for _, n := range []int{-1, 5} {
		add("a thread without a function", api.ErrObject, func(p *api.Program) { p.Threads[0].Func = n })
	}
	code(api.ErrOp, api.Inst{})
	code(api.ErrOp, api.Inst{Op: api.OpCalc})
	code(api.ErrField, api.Inst{Op: api.OpFence, N: 1})
	code(api.ErrRegister, api.Inst{Op: api.OpAssert, B: 8})
	code(api.ErrOrder, api.Inst{Op: api.OpLoad, Order: 3})
	code(api.ErrRange, api.Inst{Op: api.OpConst, N: 1 << 31})
	code(api.ErrObject, api.Inst{Op: api.OpLoad, Obj: 4})
	code(api.ErrObject, api.Inst{Op: api.OpLock, Obj: 3})
	code(api.ErrObject, api.Inst{Op: api.OpSignal, Obj: 2})
	code(api.ErrObject, api.Inst{Op: api.OpSpawn, Obj: 5})
	code(api.ErrObject, api.Inst{Op: api.OpWait, N: 3})
	code(api.ErrTarget, api.Inst{Op: api.OpJump, N: 3})
	code(api.ErrTarget, api.Inst{Op: api.OpBranch, N: -1})
	return all
}

// TestBrokenPrograms checks P11.1 to P11.3: the error of program.Check comes first.
func TestBrokenPrograms(t *testing.T) {
	for _, b := range brokenPrograms() {
		if err, _, _ := program.Check(b.p); err != b.err {
			t.Fatalf("program.Check of %s: %d, want %d", b.what, err, b.err)
		}
		prints(t, b.what, b.p, failed(b.err))
		for _, i := range []api.Inst{{Op: api.OpStop}, {Op: api.OpLoad}, {}, {Op: api.OpStop, A: 1}, {Op: api.OpAssert, B: 8}, {Op: api.OpLoad, Order: 3}, {Op: api.OpConst, N: 1 << 31}, {Op: api.OpLoad, Obj: -1}, {Op: api.OpJump, N: 65}} {
			reads(t, b.p, i, failed(b.err))
		}
		for _, e := range []api.Event{{Kind: api.EvFence}, {Kind: api.EvLoad}, {}, {Kind: 18}, {Kind: api.EvLoad, Obj: -1}, {Kind: api.EvWait, Mutex: -1}, {Kind: api.EvLoad, Order: 3}, {Kind: api.EvFence, Index: -1}, {Kind: api.EvJoin, Obj: 1 << 31}} {
			tells(t, b.p, e, failed(b.err))
		}
	}
}

// TestPrograms checks P11.1: programs with and without objects of each kind.
func TestPrograms(t *testing.T) {
	var code []api.Inst
	var lines string
	for _, x := range instructionTexts {
		code = append(code, x.i)
		lines += "  " + x.text + "\n"
	}
	p := simple(code...)
	p.Threads = []api.Start{{Func: 4, Arg: -7}, {Func: 0, Arg: 2147483647}, {Func: 4, Arg: -2147483648}, {Func: 2}}
	prints(t, "a program with every operation", p, fine("var x 0\nvar y -1\nvar z 7\nvar w 0\nmutex m\nmutex n\nmutex o\ncond c\ncond d\n"+
		"func f\nend\nfunc g\nend\nfunc h\nend\nfunc i\nend\nfunc main\n"+lines+"end\nthread main -7\nthread f 2147483647\nthread main -2147483648\nthread h 0\n"))
	prints(t, "the smallest program", api.Program{Funcs: []api.Func{{Name: "f"}}, Threads: []api.Start{{}}}, fine("func f\nend\nthread f 0\n"))
	prints(t, "a program with empty lists", api.Program{
		Vars: []api.Var{}, Mutexes: []string{}, Conds: []string{}, Funcs: []api.Func{{Name: "f", Code: []api.Inst{}}}, Threads: []api.Start{{}},
	}, fine("func f\nend\nthread f 0\n"))
	prints(t, "functions with code around one without", api.Program{
		Conds:   []string{"c"},
		Funcs:   []api.Func{{Name: "f", Code: []api.Inst{{Op: api.OpStop}}}, {Name: "g"}, {Name: "h", Code: []api.Inst{{Op: api.OpFence}, {Op: api.OpJump, N: 2}, {Op: api.OpJump}}[:2]}},
		Threads: []api.Start{{Func: 2, Arg: 1}, {Func: 2, Arg: 1}},
	}, fine("cond c\nfunc f\n  stop\nend\nfunc g\nend\nfunc h\n  fence\n  jump 2\nend\nthread h 1\nthread h 1\n"))
	for _, n := range []int{0, 1, -1, 99, -100, 2147483647, -2147483648} {
		s := strconv.Itoa(n)
		prints(t, "a program with the number "+s, api.Program{
			Vars:    []api.Var{{Name: "x", Init: n}},
			Funcs:   []api.Func{{Name: "f", Code: []api.Inst{{Op: api.OpConst, A: 7, N: n}}}},
			Threads: []api.Start{{Arg: n}},
		}, fine("var x "+s+"\nfunc f\n  const r7 "+s+"\nend\nthread f "+s+"\n"))
	}
	// A jump to the end of the longest function.
	long := slices.Repeat([]api.Inst{{Op: api.OpStop}}, 64)
	long[0], long[63] = api.Inst{Op: api.OpJump, N: 64}, api.Inst{Op: api.OpBranch, N: 64}
	prints(t, "the longest function", api.Program{Funcs: []api.Func{{Name: "f", Code: long}}, Threads: []api.Start{{}}},
		fine("func f\n  jump 64\n"+strings.Repeat("  stop\n", 62)+"  branch r0 64\nend\nthread f 0\n"))
}

// limited returns a program at all limits whose code consists of the given instruction.
func limited(i api.Inst) api.Program {
	name := func(k int) string { return "a_very_long_nam" + strconv.Itoa(k) }
	var p api.Program
	for k := range 8 {
		p.Vars = append(p.Vars, api.Var{Name: name(k), Init: -1 << 31})
		p.Funcs = append(p.Funcs, api.Func{Name: name(k), Code: slices.Repeat([]api.Inst{i}, 64)})
		p.Threads = append(p.Threads, api.Start{Func: k})
	}
	for k := range 4 {
		p.Mutexes = append(p.Mutexes, name(k))
		p.Conds = append(p.Conds, name(k))
	}
	return p
}

// fill returns a program whose text has the given number of bytes.
func fill(t *testing.T, size int) api.Program {
	t.Helper()
	p := limited(api.Inst{Op: api.OpAwait, Fn: api.FnAdd, Obj: 7, Order: api.RelAcq})
	rest := func() int { return size - len(wantedProgram(p)) }
	for f := 7; rest() < 0; f = (f + 7) % 8 {
		code := p.Funcs[f].Code
		p.Funcs[f].Code = code[:len(code)-1]
	}
	// The text is at most one instruction too short, and each argument can make it longer by up to 9 bytes.
	for k := range p.Threads {
		for range 9 {
			if rest() > 0 {
				p.Threads[k].Arg = max(1, p.Threads[k].Arg) * 10
			}
		}
	}
	if rest() != 0 || !program.Valid(p) {
		t.Fatalf("no program with a text of %d bytes", size)
	}
	return p
}

// TestTextLimit checks P11.1: texts of up to MaxText bytes, and longer ones.
func TestTextLimit(t *testing.T) {
	for _, size := range []int{16000, 16382, 16383, 16384, 16385, 16386, 16427, 16428, 20000} {
		p := fill(t, size)
		want := failed(api.ErrLimit)
		if size <= 16384 {
			want = fine(wantedProgram(p))
			returns(t, p)
		}
		prints(t, fmt.Sprintf("a program of %d bytes", size), p, want)
		// A text that is too long is no error of an instruction or an event.
		reads(t, p, api.Inst{Op: api.OpLock, Obj: 3}, fine("lock a_very_long_nam3"))
		tells(t, p, api.Event{Kind: api.EvLock, Obj: 3}, fine("0.0 lock a_very_long_nam3"))
	}
	prints(t, "the longest program", limited(api.Inst{Op: api.OpAwait, Fn: api.FnAdd, Order: api.Relaxed}), failed(api.ErrLimit))
	for k := range instructionTexts {
		i := api.Inst{Op: api.Op(k + 1)}
		if strings.Contains(instructionRows[k], "Fn") {
			i.Fn = api.FnOr
		}
		p := limited(i)
		want := fine(wantedProgram(p))
		if len(want.text) > 16384 {
			want = failed(api.ErrLimit)
		}
		prints(t, "a program at all limits", p, want)
	}
}

// eventTexts are events of the program simple, in the order of the kinds, and their texts.
var eventTexts = []struct {
	e    api.Event
	text string
}{
	{api.Event{Agent: 3, Index: 4, Kind: api.EvLoad, Obj: 2, Mutex: -1, Entry: -1, Order: api.RelAcq, Read: -8}, "3.4 load z relacq -8"},
	{api.Event{Agent: 3, Index: 0, Kind: api.EvStore, Obj: 1, Mutex: -1, Entry: -1, Order: api.Plain, Wrote: 6}, "3.0 store y plain 6"},
	{api.Event{Agent: 8, Index: 1, Kind: api.EvBuffer, Obj: 3, Mutex: -1, Entry: 7, Order: api.Relaxed, Wrote: 6}, "8.1 buffer w relaxed 6 7"},
	{api.Event{Agent: -9, Index: 2, Kind: api.EvFlush, Obj: 3, Mutex: -1, Entry: 7, Wrote: 6}, "8b.2 flush w 6 7"},
	{api.Event{Agent: 1, Index: 31, Kind: api.EvUpdate, Obj: 0, Mutex: -1, Entry: -1, Order: api.RelAcq, Read: 5, Wrote: 6}, "1.31 update x relacq 5 6"},
	{api.Event{Agent: 1, Index: 9, Kind: api.EvMiss, Obj: 2, Mutex: -1, Entry: -1, Order: api.Relaxed, Read: 5}, "1.9 miss z relaxed 5"},
	{api.Event{Agent: 2, Index: 3, Kind: api.EvFence, Mutex: -1, Entry: -1}, "2.3 fence"},
	{api.Event{Agent: 2, Index: 4, Kind: api.EvAwait, Obj: 1, Mutex: -1, Entry: -1, Order: api.Plain, Read: 9}, "2.4 await y plain 9"},
	{api.Event{Agent: 2, Index: 5, Kind: api.EvLock, Obj: 2, Mutex: -1, Entry: -1}, "2.5 lock o"},
	{api.Event{Agent: 2, Index: 6, Kind: api.EvUnlock, Obj: 1, Mutex: -1, Entry: -1}, "2.6 unlock n"},
	{api.Event{Agent: 4, Index: 0, Kind: api.EvTry, Obj: 0, Mutex: -1, Entry: -1, Read: 1}, "4.0 trylock m 1"},
	{api.Event{Agent: 4, Index: 1, Kind: api.EvWait, Obj: 0, Mutex: 2, Entry: -1}, "4.1 wait c o"},
	{api.Event{Agent: 4, Index: 2, Kind: api.EvWake, Obj: 1, Mutex: -1, Entry: -1}, "4.2 wake d"},
	{api.Event{Agent: 4, Index: 3, Kind: api.EvSignal, Obj: 0, Mutex: -1, Entry: -1, Read: 1}, "4.3 signal c 1"},
	{api.Event{Agent: 4, Index: 4, Kind: api.EvBroadcast, Obj: 1, Mutex: -1, Entry: -1, Read: 3}, "4.4 broadcast d 3"},
	{api.Event{Agent: 5, Index: 0, Kind: api.EvSpawn, Obj: 48, Mutex: -1, Entry: -1}, "5.0 spawn 48"},
	{api.Event{Agent: 5, Index: 1, Kind: api.EvJoin, Obj: 48, Mutex: -1, Entry: -1}, "5.1 join 48"},
}

// eventFields are the fields of an event other than its kind.
var eventFields = []string{"Agent", "Index", "Obj", "Mutex", "Entry", "Order", "Read", "Wrote"}

// setEvent returns an event in which a field has another content.
func setEvent(e api.Event, field string, n int) api.Event {
	switch field {
	case "Agent":
		e.Agent = n
	case "Index":
		e.Index = n
	case "Kind":
		e.Kind = api.Kind(n)
	case "Obj":
		e.Obj = n
	case "Mutex":
		e.Mutex = n
	case "Entry":
		e.Entry = n
	case "Order":
		e.Order = api.Order(n)
	case "Read":
		e.Read = n
	case "Wrote":
		e.Wrote = n
	}
	return e
}

// TestEvents checks P11.3: every kind of event, of threads and of store buffers.
func TestEvents(t *testing.T) {
	p := simple()
	for k, x := range eventTexts {
		if x.e.Kind != api.Kind(k+1) {
			t.Fatalf("event %d is %+v", k, x.e)
		}
		tells(t, p, x.e, fine(x.text))
		_, rest, _ := strings.Cut(x.text, " ")
		for agent, s := range map[int]string{0: "0", 7: "7", 8: "8", 71: "71", -1: "0b", -2: "1b", -72: "71b", 2147483647: "2147483647", -2147483648: "2147483647b"} {
			for _, index := range []int{0, 1, 10, 511, 2147483647} {
				e := setEvent(setEvent(x.e, "Agent", agent), "Index", index)
				tells(t, p, e, fine(s+"."+strconv.Itoa(index)+" "+rest))
			}
		}
		for _, n := range []int{0, 1, -1, 2147483647, -2147483648} {
			for _, field := range []string{"Read", "Wrote", "Entry"} {
				e := setEvent(x.e, field, n)
				want := wantedEvent(p, e)
				if want.err != api.OK {
					t.Fatalf("%+v has the error %d", e, want.err)
				}
				tells(t, p, e, want)
			}
		}
		for n := range len(subjects(p, x.e.Kind)) {
			e := setEvent(x.e, "Obj", n)
			tells(t, p, e, wantedEvent(p, e))
		}
		for n, name := range orderNames {
			if strings.Contains(eventRows[k], "O ") {
				e := setEvent(x.e, "Order", n)
				tells(t, p, e, fine(strings.Replace(x.text, orderNames[x.e.Order], name, 1)))
			}
		}
	}
}

// TestEntries checks P11.3: loads and awaits that read from a store buffer, and entries with any number.
func TestEntries(t *testing.T) {
	p := simple()
	for entry, s := range map[int]string{-1: "", 0: " entry 0", 1: " entry 1", 31: " entry 31", -2: " entry -2", 2147483647: " entry 2147483647", -2147483648: " entry -2147483648"} {
		tells(t, p, api.Event{Kind: api.EvLoad, Entry: entry, Mutex: -1, Read: 5}, fine("0.0 load x plain 5"+s))
		tells(t, p, api.Event{Kind: api.EvAwait, Entry: entry, Mutex: -1, Read: -5, Obj: 3, Order: 1}, fine("0.0 await w relaxed -5"+s))
		// The number of an entry is always written by the kinds that have one.
		n := strconv.Itoa(entry)
		tells(t, p, api.Event{Kind: api.EvBuffer, Entry: entry, Wrote: 5}, fine("0.0 buffer x plain 5 "+n))
		tells(t, p, api.Event{Agent: -1, Kind: api.EvFlush, Entry: entry, Wrote: 5}, fine("0b.0 flush x 5 "+n))
		// The others have none.
		tells(t, p, api.Event{Kind: api.EvStore, Entry: entry, Wrote: 5}, fine("0.0 store x plain 5"))
		tells(t, p, api.Event{Kind: api.EvUpdate, Entry: entry, Wrote: 5}, fine("0.0 update x plain 0 5"))
	}
	for _, kind := range []api.Kind{api.EvLoad, api.EvAwait, api.EvBuffer, api.EvFlush} {
		for _, n := range []int{1 << 31, -1<<31 - 1, 1<<32 - 1, math.MaxInt, math.MinInt} {
			tells(t, p, api.Event{Kind: kind, Entry: n}, failed(api.ErrRange))
		}
	}
}

// TestEventErrors checks P11.3: each field of each event with contents that are wrong where the field is written.
func TestEventErrors(t *testing.T) {
	p := simple()
	for _, kind := range []api.Kind{0, -1, 18, 19, 1 << 32, 1<<32 + 1, math.MaxInt, math.MinInt} {
		tells(t, p, api.Event{Kind: kind}, failed(api.ErrOp))
	}
	// writes tells whether the text of a kind has a word.
	writes := func(k int, name string) bool { return slices.Contains(strings.Fields(eventRows[k]), name) }
	for k, x := range eventTexts {
		expect := func(field string, written bool, err api.Errno, numbers ...int) {
			t.Helper()
			for _, n := range numbers {
				want := fine(x.text)
				if written {
					want = failed(err)
				}
				tells(t, p, setEvent(x.e, field, n), want)
			}
		}
		beyond := []int{1 << 31, -1<<31 - 1, 1 << 32, 1<<32 + 1, math.MaxInt, math.MinInt}
		expect("Agent", true, api.ErrRange, beyond...)
		expect("Index", true, api.ErrRange, beyond...)
		expect("Index", true, api.ErrRange, -1, -2, -1<<31)
		expect("Read", writes(k, "R"), api.ErrRange, beyond...)
		expect("Wrote", writes(k, "W"), api.ErrRange, beyond...)
		expect("Entry", writes(k, "N") || x.e.Kind == api.EvLoad || x.e.Kind == api.EvAwait, api.ErrRange, beyond...)
		expect("Order", writes(k, "O"), api.ErrOrder, append([]int{-1, 3, 4, -3}, beyond...)...)
		expect("Mutex", writes(k, "M"), api.ErrObject, wrongNumbers(3)...)
		if writes(k, "Obj") {
			expect("Obj", true, api.ErrRange, beyond...)
		} else {
			expect("Obj", writes(k, "X"), api.ErrObject, wrongNumbers(len(subjects(p, x.e.Kind)))...)
		}
	}
	// The ids of spawn and join are any values.
	for _, n := range []int{0, 5, -1, 2147483647, -2147483648} {
		tells(t, p, api.Event{Kind: api.EvSpawn, Obj: n}, fine("0.0 spawn "+strconv.Itoa(n)))
		tells(t, p, api.Event{Kind: api.EvJoin, Obj: n}, fine("0.0 join "+strconv.Itoa(n)))
	}
	// A field that is not written is not examined.
	tells(t, p, api.Event{Kind: api.EvFence, Obj: 99, Mutex: 99, Entry: 1 << 40, Order: 99, Read: 1 << 40, Wrote: 1 << 40}, fine("0.0 fence"))
}

// TestEventOrder checks P11.3: events with every pair of faults, of which the first one counts.
func TestEventOrder(t *testing.T) {
	p := simple()
	wrong := map[string][]int{
		"Agent": {1 << 31, math.MinInt}, "Index": {-1, 1 << 31}, "Kind": {0, 18}, "Obj": {-1, 4, 1 << 31, math.MinInt}, "Mutex": {-1, 3},
		"Entry": {1 << 31, -1<<31 - 1}, "Order": {-1, 3}, "Read": {1 << 31}, "Wrote": {-1<<31 - 1},
	}
	fields := append([]string{"Kind"}, eventFields...)
	for _, x := range eventTexts {
		for _, first := range fields {
			for _, n := range wrong[first] {
				for _, second := range fields {
					for _, m := range wrong[second] {
						e := setEvent(setEvent(x.e, first, n), second, m)
						tells(t, p, e, wantedEvent(p, e))
					}
				}
			}
		}
	}
	tells(t, p, api.Event{Kind: 18, Obj: -1, Order: 3, Index: -1}, failed(api.ErrOp))
	tells(t, p, api.Event{Kind: api.EvLoad, Obj: -1, Order: 3, Index: -1, Read: 1 << 31}, failed(api.ErrObject))
	tells(t, p, api.Event{Kind: api.EvWait, Mutex: 3, Agent: 1 << 31}, failed(api.ErrObject))
	tells(t, p, api.Event{Kind: api.EvBuffer, Order: 3, Agent: 1 << 31, Index: -1, Wrote: 1 << 31, Entry: 1 << 31}, failed(api.ErrOrder))
}

// returns fails if the text of a valid program and those of its instructions are not those of the definition, or if the assembler does not return the program and the instructions.
func returns(t *testing.T, p api.Program) {
	t.Helper()
	text, err := Program(p)
	same(t, fmt.Sprintf("Program(%+v)", p), result{text, err}, fine(wantedProgram(p)))
	if q, fault := asm.Parse(text); fault != (api.Fault{}) || !program.Equal(p, q) {
		t.Errorf("asm.Parse(%.300q): %+v %+v, want %+v", text, q, fault, p)
	}
	for _, f := range p.Funcs {
		for _, i := range f.Code {
			s, err := Instruction(p, i)
			if j, fault := asm.Instruction(p, s); err != api.OK || fault != (api.Fault{}) || i != j {
				t.Errorf("asm.Instruction(%q), error %d: %+v %+v, want %+v", s, err, j, fault, i)
			}
		}
	}
	laidOut(t, p, text)
}

// laidOut fails if the lines of a text are not laid out as P11.5 says.
func laidOut(t *testing.T, p api.Program, text string) {
	t.Helper()
	lines := strings.SplitAfter(text, "\n")
	if last := lines[len(lines)-1]; last != "" {
		t.Errorf("the text %.300q ends with %q", text, last)
	}
	lines = lines[:len(lines)-1]
	for _, line := range lines {
		if strings.HasSuffix(line, " \n") || strings.TrimSpace(line) == "" || strings.ContainsAny(line, "\t\r") {
			t.Errorf("the text %.300q has the line %q", text, line)
		}
	}
	want := len(p.Vars) + len(p.Mutexes) + len(p.Conds) + program.Size(p) + len(p.Threads) + 2*len(p.Funcs)
	if len(lines) != want {
		t.Errorf("the text %.300q has %d lines, want %d", text, len(lines), want)
	}
}

// pickName returns a name that none of the given ones is.
func pickName(r *rand.Rand, used map[string]bool) string {
	const first, other = "abXYz", "abXYz019_"
	for {
		name := string(first[r.Intn(len(first))])
		for range r.Intn(16) * r.Intn(2) {
			name += string(other[r.Intn(len(other))])
		}
		if !used[name] {
			used[name] = true
			return name
		}
	}
}

// pickNames returns up to limit different names.
func pickNames(r *rand.Rand, limit int) []string {
	var names []string
	used := map[string]bool{}
	for range r.Intn(limit + 1) {
		names = append(names, pickName(r, used))
	}
	return names
}

// pickNumber returns a value.
func pickNumber(r *rand.Rand) int {
	switch r.Intn(5) {
	case 0:
		return 0
	case 1:
		return []int{1<<31 - 1, -1 << 31}[r.Intn(2)]
	case 2:
		return r.Intn(1<<32) - 1<<31
	}
	return r.Intn(21) - 10
}

// pickInstruction returns an instruction of a function of p with the given number of instructions.
func pickInstruction(r *rand.Rand, p api.Program, length int) api.Inst {
	for {
		op := api.Op(1 + r.Intn(22))
		i := api.Inst{Op: op}
		for _, operand := range strings.Fields(instructionRows[op-1])[1:] {
			n := r.Intn(8)
			switch operand {
			case "Fn":
				n = 1 + r.Intn(10)
			case "Order":
				n = r.Intn(3)
			case "Obj":
				n = r.Intn(max(1, len(objects(p, op))))
			case "N":
				n = r.Intn(length + 1)
				if op == api.OpConst {
					n = pickNumber(r)
				}
				if op == api.OpWait {
					n = r.Intn(max(1, len(p.Mutexes)))
				}
			}
			i = set(i, operand, n)
		}
		// A program without objects of a kind has no instruction for it.
		if wantedInstruction(p, i).err == api.OK {
			return i
		}
	}
}

// pickProgram returns a valid program.
func pickProgram(r *rand.Rand) api.Program {
	p := api.Program{Mutexes: pickNames(r, 4), Conds: pickNames(r, 4)}
	for _, name := range pickNames(r, 8) {
		p.Vars = append(p.Vars, api.Var{Name: name, Init: pickNumber(r)})
	}
	for len(p.Funcs) == 0 {
		for _, name := range pickNames(r, 8) {
			p.Funcs = append(p.Funcs, api.Func{Name: name})
		}
	}
	for f := range p.Funcs {
		length := r.Intn(12)
		for range length {
			p.Funcs[f].Code = append(p.Funcs[f].Code, pickInstruction(r, p, length))
		}
	}
	for range 1 + r.Intn(8) {
		p.Threads = append(p.Threads, api.Start{Func: r.Intn(len(p.Funcs)), Arg: pickNumber(r)})
	}
	return p
}

// TestRoundTrip checks P11.4 and P11.5, and P11.1 and P11.2 by their definitions.
func TestRoundTrip(t *testing.T) {
	var code []api.Inst
	for _, x := range instructionTexts {
		code = append(code, x.i)
	}
	returns(t, simple(code...))
	returns(t, api.Program{Funcs: []api.Func{{Name: "f"}}, Threads: []api.Start{{}}})
	returns(t, limited(api.Inst{Op: api.OpStop}))
	returns(t, limited(api.Inst{Op: api.OpSignal, Obj: 3}))
	returns(t, limited(api.Inst{Op: api.OpConst, A: 7, N: -1 << 31}))
	r := rand.New(rand.NewSource(11))
	for range 1500 {
		p := pickProgram(r)
		if !program.Valid(p) {
			t.Fatalf("%+v is not valid", p)
		}
		returns(t, p)
	}
	// An instruction that fits the program need not fit any of its functions.
	for range 3000 {
		p := simple()
		i := pickInstruction(r, p, 64)
		s, err := Instruction(p, i)
		same(t, fmt.Sprintf("Instruction(%+v)", i), result{s, err}, wantedInstruction(p, i))
		if j, fault := asm.Instruction(p, s); fault != (api.Fault{}) || i != j {
			t.Errorf("asm.Instruction(%q): %+v %+v, want %+v", s, j, fault, i)
		}
	}
}

// TestRandomInstructions checks P11.2: instructions with any contents of their fields, compared with the definition.
func TestRandomInstructions(t *testing.T) {
	r := rand.New(rand.NewSource(12))
	for range 20000 {
		p := simple()
		i := pickInstruction(r, p, 64)
		for range r.Intn(3) {
			field := []string{"Op", "A", "B", "C", "Obj", "N", "Fn", "Order"}[r.Intn(8)]
			i = set(i, field, []int{-1, 0, 1, 2, 3, 4, 5, 7, 8, 10, 11, 22, 23, 64, 65, 1 << 31, -1 << 31, -1<<31 - 1, math.MaxInt, math.MinInt}[r.Intn(20)])
		}
		reads(t, p, i, wantedInstruction(p, i))
	}
}

// TestRandomEvents checks P11.3: events with any contents of their fields, compared with the definition.
func TestRandomEvents(t *testing.T) {
	r := rand.New(rand.NewSource(13))
	numbers := []int{-2, -1, 0, 1, 2, 3, 4, 5, 9, 17, 18, 1<<31 - 1, 1 << 31, -1 << 31, -1<<31 - 1, math.MaxInt, math.MinInt}
	for range 40000 {
		p := simple()
		e := eventTexts[r.Intn(17)].e
		for range r.Intn(4) {
			e = setEvent(e, eventFields[r.Intn(len(eventFields))], numbers[r.Intn(len(numbers))])
		}
		tells(t, p, e, wantedEvent(p, e))
	}
}

// neighbours returns the valid programs that differ from p in one place.
func neighbours(p api.Program) []api.Program {
	var all []api.Program
	add := func(change func(q *api.Program)) {
		q := program.Clone(p)
		change(&q)
		if program.Valid(q) && !program.Equal(p, q) {
			all = append(all, q)
		}
	}
	for k := range p.Vars {
		add(func(q *api.Program) { q.Vars[k].Name += "_" })
		add(func(q *api.Program) { q.Vars[k].Init = -1 - q.Vars[k].Init })
		add(func(q *api.Program) { q.Vars[0], q.Vars[k] = q.Vars[k], q.Vars[0] })
	}
	for k := range p.Mutexes {
		add(func(q *api.Program) { q.Mutexes[k] += "_" })
		add(func(q *api.Program) { q.Mutexes[0], q.Mutexes[k] = q.Mutexes[k], q.Mutexes[0] })
	}
	for k := range p.Conds {
		add(func(q *api.Program) { q.Conds[k] += "_" })
		add(func(q *api.Program) { q.Conds[0], q.Conds[k] = q.Conds[k], q.Conds[0] })
	}
	for k := range p.Threads {
		add(func(q *api.Program) { q.Threads[k].Arg = -1 - q.Threads[k].Arg })
		add(func(q *api.Program) { q.Threads[k].Func = (q.Threads[k].Func + 1) % len(q.Funcs) })
		add(func(q *api.Program) { q.Threads = slices.Delete(q.Threads, k, k+1) })
	}
	for f := range p.Funcs {
		add(func(q *api.Program) { q.Funcs[f].Name += "_" })
		add(func(q *api.Program) { q.Funcs[f].Code = append(q.Funcs[f].Code, api.Inst{Op: api.OpStop}) })
		for n := range p.Funcs[f].Code {
			add(func(q *api.Program) { q.Funcs[f].Code = slices.Delete(q.Funcs[f].Code, n, n+1) })
			for _, field := range []string{"Op", "A", "B", "C", "Obj", "N", "Fn", "Order"} {
				for content := range 23 {
					add(func(q *api.Program) { q.Funcs[f].Code[n] = set(q.Funcs[f].Code[n], field, content) })
				}
			}
		}
	}
	add(func(q *api.Program) { q.Vars = append(q.Vars, api.Var{Name: "new"}) })
	add(func(q *api.Program) { q.Mutexes = append(q.Mutexes, "new") })
	add(func(q *api.Program) { q.Conds = append(q.Conds, "new") })
	add(func(q *api.Program) { q.Funcs = append(q.Funcs, api.Func{Name: "new"}) })
	return all
}

// TestDifferent checks P11.5: different programs have different texts.
func TestDifferent(t *testing.T) {
	var code []api.Inst
	for _, x := range instructionTexts {
		code = append(code, x.i)
	}
	p := simple(code...)
	p.Threads = []api.Start{{Func: 4, Arg: 3}, {Func: 1}}
	seen := map[string]api.Program{}
	all := append(neighbours(p), p)
	for _, q := range all {
		text, err := Program(q)
		if other, ok := seen[text]; err != api.OK || ok && !program.Equal(q, other) {
			t.Errorf("%+v and %+v have the text %q, error %d", q, other, text, err)
		}
		seen[text] = q
	}
	if len(all) < 400 {
		t.Errorf("only %d programs", len(all))
	}
}

// spare returns a copy of a list with one element behind its end.
func spare[T any](list []T, behind T) []T {
	return append(slices.Clone(list), behind)[:len(list)]
}

// TestMemory checks the rules for arguments: neither they nor the capacity behind them are changed, and later changes of them do not reach a result.
func TestMemory(t *testing.T) {
	var code []api.Inst
	for _, x := range instructionTexts {
		code = append(code, x.i)
	}
	p := simple(code...)
	p.Vars = spare(p.Vars, api.Var{Name: "behind", Init: 1})
	p.Mutexes, p.Conds = spare(p.Mutexes, "behind"), spare(p.Conds, "behind")
	p.Funcs = spare(p.Funcs, api.Func{Name: "behind"})
	p.Funcs[4].Code = spare(p.Funcs[4].Code, api.Inst{Op: api.OpFence})
	p.Threads = spare(p.Threads, api.Start{Func: 3, Arg: 3})
	whole := func() api.Program {
		q := api.Program{Vars: p.Vars[:5], Mutexes: p.Mutexes[:4], Conds: p.Conds[:3], Funcs: p.Funcs[:6], Threads: p.Threads[:2]}
		q = program.Clone(q)
		q.Funcs[4].Code = slices.Clone(p.Funcs[4].Code[:len(code)+1])
		return q
	}
	before, first := whole(), program.Clone(p)
	text, err := Program(p)
	instruction, err1 := Instruction(p, instructionTexts[17].i)
	event, err2 := Event(p, eventTexts[11].e)
	if !reflect.DeepEqual(whole(), before) {
		t.Errorf("the program is %+v after the calls, was %+v", whole(), before)
	}
	// Other contents give other texts, and leave those that were returned as they are.
	p.Vars[0].Name, p.Mutexes[2], p.Conds[0], p.Funcs[4].Code[0].N = "other", "other", "other", 99
	reads(t, p, instructionTexts[17].i, fine("wait other other"))
	tells(t, p, eventTexts[11].e, fine("4.1 wait other other"))
	prints(t, "the changed program", p, fine(wantedProgram(p)))
	same(t, "Program", result{text, err}, fine(wantedProgram(first)))
	same(t, "Instruction", result{instruction, err1}, fine(instructionTexts[17].text))
	same(t, "Event", result{event, err2}, fine(eventTexts[11].text))
}
