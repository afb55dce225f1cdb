package asm

import (
	"fmt"
	"math"
	"math/rand"
	"reflect"
	"slices"
	"strconv"
	"strings"
	"testing"

	"modelcheck/api"
	"modelcheck/lex"
	"modelcheck/program"
)

// parses fails if Parse does not return the program that is wanted, which must be valid.
func parses(t *testing.T, s string, want api.Program) {
	t.Helper()
	p, fault := Parse(s)
	if !program.Equal(p, want) || fault != (api.Fault{}) {
		t.Errorf("Parse(%.300q): %+v %+v, want %+v", s, p, fault, want)
	}
	if !program.Valid(p) {
		t.Errorf("Parse(%.300q): a program that is not valid", s)
	}
}

// fails fails if Parse does not return the fault that is wanted, or returns a program with it.
func fails(t *testing.T, s string, err api.Errno, at int) {
	t.Helper()
	p, fault := Parse(s)
	if !program.Equal(p, api.Program{}) || fault != (api.Fault{Err: err, At: at}) {
		t.Errorf("Parse(%.300q): %+v, fault %+v, want the fault %d at %d", s, p, fault, err, at)
	}
}

// failsAt is fails for a text with a mark, which is removed, where the fault is wanted.
func failsAt(t *testing.T, s string, err api.Errno) {
	t.Helper()
	at := strings.Index(s, "@")
	fails(t, strings.Replace(s, "@", "", 1), err, at)
}

// reads fails if Instruction does not return the instruction that is wanted.
func reads(t *testing.T, p api.Program, s string, want api.Inst) {
	t.Helper()
	if i, fault := Instruction(p, s); i != want || fault != (api.Fault{}) {
		t.Errorf("Instruction(%.300q): %+v %+v, want %+v", s, i, fault, want)
	}
}

// refuses fails if Instruction does not return the fault that is wanted, or returns an instruction with it.
func refuses(t *testing.T, p api.Program, s string, err api.Errno, at int) {
	t.Helper()
	if i, fault := Instruction(p, s); i != (api.Inst{}) || fault != (api.Fault{Err: err, At: at}) {
		t.Errorf("Instruction(%.300q): %+v, fault %+v, want the fault %d at %d", s, i, fault, err, at)
	}
}

// refusesAt is refuses for a text with a mark, which is removed, where the fault is wanted.
func refusesAt(t *testing.T, p api.Program, s string, err api.Errno) {
	t.Helper()
	at := strings.Index(s, "@")
	refuses(t, p, strings.Replace(s, "@", "", 1), err, at)
}

// A form is an operation with the operands of the table in DOC.md. For Obj, and for N of wait, the form has the word that declares the object.
type form struct {
	op       api.Op
	mnemonic string
	operands []string
}

// forms is the table of the instructions.
var forms = table()

// table returns the forms of the table in DOC.md.
func table() []form {
	var all []form
	for k, row := range []string{
		"const A N", "copy A B", "calc Fn A B C", "jump N", "branch B N", "assert B", "stop",
		"load A var Order", "store var B Order", "swap A var B Order", "fetchadd A var B Order", "cas A var B C Order", "fence", "await A var Fn B Order",
		"lock mutex", "unlock mutex", "trylock A mutex", "wait cond N.mutex", "signal cond", "broadcast cond", "spawn A func B", "join B",
	} {
		words := strings.Fields(row)
		all = append(all, form{api.Op(k + 1), words[0], words[1:]})
	}
	return all
}

var (
	functionNames = []string{"add", "sub", "mul", "and", "or", "xor", "eq", "ne", "lt", "le"}
	orderNames    = []string{"plain", "relaxed", "relacq"}
)

// objectNames are the names of the objects of the program simple, by the words that declare them.
var objectNames = map[string][]string{"var": {"x", "y", "z"}, "mutex": {"m", "n"}, "cond": {"c", "d"}, "func": {"f", "g", "h"}}

// simpleText declares objects of all kinds. Its last function has not ended, so instructions and tail can follow.
const simpleText = "var x 0\nvar y -1\nvar z 7\nmutex m\nmutex n\ncond c\ncond d\nfunc f\nend\nfunc g\nend\nfunc h\n"

// tail ends the last function and the program.
const tail = "\nend\nthread f 0\n"

// simple is the program of simpleText with the given code, and tail.
func simple(code ...api.Inst) api.Program {
	return api.Program{
		Vars:    []api.Var{{Name: "x"}, {Name: "y", Init: -1}, {Name: "z", Init: 7}},
		Mutexes: []string{"m", "n"},
		Conds:   []string{"c", "d"},
		Funcs:   []api.Func{{Name: "f"}, {Name: "g"}, {Name: "h", Code: code}},
		Threads: []api.Start{{}},
	}
}

// choices returns the words that can stand for an operand in the program simple.
func choices(operand string) []string {
	switch operand {
	case "A", "B", "C":
		return []string{"r0", "r1", "r2", "r3", "r4", "r5", "r6", "r7"}
	case "Fn":
		return functionNames
	case "Order":
		return orderNames
	case "N":
		return []string{"0", "1"}
	}
	return objectNames[strings.TrimPrefix(operand, "N.")]
}

// set sets the field of an operand to a number.
func set(i *api.Inst, operand string, n int) {
	switch operand {
	case "A":
		i.A = n
	case "B":
		i.B = n
	case "C":
		i.C = n
	case "Fn":
		i.Fn = api.Fn(n + 1)
	case "Order":
		i.Order = api.Order(n)
	case "N", "N.mutex":
		i.N = n
	default:
		i.Obj = n
	}
}

// sample returns an instruction of a form in which each operand is chosen, and its words.
func sample(f form, choose func(operand string, count int) int) (api.Inst, []string) {
	i, words := api.Inst{Op: f.op}, []string{f.mnemonic}
	for _, operand := range f.operands {
		all := choices(operand)
		n := choose(operand, len(all))
		set(&i, operand, n)
		words = append(words, all[n])
	}
	return i, words
}

// last chooses the last word for an operand.
func last(_ string, count int) int { return count - 1 }

// TestExamples checks the examples of the chapter.
func TestExamples(t *testing.T) {
	parses(t, "var x 0\nfunc f\nload r1 x relacq\nend\nthread f 3\n", api.Program{
		Vars:    []api.Var{{Name: "x"}},
		Funcs:   []api.Func{{Name: "f", Code: []api.Inst{{Op: api.OpLoad, A: 1, Order: api.RelAcq}}}},
		Threads: []api.Start{{Arg: 3}},
	})
	fails(t, "func f", api.ErrEnd, 6)
	refuses(t, simple(), "copy r1 r8", api.ErrRegister, 8)
}

// TestDeclarations checks P10.1 and P10.2: declarations of each kind, in any order, and their numbers.
func TestDeclarations(t *testing.T) {
	parses(t, "func f\nend\nthread f 0", api.Program{Funcs: []api.Func{{Name: "f"}}, Threads: []api.Start{{}}})
	parses(t, "thread g -4\ncond c\nfunc f\nstop\nend\nvar x 5\nmutex m\nthread f 7\nvar y -6\nfunc g\nend\nmutex n\ncond d\nthread g 1", api.Program{
		Vars:    []api.Var{{Name: "x", Init: 5}, {Name: "y", Init: -6}},
		Mutexes: []string{"m", "n"},
		Conds:   []string{"c", "d"},
		Funcs:   []api.Func{{Name: "f", Code: []api.Inst{{Op: api.OpStop}}}, {Name: "g"}},
		Threads: []api.Start{{Func: 1, Arg: -4}, {Func: 0, Arg: 7}, {Func: 1, Arg: 1}},
	})
	// Objects of different kinds may have one name, and each instruction means its own kind.
	parses(t, "mutex b\nvar a 1\ncond b\nfunc b\nend\nmutex a\ncond c\nfunc c\nend\nvar b 2\ncond a\nfunc a\nload r0 a plain\nload r0 b plain\nlock a\nlock b\nsignal a\nsignal b\nwait a b\nwait b a\nspawn r0 a r0\nspawn r0 b r0\nend\nthread a 0", api.Program{
		Vars:    []api.Var{{Name: "a", Init: 1}, {Name: "b", Init: 2}},
		Mutexes: []string{"b", "a"},
		Conds:   []string{"b", "c", "a"},
		Funcs: []api.Func{{Name: "b"}, {Name: "c"}, {Name: "a", Code: []api.Inst{
			{Op: api.OpLoad}, {Op: api.OpLoad, Obj: 1}, {Op: api.OpLock, Obj: 1}, {Op: api.OpLock}, {Op: api.OpSignal, Obj: 2}, {Op: api.OpSignal},
			{Op: api.OpWait, Obj: 2, N: 0}, {Op: api.OpWait, Obj: 0, N: 1}, {Op: api.OpSpawn, Obj: 2}, {Op: api.OpSpawn},
		}}},
		Threads: []api.Start{{Func: 2}},
	})
	// Words of the language are names like any other ones.
	parses(t, "var var 1\nmutex mutex\ncond cond\nfunc func\nload r1 var plain\nstore r1 r1 plain\nlock mutex\nlock lock\nsignal cond\nwait end end\nspawn r1 end r2\nend\nvar r1 2\nmutex lock\nmutex end\ncond end\nfunc end\nend\nfunc thread\nend\nthread func 1\nthread end 2\nthread thread 3", api.Program{
		Vars:    []api.Var{{Name: "var", Init: 1}, {Name: "r1", Init: 2}},
		Mutexes: []string{"mutex", "lock", "end"},
		Conds:   []string{"cond", "end"},
		Funcs: []api.Func{{Name: "func", Code: []api.Inst{
			{Op: api.OpLoad, A: 1}, {Op: api.OpStore, Obj: 1, B: 1}, {Op: api.OpLock}, {Op: api.OpLock, Obj: 1}, {Op: api.OpSignal},
			{Op: api.OpWait, Obj: 1, N: 2}, {Op: api.OpSpawn, A: 1, Obj: 1, B: 2},
		}}, {Name: "end"}, {Name: "thread"}},
		Threads: []api.Start{{Func: 0, Arg: 1}, {Func: 1, Arg: 2}, {Func: 2, Arg: 3}},
	})
	// Names differ in the case of their letters, and a name can be the beginning of another one.
	parses(t, "var a 1\nvar A 2\nvar aa 3\nfunc f\nload r0 aa plain\nload r0 A plain\nload r0 a plain\nend\nthread f 0", api.Program{
		Vars:    []api.Var{{Name: "a", Init: 1}, {Name: "A", Init: 2}, {Name: "aa", Init: 3}},
		Funcs:   []api.Func{{Name: "f", Code: []api.Inst{{Op: api.OpLoad, Obj: 2}, {Op: api.OpLoad, Obj: 1}, {Op: api.OpLoad}}}},
		Threads: []api.Start{{}},
	})
}

// TestInstructions checks P10.1 to P10.3: each instruction, with each word for each of its operands.
func TestInstructions(t *testing.T) {
	var code []api.Inst
	text := simpleText
	for _, f := range forms {
		for _, varied := range append([]string{""}, f.operands...) {
			for n := range max(len(choices(varied)), 1) {
				// The other operands are all different, so that no two of them can be exchanged.
				i, words := sample(f, func(operand string, count int) int {
					if operand == varied {
						return n
					}
					return (len(operand) + int(operand[0])) % count
				})
				s := strings.Join(words, " ")
				parses(t, simpleText+s+tail, simple(i))
				reads(t, simple(), s, i)
			}
		}
		i, words := sample(f, last)
		code = append(code, i)
		text += "\n  " + strings.Join(words, "\t") + " # " + f.mnemonic + "\n"
	}
	parses(t, text+tail, simple(code...))
}

// TestFields checks P10.1: each operand gets into its own field.
func TestFields(t *testing.T) {
	for s, want := range map[string]api.Inst{
		"const r1 -5":              {Op: api.OpConst, A: 1, N: -5},
		"copy r1 r2":               {Op: api.OpCopy, A: 1, B: 2},
		"calc xor r1 r2 r3":        {Op: api.OpCalc, Fn: api.FnXor, A: 1, B: 2, C: 3},
		"jump 1":                   {Op: api.OpJump, N: 1},
		"branch r2 1":              {Op: api.OpBranch, B: 2, N: 1},
		"assert r2":                {Op: api.OpAssert, B: 2},
		"stop":                     {Op: api.OpStop},
		"load r1 z relacq":         {Op: api.OpLoad, A: 1, Obj: 2, Order: api.RelAcq},
		"store z r2 relaxed":       {Op: api.OpStore, Obj: 2, B: 2, Order: api.Relaxed},
		"swap r1 z r2 plain":       {Op: api.OpSwap, A: 1, Obj: 2, B: 2},
		"fetchadd r1 y r2 relaxed": {Op: api.OpFetchAdd, A: 1, Obj: 1, B: 2, Order: api.Relaxed},
		"cas r1 y r2 r3 relacq":    {Op: api.OpCas, A: 1, Obj: 1, B: 2, C: 3, Order: api.RelAcq},
		"fence":                    {Op: api.OpFence},
		"await r1 z le r2 relacq":  {Op: api.OpAwait, A: 1, Obj: 2, Fn: api.FnLe, B: 2, Order: api.RelAcq},
		"lock n":                   {Op: api.OpLock, Obj: 1},
		"unlock n":                 {Op: api.OpUnlock, Obj: 1},
		"trylock r3 n":             {Op: api.OpTryLock, A: 3, Obj: 1},
		"wait c n":                 {Op: api.OpWait, Obj: 0, N: 1},
		"wait d m":                 {Op: api.OpWait, Obj: 1, N: 0},
		"signal d":                 {Op: api.OpSignal, Obj: 1},
		"broadcast d":              {Op: api.OpBroadcast, Obj: 1},
		"spawn r1 h r2":            {Op: api.OpSpawn, A: 1, Obj: 2, B: 2},
		"join r2":                  {Op: api.OpJoin, B: 2},
	} {
		reads(t, simple(), s, want)
		parses(t, simpleText+s+tail, simple(want))
	}
}

// TestNumbers checks P10.1: numbers at the bounds, and beyond them.
func TestNumbers(t *testing.T) {
	for _, n := range []int{0, 1, -1, 9, -10, 2147483647, -2147483648, 2147483646, -2147483647} {
		s := strconv.Itoa(n)
		p := simple(api.Inst{Op: api.OpConst, A: 7, N: n})
		p.Vars = append(p.Vars, api.Var{Name: "w", Init: n})
		p.Threads = append(p.Threads, api.Start{Func: 1, Arg: n})
		parses(t, simpleText+"const r7 "+s+tail+"var w "+s+"\nthread g "+s, p)
		for before, op := range map[string]api.Op{"jump ": api.OpJump, "branch r0 ": api.OpBranch} {
			i := api.Inst{Op: op, N: n}
			// Instruction takes any target.
			reads(t, simple(), before+s, i)
			if n == 0 || n == 1 {
				parses(t, simpleText+before+s+tail, simple(i))
			} else {
				fails(t, simpleText+before+s+tail, api.ErrTarget, len(simpleText))
			}
		}
	}
	for s, err := range map[string]api.Errno{"2147483648": api.ErrRange, "-2147483649": api.ErrRange, "-0": api.ErrNumber, "01": api.ErrNumber, "-": api.ErrNumber, "1x": api.ErrNumber} {
		failsAt(t, "var x @"+s, err)
		failsAt(t, simpleText+"const r1 @"+s+tail, err)
		failsAt(t, simpleText+tail+"thread f @"+s, err)
		refusesAt(t, simple(), "const r1 @"+s, err)
		refusesAt(t, simple(), "jump @"+s, err)
	}
}

// TestLaterNames checks P10.2: names before and after their declarations, and several uses of one object.
func TestLaterNames(t *testing.T) {
	use := "thread h 1\nfunc h\nload r1 z plain\nstore z r1 plain\nlock n\nunlock n\nwait d n\nsignal d\nbroadcast d\nspawn r1 g r1\nspawn r2 h r2\nload r1 z plain\nend\nthread g 2\n"
	code := []api.Inst{
		{Op: api.OpLoad, A: 1, Obj: 1}, {Op: api.OpStore, Obj: 1, B: 1}, {Op: api.OpLock, Obj: 1}, {Op: api.OpUnlock, Obj: 1}, {Op: api.OpWait, Obj: 1, N: 1},
		{Op: api.OpSignal, Obj: 1}, {Op: api.OpBroadcast, Obj: 1}, {Op: api.OpSpawn, A: 1, B: 1}, {Op: api.OpSpawn, A: 2, Obj: 1, B: 2}, {Op: api.OpLoad, A: 1, Obj: 1},
	}
	p := api.Program{
		Vars:    []api.Var{{Name: "x"}, {Name: "z"}},
		Mutexes: []string{"m", "n"},
		Conds:   []string{"c", "d"},
		Funcs:   []api.Func{{Name: "g"}, {Name: "h", Code: code}},
		Threads: []api.Start{{Func: 1, Arg: 1}, {Func: 0, Arg: 2}},
	}
	declared := "var x 0\nvar z 0\nmutex m\nmutex n\ncond c\ncond d\nfunc g\nend\n"
	parses(t, declared+use, p)
	// Declared later, the function h is the first one.
	p.Funcs = []api.Func{{Name: "h", Code: slices.Clone(code)}, {Name: "g"}}
	p.Funcs[0].Code[7].Obj, p.Funcs[0].Code[8].Obj = 1, 0
	p.Threads = []api.Start{{Func: 0, Arg: 1}, {Func: 1, Arg: 2}}
	parses(t, use+declared, p)
	// Two functions that name each other.
	parses(t, "func f\nspawn r0 g r0\nend\nfunc g\nspawn r0 f r0\nend\nthread g 0", api.Program{
		Funcs:   []api.Func{{Name: "f", Code: []api.Inst{{Op: api.OpSpawn, Obj: 1}}}, {Name: "g", Code: []api.Inst{{Op: api.OpSpawn}}}},
		Threads: []api.Start{{Func: 1}},
	})
}

// TestTwice checks P10.2: two objects of one kind with one name, of which the first counts. No valid program has them.
func TestTwice(t *testing.T) {
	fails(t, "var a 0\nvar b 0\nvar a 1\nfunc f\nload r0 a plain\nend\nthread f 0", api.ErrTwice, 0)
	fails(t, "mutex a\nmutex a\nfunc f\nlock a\nend\nthread f 0", api.ErrTwice, 0)
	fails(t, "cond a\nfunc f\nsignal a\nend\nthread f 0\ncond a", api.ErrTwice, 0)
	failsAt(t, "func f\nstop\nend\n@func f\nend\nthread f 0", api.ErrTwice)
	twice := api.Program{
		Vars:    []api.Var{{Name: "b"}, {Name: "a"}, {Name: "b"}, {Name: "a"}},
		Mutexes: []string{"a", "b", "a", "b"},
		Conds:   []string{"c", "a", "b", "a", "b"},
		Funcs:   []api.Func{{Name: "c"}, {Name: "c"}, {Name: "b"}, {Name: "a"}, {Name: "a"}, {Name: "b"}},
	}
	tokens, _ := lex.Scan("load r0 a plain\nload r0 b plain\nlock a\nlock b\nwait a b\nwait b a\nspawn r0 a r0\nspawn r0 b r0\n")
	var got []api.Inst
	for _, l := range lines(tokens, 200) {
		got = append(got, instruction(l, namesOf(twice)))
	}
	want := []api.Inst{
		{Op: api.OpLoad, Obj: 1}, {Op: api.OpLoad, Obj: 0}, {Op: api.OpLock, Obj: 0}, {Op: api.OpLock, Obj: 1},
		{Op: api.OpWait, Obj: 1, N: 1}, {Op: api.OpWait, Obj: 2, N: 0}, {Op: api.OpSpawn, Obj: 3}, {Op: api.OpSpawn, Obj: 2},
	}
	if !slices.Equal(got, want) {
		t.Errorf("instructions: %+v, want %+v", got, want)
	}
}

// TestEmptyTexts checks P10.1 and P10.2: texts without lines, whose program has no thread.
func TestEmptyTexts(t *testing.T) {
	for _, s := range []string{"", "\n", "\n\n\n", " ", "\t", "# c", "#\n", " \n\t# var x 0\n\n  # func f", strings.Repeat("\n", 16384), strings.Repeat(" ", 16384)} {
		fails(t, s, api.ErrLimit, 0)
		refuses(t, api.Program{}, s, api.ErrLimit, 0)
		if feed := strings.Index(s, "\n"); feed >= 0 {
			refuses(t, simple(), s, api.ErrToken, feed)
		} else {
			refuses(t, simple(), s, api.ErrEnd, len(s))
		}
	}
	fails(t, "var x 0\nmutex m\ncond c", api.ErrLimit, 0)
	fails(t, "func f\nend", api.ErrLimit, 0)
}

// TestLastLine checks P10.1: texts that end with a line without a line feed.
func TestLastLine(t *testing.T) {
	p := api.Program{Funcs: []api.Func{{Name: "f", Code: []api.Inst{{Op: api.OpStop}}}}, Threads: []api.Start{{}}}
	for _, after := range []string{"", "\n", " ", "\t\n", " # c", "# c\n", "\n\n#", "\n "} {
		parses(t, "func f\nstop\nend\nthread f 0"+after, p)
		parses(t, "thread f 0\nfunc f\nstop\nend"+after, p)
		// An instruction is the last line of a text whose function has not ended.
		fails(t, "thread f 0\nfunc f\nstop"+after, api.ErrEnd, 22+len(after))
		fails(t, "thread f 0\nfunc f"+after, api.ErrEnd, 17+len(after))
	}
}

// someTokens are tokens of all kinds but line feeds, by their kinds.
var someTokens = map[api.TokenKind][]string{
	api.TokWord:   {"x", "f", "r1", "plain", "add", "end", "stop", "var", "unknown"},
	api.TokNumber: {"0", "1", "-1", "2147483647", "-2147483648"},
	api.TokSymbol: {"(", ")", "{", "}", ",", ";", "=", ":"},
}

// TestFirstTokens checks P10.1: the first tokens of lines outside and inside functions.
func TestFirstTokens(t *testing.T) {
	outside := []string{"@", "var x 0\n@", "\n\n # c\n\t@", "func f\nend\n@", "thread nobody 0\n@", "mutex m\ncond c\nfunc f\nstop\nend\n @"}
	inside := []string{"func f\n@", "func f\n \t@", "func f\n\n#\n@", "func f\nend\nfunc g\nstop\nload r1 nothing plain\n  @"}
	wrong := []string{"end", "stop", "load", "x", "Var", "VAR", "vars", "va", "Func", "function", "global", "r0", "add"}
	for _, f := range forms {
		wrong = append(wrong, f.mnemonic)
	}
	for _, after := range []string{"", " x 0", " x", " 0\nvar", "\n:", "# c", " end", "; func"} {
		for _, before := range outside {
			for _, first := range slices.Concat(wrong, someTokens[api.TokNumber], someTokens[api.TokSymbol]) {
				failsAt(t, before+first+after, api.ErrToken)
			}
		}
		for _, before := range inside {
			for _, first := range slices.Concat(someTokens[api.TokNumber], someTokens[api.TokSymbol]) {
				failsAt(t, before+first+after, api.ErrToken)
			}
			for _, first := range []string{"var", "mutex", "cond", "func", "thread", "End", "END", "ends", "x", "f", "Stop", "loads", "fetch_add", "nop", "r1", "add", "plain", "endfunc"} {
				failsAt(t, before+first+after, api.ErrOp)
			}
		}
	}
}

// A shape is a line without a fault: its words, the kinds that they must have, and lines after which it can stand.
type shape struct {
	before string
	words  []string
	kinds  []api.TokenKind
}

// shapes returns a line of each form. Those of instructions stand after simpleText.
func shapes() []shape {
	const word, number = api.TokWord, api.TokNumber
	all := []shape{
		{"", []string{"var", "w", "5"}, []api.TokenKind{word, word, number}},
		{"", []string{"mutex", "w"}, []api.TokenKind{word, word}},
		{"var v 0\n", []string{"cond", "w"}, []api.TokenKind{word, word}},
		{"func g\nend\n", []string{"func", "w"}, []api.TokenKind{word, word}},
		{"func f\nend\n", []string{"thread", "f", "-5"}, []api.TokenKind{word, word, number}},
		{"func f\n", []string{"end"}, []api.TokenKind{word}},
		{"func f\nstop\nload r1 nothing plain\n", []string{"end"}, []api.TokenKind{word}},
	}
	for _, f := range forms {
		_, words := sample(f, last)
		kinds := []api.TokenKind{word}
		for _, operand := range f.operands {
			if operand == "N" {
				kinds = append(kinds, number)
			} else {
				kinds = append(kinds, word)
			}
		}
		all = append(all, shape{simpleText, words, kinds})
	}
	return all
}

// TestLinesTooShort checks P10.1: lines that end too early at a line feed, at the end of the text, and before a comment.
func TestLinesTooShort(t *testing.T) {
	for _, x := range shapes() {
		for length := 1; length < len(x.words); length++ {
			s := x.before + strings.Join(x.words[:length], " ")
			for _, after := range []string{"", " ", "\t ", "# c", "  #"} {
				failsAt(t, s+after+"@", api.ErrEnd)
				failsAt(t, s+after+"@\n", api.ErrEnd)
				failsAt(t, s+after+"@\n\n:", api.ErrEnd)
				// What is missing is not taken from the next line.
				failsAt(t, s+after+"@\n"+strings.Join(x.words[length:], " "), api.ErrEnd)
				failsAt(t, s+after+"@\nend\nthread f 0", api.ErrEnd)
			}
		}
	}
}

// TestWrongKinds checks P10.1: tokens of each other kind at each place, and behind the end of a line.
func TestWrongKinds(t *testing.T) {
	for _, x := range shapes() {
		for at := 1; at <= len(x.words); at++ {
			before := x.before + strings.Join(x.words[:at], " ")
			for kind, tokens := range someTokens {
				if at < len(x.words) && kind == x.kinds[at] {
					continue
				}
				for _, token := range tokens {
					failsAt(t, before+" @"+token, api.ErrToken)
					failsAt(t, before+"\t @"+token+"# c\n", api.ErrToken)
					failsAt(t, before+" @"+token+" "+token+"\n", api.ErrToken)
					failsAt(t, before+" @"+strings.Join(slices.Concat([]string{token}, x.words[at:]), " ")+tail, api.ErrToken)
				}
			}
		}
	}
}

// wrongRegisters are words that are no registers.
var wrongRegisters = []string{
	"r8", "R0", "r00", "r9", "r", "r10", "r07", "r70", "r0_", "r_", "rr", "ra", "x", "x0", "R7", "q0", "s0", "f", "a0", "A", "end", "plain", "add", "r01234567",
}

// TestWrongWords checks P10.1: words that name no register, no function on values and no memory order, at each place.
func TestWrongWords(t *testing.T) {
	functions := []string{"Add", "ADD", "gt", "ge", "div", "not", "a", "ad", "adds", "add_", "x", "r0", "plain", "xor1", "end", "load"}
	orders := []string{"Plain", "PLAIN", "rel", "acq", "acquire", "release", "seqcst", "sc", "plain_", "pla", "relacq1", "relax", "x", "r0", "add", "end"}
	for _, f := range forms {
		for k, operand := range f.operands {
			_, words := sample(f, last)
			wrong, err := wrongRegisters, api.ErrRegister
			switch operand {
			case "A", "B", "C":
			case "Fn":
				wrong, err = functions, api.ErrOp
			case "Order":
				wrong, err = orders, api.ErrOrder
			default:
				continue
			}
			for _, word := range wrong {
				before := strings.Join(words[:k+1], " ") + " @"
				after := strings.Join(slices.Concat([]string{word}, words[k+2:]), " ")
				failsAt(t, simpleText+before+after+tail, err)
				failsAt(t, simpleText+before+word, err)
				failsAt(t, simpleText+before+word+" ; :"+tail, err)
				refusesAt(t, simple(), before+after, err)
				refusesAt(t, simple(), before+word, err)
				refusesAt(t, simple(), before+word+"\n", err)
			}
		}
	}
}

// TestOpenFunctions checks P10.1: texts that end inside a function.
func TestOpenFunctions(t *testing.T) {
	for _, s := range []string{
		"func f", "func f\n", "func f # c", "func f\nstop", "func f\nstop\n\n", "func f\nend\nfunc g\n", "thread f 0\nfunc f\njump 0\n", simpleText,
		"func f\nend\nthread f 0\nfunc g", "func f\nlock nothing", "thread nobody 0\nfunc f", "var x 0\nfunc f\n#",
	} {
		failsAt(t, s+"@", api.ErrEnd)
		failsAt(t, s+" @", api.ErrEnd)
		failsAt(t, s+"\n# end@", api.ErrEnd)
	}
	failsAt(t, "func f\nfence\n@func g\nend", api.ErrOp)
	failsAt(t, "func f\nend\n@end", api.ErrToken)
}

// TestUnknownNames checks P10.2: names that cannot be resolved, in each instruction and in thread lines.
func TestUnknownNames(t *testing.T) {
	for _, f := range forms {
		for k, operand := range f.operands {
			kind := strings.TrimPrefix(operand, "N.")
			if objectNames[kind] == nil {
				continue
			}
			// Names of objects of the other kinds do not count.
			wrong := []string{"w", "F", "xx", "r1", "end", "stop", "plain", "a_very_long_name_of_an_object"}
			for other, list := range objectNames {
				if other != kind {
					wrong = append(wrong, list...)
				}
			}
			_, words := sample(f, last)
			for _, word := range wrong {
				s := strings.Join(words[:k+1], " ") + " @" + strings.Join(slices.Concat([]string{word}, words[k+2:]), " ")
				failsAt(t, simpleText+s+tail, api.ErrNone)
				failsAt(t, simpleText+"stop\n  "+s+"\nlock w\n"+tail, api.ErrNone)
				refusesAt(t, simple(), s, api.ErrNone)
				refusesAt(t, simple(), "\t"+s+" # c", api.ErrNone)
			}
		}
	}
	for _, word := range []string{"w", "x", "m", "c", "F", "ff", "end"} {
		failsAt(t, simpleText+tail+"thread @"+word+" 1", api.ErrNone)
		failsAt(t, "thread @"+word+" 1\n"+simpleText+tail, api.ErrNone)
		failsAt(t, simpleText+"load r1 z plain"+tail+"thread @"+word+" 1\nthread "+word+" 1", api.ErrNone)
	}
	// Both names of a wait, and the order of the text.
	failsAt(t, simpleText+"wait @w w"+tail, api.ErrNone)
	failsAt(t, simpleText+"wait c @w"+tail, api.ErrNone)
	failsAt(t, simpleText+"wait @m c"+tail, api.ErrNone)
	failsAt(t, "thread @g 0\nfunc f\nlock m\nend", api.ErrNone)
	failsAt(t, "func f\nlock @m\nend\nthread g 0", api.ErrNone)
	failsAt(t, "func f\nspawn r0 g r0\nlock @m\nend\nfunc g\nlock m\nend\nthread f 0", api.ErrNone)
	refusesAt(t, simple(), "wait @w w", api.ErrNone)
	refusesAt(t, simple(), "wait d @w", api.ErrNone)
	refusesAt(t, api.Program{Funcs: []api.Func{{Name: "f"}}, Threads: []api.Start{{}}}, "lock @m", api.ErrNone)
}

// list returns a line for each of count objects.
func list(before, name string, count int, after string) string {
	var s strings.Builder
	for k := range count {
		s.WriteString(before + name + strconv.Itoa(k) + after + "\n")
	}
	return s.String()
}

// TestProgramErrors checks P10.2: the errors of program.Check and their offsets.
func TestProgramErrors(t *testing.T) {
	const long = "abcdefghijklmnopq"
	const start = "\nfunc f\nend\nthread f 0\n"
	parses(t, "var "+long[1:]+" 0"+start, api.Program{Vars: []api.Var{{Name: long[1:]}}, Funcs: []api.Func{{Name: "f"}}, Threads: []api.Start{{}}})
	for _, s := range []string{"var " + long + " 0", "mutex " + long, "cond " + long} {
		fails(t, start+s, api.ErrName, 0)
		fails(t, s+start, api.ErrName, 0)
	}
	for _, s := range []string{"var a 0\nvar a 0", "mutex a\nmutex a", "cond a\ncond a"} {
		fails(t, start+s, api.ErrTwice, 0)
	}
	failsAt(t, start+" @func "+long+"\nend", api.ErrName)
	failsAt(t, "@func "+long+"\nend"+start, api.ErrName)
	failsAt(t, start+"func g\nstop\nend\n\t@func g\nend\nfunc g\nend", api.ErrTwice)
	fails(t, list("var ", "v", 9, " 0")+start, api.ErrLimit, 0)
	fails(t, start+list("mutex ", "v", 5, ""), api.ErrLimit, 0)
	fails(t, start+list("cond ", "v", 5, ""), api.ErrLimit, 0)
	fails(t, start+list("func ", "v", 8, "\nend"), api.ErrLimit, 0)
	fails(t, "func f\nend\n"+strings.Repeat("thread f 0\n", 9), api.ErrLimit, 0)
	fails(t, "func f\nend\n", api.ErrLimit, 0)
	failsAt(t, start+"func g\nend\n  @func h # c\n"+strings.Repeat("stop\n", 65)+"end", api.ErrLimit)
	for _, target := range []string{"4", "-1", "65", "2147483647", "-2147483648"} {
		for _, s := range []string{"jump " + target, "branch r7 " + target} {
			failsAt(t, start+"func g\nstop\n\n  @"+s+"\nstop\nend", api.ErrTarget)
			failsAt(t, start+"func g\nstop\nstop\n# c\n\t@"+s+" # c\nend\nfunc h\njump 99\nend", api.ErrTarget)
			failsAt(t, "func f\n@"+s+"\nstop\nstop\nend\nthread f 0\nfunc g\njump 99\nend", api.ErrTarget)
		}
	}
	parses(t, "func f\njump 3\njump 2\nbranch r0 0\nend\nthread f 0", api.Program{
		Funcs:   []api.Func{{Name: "f", Code: []api.Inst{{Op: api.OpJump, N: 3}, {Op: api.OpJump, N: 2}, {Op: api.OpBranch}}}},
		Threads: []api.Start{{}},
	})
}

// TestLimits checks P10.2: programs at each limit and one beyond.
func TestLimits(t *testing.T) {
	const start = "func f\nend\nthread f 0\n"
	for _, x := range []struct {
		limit int
		text  func(count int) string
		count func(p api.Program) int
	}{
		{8, func(n int) string { return start + list("var ", "v", n, " 1") }, func(p api.Program) int { return len(p.Vars) }},
		{4, func(n int) string { return list("mutex ", "v", n, "") + start }, func(p api.Program) int { return len(p.Mutexes) }},
		{4, func(n int) string { return start + list("cond ", "v", n, "") }, func(p api.Program) int { return len(p.Conds) }},
		{8, func(n int) string { return list("func ", "v", n, "\nend") + "thread v0 0" }, func(p api.Program) int { return len(p.Funcs) }},
		{8, func(n int) string { return "func f\nend\n" + strings.Repeat("thread f 0\n", n) }, func(p api.Program) int { return len(p.Threads) }},
		{64, func(n int) string { return "func f\n" + strings.Repeat("stop\n", n) + "end\nthread f 0" }, program.Size},
	} {
		for _, n := range []int{1, 2, x.limit - 1, x.limit} {
			if p, fault := Parse(x.text(n)); x.count(p) != n || fault != (api.Fault{}) || !program.Valid(p) {
				t.Errorf("Parse(%.300q): %+v %+v", x.text(n), p, fault)
			}
		}
		fails(t, x.text(x.limit+1), api.ErrLimit, 0)
		fails(t, x.text(2*x.limit), api.ErrLimit, 0)
	}
	all := list("var ", "v", 8, " 0") + list("mutex ", "v", 4, "") + list("cond ", "v", 4, "") + list("func ", "v", 8, "\n"+strings.Repeat("fence\n", 64)+"end") + list("thread ", "v", 8, " 0")
	p, fault := Parse(all)
	if program.Size(p) != 8*64 || fault != (api.Fault{}) {
		t.Errorf("a program at all limits: %d instructions, %+v", program.Size(p), fault)
	}
}

// TestLength checks P10.1: texts of MaxText bytes, and longer ones, whose other faults do not count.
func TestLength(t *testing.T) {
	const text = "func f\nstop\nend\nthread f 0\n"
	p := api.Program{Funcs: []api.Func{{Name: "f", Code: []api.Inst{{Op: api.OpStop}}}}, Threads: []api.Start{{}}}
	for _, fill := range []string{" ", "\n", "#", "\t"} {
		parses(t, text+strings.Repeat(fill, 16384-len(text)), p)
		fails(t, text+strings.Repeat(fill, 16385-len(text)), api.ErrLimit, 0)
		fails(t, text+"func g"+strings.Repeat(fill, 16384-len(text)-6), api.ErrEnd, 16384)
	}
	parses(t, strings.Repeat("\n", 16384-len(text))+text, p)
	fails(t, strings.Repeat("\n", 16385-len(text))+text, api.ErrLimit, 0)
	fails(t, "_"+strings.Repeat(" ", 16384), api.ErrLimit, 0)
	fails(t, strings.Repeat(" ", 16383)+"x", api.ErrToken, 16383)
	fails(t, strings.Repeat("var x 0\n", 2048), api.ErrTwice, 0)
	fails(t, "var "+strings.Repeat("a", 16378)+" 0", api.ErrName, 0)
	reads(t, simple(), "stop"+strings.Repeat(" ", 16380), api.Inst{Op: api.OpStop})
	refuses(t, simple(), "stop"+strings.Repeat(" ", 16381), api.ErrLimit, 0)
	refuses(t, simple(), "stop"+strings.Repeat("\n", 16381), api.ErrLimit, 0)
	refuses(t, simple(), "copy r1"+strings.Repeat(" ", 16377), api.ErrEnd, 16384)
}

// TestTwoFaults checks P10.1 and P10.2: of two faults the one that the promises put first counts.
func TestTwoFaults(t *testing.T) {
	scan := map[string]api.Errno{"_": api.ErrToken, "01": api.ErrNumber, "2147483648": api.ErrRange, "\r": api.ErrToken, "-": api.ErrNumber}
	syntax := map[string]api.Errno{
		"@end": api.ErrToken, "var@": api.ErrEnd, "mutex @5": api.ErrToken, "cond a @b": api.ErrToken, "var x @x": api.ErrToken, "func f\n@func": api.ErrOp, "func f\n@7": api.ErrToken,
		"func f\ncopy r0 @r8\nend": api.ErrRegister, "func f\ncalc @div r0 r0 r0\nend": api.ErrOp, "func f\nload r0 x @sc\nend": api.ErrOrder, "func f\nend @1": api.ErrToken, "func f\nload r0 x@\nend": api.ErrEnd,
	}
	none := []string{"thread @nobody 0", "func f\nlock @nothing\nend", "func f\nload r1 @nothing plain\nend", "func f\nspawn r1 @nobody r1\nend"}
	wrong := []string{"func f\njump 9\nend", "mutex a\nmutex a", "var abcdefghijklmnopq 0", "func f\nend", "func f\nend\nfunc f\nend"}
	const good = "var x 0\nfunc g\nend\nthread g 0\n"
	for first, err := range scan {
		for second := range syntax {
			s := strings.Replace(second, "@", "", 1)
			failsAt(t, s+"\n@"+first, err)
			failsAt(t, "@"+first+"\n"+s, err)
		}
		for _, second := range slices.Concat(none, wrong) {
			failsAt(t, strings.Replace(second, "@", "", 1)+"\n@"+first, err)
		}
	}
	for first, err := range syntax {
		for second := range syntax {
			failsAt(t, good+first+"\n"+strings.Replace(second, "@", "", 1), err)
		}
		for _, second := range slices.Concat(none, wrong) {
			failsAt(t, strings.Replace(second, "@", "", 1)+"\n"+good+first, err)
			failsAt(t, good+first+"\n"+strings.Replace(second, "@", "", 1), err)
		}
	}
	for _, first := range none {
		for _, second := range none {
			failsAt(t, good+first+"\n"+strings.Replace(second, "@", "", 1), api.ErrNone)
		}
		for _, second := range wrong {
			failsAt(t, second+"\n"+good+first, api.ErrNone)
			failsAt(t, good+first+"\n"+second, api.ErrNone)
		}
		failsAt(t, good+strings.Replace(first, "@", "", 1)+"\nfunc h@", api.ErrEnd)
	}
}

// TestInstructionFaults checks P10.3: the faults of a text that must be exactly one instruction.
func TestInstructionFaults(t *testing.T) {
	p := simple()
	for _, word := range []string{"end", "var", "mutex", "cond", "func", "thread", "Stop", "stops", "x", "h", "r0", "add", "plain"} {
		for _, after := range []string{"", " x 0", " x", "\n", " # c", " ;"} {
			refusesAt(t, p, "@"+word+after, api.ErrOp)
			refusesAt(t, p, "\t @"+word+after, api.ErrOp)
			refusesAt(t, p, "@\n"+word+after, api.ErrToken)
		}
	}
	for _, token := range slices.Concat(someTokens[api.TokNumber], someTokens[api.TokSymbol], []string{"\n"}) {
		refusesAt(t, p, "@"+token, api.ErrToken)
		refusesAt(t, p, "  @"+token+" stop", api.ErrToken)
		refusesAt(t, p, "\t@"+token+"\nstop", api.ErrToken)
	}
	for _, x := range shapes() {
		if x.before != simpleText {
			continue
		}
		words := x.words
		for at := 1; at <= len(words); at++ {
			before := strings.Join(words[:at], " ")
			rest := strings.Join(words[at:], " ")
			for _, blank := range []string{" ", "\t", " \t "} {
				refusesAt(t, p, before+blank+"@\n"+rest, api.ErrToken)
				refusesAt(t, p, before+blank+"# c@\n"+rest, api.ErrToken)
				refusesAt(t, p, before+blank+"@\n", api.ErrToken)
				refusesAt(t, p, before+blank+"@;"+blank+rest, api.ErrToken)
				if at < len(words) {
					refusesAt(t, p, before+blank+"@", api.ErrEnd)
					refusesAt(t, p, before+blank+"# "+rest+"@", api.ErrEnd)
				}
			}
			for kind, tokens := range someTokens {
				if at < len(words) && kind == x.kinds[at] {
					continue
				}
				for _, token := range tokens {
					refusesAt(t, p, before+" @"+token, api.ErrToken)
					refusesAt(t, p, before+" @"+token+" "+rest, api.ErrToken)
				}
			}
		}
		refusesAt(t, p, "@\n"+strings.Join(words, " "), api.ErrToken)
		refusesAt(t, p, strings.Join(words, " ")+"@\n"+strings.Join(words, " "), api.ErrToken)
		refusesAt(t, p, strings.Join(words, " ")+"@\nend", api.ErrToken)
	}
}

// TestInstructionOrder checks P10.3: the errors of the program, then those of lex.Scan, then those of the instruction, then those of names.
func TestInstructionOrder(t *testing.T) {
	texts := []string{"", "stop", "\n", "_", "01", "2147483648", "copy r1 r8", "load r1 nothing plain", "end", "lock m", strings.Repeat(" ", 16385)}
	twice, jump, none, value := simple(), simple(api.Inst{Op: api.OpStop}, api.Inst{Op: api.OpJump, N: 3}), simple(), simple()
	twice.Funcs[2].Name = "f"
	none.Threads = nil
	value.Vars[1].Init = math.MaxInt
	for _, s := range texts {
		refuses(t, twice, s, api.ErrTwice, 0)
		refuses(t, jump, s, api.ErrTarget, 0)
		refuses(t, none, s, api.ErrLimit, 0)
		refuses(t, value, s, api.ErrRange, 0)
		refuses(t, api.Program{}, s, api.ErrLimit, 0)
		refuses(t, simple(api.Inst{}), s, api.ErrOp, 0)
		refuses(t, simple(api.Inst{Op: api.OpStop, A: 1}), s, api.ErrField, 0)
		refuses(t, simple(api.Inst{Op: api.OpCopy, A: 8}), s, api.ErrRegister, 0)
		refuses(t, simple(api.Inst{Op: api.OpLock, Obj: 2}), s, api.ErrObject, 0)
		refuses(t, simple(api.Inst{Op: api.OpLoad, Order: 3}), s, api.ErrOrder, 0)
	}
	p := simple()
	refusesAt(t, p, "copy r1 r8 @_", api.ErrToken)
	refusesAt(t, p, "lock nothing\n@01", api.ErrNumber)
	refusesAt(t, p, "end @-", api.ErrNumber)
	refusesAt(t, p, "load r1 nothing @sc", api.ErrOrder)
	refusesAt(t, p, "load r1 nothing plain @x", api.ErrToken)
	refusesAt(t, p, "load r1 nothing plain@\n", api.ErrToken)
	refusesAt(t, p, "load r1 nothing@", api.ErrEnd)
	refusesAt(t, p, "wait nothing @5", api.ErrToken)
	refusesAt(t, p, "load @r8 nothing sc", api.ErrRegister)
	refusesAt(t, p, "spawn r1 nobody @r8", api.ErrRegister)
	// The same text has no fault in a program with the object.
	reads(t, p, "\t load\tr1  z plain# c", api.Inst{Op: api.OpLoad, A: 1, Obj: 2})
	reads(t, p, "jump 2147483647", api.Inst{Op: api.OpJump, N: 2147483647})
	reads(t, p, "branch r0 -2147483648", api.Inst{Op: api.OpBranch, N: -2147483648})
}

// randomProgram returns a valid program.
func randomProgram(r *rand.Rand) api.Program {
	name := func(k int) string {
		all := []string{"a", "b", "x_1", "Zz9", "var", "end", "r1", "load", "plain", "abcdefghijklmnop"}
		return all[k%len(all)]
	}
	shift := r.Intn(10)
	var p api.Program
	for k := range 1 + r.Intn(8) {
		p.Vars = append(p.Vars, api.Var{Name: name(k + shift), Init: int(int32(r.Uint32())) >> r.Intn(32)})
	}
	for k := range 1 + r.Intn(4) {
		p.Mutexes = append(p.Mutexes, name(2*shift-k+10))
	}
	for k := range 1 + r.Intn(4) {
		p.Conds = append(p.Conds, name(k+3*shift))
	}
	for k := range 1 + r.Intn(8) {
		p.Funcs = append(p.Funcs, api.Func{Name: name(k + 4*shift)})
	}
	for k := range p.Funcs {
		length := r.Intn(6)
		for range length {
			p.Funcs[k].Code = append(p.Funcs[k].Code, randomInstruction(r, p, length))
		}
	}
	for range 1 + r.Intn(8) {
		p.Threads = append(p.Threads, api.Start{Func: r.Intn(len(p.Funcs)), Arg: r.Intn(10) - 5})
	}
	return p
}

// randomInstruction returns an instruction of a function with the given length.
func randomInstruction(r *rand.Rand, p api.Program, length int) api.Inst {
	f := forms[r.Intn(len(forms))]
	counts := map[string]int{"A": 8, "B": 8, "C": 8, "Fn": 10, "Order": 3, "N": length + 1, "var": len(p.Vars), "mutex": len(p.Mutexes), "N.mutex": len(p.Mutexes), "cond": len(p.Conds), "func": len(p.Funcs)}
	i := api.Inst{Op: f.op}
	for _, operand := range f.operands {
		set(&i, operand, r.Intn(counts[operand]))
	}
	if f.op == api.OpConst {
		i.N = int(int32(r.Uint32())) >> r.Intn(32)
	}
	return i
}

// wordsOf returns the words of an instruction of a program.
func wordsOf(p api.Program, i api.Inst) []string {
	f := forms[i.Op-1]
	words := []string{f.mnemonic}
	for _, operand := range f.operands {
		word := map[string]func() string{
			"A": func() string { return fmt.Sprint("r", i.A) }, "B": func() string { return fmt.Sprint("r", i.B) }, "C": func() string { return fmt.Sprint("r", i.C) },
			"Fn": func() string { return functionNames[i.Fn-1] }, "Order": func() string { return orderNames[i.Order] }, "N": func() string { return fmt.Sprint(i.N) },
			"var": func() string { return p.Vars[i.Obj].Name }, "mutex": func() string { return p.Mutexes[i.Obj] }, "N.mutex": func() string { return p.Mutexes[i.N] },
			"cond": func() string { return p.Conds[i.Obj] }, "func": func() string { return p.Funcs[i.Obj].Name },
		}[operand]
		words = append(words, word())
	}
	return words
}

// linesOf returns the lines of the text of a program, each with its words. The declarations stand in a random order.
func linesOf(r *rand.Rand, p api.Program) [][]string {
	var vars, mutexes, conds, funcs, threads [][][]string
	for _, v := range p.Vars {
		vars = append(vars, [][]string{{"var", v.Name, fmt.Sprint(v.Init)}})
	}
	for _, name := range p.Mutexes {
		mutexes = append(mutexes, [][]string{{"mutex", name}})
	}
	for _, name := range p.Conds {
		conds = append(conds, [][]string{{"cond", name}})
	}
	for _, f := range p.Funcs {
		text := [][]string{{"func", f.Name}}
		for _, i := range f.Code {
			text = append(text, wordsOf(p, i))
		}
		funcs = append(funcs, append(text, []string{"end"}))
	}
	for _, x := range p.Threads {
		threads = append(threads, [][]string{{"thread", p.Funcs[x.Func].Name, fmt.Sprint(x.Arg)}})
	}
	queues := [][][][]string{vars, mutexes, conds, funcs, threads}
	var all [][]string
	for slices.ContainsFunc(queues, func(q [][][]string) bool { return len(q) > 0 }) {
		if k := r.Intn(len(queues)); len(queues[k]) > 0 {
			all = append(all, queues[k][0]...)
			queues[k] = queues[k][1:]
		}
	}
	return all
}

// plain returns the text of lines with as few separations as there can be.
func plain(all [][]string) string {
	var text []string
	for _, words := range all {
		text = append(text, strings.Join(words, " "))
	}
	return strings.Join(text, "\n")
}

// spaced returns the text of lines with random blanks, tabs, comments and empty lines.
func spaced(r *rand.Rand, all [][]string) string {
	blank := func(least int) string {
		var s strings.Builder
		for range least + r.Intn(3) {
			s.WriteString([]string{" ", "\t"}[r.Intn(2)])
		}
		return s.String()
	}
	empty := func() string {
		var s strings.Builder
		for range r.Intn(3) {
			s.WriteString(blank(0) + []string{"", "#", "# c _ 01", "# end"}[r.Intn(4)] + "\n")
		}
		return s.String()
	}
	text := empty()
	for k, words := range all {
		if k > 0 {
			text += "\n" + empty()
		}
		text += blank(0)
		for n, word := range words {
			if n > 0 {
				text += blank(1)
			}
			text += word
		}
		text += blank(0) + []string{"", "#", "# c", "#func f\t"}[r.Intn(4)]
	}
	return text + []string{"", "\n"}[r.Intn(2)]
}

// broken returns lines with a few random changes of their words.
func broken(r *rand.Rand, all [][]string) [][]string {
	all = slices.Clone(all)
	pool := slices.Concat(someTokens[api.TokWord], someTokens[api.TokNumber], someTokens[api.TokSymbol], []string{"r0", "r8", "a", "b", "lock", "func", "thread", "mutex", "eq", "relacq", "abcdefghijklmnopq"})
	for range 1 + r.Intn(3) {
		if len(all) == 0 {
			break
		}
		k := r.Intn(len(all))
		words := slices.Clone(all[k])
		n := r.Intn(len(words) + 1)
		word := pool[r.Intn(len(pool))]
		switch c := r.Intn(6); {
		case c == 0:
			words = slices.Insert(words, n, word)
		case c == 1 && n < len(words):
			words = slices.Delete(words, n, n+1)
		case c == 2:
			all = slices.Delete(all, k, k+1)
			continue
		case c == 3:
			other := all[r.Intn(len(all))]
			all = slices.Insert(all, k, other)
			continue
		case n < len(words):
			words[n] = word
		}
		all[k] = words
	}
	return slices.DeleteFunc(all, func(words []string) bool { return len(words) == 0 })
}

// A found line is a line of the text with the operands of its form: the first word is left out, of the form as of the line.
type foundLine struct {
	first    api.Token
	operands []string
	tokens   []api.Token
}

// reference is Parse by its definition, in several passes: lines, forms, names, program.
func reference(s string) (api.Program, api.Fault) {
	if _, fault := lex.Scan(s); fault.Err != api.OK {
		return api.Program{}, fault
	}
	found, fault := findLines(s)
	if fault.Err != api.OK {
		return api.Program{}, fault
	}
	numbers := map[string]map[string]int{"var": {}, "mutex": {}, "cond": {}, "func": {}}
	counts := map[string]int{}
	for _, l := range found {
		kind := l.first.Text
		if len(l.operands) > 0 && l.operands[0] == "NAME" {
			if _, ok := numbers[kind][l.tokens[0].Text]; !ok {
				numbers[kind][l.tokens[0].Text] = counts[kind]
			}
			counts[kind]++
		}
	}
	var p api.Program
	funcAt, codeAt := map[int]int{-1: 0}, map[[2]int]int{}
	for _, l := range found {
		values, fault := valuesOf(l, numbers)
		if fault.Err != api.OK {
			return api.Program{}, fault
		}
		switch l.first.Text {
		case "var":
			p.Vars = append(p.Vars, api.Var{Name: l.tokens[0].Text, Init: values[1]})
		case "mutex":
			p.Mutexes = append(p.Mutexes, l.tokens[0].Text)
		case "cond":
			p.Conds = append(p.Conds, l.tokens[0].Text)
		case "func":
			funcAt[len(p.Funcs)] = l.first.At
			p.Funcs = append(p.Funcs, api.Func{Name: l.tokens[0].Text})
		case "thread":
			p.Threads = append(p.Threads, api.Start{Func: values[0], Arg: values[1]})
		case "end":
		default:
			f := len(p.Funcs) - 1
			codeAt[[2]int{f, len(p.Funcs[f].Code)}] = l.first.At
			i := api.Inst{Op: formOf(l.first.Text).op}
			for k, operand := range l.operands {
				set(&i, operand, values[k])
			}
			p.Funcs[f].Code = append(p.Funcs[f].Code, i)
		}
	}
	if err, f, n := program.Check(p); err != api.OK {
		at, ok := codeAt[[2]int{f, n}]
		if !ok {
			at = funcAt[f]
		}
		return api.Program{}, api.Fault{Err: err, At: at}
	}
	return p, api.Fault{}
}

// formOf returns the form with a mnemonic, or one without an operation.
func formOf(mnemonic string) form {
	for _, f := range forms {
		if f.mnemonic == mnemonic {
			return f
		}
	}
	return form{}
}

// findLines returns the lines of a text, or the first fault of their forms.
func findLines(s string) ([]foundLine, api.Fault) {
	var all []foundLine
	inside, at := false, 0
	for _, text := range strings.Split(s, "\n") {
		tokens, _ := lex.Scan(text)
		for k := range tokens {
			tokens[k].At += at
		}
		at += len(text) + 1
		if len(tokens) == 0 {
			continue
		}
		first := tokens[0]
		f := formOf(first.Text)
		operands, ok := map[string][]string{"var": {"NAME", "N"}, "mutex": {"NAME"}, "cond": {"NAME"}, "func": {"NAME"}, "thread": {"func", "N"}}[first.Text]
		switch {
		case !inside && !ok, inside && first.Kind != api.TokWord:
			return nil, api.Fault{Err: api.ErrToken, At: first.At}
		case inside && f.op == 0 && first.Text != "end":
			return nil, api.Fault{Err: api.ErrOp, At: first.At}
		case inside:
			operands = f.operands
		}
		if fault := formFault(operands, tokens[1:], at-1); fault.Err != api.OK {
			return nil, fault
		}
		all = append(all, foundLine{first, operands, tokens[1:]})
		inside = first.Text == "func" || inside && first.Text != "end"
	}
	if inside {
		return nil, api.Fault{Err: api.ErrEnd, At: len(s)}
	}
	return all, api.Fault{}
}

// formFault returns the first fault of tokens that must have the given form, and end at the given offset.
func formFault(operands []string, tokens []api.Token, end int) api.Fault {
	for k, operand := range operands {
		if k == len(tokens) {
			return api.Fault{Err: api.ErrEnd, At: end}
		}
		if x := tokens[k]; (x.Kind == api.TokNumber) != (operand == "N") || x.Kind == api.TokSymbol {
			return api.Fault{Err: api.ErrToken, At: x.At}
		}
		err := map[string]api.Errno{"A": api.ErrRegister, "B": api.ErrRegister, "C": api.ErrRegister, "Fn": api.ErrOp, "Order": api.ErrOrder}[operand]
		if err != api.OK && !slices.Contains(choices(operand), tokens[k].Text) {
			return api.Fault{Err: err, At: tokens[k].At}
		}
	}
	if len(tokens) > len(operands) {
		return api.Fault{Err: api.ErrToken, At: tokens[len(operands)].At}
	}
	return api.Fault{}
}

// valuesOf returns the numbers for which the tokens of a line stand, or the fault of a name.
func valuesOf(l foundLine, numbers map[string]map[string]int) ([]int, api.Fault) {
	var values []int
	for k, operand := range l.operands {
		x := l.tokens[k]
		n := x.N
		switch operand {
		case "N", "NAME":
		case "A", "B", "C", "Fn", "Order":
			n = slices.Index(choices(operand), x.Text)
		default:
			var ok bool
			if n, ok = numbers[strings.TrimPrefix(operand, "N.")][x.Text]; !ok {
				return nil, api.Fault{Err: api.ErrNone, At: x.At}
			}
		}
		values = append(values, n)
	}
	return values, api.Fault{}
}

// agrees fails if Parse does not return what its definition says, or what P10.5 says.
func agrees(t *testing.T, s string) {
	t.Helper()
	p, fault := Parse(s)
	want, wantFault := reference(s)
	if !program.Equal(p, want) || fault != wantFault {
		t.Fatalf("Parse(%q): %+v %+v, want %+v %+v", s, p, fault, want, wantFault)
	}
	switch {
	case fault == (api.Fault{}) && !program.Valid(p):
		t.Fatalf("Parse(%q): a program that is not valid", s)
	case fault != (api.Fault{}) && (fault.Err == api.OK || fault.At < 0 || fault.At > len(s) || !program.Equal(p, api.Program{})):
		t.Fatalf("Parse(%q): %+v, fault %+v", s, p, fault)
	}
}

// TestTexts checks P10.1, P10.2, P10.4 and P10.5: texts of random programs, and random changes of them, by the definition of Parse.
func TestTexts(t *testing.T) {
	r := rand.New(rand.NewSource(1))
	seen := map[api.Errno]int{}
	for range 1500 {
		p := randomProgram(r)
		all := linesOf(r, p)
		parses(t, plain(all), p)
		parses(t, spaced(r, all), p)
		for range 3 {
			wrong := broken(r, all)
			one, other := plain(wrong), spaced(r, wrong)
			agrees(t, one)
			agrees(t, other)
			q, fault := Parse(one)
			again, fault2 := Parse(other)
			if !program.Equal(q, again) || fault.Err != fault2.Err {
				t.Fatalf("Parse(%q): %+v %+v, but with other separations %q: %+v %+v", one, q, fault, other, again, fault2)
			}
			seen[fault.Err]++
		}
		cut := plain(all)
		agrees(t, cut[:r.Intn(len(cut)+1)])
	}
	for _, err := range []api.Errno{api.OK, api.ErrLimit, api.ErrNone, api.ErrName, api.ErrTwice, api.ErrOp, api.ErrRegister, api.ErrTarget, api.ErrOrder, api.ErrToken, api.ErrEnd} {
		if seen[err] == 0 {
			t.Errorf("no text has the error %d", err)
		}
	}
}

// TestShortTexts checks P10.1 to P10.3: all short sequences of some tokens.
func TestShortTexts(t *testing.T) {
	pool := []string{"func f", "end", "lock", "m", "5", "\n", "thread f 0", ";"}
	p := simple()
	var visit func(s string, most int)
	visit = func(s string, most int) {
		agrees(t, s)
		agrees(t, "func f\nend\nmutex m\n"+s)
		if i, fault := Instruction(p, s); (fault == (api.Fault{})) != (strings.TrimSpace(s) == "lock m" && !strings.Contains(s, "\n")) || fault.At > len(s) || fault.Err != api.OK && i != (api.Inst{}) {
			t.Fatalf("Instruction(%q): %+v %+v", s, i, fault)
		}
		if most > 0 {
			for _, x := range pool {
				visit(s+" "+x, most-1)
			}
		}
	}
	visit("", 5)
}

// TestSpacing checks P10.4: separations between any two tokens of one text, one kind at a time.
func TestSpacing(t *testing.T) {
	p := simple(api.Inst{Op: api.OpAwait, A: 1, Obj: 2, Fn: api.FnLe, B: 2, Order: api.RelAcq}, api.Inst{Op: api.OpStop})
	all := [][]string{}
	for _, text := range strings.Split(simpleText+"await r1 z le r2 relacq\nstop\nend\nthread f 0", "\n") {
		all = append(all, strings.Fields(text))
	}
	faulty := slices.Concat(all[:13], [][]string{{"copy", "r0", "r8"}}, all[13:])
	for _, blank := range []string{" ", "\t", "  ", "\t\t ", " \t"} {
		for _, feed := range []string{"\n", " \n", "# c\n", "\t# copy r1\n", "\n\n", "\n#\n", "\n \t# end\n\n"} {
			join := func(all [][]string) string {
				var text []string
				for _, words := range all {
					text = append(text, strings.Join(words, blank))
				}
				return feed[len(feed)-1:] + strings.Join(text, feed)
			}
			parses(t, join(all), p)
			if _, fault := Parse(join(faulty)); fault.Err != api.ErrRegister {
				t.Errorf("Parse(%q): %+v", join(faulty), fault)
			}
		}
		reads(t, p, blank+strings.Join(all[12], blank)+blank+"# c", p.Funcs[2].Code[0])
		reads(t, p, strings.Join(all[12], blank)+"#", p.Funcs[2].Code[0])
	}
}

// TestAddedLines checks P10.5: valid texts followed by a line that is not a declaration, or by an unfinished function.
func TestAddedLines(t *testing.T) {
	r := rand.New(rand.NewSource(2))
	for range 200 {
		s := plain(linesOf(r, randomProgram(r))) + "\n"
		failsAt(t, s+"@end", api.ErrToken)
		failsAt(t, s+"@stop\n", api.ErrToken)
		failsAt(t, s+"@1", api.ErrToken)
		failsAt(t, s+"  @;\nvar x 0", api.ErrToken)
		failsAt(t, s+"@lock nothing", api.ErrToken)
		failsAt(t, s+"func f@", api.ErrEnd)
		failsAt(t, s+"func f\nstop\n@", api.ErrEnd)
		failsAt(t, s+"func f\n@func g\nend", api.ErrOp)
	}
}

// TestInstructionTexts checks P10.3: the texts of all instructions of random programs, and random changes of them.
func TestInstructionTexts(t *testing.T) {
	r := rand.New(rand.NewSource(3))
	for range 1000 {
		p := randomProgram(r)
		for _, f := range p.Funcs {
			for _, i := range f.Code {
				words := wordsOf(p, i)
				reads(t, p, strings.Join(words, " "), i)
				wrong := broken(r, [][]string{words})
				s := plain(wrong)
				want, wantFault := referenceInstruction(p, s)
				if got, fault := Instruction(p, s); got != want || fault != wantFault {
					t.Fatalf("Instruction(%q): %+v %+v, want %+v %+v", s, got, fault, want, wantFault)
				}
			}
		}
	}
}

// referenceInstruction is Instruction by its definition, for texts without faults of lex.Scan and valid programs.
func referenceInstruction(p api.Program, s string) (api.Inst, api.Fault) {
	tokens, _ := lex.Scan(s)
	if len(tokens) == 0 {
		return api.Inst{}, api.Fault{Err: api.ErrEnd, At: len(s)}
	}
	f := formOf(tokens[0].Text)
	switch {
	case tokens[0].Kind != api.TokWord:
		return api.Inst{}, api.Fault{Err: api.ErrToken, At: tokens[0].At}
	case f.op == 0:
		return api.Inst{}, api.Fault{Err: api.ErrOp, At: tokens[0].At}
	}
	for k, x := range tokens[1:] {
		if x.Kind == api.TokLine && k <= len(f.operands) {
			if fault := formFault(f.operands[:k], tokens[1:k+1], 0); fault.Err != api.OK {
				return api.Inst{}, fault
			}
			return api.Inst{}, api.Fault{Err: api.ErrToken, At: x.At}
		}
	}
	if fault := formFault(f.operands, tokens[1:], len(s)); fault.Err != api.OK {
		return api.Inst{}, fault
	}
	numbers := map[string]map[string]int{"var": {}, "mutex": {}, "cond": {}, "func": {}}
	for k, v := range p.Vars {
		numbers["var"][v.Name] = k
	}
	for k, name := range p.Mutexes {
		numbers["mutex"][name] = k
	}
	for k, name := range p.Conds {
		numbers["cond"][name] = k
	}
	for k, f := range p.Funcs {
		numbers["func"][f.Name] = k
	}
	values, fault := valuesOf(foundLine{tokens[0], f.operands, tokens[1:]}, numbers)
	i := api.Inst{Op: f.op}
	if fault.Err != api.OK {
		return api.Inst{}, fault
	}
	for k, operand := range f.operands {
		set(&i, operand, values[k])
	}
	return i, fault
}

// TestMemory checks rule 7 of LANGUAGE.md: arguments are neither changed nor kept, and results are new memory.
func TestMemory(t *testing.T) {
	p := simple(api.Inst{Op: api.OpLoad, A: 1, Obj: 2}, api.Inst{Op: api.OpStop})
	p.Vars = append(p.Vars, api.Var{Name: "hidden"})[:3]
	p.Mutexes = append(p.Mutexes, "hidden")[:2]
	p.Conds = append(p.Conds, "hidden")[:2]
	p.Funcs = append(p.Funcs, api.Func{Name: "hidden"})[:3]
	p.Threads = append(p.Threads, api.Start{Func: 9})[:1]
	behind := func() []any {
		return []any{slices.Clone(p.Vars[:4]), slices.Clone(p.Mutexes[:3]), slices.Clone(p.Conds[:3]), slices.Clone(p.Funcs[:4]), slices.Clone(p.Threads[:2]), slices.Clone(p.Funcs[2].Code)}
	}
	before := behind()
	for _, s := range []string{"load r1 z plain", "load r1 hidden plain", "lock hidden", "wait d n", "spawn r1 hidden r1", "spawn r1 h r1", "end", "", "_"} {
		Instruction(p, s)
		if after := behind(); !reflect.DeepEqual(after, before) {
			t.Errorf("the program after Instruction(%q): %+v, want %+v", s, after, before)
		}
	}
	for s, at := range map[string]int{"load r1 hidden plain": 8, "lock hidden": 5, "signal hidden": 7, "spawn r1 hidden r1": 9} {
		refuses(t, p, s, api.ErrNone, at)
	}
	const text = simpleText + "load r1 z plain\nstop" + tail
	want := simple(api.Inst{Op: api.OpLoad, A: 1, Obj: 2}, api.Inst{Op: api.OpStop})
	first, _ := Parse(text)
	second, _ := Parse(text)
	for _, f := range first.Funcs {
		clear(f.Code[:cap(f.Code)])
	}
	clear(first.Vars[:cap(first.Vars)])
	clear(first.Mutexes[:cap(first.Mutexes)])
	clear(first.Conds[:cap(first.Conds)])
	clear(first.Funcs[:cap(first.Funcs)])
	clear(first.Threads[:cap(first.Threads)])
	if !program.Equal(second, want) {
		t.Errorf("a program after another one of the same text has changed: %+v, want %+v", second, want)
	}
	// The code of one function is no memory of another one.
	two, _ := Parse("func f\nstop\nend\nfunc g\nfence\nend\nmutex m\ncond c\nthread f 0")
	_ = append(two.Funcs[0].Code, slices.Repeat([]api.Inst{{Op: api.OpJump}}, 70)...)
	_ = append(two.Mutexes, "a", "b", "c")
	if two.Funcs[1].Code[0].Op != api.OpFence || two.Conds[0] != "c" {
		t.Errorf("a program whose lists share memory: %+v", two)
	}
	// A call with a fault leaves nothing behind for the next one.
	fails(t, text+"x", api.ErrToken, len(text))
	parses(t, text, want)
}

// FuzzParse compares Parse with its definition, and checks P10.5, for any text.
func FuzzParse(f *testing.F) {
	for _, s := range []string{"", "func f", "var x 0\nfunc f\nload r1 x relacq\nend\nthread f 3\n", simpleText + "wait c n" + tail, "func f\njump 9\nend\nthread f 0", "mutex m # c\n\n_"} {
		f.Add(s)
	}
	f.Fuzz(func(t *testing.T, s string) {
		agrees(t, s)
		if _, fault := lex.Scan(s); fault.Err == api.OK {
			p := simple()
			want, wantFault := referenceInstruction(p, s)
			if i, fault := Instruction(p, s); i != want || fault != wantFault {
				t.Fatalf("Instruction(%q): %+v %+v, want %+v %+v", s, i, fault, want, wantFault)
			}
		}
	})
}
