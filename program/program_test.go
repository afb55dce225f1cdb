package program

import (
	"fmt"
	"math"
	"math/rand"
	"reflect"
	"slices"
	"strconv"
	"strings"
	"testing"

	"modelcheck/api"
	"modelcheck/inst"
)

// A result is what Check returns.
type result struct {
	err                   api.Errno
	function, instruction int
}

// checked returns the results of Check in one value.
func checked(p api.Program) result {
	err, f, n := Check(p)
	return result{err, f, n}
}

// good is the result of Check for a program without an error.
var good = result{api.OK, -1, -1}

// results returns the results of a call as one text.
func results(all ...any) string {
	return fmt.Sprint(all...)
}

// same fails if the results of a call are not the ones that are wanted.
func same(t *testing.T, call string, got, want any) {
	t.Helper()
	if results(got) != results(want) {
		t.Errorf("%s: %v, want %v", call, got, want)
	}
}

// checks fails if Check, or Valid, does not return what is wanted, or if Reachable does not return the error of Check.
func checks(t *testing.T, what string, p api.Program, want result) {
	t.Helper()
	same(t, "Check of "+what, checked(p), want)
	same(t, "Valid of "+what, Valid(p), want.err == api.OK)
	reached, err := Reachable(p)
	same(t, "error of Reachable of "+what, err, want.err)
	if err != api.OK && len(reached) > 0 {
		t.Errorf("Reachable of %s: %v with the error %d", what, reached, err)
	}
}

// names returns the names of count objects, all of them different.
func names(prefix string, count int) []string {
	var all []string
	for k := range count {
		all = append(all, prefix+strconv.Itoa(k))
	}
	return all
}

// variables returns count variables with different names.
func variables(count int) []api.Var {
	var all []api.Var
	for _, name := range names("x", count) {
		all = append(all, api.Var{Name: name})
	}
	return all
}

// functions returns count functions with different names and the same code.
func functions(count int, code ...api.Inst) []api.Func {
	var all []api.Func
	for _, name := range names("f", count) {
		all = append(all, api.Func{Name: name, Code: slices.Clone(code)})
	}
	return all
}

// stops returns count instructions.
func stops(count int) []api.Inst {
	return slices.Repeat([]api.Inst{{Op: api.OpStop}}, count)
}

// simple is a program of one function with the given code, with objects of each kind in different numbers.
func simple(code ...api.Inst) api.Program {
	return api.Program{
		Vars:    variables(4),
		Mutexes: names("m", 3),
		Conds:   names("c", 2),
		Funcs:   []api.Func{{Name: "f", Code: code}},
		Threads: []api.Start{{}},
	}
}

// full is a valid program with every operation, and with several elements in each list.
func full() api.Program {
	return api.Program{
		Vars:    []api.Var{{Name: "x", Init: 5}, {Name: "y", Init: -7}, {Name: "z"}},
		Mutexes: []string{"m", "n", "o"},
		Conds:   []string{"c", "d", "e"},
		Funcs: []api.Func{
			{Name: "f", Code: []api.Inst{
				{Op: api.OpConst, A: 1, N: -3}, {Op: api.OpCopy, A: 2, B: 1}, {Op: api.OpCalc, Fn: api.FnMul, A: 3, B: 1, C: 2},
				{Op: api.OpJump, N: 4}, {Op: api.OpBranch, B: 3, N: 7}, {Op: api.OpAssert, B: 3}, {Op: api.OpStop},
			}},
			{Name: "g", Code: []api.Inst{
				{Op: api.OpLoad, A: 1, Obj: 2}, {Op: api.OpStore, Obj: 1, B: 1, Order: api.RelAcq}, {Op: api.OpSwap, A: 1, Obj: 2, B: 2},
				{Op: api.OpFetchAdd, A: 1, Obj: 0, B: 2}, {Op: api.OpCas, A: 1, Obj: 2, B: 1, C: 2}, {Op: api.OpFence},
				{Op: api.OpAwait, A: 1, Obj: 2, Fn: api.FnLe, B: 3, Order: api.Relaxed},
			}},
			{Name: "h", Code: []api.Inst{
				{Op: api.OpLock, Obj: 2}, {Op: api.OpUnlock, Obj: 2}, {Op: api.OpTryLock, A: 1, Obj: 2}, {Op: api.OpWait, Obj: 2, N: 2},
				{Op: api.OpSignal, Obj: 2}, {Op: api.OpBroadcast, Obj: 2}, {Op: api.OpSpawn, A: 1, Obj: 2, B: 2}, {Op: api.OpJoin, B: 1},
			}},
		},
		Threads: []api.Start{{Func: 1, Arg: 4}, {Func: 0, Arg: -4}, {Func: 1}},
	}
}

// TestExample checks the example of the chapter.
func TestExample(t *testing.T) {
	p := api.Program{
		Funcs: []api.Func{
			{Name: "f", Code: []api.Inst{{Op: api.OpSpawn, A: 1, Obj: 1, B: 0}}},
			{Name: "g", Code: []api.Inst{{Op: api.OpConst, A: 2, N: 1}, {Op: api.OpJump, N: 2}}},
		},
		Threads: []api.Start{{Func: 0}},
	}
	checks(t, "the example", p, good)
	reached, err := Reachable(p)
	same(t, "Reachable", results(reached, err), results([]int{0, 1}, api.OK))
	p.Funcs[1].Code[1].N = 3
	checks(t, "the example with a jump to 3", p, result{api.ErrTarget, 1, 1})
}

// TestCheckValid checks P8.1: programs without an error.
func TestCheckValid(t *testing.T) {
	checks(t, "a program with every operation", full(), good)
	checks(t, "a program without code", simple(), good)
	checks(t, "a program with nil lists", api.Program{Funcs: []api.Func{{Name: "f"}}, Threads: []api.Start{{}}}, good)
	checks(t, "a program with empty lists", api.Program{
		Vars: []api.Var{}, Mutexes: []string{}, Conds: []string{},
		Funcs: []api.Func{{Name: "f", Code: []api.Inst{}}}, Threads: []api.Start{{}},
	}, good)
	checks(t, "no program", api.Program{}, result{api.ErrLimit, -1, -1})
	checks(t, "a program of empty lists", api.Program{
		Vars: []api.Var{}, Mutexes: []string{}, Conds: []string{}, Funcs: []api.Func{}, Threads: []api.Start{},
	}, result{api.ErrLimit, -1, -1})
	// Different lists may have the same names.
	checks(t, "a program with one name", api.Program{
		Vars: []api.Var{{Name: "a"}}, Mutexes: []string{"a"}, Conds: []string{"a"}, Funcs: []api.Func{{Name: "a"}}, Threads: []api.Start{{}},
	}, good)
}

// validNames are names.
var validNames = []string{
	"a", "z", "A", "Z", "m", "M", "a0", "a9", "a_", "x1y2", "aB", "Ba", "const", "a_b_c", "a__", "a00",
	"abcdefghijklmnop", "ABCDEFGHIJKLMNOP", "a_23456789012345", "qrstuvwxyzQRSTUV",
}

// invalidNames are no names.
var invalidNames = []string{
	"", "0", "9", "_", "0a", "9a", "_a", "__", "abcdefghijklmnopq", "a0123456789012345", strings.Repeat("a", 17), strings.Repeat("a", 100000),
	" ", "a ", " a", "a b", "a\n", "\na", "a\x00", "\x00", "a-b", "a.b", "a,b", "a/b", "a:b", "a@b", "a[b", "a`b", "a{b", "@", "[", "`", "{",
	"é", "aé", "a\xff", "\xff", "a\xe1", "aα", "α", "a٣", "aａ", "日本", "a\u0301", "ééééééééé", "a~", "a^b", "a\x7f",
}

// TestValidName checks P8.2: names, and texts that are none.
func TestValidName(t *testing.T) {
	for _, s := range validNames {
		same(t, fmt.Sprintf("ValidName(%q)", s), ValidName(s), true)
	}
	for _, s := range invalidNames {
		same(t, fmt.Sprintf("ValidName(%q)", s), ValidName(s), false)
	}
	const letters = "abcdefghijklmnopqrstuvwxyzABCDEFGHIJKLMNOPQRSTUVWXYZ"
	for c := range 256 {
		b := string([]byte{byte(c)})
		letter := strings.Contains(letters, b)
		other := strings.Contains(letters+"0123456789_", b)
		same(t, fmt.Sprintf("ValidName(%q)", b), ValidName(b), letter)
		same(t, fmt.Sprintf("ValidName(%q)", b+"a"), ValidName(b+"a"), letter)
		same(t, fmt.Sprintf("ValidName(%q)", "a"+b), ValidName("a"+b), other)
		same(t, fmt.Sprintf("ValidName(%q)", "a"+b+"a"), ValidName("a"+b+"a"), other)
		long := strings.Repeat("a", 15)
		same(t, fmt.Sprintf("ValidName(%q)", long+b), ValidName(long+b), other)
	}
	for length := range 40 {
		same(t, results("ValidName of length ", length), ValidName(strings.Repeat("x", length)), length >= 1 && length <= 16)
	}
}

// naming describes a list of names: how to replace it, and whether an error mentions the function.
var naming = []struct {
	list     string
	put      func(p *api.Program, names []string)
	mentions bool
	limit    int
}{
	{"Vars", func(p *api.Program, names []string) {
		p.Vars = nil
		for _, name := range names {
			p.Vars = append(p.Vars, api.Var{Name: name})
		}
	}, false, 8},
	{"Mutexes", func(p *api.Program, names []string) { p.Mutexes = names }, false, 4},
	{"Conds", func(p *api.Program, names []string) { p.Conds = names }, false, 4},
	{"Funcs", func(p *api.Program, names []string) {
		p.Funcs = nil
		for _, name := range names {
			p.Funcs = append(p.Funcs, api.Func{Name: name})
		}
	}, true, 8},
}

// TestCheckNames checks P8.1: names of each kind of object, and which element is mentioned.
func TestCheckNames(t *testing.T) {
	for _, kind := range naming {
		fails := func(err api.Errno, k int, names ...string) {
			t.Helper()
			p := simple()
			kind.put(&p, names)
			want := result{err, -1, -1}
			if kind.mentions {
				want.function = k
			}
			checks(t, fmt.Sprintf("%s %q", kind.list, names), p, want)
		}
		for _, s := range validNames {
			fails(api.OK, -1, s)
			fails(api.OK, -1, "first", s, "last")
			fails(api.ErrTwice, 1, s, s)
		}
		for _, s := range invalidNames {
			fails(api.ErrName, 0, s)
			fails(api.ErrName, 2, "a", "b", s)
			fails(api.ErrName, 1, "a", s, "a")
			fails(api.ErrName, 0, s, s)
		}
		fails(api.ErrTwice, 1, "a", "a", "b")
		fails(api.ErrTwice, 2, "a", "b", "a")
		fails(api.ErrTwice, 3, "a", "b", "c", "b")
		fails(api.ErrTwice, 1, "a", "a", "a")
		fails(api.ErrTwice, 2, "b", "a", "a", "b")
		fails(api.OK, -1, "a", "A", "aa", "a_")
		// The names come in their order, not error by error.
		fails(api.ErrTwice, 1, "a", "a", "")
		fails(api.ErrName, 1, "a", "9", "a")
		fails(api.ErrName, 1, "a", "", "")
	}
}

// TestCheckLimits checks P8.1: the numbers of objects, and that all names come before them.
func TestCheckLimits(t *testing.T) {
	for _, kind := range naming {
		for _, count := range []int{1, kind.limit - 1, kind.limit, kind.limit + 1, 2 * kind.limit, 1000} {
			p, want := simple(), good
			if count > kind.limit {
				want = result{api.ErrLimit, -1, -1}
			}
			kind.put(&p, names("a", count))
			checks(t, results(count, " ", kind.list), p, want)
			for k := range min(count, 20) {
				list := names("a", count)
				list[k] = "a b"
				want := result{api.ErrName, -1, -1}
				if kind.mentions {
					want.function = k
				}
				kind.put(&p, list)
				checks(t, fmt.Sprintf("%d %s with the name %d wrong", count, kind.list, k), p, want)
			}
		}
	}
	all := simple()
	all.Vars, all.Mutexes, all.Conds, all.Funcs = variables(8), names("m", 4), names("c", 4), functions(8)
	checks(t, "all lists at their limits", all, good)
	for _, count := range []int{0, 1, 63, 64, 65, 66, 1000} {
		p, want := simple(stops(count)...), good
		if count > 64 {
			want = result{api.ErrLimit, 0, -1}
		}
		checks(t, results(count, " instructions"), p, want)
		p.Funcs = append(functions(2), p.Funcs[0])
		if count > 64 {
			want.function = 2
		}
		checks(t, results(count, " instructions in the last function"), p, want)
	}
	for _, count := range []int{0, 1, 2, 7, 8, 9, 10, 1000} {
		p, want := simple(), good
		if count < 1 || count > 8 {
			want = result{api.ErrLimit, -1, -1}
		}
		p.Threads = make([]api.Start, count)
		checks(t, results(count, " initial threads"), p, want)
	}
	// The length of a list is examined after all names, so it may be large.
	large := simple()
	large.Vars = variables(200000)
	checks(t, "200000 variables", large, result{api.ErrLimit, -1, -1})
}

// numbers are values, and numbers that are none.
var numbers = map[int]bool{
	0: true, 1: true, -1: true, -2147483648: true, -2147483647: true, 2147483647: true, 2147483646: true,
	-2147483649: false, 2147483648: false, 1 << 32: false, -1 << 32: false, 1<<32 + 1: false, math.MaxInt: false, math.MinInt: false,
}

// TestCheckValues checks P8.1: the initial values of the variables, and the arguments of the initial threads.
func TestCheckValues(t *testing.T) {
	for n, ok := range numbers {
		want := good
		if !ok {
			want = result{api.ErrRange, -1, -1}
		}
		for k := range 4 {
			p := simple()
			p.Vars[k].Init = n
			checks(t, fmt.Sprintf("Init %d of variable %d", n, k), p, want)
		}
		for k := range 3 {
			p := simple()
			p.Threads = make([]api.Start, 3)
			p.Threads[k].Arg = n
			checks(t, fmt.Sprintf("Arg %d of thread %d", n, k), p, want)
		}
	}
}

// TestCheckThreads checks P8.1: the functions of the initial threads, and which of their errors is the first.
func TestCheckThreads(t *testing.T) {
	for f, want := range map[int]result{
		0: good, 1: good, 2: good, 3: {api.ErrObject, -1, -1}, 4: {api.ErrObject, -1, -1}, -1: {api.ErrObject, -1, -1},
		math.MaxInt: {api.ErrObject, -1, -1}, math.MinInt: {api.ErrObject, -1, -1},
	} {
		p := simple()
		p.Funcs = functions(3)
		for k := range 4 {
			p.Threads = make([]api.Start, 4)
			p.Threads[k].Func = f
			checks(t, fmt.Sprintf("function %d of thread %d", f, k), p, want)
		}
	}
	p := simple()
	p.Threads = []api.Start{{Func: 1, Arg: 1 << 31}}
	checks(t, "both errors of a thread", p, result{api.ErrObject, -1, -1})
	p.Threads = []api.Start{{Func: 0, Arg: 1 << 31}, {Func: 1}}
	checks(t, "a wrong argument and then a wrong function", p, result{api.ErrRange, -1, -1})
	p.Threads = []api.Start{{Func: 1}, {Func: 0, Arg: 1 << 31}}
	checks(t, "a wrong function and then a wrong argument", p, result{api.ErrObject, -1, -1})
	p.Threads = append(make([]api.Start, 8), api.Start{Func: 9, Arg: 1 << 31})
	checks(t, "too many threads, the last one wrong", p, result{api.ErrLimit, -1, -1})
	p = api.Program{Threads: []api.Start{{}}}
	checks(t, "a thread without functions", p, result{api.ErrObject, -1, -1})
}

// A naming instruction is an operation with the number of its objects in the program simple.
var namingInstructions = []struct {
	i     api.Inst
	count int
}{
	{api.Inst{Op: api.OpLoad}, 4}, {api.Inst{Op: api.OpStore}, 4}, {api.Inst{Op: api.OpSwap}, 4}, {api.Inst{Op: api.OpFetchAdd}, 4},
	{api.Inst{Op: api.OpCas}, 4}, {api.Inst{Op: api.OpAwait, Fn: api.FnEq}, 4},
	{api.Inst{Op: api.OpLock}, 3}, {api.Inst{Op: api.OpUnlock}, 3}, {api.Inst{Op: api.OpTryLock}, 3},
	{api.Inst{Op: api.OpWait}, 2}, {api.Inst{Op: api.OpSignal}, 2}, {api.Inst{Op: api.OpBroadcast}, 2},
	{api.Inst{Op: api.OpSpawn}, 1},
}

// TestCheckObjects checks P8.1: the objects of every operation that names one, of its own kind.
func TestCheckObjects(t *testing.T) {
	for _, x := range namingInstructions {
		for _, obj := range []int{0, 1, 2, 3, 4, 5, -1, -2, 1 << 32, math.MaxInt, math.MinInt} {
			i, want := x.i, good
			i.Obj = obj
			if obj < 0 || obj >= x.count {
				want = result{api.ErrObject, 0, 1}
			}
			checks(t, fmt.Sprintf("%s %d", inst.Mnemonic(i.Op), obj), simple(api.Inst{Op: api.OpStop}, i), want)
		}
		// Without any object of its kind not even the object 0 exists.
		p := api.Program{Funcs: []api.Func{{Name: "f"}, {Name: "g", Code: []api.Inst{x.i}}}, Threads: []api.Start{{}}}
		if x.i.Op != api.OpSpawn {
			checks(t, inst.Mnemonic(x.i.Op)+" without objects", p, result{api.ErrObject, 1, 0})
		}
	}
	for _, n := range []int{0, 1, 2, 3, 4, -1, -2, 1 << 32, math.MaxInt, math.MinInt} {
		want := good
		if n < 0 || n >= 3 {
			want = result{api.ErrObject, 0, 0}
		}
		checks(t, results("wait with the mutex ", n), simple(api.Inst{Op: api.OpWait, Obj: 1, N: n}), want)
	}
	p := simple(api.Inst{Op: api.OpWait})
	p.Mutexes = nil
	checks(t, "wait without mutexes", p, result{api.ErrObject, 0, 0})
	// A function may name one that comes later, and itself.
	p = simple()
	p.Funcs = []api.Func{{Name: "f", Code: []api.Inst{{Op: api.OpSpawn, Obj: 2}, {Op: api.OpSpawn, Obj: 0}}}, {Name: "g"}, {Name: "h"}}
	checks(t, "spawn of a later function", p, good)
	p.Funcs[0].Code[1].Obj = 3
	checks(t, "spawn of a function that does not exist", p, result{api.ErrObject, 0, 1})
}

// TestCheckTargets checks P8.1: the targets of jumps and branches.
func TestCheckTargets(t *testing.T) {
	for _, op := range []api.Op{api.OpJump, api.OpBranch} {
		for _, length := range []int{1, 2, 3, 63, 64} {
			for _, at := range []int{0, length / 2, length - 1} {
				for _, n := range []int{0, 1, length - 1, length, length + 1, length + 2, -1, -2, 65, 1 << 32, math.MaxInt, math.MinInt} {
					code, want := stops(length), good
					code[at] = api.Inst{Op: op, N: n}
					if n < 0 || n > length {
						want = result{api.ErrTarget, 0, at}
					}
					checks(t, fmt.Sprintf("%s %d at %d of %d", inst.Mnemonic(op), n, at, length), simple(code...), want)
				}
			}
		}
	}
	// The length is that of the own function.
	p := simple(stops(5)...)
	p.Funcs = append(p.Funcs, api.Func{Name: "g", Code: []api.Inst{{Op: api.OpStop}, {Op: api.OpJump, N: 3}}}, api.Func{Name: "h", Code: stops(9)})
	checks(t, "a target of another function", p, result{api.ErrTarget, 1, 1})
	p.Funcs[1].Code[1].N = 2
	checks(t, "the end of the function", p, good)
	// A number is a target only of jumps and branches, and a mutex only of waits.
	checks(t, "const -1 and 1000", simple(api.Inst{Op: api.OpConst, N: -1}, api.Inst{Op: api.OpConst, N: 1000}), good)
}

// TestCheckInstructions checks P8.1: the errors of inst.Check, which come before those of objects and targets.
func TestCheckInstructions(t *testing.T) {
	for _, x := range []struct {
		i    api.Inst
		want api.Errno
	}{
		{api.Inst{}, api.ErrOp},
		{api.Inst{Op: 23}, api.ErrOp},
		{api.Inst{Op: -1, A: 9, Obj: -1}, api.ErrOp},
		{api.Inst{Op: api.OpStop, Obj: 1}, api.ErrField},
		{api.Inst{Op: api.OpStop, Obj: -1}, api.ErrField},
		{api.Inst{Op: api.OpConst, A: 8}, api.ErrRegister},
		{api.Inst{Op: api.OpConst, N: 1 << 31}, api.ErrRange},
		{api.Inst{Op: api.OpConst, N: -1<<31 - 1}, api.ErrRange},
		{api.Inst{Op: api.OpCalc}, api.ErrOp},
		{api.Inst{Op: api.OpLoad, Order: 3}, api.ErrOrder},
		{api.Inst{Op: api.OpLoad, Obj: 4, Order: 3}, api.ErrOrder},
		{api.Inst{Op: api.OpLoad, Obj: 4, B: 1}, api.ErrField},
		{api.Inst{Op: api.OpAwait, Obj: 4}, api.ErrOp},
		{api.Inst{Op: api.OpStore, Obj: -1, B: 8}, api.ErrRegister},
		{api.Inst{Op: api.OpLock, Obj: 3, N: 1}, api.ErrField},
		{api.Inst{Op: api.OpWait, Obj: 2, N: 3, Order: 1}, api.ErrField},
		{api.Inst{Op: api.OpWait, Obj: 2, N: 3}, api.ErrObject},
		{api.Inst{Op: api.OpSpawn, Obj: 1, B: -1}, api.ErrRegister},
		{api.Inst{Op: api.OpJump, N: 99, Obj: 1}, api.ErrField},
		{api.Inst{Op: api.OpBranch, N: 99, B: 8}, api.ErrRegister},
		{api.Inst{Op: api.OpBranch, N: 99, B: 7}, api.ErrTarget},
	} {
		for at := range 3 {
			code := stops(3)
			code[at] = x.i
			p := simple(code...)
			checks(t, fmt.Sprintf("%+v", x.i), p, result{x.want, 0, at})
			p.Funcs = []api.Func{{Name: "a"}, {Name: "b", Code: stops(4)}, p.Funcs[0]}
			checks(t, fmt.Sprintf("%+v in the last function", x.i), p, result{x.want, 2, at})
		}
	}
}

// A fault changes a program so that it has one error.
type fault struct {
	name string
	make func(p *api.Program)
	want result
}

// faults are changes of the program full, each in memory that no other one changes, in the order in which Check finds them.
var faults = []fault{
	{"variable 1 has no name", func(p *api.Program) { p.Vars[1].Name = "" }, result{api.ErrName, -1, -1}},
	{"variable 2 twice", func(p *api.Program) { p.Vars[2].Name = p.Vars[0].Name }, result{api.ErrTwice, -1, -1}},
	{"mutex 1 twice", func(p *api.Program) { p.Mutexes[1] = p.Mutexes[0] }, result{api.ErrTwice, -1, -1}},
	{"mutex 2 has a wrong name", func(p *api.Program) { p.Mutexes[2] = "_m" }, result{api.ErrName, -1, -1}},
	{"condition variable 1 has a wrong name", func(p *api.Program) { p.Conds[1] = "1c" }, result{api.ErrName, -1, -1}},
	{"condition variable 2 twice", func(p *api.Program) { p.Conds[2] = p.Conds[0] }, result{api.ErrTwice, -1, -1}},
	{"function 1 twice", func(p *api.Program) { p.Funcs[1].Name = p.Funcs[0].Name }, result{api.ErrTwice, 1, -1}},
	{"function 2 has a wrong name", func(p *api.Program) { p.Funcs[2].Name = "a-b" }, result{api.ErrName, 2, -1}},
	{"too many variables", func(p *api.Program) { p.Vars = append(p.Vars, variables(6)...) }, result{api.ErrLimit, -1, -1}},
	{"too many mutexes", func(p *api.Program) { p.Mutexes = append(p.Mutexes, names("a", 2)...) }, result{api.ErrLimit, -1, -1}},
	{"too many condition variables", func(p *api.Program) { p.Conds = append(p.Conds, names("a", 2)...) }, result{api.ErrLimit, -1, -1}},
	{"too many functions", func(p *api.Program) { p.Funcs = append(p.Funcs, functions(6)...) }, result{api.ErrLimit, -1, -1}},
	{"Init too large", func(p *api.Program) { p.Vars[1].Init = 1 << 31 }, result{api.ErrRange, -1, -1}},
	{"function 0 too long", func(p *api.Program) { p.Funcs[0].Code = append(p.Funcs[0].Code, stops(60)...) }, result{api.ErrLimit, 0, -1}},
	{"no operation in function 0", func(p *api.Program) { p.Funcs[0].Code[0] = api.Inst{} }, result{api.ErrOp, 0, 0}},
	{"wrong target in function 0", func(p *api.Program) { p.Funcs[0].Code[3].N = -1 }, result{api.ErrTarget, 0, 3}},
	{"wrong field in function 0", func(p *api.Program) { p.Funcs[0].Code[6].N = 1 }, result{api.ErrField, 0, 6}},
	{"function 1 too long", func(p *api.Program) { p.Funcs[1].Code = append(p.Funcs[1].Code, stops(58)...) }, result{api.ErrLimit, 1, -1}},
	{"wrong order in function 1", func(p *api.Program) { p.Funcs[1].Code[0].Order = 3 }, result{api.ErrOrder, 1, 0}},
	{"wrong object in function 1", func(p *api.Program) { p.Funcs[1].Code[1].Obj = -1 }, result{api.ErrObject, 1, 1}},
	{"wrong register in function 1", func(p *api.Program) { p.Funcs[1].Code[6].B = 8 }, result{api.ErrRegister, 1, 6}},
	{"function 2 too long", func(p *api.Program) { p.Funcs[2].Code = append(p.Funcs[2].Code, stops(57)...) }, result{api.ErrLimit, 2, -1}},
	{"wrong object in function 2", func(p *api.Program) { p.Funcs[2].Code[0].Obj = 99 }, result{api.ErrObject, 2, 0}},
	{"wrong mutex in function 2", func(p *api.Program) { p.Funcs[2].Code[3].N = 99 }, result{api.ErrObject, 2, 3}},
	{"wrong function in function 2", func(p *api.Program) { p.Funcs[2].Code[6].Obj = 99 }, result{api.ErrObject, 2, 6}},
	{"too many threads", func(p *api.Program) { p.Threads = append(p.Threads, make([]api.Start, 6)...) }, result{api.ErrLimit, -1, -1}},
	{"wrong function of thread 0", func(p *api.Program) { p.Threads[0].Func = 99 }, result{api.ErrObject, -1, -1}},
	{"wrong argument of thread 1", func(p *api.Program) { p.Threads[1].Arg = -1 << 32 }, result{api.ErrRange, -1, -1}},
	{"wrong function of thread 2", func(p *api.Program) { p.Threads[2].Func = -1 }, result{api.ErrObject, -1, -1}},
	{"no threads", func(p *api.Program) { p.Threads = nil }, result{api.ErrLimit, -1, -1}},
}

// TestCheckOrder checks P8.1: one fault, and the first one of two or more.
func TestCheckOrder(t *testing.T) {
	for i, first := range faults {
		p := full()
		first.make(&p)
		checks(t, first.name, p, first.want)
		for _, second := range faults[i+1:] {
			p := full()
			first.make(&p)
			want := first.want
			if second.name == "no threads" && strings.Contains(first.name, "thread") {
				// Without threads the errors of threads are gone.
				want = second.want
			}
			second.make(&p)
			checks(t, first.name+", "+second.name, p, want)
		}
	}
	last := len(faults) - 1
	for i, first := range faults[:last] {
		p := full()
		for _, f := range faults[i:last] {
			f.make(&p)
		}
		checks(t, "all faults from: "+first.name, p, first.want)
	}
}

// TestFunction checks P8.2: the first function with a name, also in programs that are not valid.
func TestFunction(t *testing.T) {
	find := func(p api.Program, name string, f int, ok bool) {
		t.Helper()
		got, found := Function(p, name)
		same(t, fmt.Sprintf("Function(%+v, %q)", p.Funcs, name), results(got, found), results(f, ok))
	}
	for f, name := range []string{"f", "g", "h"} {
		find(full(), name, f, true)
	}
	// Names of other objects, and names that differ, are not found.
	for _, name := range []string{"", "x", "m", "c", "F", "f ", " f", "ff", "fg", "i", "0", "f\x00"} {
		find(full(), name, 0, false)
	}
	find(api.Program{}, "f", 0, false)
	find(api.Program{}, "", 0, false)
	find(api.Program{Vars: variables(2), Funcs: []api.Func{}}, "x0", 0, false)
	twice := api.Program{Funcs: []api.Func{{Name: "a"}, {Name: "b"}, {Name: "a"}, {Name: "b"}, {Name: ""}, {Name: "a b"}, {Name: ""}}}
	find(twice, "a", 0, true)
	find(twice, "b", 1, true)
	find(twice, "", 4, true)
	find(twice, "a b", 5, true)
	find(twice, "c", 0, false)
	find(api.Program{Funcs: functions(100)}, "f99", 99, true)
}

// TestCheckConfig checks P8.3: models and bounds at their limits, and the order of the errors.
func TestCheckConfig(t *testing.T) {
	models := map[api.Model]bool{
		api.SC: true, api.TSO: true, api.RA: true,
		0: false, 4: false, -1: false, -2: false, 5: false, 257: false, 1<<32 + 1: false, math.MaxInt: false, math.MinInt: false,
	}
	bounds := map[int]bool{
		1: true, 2: true, 16: true, 31: true, 32: true,
		0: false, 33: false, -1: false, 34: false, 100: false, 1<<32 + 1: false, math.MaxInt: false, math.MinInt: false,
	}
	for model, knownModel := range models {
		for bound, inRange := range bounds {
			want := api.OK
			if !knownModel {
				want = api.ErrModel
			} else if !inRange {
				want = api.ErrRange
			}
			c := api.Config{Model: model, Bound: bound}
			same(t, fmt.Sprintf("CheckConfig(%+v)", c), CheckConfig(c), want)
		}
	}
	same(t, "CheckConfig of nothing", CheckConfig(api.Config{}), api.ErrModel)
}

// changes change one field of the program full, or the length of one list.
var changes = []func(p *api.Program){
	func(p *api.Program) { p.Vars[0].Name = "w" },
	func(p *api.Program) { p.Vars[2].Init = 1 },
	func(p *api.Program) { p.Vars = p.Vars[:2] },
	func(p *api.Program) { p.Vars = nil },
	func(p *api.Program) { p.Vars[0], p.Vars[1] = p.Vars[1], p.Vars[0] },
	func(p *api.Program) { p.Mutexes[1] = "M" },
	func(p *api.Program) { p.Mutexes = append(p.Mutexes, "") },
	func(p *api.Program) { p.Mutexes = nil },
	func(p *api.Program) { p.Conds[2] = "" },
	func(p *api.Program) { p.Conds = p.Conds[1:] },
	func(p *api.Program) { p.Conds = []string{} },
	func(p *api.Program) { p.Funcs[1].Name = "G" },
	func(p *api.Program) { p.Funcs[2].Code = p.Funcs[2].Code[:7] },
	func(p *api.Program) { p.Funcs[0].Code = nil },
	func(p *api.Program) { p.Funcs = append(p.Funcs, api.Func{}) },
	func(p *api.Program) { p.Funcs = nil },
	func(p *api.Program) { p.Funcs[0].Code[6].Op = 23 },
	func(p *api.Program) { p.Funcs[0].Code[2].A = 7 },
	func(p *api.Program) { p.Funcs[1].Code[4].B = 0 },
	func(p *api.Program) { p.Funcs[1].Code[4].C = 0 },
	func(p *api.Program) { p.Funcs[1].Code[4].Obj = 0 },
	func(p *api.Program) { p.Funcs[2].Code[3].N = 0 },
	func(p *api.Program) { p.Funcs[1].Code[6].Fn = api.FnLt },
	func(p *api.Program) { p.Funcs[2].Code[7].Order = 1 },
	func(p *api.Program) { p.Threads[0].Func = 0 },
	func(p *api.Program) { p.Threads[2].Arg = 1 },
	func(p *api.Program) { p.Threads = p.Threads[:2] },
	func(p *api.Program) { p.Threads = nil },
}

// TestEqual checks P8.4: every field of a program, nil and empty lists, and programs that are not valid.
func TestEqual(t *testing.T) {
	equal := func(what string, a, b api.Program, want bool) {
		t.Helper()
		same(t, "Equal of "+what, Equal(a, b), want)
		same(t, "Equal, reversed, of "+what, Equal(b, a), want)
	}
	equal("two programs", full(), full(), true)
	equal("a program and nothing", full(), api.Program{}, false)
	for k, change := range changes {
		a, b := full(), full()
		change(&a)
		equal(results("a program and one with the change ", k), a, b, false)
		change(&b)
		equal(results("two programs with the change ", k), a, b, true)
		for other := range k {
			c := full()
			changes[other](&c)
			equal(results("programs with the changes ", k, " and ", other), a, c, false)
		}
	}
	empty := api.Program{Vars: []api.Var{}, Mutexes: []string{}, Conds: []string{}, Funcs: []api.Func{}, Threads: []api.Start{}}
	equal("nil and empty lists", api.Program{}, empty, true)
	equal("nil and empty code", api.Program{Funcs: []api.Func{{Name: "f"}}}, api.Program{Funcs: []api.Func{{Name: "f", Code: []api.Inst{}}}}, true)
	equal("the same name in different lists", api.Program{Mutexes: []string{"a"}}, api.Program{Conds: []string{"a"}}, false)
	equal("an empty name and no name", api.Program{Mutexes: []string{""}}, api.Program{}, false)
}

// TestSize checks P8.4: the number of all instructions, also in programs that are not valid.
func TestSize(t *testing.T) {
	same(t, "Size of a full program", Size(full()), 22)
	same(t, "Size of nothing", Size(api.Program{}), 0)
	same(t, "Size without code", Size(simple()), 0)
	same(t, "Size of functions that no thread runs", Size(api.Program{Funcs: functions(3, stops(5)...)}), 15)
	same(t, "Size of a function that is too long", Size(simple(stops(1000)...)), 1000)
	same(t, "Size with too many functions", Size(api.Program{Funcs: functions(20, api.Inst{})}), 20)
	same(t, "Size of wrong instructions", Size(simple(api.Inst{Op: -1}, api.Inst{Op: 99, A: 99})), 2)
	same(t, "Size with an empty function in between", Size(api.Program{Funcs: []api.Func{{Code: stops(1)}, {}, {Code: stops(2)}}}), 3)
}

// overwrite changes all memory of a program, also that behind the ends of its lists.
func overwrite(p api.Program) {
	for _, f := range p.Funcs[:cap(p.Funcs)] {
		fill(f.Code, api.Inst{Op: 55, A: 55, B: 55, C: 55, Obj: 55, N: 55, Fn: 55, Order: 55})
	}
	fill(p.Vars, api.Var{Name: "other", Init: 55})
	fill(p.Mutexes, "other")
	fill(p.Conds, "other")
	fill(p.Funcs, api.Func{Name: "other"})
	fill(p.Threads, api.Start{Func: 55, Arg: 55})
}

// fill sets all elements of a list, also those behind its end.
func fill[T any](list []T, element T) {
	list = list[:cap(list)]
	for k := range list {
		list[k] = element
	}
}

// spacious returns a copy of a program whose lists have memory behind their ends.
func spacious(p api.Program) api.Program {
	p.Vars = append(append(make([]api.Var, 0, len(p.Vars)+3), p.Vars...), api.Var{Name: "hidden"})[:len(p.Vars)]
	p.Mutexes = append(append(make([]string, 0, len(p.Mutexes)+3), p.Mutexes...), "hidden")[:len(p.Mutexes)]
	p.Conds = append(append(make([]string, 0, len(p.Conds)+3), p.Conds...), "hidden")[:len(p.Conds)]
	p.Threads = append(append(make([]api.Start, 0, len(p.Threads)+3), p.Threads...), api.Start{Func: 9})[:len(p.Threads)]
	funcs := make([]api.Func, 0, len(p.Funcs)+3)
	for _, f := range p.Funcs {
		f.Code = append(append(make([]api.Inst, 0, len(f.Code)+3), f.Code...), api.Inst{Op: 9})[:len(f.Code)]
		funcs = append(funcs, f)
	}
	p.Funcs = append(funcs, api.Func{Name: "hidden"})[:len(funcs)]
	return p
}

// whole is the text of a program with the memory behind the ends of its lists.
func whole(p api.Program) string {
	text := results(p.Vars[:cap(p.Vars)], p.Mutexes[:cap(p.Mutexes)], p.Conds[:cap(p.Conds)], p.Threads[:cap(p.Threads)])
	for _, f := range p.Funcs[:cap(p.Funcs)] {
		text += results(f.Name, len(f.Code), f.Code[:cap(f.Code)])
	}
	return text
}

// TestClone checks P8.4: a clone is equal and shares no memory with the program, which may be invalid.
func TestClone(t *testing.T) {
	programs := []api.Program{
		full(), simple(), {}, {Vars: []api.Var{}, Mutexes: []string{}, Conds: []string{}, Funcs: []api.Func{}, Threads: []api.Start{}},
		{Vars: variables(20), Mutexes: names("m", 20), Conds: names("", 20), Funcs: functions(20, stops(70)...), Threads: make([]api.Start, 20)},
		{Funcs: []api.Func{{Code: []api.Inst{}}, {}, {Name: "a", Code: []api.Inst{{Op: -1}}}}},
	}
	for _, f := range faults {
		p := full()
		f.make(&p)
		programs = append(programs, p)
	}
	for k, p := range programs {
		what := results("program ", k)
		a, b := spacious(p), spacious(p)
		before := whole(a)
		c := Clone(a)
		same(t, "Clone of "+what, c, p)
		same(t, "Equal of the clone of "+what, Equal(c, a), true)
		same(t, "after Clone: "+what, whole(a), before)
		overwrite(c)
		same(t, "after its clone was overwritten: "+what, whole(a), before)
		c = Clone(b)
		overwrite(b)
		same(t, "the clone after the overwriting of "+what, c, p)
		d := Clone(c)
		overwrite(d)
		same(t, "a clone after the overwriting of its clone: "+what, c, p)
	}
}

// TestCloneParts checks P8.4: functions that share memory do not share it in the clone.
func TestCloneParts(t *testing.T) {
	list, code := names("a", 3), stops(3)
	p := api.Program{Mutexes: list, Conds: list, Funcs: []api.Func{{Name: "f", Code: code}, {Name: "g", Code: code}, {Name: "h", Code: code[:2]}}}
	c := Clone(p)
	fill(c.Funcs[0].Code, api.Inst{Op: 55})
	fill(c.Mutexes, "other")
	want := api.Program{Mutexes: []string{"other", "other", "other"}, Conds: list, Funcs: []api.Func{
		{Name: "f", Code: []api.Inst{{Op: 55}, {Op: 55}, {Op: 55}}}, {Name: "g", Code: stops(3)}, {Name: "h", Code: stops(2)},
	}}
	same(t, "the clone after one part was overwritten", c, want)
	same(t, "the program", p.Funcs[0].Code, stops(3))
}

// calling is a program whose function f spawns the functions calls[f], and whose threads run the given functions.
func calling(calls [][]int, threads ...int) api.Program {
	p := api.Program{Vars: variables(8), Mutexes: names("m", 4), Conds: names("c", 4), Funcs: functions(len(calls))}
	for f, called := range calls {
		for _, g := range called {
			// The other instructions name objects with other numbers, which are not functions.
			p.Funcs[f].Code = append(p.Funcs[f].Code, api.Inst{Op: api.OpLoad, Obj: 7}, api.Inst{Op: api.OpSpawn, A: 6, Obj: g, B: 5}, api.Inst{Op: api.OpLock, Obj: 3})
		}
	}
	for _, f := range threads {
		p.Threads = append(p.Threads, api.Start{Func: f, Arg: 7})
	}
	return p
}

// TestReachable checks P8.5: functions of threads, spawns in all directions, and functions that no thread can run.
func TestReachable(t *testing.T) {
	for _, x := range []struct {
		calls   [][]int
		threads []int
		want    []int
	}{
		{[][]int{nil}, []int{0}, []int{0}},
		{[][]int{nil, nil}, []int{1}, []int{1}},
		{[][]int{nil, nil, nil}, []int{2, 0}, []int{0, 2}},
		{[][]int{nil, nil, nil}, []int{2, 2, 2, 2, 2, 2, 2, 2}, []int{2}},
		{[][]int{nil, nil, nil}, []int{2, 1, 0, 2}, []int{0, 1, 2}},
		{[][]int{{0}}, []int{0}, []int{0}},
		{[][]int{{0}, {1}}, []int{1}, []int{1}},
		{[][]int{{1}, {0}}, []int{1}, []int{0, 1}},
		{[][]int{{1}, {0}, nil}, []int{2}, []int{2}},
		{[][]int{{1}, {0}, {2}}, []int{2}, []int{2}},
		{[][]int{{1}, {2}, nil}, []int{1}, []int{1, 2}},
		{[][]int{{1}, {2}, {0}}, []int{2}, []int{0, 1, 2}},
		{[][]int{{1, 1, 1}, nil, {1}}, []int{0}, []int{0, 1}},
		{[][]int{{2, 1}, nil, nil, {0}}, []int{0}, []int{0, 1, 2}},
		{[][]int{{1}, {2}, {3}, {4}, {5}, {6}, {7}, nil}, []int{0}, []int{0, 1, 2, 3, 4, 5, 6, 7}},
		{[][]int{nil, {0}, {1}, {2}, {3}, {4}, {5}, {6}}, []int{7}, []int{0, 1, 2, 3, 4, 5, 6, 7}},
		{[][]int{nil, {0}, {1}, {2}, {3}, {4}, {5}, {6}}, []int{3}, []int{0, 1, 2, 3}},
		{[][]int{{3}, {6}, {0}, {5}, {1}, {2}, {7}, {4}}, []int{6}, []int{1, 4, 6, 7}},
	} {
		p := calling(x.calls, x.threads...)
		reached, err := Reachable(p)
		same(t, fmt.Sprintf("Reachable(%v, threads %v)", x.calls, x.threads), results(reached, err), results(x.want, api.OK))
	}
	reached, err := Reachable(full())
	same(t, "Reachable of a full program", results(reached, err), results([]int{0, 1}, api.OK))
}

// TestReachableCode checks P8.5: a spawn counts whether or not control reaches it.
func TestReachableCode(t *testing.T) {
	for _, before := range [][]api.Inst{
		{{Op: api.OpStop}}, {{Op: api.OpJump, N: 2}}, {{Op: api.OpJump, N: 0}}, {{Op: api.OpAssert, B: 1}}, {{Op: api.OpBranch, B: 1, N: 0}},
	} {
		p := simple(append(slices.Clone(before), api.Inst{Op: api.OpSpawn, Obj: 2})...)
		p.Funcs = append(p.Funcs, functions(2)...)
		reached, err := Reachable(p)
		same(t, fmt.Sprintf("Reachable with a spawn after %+v", before), results(reached, err), results([]int{0, 2}, api.OK))
	}
	p := simple(stops(64)...)
	p.Funcs = append(p.Funcs, functions(7)...)
	p.Funcs[0].Code[63] = api.Inst{Op: api.OpSpawn, Obj: 7}
	reached, err := Reachable(p)
	same(t, "Reachable with a spawn at the end", results(reached, err), results([]int{0, 7}, api.OK))
}

// smallest returns the smallest set, by P8.6, among all sets of functions.
func smallest(p api.Program) []int {
	common := 1<<len(p.Funcs) - 1
	for set := range 1 << len(p.Funcs) {
		if closed(p, set) {
			common &= set
		}
	}
	var members []int
	for f := range p.Funcs {
		if common>>f&1 == 1 {
			members = append(members, f)
		}
	}
	return members
}

// closed reports whether a set of functions contains those of the threads, and those that its members spawn.
func closed(p api.Program, set int) bool {
	for _, start := range p.Threads {
		if set>>start.Func&1 == 0 {
			return false
		}
	}
	for f, function := range p.Funcs {
		for _, i := range function.Code {
			if set>>f&1 == 1 && i.Op == api.OpSpawn && set>>i.Obj&1 == 0 {
				return false
			}
		}
	}
	return true
}

// TestReachability checks P8.6: the result is the smallest closed set.
func TestReachability(t *testing.T) {
	random := rand.New(rand.NewSource(8))
	sizes := map[int]bool{}
	for range 3000 {
		calls := make([][]int, 1+random.Intn(8))
		for range random.Intn(10) {
			f := random.Intn(len(calls))
			calls[f] = append(calls[f], random.Intn(len(calls)))
		}
		var threads []int
		for range 1 + random.Intn(3) {
			threads = append(threads, random.Intn(len(calls)))
		}
		p := calling(calls, threads...)
		reached, err := Reachable(p)
		same(t, fmt.Sprintf("Reachable(%v, threads %v)", calls, threads), results(reached, err), results(smallest(p), api.OK))
		if !slices.IsSorted(reached) || len(slices.Compact(slices.Clone(reached))) != len(reached) {
			t.Fatalf("Reachable(%v, threads %v): %v does not increase", calls, threads, reached)
		}
		sizes[len(reached)] = true
	}
	same(t, "sizes of results", len(sizes), 8)
}

// TestMemory checks the rules on arguments and results: programs stay as they are, and every result is new memory.
func TestMemory(t *testing.T) {
	programs := []api.Program{full(), simple(stops(3)...), {}, calling([][]int{{1, 2}, {0}, nil}, 0, 2, 0)}
	for _, f := range faults {
		p := full()
		f.make(&p)
		programs = append(programs, p)
	}
	for k, p := range programs {
		p, other := spacious(p), spacious(p)
		before := whole(p)
		Check(p)
		Valid(p)
		Size(p)
		Function(p, "h")
		Function(p, "none")
		Reachable(p)
		Equal(p, other)
		Equal(other, p)
		Equal(p, full())
		Clone(p)
		same(t, results("after all calls: program ", k), whole(p), before)
		same(t, results("after all calls: the other program ", k), whole(other), before)
	}
	p := calling([][]int{{2}, {0}, {1}}, 0)
	first, _ := Reachable(p)
	fill(first, 55)
	second, err := Reachable(p)
	same(t, "Reachable after its result was overwritten", results(second, err), results([]int{0, 1, 2}, api.OK))
	overwrite(p)
	same(t, "the result after its program was overwritten", second, []int{0, 1, 2})
}

// reference is Check by its definition: it lists all errors in their order and returns the first one.
func reference(p api.Program) result {
	var all []result
	add := func(wrong bool, err api.Errno, f, n int) {
		if wrong {
			all = append(all, result{err, f, n})
		}
	}
	var vars, funcs []string
	for _, v := range p.Vars {
		vars = append(vars, v.Name)
	}
	for _, f := range p.Funcs {
		funcs = append(funcs, f.Name)
	}
	for list, names := range [][]string{vars, p.Mutexes, p.Conds, funcs} {
		for k, name := range names {
			f := -1
			if list == 3 {
				f = k
			}
			add(!referenceName(name), api.ErrName, f, -1)
			add(slices.Index(names, name) < k, api.ErrTwice, f, -1)
		}
	}
	add(len(p.Vars) > 8 || len(p.Mutexes) > 4 || len(p.Conds) > 4 || len(p.Funcs) > 8, api.ErrLimit, -1, -1)
	for _, v := range p.Vars {
		add(int(int32(v.Init)) != v.Init, api.ErrRange, -1, -1)
	}
	for f, function := range p.Funcs {
		add(len(function.Code) > 64, api.ErrLimit, f, -1)
		for n, i := range function.Code {
			add(inst.Check(i) != api.OK, inst.Check(i), f, n)
			add(!slices.Contains(referenceObjects(p, i), i.Obj), api.ErrObject, f, n)
			add(i.Op == api.OpWait && (i.N < 0 || i.N > len(p.Mutexes)-1), api.ErrObject, f, n)
			add((i.Op == api.OpJump || i.Op == api.OpBranch) && (i.N < 0 || i.N > len(function.Code)), api.ErrTarget, f, n)
		}
	}
	add(len(p.Threads) == 0 || len(p.Threads) > 8, api.ErrLimit, -1, -1)
	for _, s := range p.Threads {
		add(s.Func < 0 || s.Func > len(p.Funcs)-1, api.ErrObject, -1, -1)
		add(int(int32(s.Arg)) != s.Arg, api.ErrRange, -1, -1)
	}
	return append(all, good)[0]
}

// referenceName reports by the definition whether s is a name.
func referenceName(s string) bool {
	const letters = "abcdefghijklmnopqrstuvwxyzABCDEFGHIJKLMNOPQRSTUVWXYZ"
	return s != "" && len(s) <= 16 && strings.Trim(s, letters+"0123456789_") == "" && strings.Contains(letters, s[:1]) &&
		!strings.ContainsFunc(s, func(r rune) bool { return !strings.ContainsRune(letters+"0123456789_", r) })
}

// referenceObjects returns the objects that an instruction may name: any if its operation names none.
func referenceObjects(p api.Program, i api.Inst) []int {
	count := map[string]int{"load store swap fetchadd cas await": len(p.Vars), "lock unlock trylock": len(p.Mutexes), "wait signal broadcast": len(p.Conds), "spawn": len(p.Funcs)}
	for operations, n := range count {
		if slices.Contains(strings.Fields(operations), inst.Mnemonic(i.Op)) {
			var all []int
			for k := range n {
				all = append(all, k)
			}
			return all
		}
	}
	return []int{i.Obj}
}

// mutate makes a few changes of random parts of a program.
func mutate(random *rand.Rand, p *api.Program) {
	n := []int{-1, 0, 1, 2, 3, 7, 8, 10, 64, 1 << 31, -1<<31 - 1}[random.Intn(11)]
	name := []string{"", "x", "m", "c", "f", "g", "_", "a1", "1a", "abcdefghijklmnop", "abcdefghijklmnopq"}[random.Intn(11)]
	switch part := random.Intn(12); {
	case part == 0 && len(p.Vars) > 0:
		p.Vars[random.Intn(len(p.Vars))].Name = name
	case part == 1 && len(p.Mutexes) > 0:
		p.Mutexes[random.Intn(len(p.Mutexes))] = name
	case part == 2 && len(p.Conds) > 0:
		p.Conds[random.Intn(len(p.Conds))] = name
	case part == 3 && len(p.Funcs) > 0:
		p.Funcs[random.Intn(len(p.Funcs))].Name = name
	case part == 4 && len(p.Vars) > 0:
		p.Vars[random.Intn(len(p.Vars))].Init = n
	case part == 5 && len(p.Threads) > 0:
		p.Threads[random.Intn(len(p.Threads))].Func = n
	case part == 6 && len(p.Threads) > 0:
		p.Threads[random.Intn(len(p.Threads))].Arg = n
	case part == 7:
		lengthen(random, p)
	default:
		f := random.Intn(len(p.Funcs))
		i := &p.Funcs[f].Code[random.Intn(len(p.Funcs[f].Code))]
		fields := []*int{&i.A, &i.B, &i.C, &i.Obj, &i.N, (*int)(&i.Op), (*int)(&i.Fn), (*int)(&i.Order), &i.Obj, &i.Obj, &i.N, &i.N}
		*fields[random.Intn(len(fields))] = n
	}
}

// lengthen changes the length of a random list of a program.
func lengthen(random *rand.Rand, p *api.Program) {
	switch random.Intn(7) {
	case 0:
		p.Vars = variables(random.Intn(11))
	case 1:
		p.Mutexes = names("m", random.Intn(6))
	case 2:
		p.Conds = names("c", random.Intn(6))
	case 3:
		p.Funcs = append(p.Funcs, functions(random.Intn(7), stops(2)...)...)
	case 4:
		p.Threads = make([]api.Start, random.Intn(11))
	default:
		f := random.Intn(len(p.Funcs))
		p.Funcs[f].Code = append(p.Funcs[f].Code, stops(54+random.Intn(10))...)
	}
}

// TestCheckReference compares Check with its definition, for programs with random faults.
func TestCheckReference(t *testing.T) {
	random := rand.New(rand.NewSource(1))
	found := map[api.Errno]int{}
	for range 30000 {
		p := full()
		for range 1 + random.Intn(5) {
			mutate(random, &p)
		}
		want := reference(p)
		if got := checked(p); got != want {
			t.Fatalf("Check(%+v): %v, want %v", p, got, want)
		}
		found[want.err]++
		if c := Clone(p); !Equal(p, c) || !reflect.DeepEqual(p.Threads, c.Threads) && len(p.Threads) > 0 {
			t.Fatalf("Clone(%+v): %+v", p, c)
		}
	}
	for _, err := range []api.Errno{api.OK, api.ErrName, api.ErrTwice, api.ErrLimit, api.ErrRange, api.ErrOp, api.ErrField, api.ErrRegister, api.ErrOrder, api.ErrObject, api.ErrTarget} {
		if found[err] < 20 {
			t.Errorf("only %d programs have the result %d", found[err], err)
		}
	}
}

// FuzzProgram compares the functions of names and single instructions with their definitions.
func FuzzProgram(f *testing.F) {
	f.Add("x", "m", 1, 0, 0, 0, 0, 5, 0, 0, 3, 4)
	f.Add("_", "abcdefghijklmnopq", 18, 0, 0, 0, 1, 2, 0, 0, 0, 1)
	f.Add("a\xff", "é", 21, 1, 2, 0, 3, 0, 0, 0, 32, 2)
	f.Fuzz(func(t *testing.T, first, second string, op, a, b, c, obj, n, fn, order, bound, model int) {
		p := full()
		p.Vars[2].Name, p.Funcs[1].Name = first, second
		p.Funcs[2].Code[4] = api.Inst{Op: api.Op(op), A: a, B: b, C: c, Obj: obj, N: n, Fn: api.Fn(fn), Order: api.Order(order)}
		same(t, fmt.Sprintf("Check(%+v)", p), checked(p), reference(p))
		for _, name := range []string{first, second} {
			same(t, fmt.Sprintf("ValidName(%q)", name), ValidName(name), referenceName(name))
		}
		want := api.OK
		switch {
		case model < 1 || model > 3:
			want = api.ErrModel
		case bound < 1 || bound > 32:
			want = api.ErrRange
		}
		same(t, results("CheckConfig ", model, bound), CheckConfig(api.Config{Model: api.Model(model), Bound: bound}), want)
		if reached, err := Reachable(p); err == api.OK {
			same(t, fmt.Sprintf("Reachable(%+v)", p), reached, smallest(p))
		}
	})
}
