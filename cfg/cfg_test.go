package cfg

import (
	"fmt"
	"math"
	"math/rand"
	"slices"
	"strconv"
	"strings"
	"testing"

	"modelcheck/api"
	"modelcheck/inst"
)

// every returns an instruction of each operation, in order, with n in its field N and other fields that are not 0, as far as it uses them.
func every(n int) []api.Inst {
	var all []api.Inst
	for op := api.OpConst; op <= api.OpJoin; op++ {
		i := api.Inst{Op: op}
		for _, set := range []func(i *api.Inst){
			func(i *api.Inst) { i.A = 1 },
			func(i *api.Inst) { i.B = 2 },
			func(i *api.Inst) { i.C = 7 },
			func(i *api.Inst) { i.Obj = 3 },
			func(i *api.Inst) { i.N = n },
			func(i *api.Inst) { i.Fn = api.FnLe },
			func(i *api.Inst) { i.Order = api.RelAcq },
		} {
			changed := i
			if set(&changed); inst.Check(changed) != api.ErrField {
				i = changed
			}
		}
		all = append(all, i)
	}
	return all
}

// of returns the function with an instruction for each line: jump, branch and stop by their names, and any other word for an instruction that the next one follows.
func of(lines ...string) api.Func {
	f := api.Func{Name: "f"}
	for _, line := range lines {
		word, target, _ := strings.Cut(line, " ")
		n, _ := strconv.Atoi(target)
		i := api.Inst{Op: api.OpLoad, A: 1, Obj: 2, Order: api.Relaxed}
		switch word {
		case "jump":
			i = api.Inst{Op: api.OpJump, N: n}
		case "branch":
			i = api.Inst{Op: api.OpBranch, B: 3, N: n}
		case "stop":
			i = api.Inst{Op: api.OpStop}
		}
		f.Code = append(f.Code, i)
	}
	return f
}

// results returns the results of a call as one text, in which nil and empty slices are the same.
func results(all ...any) string {
	return fmt.Sprint(all...)
}

// same fails if the results of a call are not the ones that are wanted.
func same(t *testing.T, call string, got, want string) {
	t.Helper()
	if got != want {
		t.Fatalf("%s: %s, want %s", call, got, want)
	}
}

// upTo returns the numbers from 0 to n - 1.
func upTo(n int) []int {
	var all []int
	for k := range n {
		all = append(all, k)
	}
	return all
}

// A call is a call of a function of the package, by its name, with its results.
type call struct {
	name, results string
}

// calls returns the calls of all functions of the package for f, Next for the given instructions.
func calls(f api.Func, at ...int) []call {
	var all []call
	for _, k := range at {
		next, err := Next(f, k)
		all = append(all, call{results("Next of ", k), results(next, err)})
	}
	graph, err := Graph(f)
	all = append(all, call{"Graph", results(graph, err)})
	reach, err := Reach(f)
	all = append(all, call{"Reach", results(reach, err)})
	leaders, err := Leaders(f)
	all = append(all, call{"Leaders", results(leaders, err)})
	dominators, err := Dominators(f)
	all = append(all, call{"Dominators", results(dominators, err)})
	loops, err := Loops(f)
	return append(all, call{"Loops", results(loops, err)})
}

// sameCalls fails if the calls for f are not the ones that are wanted.
func sameCalls(t *testing.T, f api.Func, got, want []call) {
	t.Helper()
	if slices.Equal(got, want) {
		return
	}
	for k := range got {
		same(t, fmt.Sprintf("%s of %v", got[k].name, f.Code), got[k].results, want[k].results)
	}
}

// failed returns the calls for a function with the given error.
func failed(err api.Errno, at ...int) []call {
	var all []call
	for _, k := range at {
		all = append(all, call{results("Next of ", k), results([]int{}, err)})
	}
	all = append(all, call{"Graph", results(api.Relation{}, err)})
	for _, name := range []string{"Reach", "Leaders", "Dominators", "Loops"} {
		all = append(all, call{name, results([]int{}, err)})
	}
	return all
}

// TestExample checks the example of the chapter.
func TestExample(t *testing.T) {
	f := api.Func{Name: "f", Code: []api.Inst{{Op: api.OpConst, N: 1}, {Op: api.OpBranch, N: 3}, {Op: api.OpJump, N: 1}, {Op: api.OpStop}}}
	want := []call{
		{"Next of 1", "[2 3] 0"},
		{"Graph", "{5 [[0 1] [1 2] [1 3] [2 1] [3 4]]} 0"},
		{"Reach", "[0 1 2 3] 0"},
		{"Leaders", "[0 1 2 3] 0"},
		{"Dominators", "[-1 0 1 1] 0"},
		{"Loops", "[[1 2]] 0"},
	}
	sameCalls(t, f, calls(f, 1), want)
}

// TestNext checks P12.1: the successors of an instruction of each operation, at the beginning, in the middle and at the end of a function.
func TestNext(t *testing.T) {
	for length := 1; length < 6; length++ {
		for at := range length {
			for target := range length + 1 {
				for _, i := range every(target) {
					f := of(slices.Repeat([]string{"load"}, length)...)
					f.Code[at] = i
					var want []int
					switch inst.Mnemonic(i.Op) {
					case "jump":
						want = []int{target}
					case "branch":
						want = []int{min(target, at+1), max(target, at+1)}
						if target == at+1 {
							want = want[1:]
						}
					case "stop":
						want = []int{length}
					default:
						want = []int{at + 1}
					}
					next, err := Next(f, at)
					same(t, fmt.Sprintf("Next(%v, %d)", f.Code, at), results(next, err), results(want, api.OK))
				}
			}
		}
	}
}

// outside returns numbers that are not from 0 to count - 1, where count is at most 64.
func outside(count int) []int {
	return []int{-1, -2, -count - 1, count, count + 1, 2*count + 1, 64, 65, 1 << 32, math.MinInt, math.MaxInt, math.MinInt + 1}
}

// TestNextOutside checks P12.1: numbers that are no instructions.
func TestNextOutside(t *testing.T) {
	for _, f := range []api.Func{of(), of("stop"), of("load", "branch 0"), of("jump 3", "jump 0", "jump 1"), {Code: every(5)}, loads(63), loads(64)} {
		for _, at := range outside(len(f.Code)) {
			next, err := Next(f, at)
			same(t, fmt.Sprintf("Next(%v, %d)", f.Code, at), results(next, err), results([]int{}, api.ErrRange))
		}
		for at := range f.Code {
			if next, err := Next(f, at); err != api.OK || len(next) == 0 {
				t.Errorf("Next(%v, %d): %v, %v", f.Code, at, next, err)
			}
		}
	}
}

// loads returns a function of the given length without jumps, branches and stops.
func loads(length int) api.Func {
	return of(slices.Repeat([]string{"load"}, length)...)
}

// TestFunctions checks P12.2 to P12.6 for functions of each form.
func TestFunctions(t *testing.T) {
	for _, c := range []struct {
		form                                     string
		f                                        api.Func
		graph, reach, leaders, dominators, loops string
	}{
		{"no instructions", of(), "", "", "", "", ""},
		{"one instruction", of("load"), "0>1", "0", "0", "-1", ""},
		{"stop", of("stop"), "0>1", "0", "0", "-1", ""},
		{"a jump to itself", of("jump 0"), "0>0", "0", "0", "-1", "0"},
		{"a branch to itself", of("branch 0"), "0>0 0>1", "0", "0", "-1", "0"},
		{"a jump to the exit", of("jump 1"), "0>1", "0", "0", "-1", ""},
		{"a branch to the exit", of("branch 1"), "0>1", "0", "0", "-1", ""},
		{"a line", of("load", "load", "load"), "0>1 1>2 2>3", "0 1 2", "0", "-1 0 1", ""},
		{"jumps to the next", of("jump 1", "jump 2", "jump 3"), "0>1 1>2 2>3", "0 1 2", "0 1 2", "-1 0 1", ""},
		{"branches to the next", of("branch 1", "branch 2", "branch 3"), "0>1 1>2 2>3", "0 1 2", "0 1 2", "-1 0 1", ""},
		{"jumps to the exit", of("branch 3", "jump 3", "jump 3"), "0>1 0>3 1>3 2>3", "0 1", "0 1 2", "-1 0 -1", ""},
		{"stops", of("load", "stop", "stop", "load"), "0>1 1>4 2>4 3>4", "0 1", "0 2 3", "-1 0 -1 -1", ""},
		{"a jump over some", of("load", "jump 4", "load", "load", "load"), "0>1 1>4 2>3 3>4 4>5", "0 1 4", "0 2 4", "-1 0 -1 -1 1", ""},
		{"two ways", of("branch 3", "load", "jump 4", "load", "stop"), "0>1 0>3 1>2 2>4 3>4 4>5", "0 1 2 3 4", "0 1 3 4", "-1 0 1 0 0", ""},
		{"one way of two", of("load", "branch 4", "load", "load", "stop"), "0>1 1>2 1>4 2>3 3>4 4>5", "0 1 2 3 4", "0 2 4", "-1 0 1 2 1", ""},
		{"two ways, one of which ends", of("branch 2", "stop", "load", "load"), "0>1 0>2 1>4 2>3 3>4", "0 1 2 3", "0 1 2", "-1 0 0 2", ""},
		{"backward without a cycle", of("jump 3", "load", "stop", "jump 1"), "0>3 1>2 2>4 3>1", "0 1 2 3", "0 1 3", "-1 3 1 0", ""},
		{"a loop with the test first", of("load", "branch 4", "load", "jump 1", "stop"), "0>1 1>2 1>4 2>3 3>1 4>5", "0 1 2 3 4", "0 1 2 4", "-1 0 1 2 1", "1 2 3"},
		{"a loop with the test last", of("load", "load", "branch 1", "stop"), "0>1 1>2 2>1 2>3 3>4", "0 1 2 3", "0 1 3", "-1 0 1 2", "1 2"},
		{"a loop without end", of("load", "load", "jump 0", "stop"), "0>1 1>2 2>0 3>4", "0 1 2", "0 3", "-1 0 1 -1", "0 1 2"},
		{"a loop with a stop in it", of("branch 2", "stop", "branch 0"), "0>1 0>2 1>3 2>0 2>3", "0 1 2", "0 1 2", "-1 0 0", "0 2"},
		{"a header after its loop", of("jump 3", "load", "jump 3", "branch 1", "stop"), "0>3 1>2 2>3 3>1 3>4 4>5", "0 1 2 3 4", "0 1 3 4", "-1 3 1 0 3", "3 1 2"},
		{"a header in its loop", of("jump 2", "jump 2", "branch 4", "branch 1", "jump 1", "stop"), "0>2 1>2 2>3 2>4 3>1 3>4 4>1 5>6", "0 1 2 3 4", "0 1 2 3 4 5", "-1 2 0 2 2 -1", "2 1 3 4"},
		{"a branch to the next as a back edge", of("jump 2", "branch 2", "branch 1", "stop"), "0>2 1>2 2>1 2>3 3>4", "0 1 2 3", "0 1 2 3", "-1 2 0 2", "2 1"},
		{"nested loops", of("load", "branch 6", "branch 5", "load", "jump 2", "jump 1", "stop"), "0>1 1>2 1>6 2>3 2>5 3>4 4>2 5>1 6>7", "0 1 2 3 4 5 6", "0 1 2 3 5 6", "-1 0 1 2 3 2 1", "1 2 3 4 5; 2 3 4"},
		{"loops of one in one another", of("branch 0", "branch 0", "branch 1", "branch 0"), "0>0 0>1 1>0 1>2 2>1 2>3 3>0 3>4", "0 1 2 3", "0 1 2 3", "-1 0 1 2", "0 1 2 3; 1 2"},
		{"two loops with one header", of("branch 3", "load", "jump 0", "branch 5", "jump 0", "stop"), "0>1 0>3 1>2 2>0 3>4 3>5 4>0 5>6", "0 1 2 3 4 5", "0 1 3 4 5", "-1 0 1 0 3 3", "0 1 2 3 4"},
		{"two disjoint loops", of("load", "branch 0", "load", "branch 2"), "0>1 1>0 1>2 2>3 3>2 3>4", "0 1 2 3", "0 2", "-1 0 1 2", "0 1; 2 3"},
		{"loops on two ways", of("branch 3", "branch 1", "stop", "branch 3", "stop"), "0>1 0>3 1>1 1>2 2>5 3>3 3>4 4>5", "0 1 2 3 4", "0 1 2 3 4", "-1 0 1 0 3", "1; 3"},
		{"a loop that is not reachable", of("stop", "load", "branch 1", "jump 3"), "0>4 1>2 2>1 2>3 3>3", "0", "0 1 3", "-1 -1 -1 -1", ""},
		{"an edge to 0 that is not reachable", of("load", "stop", "jump 0"), "0>1 1>3 2>0", "0 1", "0 2", "-1 0 -1", ""},
		{"a way into a loop that is not reachable", of("jump 3", "load", "jump 4", "load", "branch 3", "stop"), "0>3 1>2 2>4 3>4 4>3 4>5 5>6", "0 3 4 5", "0 1 3 4 5", "-1 -1 -1 0 3 4", "3 4"},
		{"an edge to a header that is not reachable", of("jump 2", "jump 2", "branch 2", "jump 2"), "0>2 1>2 2>2 2>3 3>2", "0 2 3", "0 1 2 3", "-1 -1 0 2", "2 3"},
		{"a cycle with two entries", of("branch 2", "load", "load", "jump 1"), "0>1 0>2 1>2 2>3 3>1", "0 1 2 3", "0 1 2", "-1 0 0 2", ""},
		{"a cycle with two entries in a loop", of("load", "branch 3", "load", "branch 2", "branch 1", "jump 0"), "0>1 1>2 1>3 2>3 3>2 3>4 4>1 4>5 5>0", "0 1 2 3 4 5", "0 1 2 3 4 5", "-1 0 1 1 3 4", "0 1 2 3 4 5; 1 2 3 4"},
	} {
		t.Run(c.form, func(t *testing.T) {
			want := []call{
				{"Graph", results(api.Relation{N: len(c.f.Code) + 1, Pairs: pairs(c.graph)}, api.OK)},
				{"Reach", "[" + c.reach + "] 0"},
				{"Leaders", "[" + c.leaders + "] 0"},
				{"Dominators", "[" + c.dominators + "] 0"},
				{"Loops", "[] 0"},
			}
			if c.loops != "" {
				want[4].results = "[[" + strings.ReplaceAll(c.loops, "; ", "] [") + "]] 0"
			}
			sameCalls(t, c.f, calls(c.f), want)
		})
	}
}

// pairs returns the pairs of a text like 0>1 1>2.
func pairs(text string) [][2]int {
	var all [][2]int
	for _, word := range strings.Fields(text) {
		from, to, _ := strings.Cut(word, ">")
		a, _ := strconv.Atoi(from)
		b, _ := strconv.Atoi(to)
		all = append(all, [2]int{a, b})
	}
	return all
}

// TestLengths checks the functions of up to MaxCode instructions, of which only Graph refuses the longest ones.
func TestLengths(t *testing.T) {
	for length := 1; length <= 64; length++ {
		var before []int
		for at := range length {
			before = append(before, at-1)
		}
		for _, last := range []string{"load", "stop", "jump 0", "branch 0"} {
			f := loads(length)
			f.Code[length-1] = of(last).Code[0]
			graph := api.Relation{N: length + 1}
			for at := range length - 1 {
				graph.Pairs = append(graph.Pairs, [2]int{at, at + 1})
			}
			if last == "jump 0" || last == "branch 0" {
				graph.Pairs = append(graph.Pairs, [2]int{length - 1, 0})
			}
			if last != "jump 0" {
				graph.Pairs = append(graph.Pairs, [2]int{length - 1, length})
			}
			want := []call{
				{"Graph", results(graph, api.OK)},
				{"Reach", results(upTo(length), api.OK)},
				{"Leaders", "[0] 0"},
				{"Dominators", results(before, api.OK)},
				{"Loops", "[] 0"},
			}
			if length == 64 {
				want[0].results = results(api.Relation{}, api.ErrLimit)
			}
			if last == "jump 0" || last == "branch 0" {
				want[4].results = results([][]int{upTo(length)}, api.OK)
			}
			sameCalls(t, f, calls(f), want)
		}
	}
	for _, length := range []int{65, 66, 128, 1000, 100000} {
		f := loads(length)
		sameCalls(t, f, calls(f, 0, length-1, length, -1), failed(api.ErrLimit, 0, length-1, length, -1))
	}
}

// A fault is an instruction with an error, by the length of the function.
type fault struct {
	i   func(length int) api.Inst
	err api.Errno
}

// faults are instructions with each error.
func faults() []fault {
	var all []fault
	add := func(i api.Inst, err api.Errno) {
		all = append(all, fault{func(int) api.Inst { return i }, err})
	}
	for _, op := range []api.Op{0, -1, 23, 24, -4, 256 + 4, math.MaxInt, math.MinInt} {
		add(api.Inst{Op: op}, api.ErrOp)
	}
	add(api.Inst{Op: api.OpJump, A: 1}, api.ErrField)
	add(api.Inst{Op: api.OpJump, B: 1}, api.ErrField)
	add(api.Inst{Op: api.OpStop, N: 1}, api.ErrField)
	add(api.Inst{Op: api.OpBranch, Obj: 1}, api.ErrField)
	add(api.Inst{Op: api.OpFence, Order: 2}, api.ErrField)
	add(api.Inst{Op: api.OpCopy, A: 8}, api.ErrRegister)
	add(api.Inst{Op: api.OpBranch, B: -1}, api.ErrRegister)
	add(api.Inst{Op: api.OpCas, C: 8}, api.ErrRegister)
	add(api.Inst{Op: api.OpLoad, Order: 3}, api.ErrOrder)
	add(api.Inst{Op: api.OpStore, Order: -1}, api.ErrOrder)
	add(api.Inst{Op: api.OpCalc}, api.ErrOp)
	add(api.Inst{Op: api.OpAwait, Fn: 11}, api.ErrOp)
	add(api.Inst{Op: api.OpConst, N: 1 << 31}, api.ErrRange)
	add(api.Inst{Op: api.OpConst, N: -1<<31 - 1}, api.ErrRange)
	for _, op := range []api.Op{api.OpJump, api.OpBranch} {
		for _, n := range []int{-1, -2, 65, 1 << 32, math.MaxInt, math.MinInt} {
			add(api.Inst{Op: op, N: n}, api.ErrTarget)
		}
		all = append(all, fault{func(length int) api.Inst { return api.Inst{Op: op, N: length + 1} }, api.ErrTarget})
		all = append(all, fault{func(length int) api.Inst { return api.Inst{Op: op, N: -length - 1} }, api.ErrTarget})
	}
	// Two faults of one instruction, of which that of inst.Check comes first.
	add(api.Inst{Op: api.OpJump, C: 1, N: -1}, api.ErrField)
	add(api.Inst{Op: api.OpBranch, B: 8, N: 65}, api.ErrRegister)
	add(api.Inst{Op: 25, N: -1}, api.ErrOp)
	return all
}

// TestErrors checks the errors of functions with one fault, and with two.
func TestErrors(t *testing.T) {
	all := faults()
	for k, x := range all {
		for _, length := range []int{1, 2, 3, 5, 63, 64} {
			at := append([]int{0, length - 1, length / 2}, outside(length)...)
			for _, place := range at[:3] {
				f := loads(length)
				f.Code[place] = x.i(length)
				sameCalls(t, f, calls(f, at...), failed(x.err, at...))
			}
		}
		for _, y := range all[k:] {
			for _, length := range []int{2, 64} {
				f, g := loads(length), loads(length)
				f.Code[0], f.Code[length-1] = x.i(length), y.i(length)
				sameCalls(t, f, calls(f, 0, length), failed(x.err, 0, length))
				g.Code[0], g.Code[length-1] = y.i(length), x.i(length)
				sameCalls(t, g, calls(g, 0, length), failed(y.err, 0, length))
			}
		}
		for _, place := range []int{0, 64, 65} {
			f := loads(66)
			f.Code[place] = x.i(66)
			sameCalls(t, f, calls(f, 0, 65, 66), failed(api.ErrLimit, 0, 65, 66))
		}
	}
	if len(all) < 35 {
		t.Errorf("there are only %d faults", len(all))
	}
}

// TestNotExamined checks that names, objects and the uses of N that are no targets are no errors.
func TestNotExamined(t *testing.T) {
	f := api.Func{Name: "no name!", Code: []api.Inst{
		{Op: api.OpLoad, Obj: 100}, {Op: api.OpLock, Obj: -1}, {Op: api.OpWait, Obj: 9, N: 99}, {Op: api.OpWait, N: -99},
		{Op: api.OpSpawn, Obj: math.MaxInt}, {Op: api.OpConst, N: -1 << 31}, {Op: api.OpConst, N: 1<<31 - 1},
	}}
	want := []call{
		{"Next of 2", "[3] 0"},
		{"Graph", "{8 [[0 1] [1 2] [2 3] [3 4] [4 5] [5 6] [6 7]]} 0"},
		{"Reach", "[0 1 2 3 4 5 6] 0"},
		{"Leaders", "[0] 0"},
		{"Dominators", "[-1 0 1 2 3 4 5] 0"},
		{"Loops", "[] 0"},
	}
	sameCalls(t, f, calls(f, 2), want)
}

// successors returns the successors of an instruction by the definition, in increasing order.
func successors(f api.Func, at int) []int {
	i, exit := f.Code[at], len(f.Code)
	var all []int
	for k := range exit + 1 {
		jumps := (i.Op == api.OpJump || i.Op == api.OpBranch) && k == i.N
		stops := i.Op == api.OpStop && k == exit
		goesOn := i.Op != api.OpJump && i.Op != api.OpStop && k == at+1
		if jumps || stops || goesOn {
			all = append(all, k)
		}
	}
	return all
}

// A joins reports whether there is a path from an instruction to another one that does not contain a third one (-1 for any path).
type joins func(from, to, without int) bool

// byPaths searches all paths that contain no instruction twice. A path that contains one twice has such a path in it, so no others are needed.
func byPaths(f api.Func) joins {
	exit := len(f.Code)
	paths := map[[2]int][][]int{}
	var search func(path []int)
	search = func(path []int) {
		end := path[len(path)-1]
		paths[[2]int{path[0], end}] = append(paths[[2]int{path[0], end}], slices.Clone(path))
		for _, k := range successors(f, end) {
			if k != exit && !slices.Contains(path, k) {
				search(append(path, k))
			}
		}
	}
	for k := range exit {
		search([]int{k})
	}
	return func(from, to, without int) bool {
		return slices.ContainsFunc(paths[[2]int{from, to}], func(path []int) bool { return !slices.Contains(path, without) })
	}
}

// byTables joins the instructions step by step, for functions with too many paths. Each instruction has the set of those to which paths lead, as bits.
func byTables(f api.Func) joins {
	exit := len(f.Code)
	tables := map[int][]uint64{}
	for without := -1; without < exit; without++ {
		table := make([]uint64, exit)
		for at := range exit {
			for _, k := range append(successors(f, at), at) {
				if k != exit && k != without && at != without {
					table[at] |= 1 << k
				}
			}
		}
		for middle := range exit {
			for at := range exit {
				if table[at]>>middle&1 == 1 {
					table[at] |= table[middle]
				}
			}
		}
		tables[without] = table
	}
	return func(from, to, without int) bool { return tables[without][from]>>to&1 == 1 }
}

// definition returns the calls for a function by the definitions of the chapter, where paths joins its instructions.
func definition(f api.Func, paths joins) []call {
	exit := len(f.Code)
	var all []call
	graph := api.Relation{N: exit + 1}
	var reach, leaders, immediate []int
	dominates := func(d, k int) bool { return paths(0, d, -1) && paths(0, k, -1) && !paths(0, k, d) }
	var loops [][]int
	for at := range exit {
		all = append(all, call{results("Next of ", at), results(successors(f, at), api.OK)})
		for _, k := range successors(f, at) {
			graph.Pairs = append(graph.Pairs, [2]int{at, k})
		}
		if paths(0, at, -1) {
			reach = append(reach, at)
		}
		if leads(f, at) {
			leaders = append(leaders, at)
		}
		immediate = append(immediate, -1)
		for d := range exit {
			if d != at && dominates(d, at) && !slices.ContainsFunc(upTo(exit), func(e int) bool { return e != at && dominates(e, at) && !dominates(e, d) }) {
				immediate[at] = d
			}
		}
		if loop := loopOf(f, at, dominates, paths); len(loop) > 0 {
			loops = append(loops, loop)
		}
	}
	all = append(all, call{"Graph", results(graph, api.OK)})
	if exit == 64 {
		all[exit].results = results(api.Relation{}, api.ErrLimit)
	}
	return append(all, call{"Reach", results(reach, api.OK)}, call{"Leaders", results(leaders, api.OK)},
		call{"Dominators", results(immediate, api.OK)}, call{"Loops", results(loops, api.OK)})
}

// leads reports by the definition whether an instruction is a leader.
func leads(f api.Func, at int) bool {
	ends := []api.Op{api.OpJump, api.OpBranch, api.OpStop}
	return at == 0 || slices.Contains(ends, f.Code[at-1].Op) ||
		slices.ContainsFunc(f.Code, func(i api.Inst) bool { return slices.Contains(ends[:2], i.Op) && i.N == at })
}

// loopOf returns the loop of a header by the definition, or nothing if it is none.
func loopOf(f api.Func, header int, dominates func(d, k int) bool, paths joins) []int {
	var begins, others []int
	for at := range f.Code {
		if slices.Contains(successors(f, at), header) && dominates(header, at) {
			begins = append(begins, at)
		}
	}
	for at := range f.Code {
		leads := func(begin int) bool { return paths(at, begin, header) }
		if at != header && paths(0, at, -1) && slices.ContainsFunc(begins, leads) {
			others = append(others, at)
		}
	}
	if len(begins) == 0 {
		return nil
	}
	return append([]int{header}, others...)
}

// choices returns the instructions of which functions of the given length are built: one of each form and each target.
func choices(length int) []api.Inst {
	all := of("load", "stop").Code
	for n := range length + 1 {
		all = append(all, of(fmt.Sprint("jump ", n), fmt.Sprint("branch ", n)).Code...)
	}
	return all
}

// TestEveryFunction compares all calls with a search of paths, for all functions of up to four instructions.
func TestEveryFunction(t *testing.T) {
	forms := map[string]bool{}
	for length := range 5 {
		f := api.Func{Name: "f", Code: make([]api.Inst, length)}
		var build func(at int)
		build = func(at int) {
			if at < length {
				for _, i := range choices(length) {
					f.Code[at] = i
					build(at + 1)
				}
				return
			}
			got := calls(f, upTo(length)...)
			sameCalls(t, f, got, definition(f, byPaths(f)))
			forms[results(got)] = true
		}
		build(0)
	}
	if len(forms) < 8000 {
		t.Errorf("only %d functions have different results", len(forms))
	}
}

// mixed returns a random function of the given length. The larger near is, the more of its jumps and branches lead to near instructions.
func mixed(random *rand.Rand, length, near int) api.Func {
	f := api.Func{Name: "f"}
	for at := range length {
		target := random.Intn(length + 1)
		if random.Intn(4) < near {
			target = min(max(at-3+random.Intn(8), 0), length)
		}
		all := every(target)
		i := all[random.Intn(len(all))]
		switch choice := random.Intn(10); {
		case choice < 5:
			i = all[api.OpBranch-1]
		case choice < 6:
			i = all[api.OpJump-1]
		}
		f.Code = append(f.Code, i)
	}
	return f
}

// TestRandomFunctions compares all calls with a search of paths for random functions, and with tables for those that have too many paths.
func TestRandomFunctions(t *testing.T) {
	random := rand.New(rand.NewSource(12))
	longest, most := 0, 0
	for k := range 3000 {
		f := mixed(random, random.Intn(10), k%5)
		want := definition(f, byPaths(f))
		sameCalls(t, f, calls(f, upTo(len(f.Code))...), want)
		sameCalls(t, f, definition(f, byTables(f)), want)
	}
	for k := range 600 {
		length := 10 + random.Intn(55)
		f := mixed(random, length, k%5)
		sameCalls(t, f, calls(f, upTo(length)...), definition(f, byTables(f)))
		loops, _ := Loops(f)
		most = max(most, len(loops))
		reach, _ := Reach(f)
		longest = max(longest, len(reach))
	}
	if longest < 60 || most < 10 {
		t.Errorf("at most %d instructions are reachable and at most %d are headers", longest, most)
	}
}

// samples returns random functions of each length up to 63.
func samples() []api.Func {
	random := rand.New(rand.NewSource(3))
	var all []api.Func
	for length := range 64 {
		for k := range 10 {
			all = append(all, mixed(random, length, k%5))
		}
	}
	return all
}

// remaining returns the instructions, in increasing order, that can be reached in a graph with the exit if an instruction is removed from it (-1 for none).
func remaining(graph api.Relation, removed int) []int {
	reached := make([]bool, graph.N)
	reached[0] = removed != 0
	for changed := true; changed; {
		changed = false
		for _, pair := range graph.Pairs {
			if reached[pair[0]] && pair[1] != removed && !reached[pair[1]] {
				reached[pair[1]], changed = true, true
			}
		}
	}
	return slices.DeleteFunc(upTo(graph.N-1), func(at int) bool { return !reached[at] })
}

// chains returns, for each reachable instruction of a function, those from it to instruction 0 by following immediate dominators.
func chains(t *testing.T, f api.Func) map[int][]int {
	t.Helper()
	reach, err := Reach(f)
	if err != api.OK {
		t.Fatalf("Reach(%v): %v", f.Code, err)
	}
	immediate, err := Dominators(f)
	if err != api.OK || len(immediate) != len(f.Code) {
		t.Fatalf("Dominators(%v): %v, %v", f.Code, immediate, err)
	}
	all := map[int][]int{}
	for _, start := range reach {
		all[start] = []int{start}
		for at := start; at != 0; {
			at = immediate[at]
			if at < 0 || slices.Contains(all[start], at) {
				t.Fatalf("Dominators(%v): %v, which does not lead from %d to 0", f.Code, immediate, start)
			}
			all[start] = append(all[start], at)
		}
	}
	for at, d := range immediate {
		if _, reachable := all[at]; (d == -1) != (at == 0 || !reachable) {
			t.Fatalf("Dominators(%v): %v, where %v are reachable", f.Code, immediate, reach)
		}
	}
	return all
}

// TestDominators checks P12.7.
func TestDominators(t *testing.T) {
	for _, f := range samples() {
		graph, err := Graph(f)
		if err != api.OK {
			t.Fatalf("Graph(%v): %v", f.Code, err)
		}
		dominators := chains(t, f)
		if all := remaining(graph, -1); len(all) != len(dominators) {
			t.Fatalf("the graph of %v leads to %v, but %d instructions are reachable", f.Code, all, len(dominators))
		}
		for removed := range f.Code {
			rest := remaining(graph, removed)
			for at, chain := range dominators {
				if at != 0 && slices.Contains(rest, at) == slices.Contains(chain, removed) {
					t.Fatalf("Dominators(%v): those of %d are %v, but without %d there remain %v", f.Code, at, chain, removed, rest)
				}
			}
		}
	}
}

// TestLoops checks P12.8, and the order of the headers and of the instructions of a loop.
func TestLoops(t *testing.T) {
	nested, disjoint := 0, 0
	for _, f := range samples() {
		loops, err := Loops(f)
		if err != api.OK {
			t.Fatalf("Loops(%v): %v", f.Code, err)
		}
		dominators := chains(t, f)
		for k, loop := range loops {
			if k > 0 && loops[k-1][0] >= loop[0] || !increases(loop[1:]) || slices.Contains(loop[1:], loop[0]) {
				t.Fatalf("Loops(%v): %v", f.Code, loops)
			}
			for _, at := range loop {
				if !slices.Contains(dominators[at], loop[0]) {
					t.Fatalf("Loops(%v): %v, but %d does not dominate %d", f.Code, loops, loop[0], at)
				}
			}
			for _, other := range loops[:k] {
				common := slices.DeleteFunc(slices.Clone(loop), func(at int) bool { return !slices.Contains(other, at) })
				switch len(common) {
				case 0:
					disjoint++
				case len(loop), len(other):
					nested++
				default:
					t.Fatalf("Loops(%v): %v and %v have only %v in common", f.Code, loop, other, common)
				}
			}
		}
	}
	if nested < 100 || disjoint < 100 {
		t.Errorf("only %d pairs of loops are nested and %d disjoint", nested, disjoint)
	}
}

// increases reports whether a list increases strictly.
func increases(list []int) bool {
	return slices.IsSorted(list) && len(slices.Compact(slices.Clone(list))) == len(list)
}

// spacious returns a function with instructions in the memory behind its code.
func spacious(f api.Func) api.Func {
	code := append(slices.Clone(f.Code), every(77)...)
	f.Code = code[:len(f.Code)]
	return f
}

// whole returns a function and what is in the memory behind its code as a text.
func whole(f api.Func) string {
	return results(f, f.Code[:cap(f.Code)])
}

// fill overwrites a slice and the memory behind it.
func fill[T any](list []T, element T) {
	for k := range list[:cap(list)] {
		list[:cap(list)][k] = element
	}
}

// TestMemory checks that functions stay as they are, that results are new memory, and that nothing is kept.
func TestMemory(t *testing.T) {
	all := append(samples()[:300], of(), of("jump 5"), loads(64), loads(65), of("branch 6", "branch 5", "load", "jump 1", "jump 0", "stop"))
	for _, f := range all {
		f := spacious(f)
		before := whole(f)
		at := append(upTo(len(f.Code)), -1, len(f.Code))
		want := calls(f, at...)
		for _, k := range at {
			next, _ := Next(f, k)
			fill(next, 55)
		}
		graph, _ := Graph(f)
		fill(graph.Pairs, [2]int{55, 55})
		reach, _ := Reach(f)
		fill(reach, 55)
		leaders, _ := Leaders(f)
		fill(leaders, 55)
		dominators, _ := Dominators(f)
		fill(dominators, 55)
		loops, _ := Loops(f)
		for k := range loops {
			// The other loops must stay as they are.
			rest := results(loops[k+1:])
			fill(loops[k], 55)
			same(t, "the loops after one that was overwritten", results(loops[k+1:]), rest)
		}
		same(t, "the function after all calls", whole(f), before)
		sameCalls(t, f, calls(f, at...), want)
	}
}

// TestNothingKept checks that results do not change with the function that was passed.
func TestNothingKept(t *testing.T) {
	f := of("load", "branch 6", "branch 5", "load", "jump 2", "jump 1", "stop")
	next, _ := Next(f, 1)
	graph, _ := Graph(f)
	reach, _ := Reach(f)
	leaders, _ := Leaders(f)
	dominators, _ := Dominators(f)
	loops, _ := Loops(f)
	before := results(next, graph, reach, leaders, dominators, loops)
	fill(f.Code, api.Inst{Op: api.OpJump, N: 3})
	same(t, "the results after their function was overwritten", results(next, graph, reach, leaders, dominators, loops), before)
	same(t, "Reach of the function that was overwritten", results(Reach(f)), "[0 3] 0")
}

// firstError returns the error of a function by the definition.
func firstError(f api.Func) api.Errno {
	var all []api.Errno
	if len(f.Code) > 64 {
		all = append(all, api.ErrLimit)
	}
	for _, i := range f.Code {
		if err := inst.Check(i); err != api.OK {
			all = append(all, err)
		}
		if jumps := i.Op == api.OpJump || i.Op == api.OpBranch; jumps && (i.N < 0 || i.N > len(f.Code)) {
			all = append(all, api.ErrTarget)
		}
	}
	return append(all, api.OK)[0]
}

// FuzzCfg compares all calls with their definitions for the functions whose instructions are pairs of bytes: an operation and a number.
func FuzzCfg(f *testing.F) {
	f.Add([]byte{1, 1, 5, 3, 4, 1, 7, 0})
	f.Add([]byte{5, 2, 1, 0, 8, 0, 4, 1})
	f.Add([]byte{5, 5, 5, 255, 4, 0})
	f.Add(slices.Repeat([]byte{5, 30}, 64))
	f.Add(slices.Repeat([]byte{4, 0}, 65))
	f.Fuzz(func(t *testing.T, data []byte) {
		function := api.Func{Name: "f"}
		for pair := range slices.Chunk(data, 2) {
			i := api.Inst{Op: api.Op(pair[0])}
			if op := i.Op; op >= 1 && op <= 22 {
				i = every(int(int8(pair[len(pair)-1])))[op-1]
			}
			function.Code = append(function.Code, i)
		}
		at := append(upTo(len(function.Code)), -1, len(function.Code))
		if err := firstError(function); err != api.OK {
			sameCalls(t, function, calls(function, at...), failed(err, at...))
			return
		}
		at = at[:len(function.Code)]
		sameCalls(t, function, calls(function, at...), definition(function, byTables(function)))
	})
}
