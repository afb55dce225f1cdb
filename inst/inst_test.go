package inst

import (
	"fmt"
	"math"
	"slices"
	"strings"
	"testing"

	"modelcheck/api"
)

// table is the column "mnemonic and operands" of the table of instructions of DOC.md.
const table = `const A N
copy A B
calc Fn A B C
jump N
branch B N
assert B
stop
load A Obj Order
store Obj B Order
swap A Obj B Order
fetchadd A Obj B Order
cas A Obj B C Order
fence
await A Obj Fn B Order
lock Obj
unlock Obj
trylock A Obj
wait Obj N
signal Obj
broadcast Obj
spawn A Obj B
join B`

// operands are the words of the lines of the table: line k describes the operation k + 1.
var operands = func() [][]string {
	var all [][]string
	for line := range strings.Lines(table) {
		all = append(all, strings.Fields(line))
	}
	return all
}()

// unknownOps are no operations.
var unknownOps = []api.Op{0, -1, 23, -2, -22, 24, 255, 256 + 1, 1<<32 + 1, math.MaxInt, math.MinInt, math.MinInt + 1}

// unknownOrders are no memory orders.
var unknownOrders = []api.Order{-1, 3, 4, -2, 256, 1 << 32, 1<<32 + 2, math.MaxInt, math.MinInt}

// mappings are valid arguments of Rename: permutations and others.
var mappings = [][]int{
	{0, 1, 2, 3, 4, 5, 6, 7},
	{3, 2, 1, 0, 4, 5, 6, 7},
	{7, 6, 5, 4, 3, 2, 1, 0},
	{1, 2, 3, 4, 5, 6, 7, 0},
	{4, 6, 1, 7, 0, 2, 5, 3},
	{0, 0, 0, 0, 0, 0, 0, 0},
	{7, 7, 7, 7, 7, 7, 7, 7},
	{5, 5, 2, 2, 0, 1, 1, 6},
}

// allOps are the operations from 1 to 22.
func allOps() []api.Op {
	var all []api.Op
	for op := api.Op(1); op <= 22; op++ {
		all = append(all, op)
	}
	return all
}

// has reports whether an operation uses a field, by the table.
func has(op api.Op, field string) bool {
	return slices.Contains(operands[op-1][1:], field)
}

// known reports whether op is one of the operations 1 to 22.
func known(op api.Op) bool {
	return slices.Contains(allOps(), op)
}

// set returns the instruction with one field changed.
func set(i api.Inst, field string, n int) api.Inst {
	switch field {
	case "A":
		i.A = n
	case "B":
		i.B = n
	case "C":
		i.C = n
	case "Obj":
		i.Obj = n
	case "N":
		i.N = n
	case "Fn":
		i.Fn = api.Fn(n)
	case "Order":
		i.Order = api.Order(n)
	}
	return i
}

// get returns a field of an instruction.
func get(i api.Inst, field string) int {
	switch field {
	case "A":
		return i.A
	case "B":
		return i.B
	case "C":
		return i.C
	case "Obj":
		return i.Obj
	case "N":
		return i.N
	case "Fn":
		return int(i.Fn)
	}
	return int(i.Order)
}

// fieldNames are the fields of an instruction other than its operation.
var fieldNames = []string{"A", "B", "C", "Obj", "N", "Fn", "Order"}

// valid returns an instruction whose used fields are not zero, and whose registers are different.
func valid(op api.Op) api.Inst {
	i := api.Inst{Op: op}
	for k, field := range []string{"Order", "Fn", "A", "B", "C", "Obj", "N"} {
		if has(op, field) {
			i = set(i, field, k+1)
		}
	}
	return i
}

// reference is Check by its definition.
func reference(i api.Inst) api.Errno {
	if !known(i.Op) {
		return api.ErrOp
	}
	for _, field := range fieldNames {
		if !has(i.Op, field) && get(i, field) != 0 {
			return api.ErrField
		}
	}
	outside := func(field string, first, last int) bool {
		return has(i.Op, field) && (get(i, field) < first || get(i, field) > last)
	}
	switch {
	case outside("A", 0, 7), outside("B", 0, 7), outside("C", 0, 7):
		return api.ErrRegister
	case outside("Order", 0, 2):
		return api.ErrOrder
	case outside("Fn", 1, 10):
		return api.ErrOp
	case i.Op == 1 && (i.N < -2147483648 || i.N > 2147483647):
		return api.ErrRange
	}
	return api.OK
}

// referenceUses is Uses by its definition.
func referenceUses(i api.Inst) []int {
	var read []int
	for r := range 8 {
		if reference(i) == api.OK && (has(i.Op, "B") && i.B == r || has(i.Op, "C") && i.C == r) {
			read = append(read, r)
		}
	}
	return read
}

// referenceDefines is Defines by its definition.
func referenceDefines(i api.Inst) (int, bool) {
	if reference(i) == api.OK && has(i.Op, "A") {
		return i.A, true
	}
	return 0, false
}

// results returns the results of a call as one text.
func results(all ...any) string {
	return fmt.Sprint(all...)
}

// same fails if the results of a call are not the ones that are wanted.
func same(t *testing.T, call, got, want any) {
	t.Helper()
	if fmt.Sprint(got) != fmt.Sprint(want) {
		t.Fatalf("%v: %v, want %v", call, got, want)
	}
}

// describe is the text of a call with an instruction.
func describe(name string, i api.Inst, rest ...any) string {
	return fmt.Sprintf("%s(%+v) %v", name, i, rest)
}

// samples are instructions with all combinations of contents at the limits: valid ones, and ones with several errors.
func samples(yield func(api.Inst) bool) {
	for _, op := range append(allOps(), unknownOps...) {
		for _, registers := range registerSamples {
			for _, obj := range []int{0, 1, -1, math.MaxInt} {
				for _, n := range []int{0, 1, -1, api.MinValue, api.MaxValue, api.MinValue - 1, api.MaxValue + 1, 1 << 32, math.MinInt} {
					for _, fn := range []api.Fn{0, 1, 10, 11, -1, 1<<32 + 1} {
						for _, order := range []api.Order{0, 2, -1, 3} {
							i := api.Inst{Op: op, A: registers[0], B: registers[1], C: registers[2], Obj: obj, N: n, Fn: fn, Order: order}
							if !yield(i) {
								return
							}
						}
					}
				}
			}
		}
	}
}

// registerSamples are contents of A, B and C.
var registerSamples = [][3]int{
	{0, 0, 0}, {1, 0, 0}, {0, 1, 0}, {0, 0, 1}, {7, 7, 0}, {7, 0, 7}, {0, 7, 7}, {7, 7, 7}, {3, 5, 4}, {3, 4, 5}, {2, 1, 6},
	{-1, 0, 0}, {0, -1, 0}, {0, 0, -1}, {8, 0, 0}, {0, 8, 0}, {0, 0, 8}, {8, 1, 2}, {1, 8, 2}, {1, 2, 8}, {8, 8, 8}, {math.MaxInt, math.MinInt, 1 << 32},
}

// TestExamples checks the examples of the chapter.
func TestExamples(t *testing.T) {
	same(t, "calc add 1 2 8", Check(api.Inst{Op: api.OpCalc, Fn: api.FnAdd, A: 1, B: 2, C: 8}), api.ErrRegister)
	same(t, "jump 3 with A 1", Check(api.Inst{Op: api.OpJump, N: 3, A: 1}), api.ErrField)
	same(t, "const 0 2147483648", Check(api.Inst{Op: api.OpConst, N: 2147483648}), api.ErrRange)
	cas := api.Inst{Op: api.OpCas, A: 1, Obj: 0, B: 5, C: 4, Order: api.RelAcq}
	same(t, "Uses(cas 1 0 5 4 relacq)", Uses(cas), []int{4, 5})
	r, ok := Defines(cas)
	same(t, "Defines(cas 1 0 5 4 relacq)", results(r, ok), results(1, true))
	i, err := Rename(api.Inst{Op: api.OpCopy, A: 0, B: 1}, []int{3, 2, 1, 0, 4, 5, 6, 7})
	same(t, "Rename(copy 0 1)", results(i, err), results(api.Inst{Op: api.OpCopy, A: 3, B: 2}, api.OK))
}

// TestCheckValid checks P7.1: an instruction of every operation, with used fields that are zero and that are not.
func TestCheckValid(t *testing.T) {
	same(t, "operations of the table", len(operands), 22)
	for _, op := range allOps() {
		zero := api.Inst{Op: op}
		if has(op, "Fn") {
			zero.Fn = api.FnAdd
		}
		same(t, describe("Check", zero), Check(zero), api.OK)
		same(t, describe("Check", valid(op)), Check(valid(op)), api.OK)
	}
}

// TestCheckFields checks P7.1: every field of every operation, one at a time.
func TestCheckFields(t *testing.T) {
	unusual := map[string]api.Errno{"A": api.ErrRegister, "B": api.ErrRegister, "C": api.ErrRegister, "Obj": api.OK, "N": api.OK, "Fn": api.ErrOp, "Order": api.ErrOrder}
	allowed := map[string]int{"A": 7, "B": 7, "C": 7, "Obj": 7, "N": 7, "Fn": 10, "Order": 2}
	for _, op := range allOps() {
		for _, field := range fieldNames {
			for _, n := range []int{1, 2, 3, 7, 8, 10, 11, -1, 100, 1 << 32, 1<<32 + 1, math.MaxInt, math.MinInt} {
				i := set(valid(op), field, n)
				want := api.ErrField
				if has(op, field) {
					want = unusual[field]
					if n >= 0 && n <= allowed[field] {
						want = api.OK
					}
					if op == api.OpConst && field == "N" && (n >= 1<<31 || n < -1<<31) {
						want = api.ErrRange
					}
				}
				same(t, describe("Check", i), Check(i), want)
			}
		}
	}
}

// TestCheckOperations checks P7.1: numbers that are no operations, whatever the fields are.
func TestCheckOperations(t *testing.T) {
	for _, op := range unknownOps {
		for _, i := range []api.Inst{{}, {A: 1}, {B: 8}, {C: -1}, {Obj: 1, N: 1 << 40}, {Fn: 11}, {Order: 3}, {A: 9, Order: 9, Fn: 99}} {
			i.Op = op
			same(t, describe("Check", i), Check(i), api.ErrOp)
		}
	}
}

// TestCheckLimits checks P7.1: the limits of the contents of the used fields.
func TestCheckLimits(t *testing.T) {
	for _, x := range []struct {
		i    api.Inst
		want api.Errno
	}{
		{api.Inst{Op: api.OpConst, N: -2147483648}, api.OK},
		{api.Inst{Op: api.OpConst, N: 2147483647}, api.OK},
		{api.Inst{Op: api.OpConst, N: -2147483649}, api.ErrRange},
		{api.Inst{Op: api.OpConst, N: 2147483648}, api.ErrRange},
		{api.Inst{Op: api.OpConst, N: 1 << 32}, api.ErrRange},
		{api.Inst{Op: api.OpConst, N: 1<<32 + 5}, api.ErrRange},
		{api.Inst{Op: api.OpConst, N: math.MaxInt}, api.ErrRange},
		{api.Inst{Op: api.OpConst, N: math.MinInt}, api.ErrRange},
		// The other uses of N and Obj are not examined.
		{api.Inst{Op: api.OpJump, N: 1 << 31}, api.OK},
		{api.Inst{Op: api.OpJump, N: -1}, api.OK},
		{api.Inst{Op: api.OpBranch, N: math.MinInt}, api.OK},
		{api.Inst{Op: api.OpWait, Obj: -5, N: math.MaxInt}, api.OK},
		{api.Inst{Op: api.OpLoad, Obj: math.MaxInt}, api.OK},
		{api.Inst{Op: api.OpSpawn, Obj: 1 << 40}, api.OK},
		{api.Inst{Op: api.OpConst, A: 7}, api.OK},
		{api.Inst{Op: api.OpConst, A: 8}, api.ErrRegister},
		{api.Inst{Op: api.OpConst, A: -1}, api.ErrRegister},
		{api.Inst{Op: api.OpJoin, B: 7}, api.OK},
		{api.Inst{Op: api.OpJoin, B: 8}, api.ErrRegister},
		{api.Inst{Op: api.OpJoin, B: -1}, api.ErrRegister},
		{api.Inst{Op: api.OpCas, C: 7}, api.OK},
		{api.Inst{Op: api.OpCas, C: 8}, api.ErrRegister},
		{api.Inst{Op: api.OpCas, C: -1}, api.ErrRegister},
		{api.Inst{Op: api.OpLoad, Order: 2}, api.OK},
		{api.Inst{Op: api.OpLoad, Order: 3}, api.ErrOrder},
		{api.Inst{Op: api.OpLoad, Order: -1}, api.ErrOrder},
		{api.Inst{Op: api.OpCalc, Fn: 1}, api.OK},
		{api.Inst{Op: api.OpCalc, Fn: 10}, api.OK},
		{api.Inst{Op: api.OpCalc, Fn: 0}, api.ErrOp},
		{api.Inst{Op: api.OpCalc, Fn: 11}, api.ErrOp},
		{api.Inst{Op: api.OpCalc, Fn: -1}, api.ErrOp},
		{api.Inst{Op: api.OpAwait, Fn: 0}, api.ErrOp},
		{api.Inst{Op: api.OpAwait, Fn: 11}, api.ErrOp},
		{api.Inst{Op: api.OpCalc, A: 3, B: 3, C: 3, Fn: 5}, api.OK},
	} {
		same(t, describe("Check", x.i), Check(x.i), x.want)
	}
}

// TestCheckOrder checks P7.1: of several errors the first one is returned.
func TestCheckOrder(t *testing.T) {
	for _, x := range []struct {
		i    api.Inst
		want api.Errno
	}{
		{api.Inst{Op: 23, A: 8, Order: 3, Fn: 11}, api.ErrOp},
		{api.Inst{Op: api.OpStop, A: 8, Order: 3, Fn: 11}, api.ErrField},
		{api.Inst{Op: api.OpLoad, A: 8, Order: 3, N: 1}, api.ErrField},
		{api.Inst{Op: api.OpLoad, A: 8, B: 8}, api.ErrField},
		{api.Inst{Op: api.OpCalc, Fn: 11, Order: -1}, api.ErrField},
		{api.Inst{Op: api.OpConst, N: 1 << 31, Obj: -1}, api.ErrField},
		{api.Inst{Op: api.OpLoad, A: 8, Order: 3}, api.ErrRegister},
		{api.Inst{Op: api.OpAwait, B: -1, Order: 3, Fn: 11}, api.ErrRegister},
		{api.Inst{Op: api.OpCalc, C: 8, Fn: 0}, api.ErrRegister},
		{api.Inst{Op: api.OpConst, A: 8, N: 1 << 31}, api.ErrRegister},
		{api.Inst{Op: api.OpAwait, Order: 3, Fn: 11}, api.ErrOrder},
		{api.Inst{Op: api.OpAwait, Order: -1, Fn: 0}, api.ErrOrder},
		{api.Inst{Op: api.OpAwait, Order: 2, Fn: 0}, api.ErrOp},
	} {
		same(t, describe("Check", x.i), Check(x.i), x.want)
	}
}

// TestCheckReference compares Check, Uses and Defines with their definitions (P7.1, P7.3).
func TestCheckReference(t *testing.T) {
	count := map[api.Errno]int{}
	for i := range samples {
		got, want := Check(i), reference(i)
		if got != want {
			t.Fatalf("Check(%+v): %d, want %d", i, got, want)
		}
		count[got]++
		if got, want := Uses(i), referenceUses(i); !slices.Equal(got, want) {
			t.Fatalf("Uses(%+v): %v, want %v", i, got, want)
		}
		r, ok := Defines(i)
		if want, written := referenceDefines(i); r != want || ok != written {
			t.Fatalf("Defines(%+v): %v %v, want %v %v", i, r, ok, want, written)
		}
	}
	for _, err := range []api.Errno{api.OK, api.ErrOp, api.ErrField, api.ErrRegister, api.ErrOrder, api.ErrRange} {
		if count[err] == 0 {
			t.Fatalf("no sample has the result %d", err)
		}
	}
}

// TestVisible checks P7.2 for every operation, and for other numbers.
func TestVisible(t *testing.T) {
	visible := []api.Op{api.OpLoad, api.OpStore, api.OpSwap, api.OpFetchAdd, api.OpCas, api.OpFence, api.OpAwait, api.OpLock, api.OpUnlock,
		api.OpTryLock, api.OpWait, api.OpSignal, api.OpBroadcast, api.OpSpawn, api.OpJoin}
	for _, op := range append(allOps(), unknownOps...) {
		same(t, results("Visible", op), Visible(op), slices.Contains(visible, op))
	}
}

// TestDrains checks P7.2 for every operation, and for other numbers.
func TestDrains(t *testing.T) {
	drains := []api.Op{api.OpSwap, api.OpFetchAdd, api.OpCas, api.OpFence, api.OpLock, api.OpUnlock,
		api.OpTryLock, api.OpWait, api.OpSignal, api.OpBroadcast, api.OpSpawn, api.OpJoin}
	for _, op := range append(allOps(), unknownOps...) {
		same(t, results("Drains", op), Drains(op), slices.Contains(drains, op))
	}
}

// TestUses checks P7.3: one register, two in both orders, the same register twice, none.
func TestUses(t *testing.T) {
	for _, x := range []struct {
		i    api.Inst
		want []int
	}{
		{api.Inst{Op: api.OpCalc, Fn: api.FnAdd, A: 1, B: 2, C: 3}, []int{2, 3}},
		{api.Inst{Op: api.OpCalc, Fn: api.FnAdd, A: 1, B: 3, C: 2}, []int{2, 3}},
		{api.Inst{Op: api.OpCalc, Fn: api.FnAdd, A: 1, B: 7, C: 0}, []int{0, 7}},
		{api.Inst{Op: api.OpCalc, Fn: api.FnAdd, A: 1, B: 4, C: 4}, []int{4}},
		{api.Inst{Op: api.OpCalc, Fn: api.FnAdd}, []int{0}},
		{api.Inst{Op: api.OpCas, B: 6, C: 6}, []int{6}},
		{api.Inst{Op: api.OpCopy, A: 1, B: 0}, []int{0}},
		{api.Inst{Op: api.OpCopy, A: 5, B: 5}, []int{5}},
		{api.Inst{Op: api.OpAwait, A: 1, Fn: api.FnEq, B: 3}, []int{3}},
		{api.Inst{Op: api.OpStore, B: 2}, []int{2}},
		{api.Inst{Op: api.OpBranch, B: 2, N: 5}, []int{2}},
		{api.Inst{Op: api.OpConst, A: 3, N: 4}, nil},
		{api.Inst{Op: api.OpLoad, A: 3}, nil},
		{api.Inst{Op: api.OpTryLock, A: 3}, nil},
		{api.Inst{Op: api.OpStop}, nil},
		{api.Inst{Op: api.OpWait, Obj: 2, N: 3}, nil},
		// The instruction has an error.
		{api.Inst{}, nil},
		{api.Inst{Op: 23, B: 1, C: 2}, nil},
		{api.Inst{Op: api.OpCopy, A: 8, B: 1}, nil},
		{api.Inst{Op: api.OpCopy, A: 1, B: 2, C: 3}, nil},
		{api.Inst{Op: api.OpCalc, B: 1, C: 2}, nil},
		{api.Inst{Op: api.OpStore, B: 1, Order: 3}, nil},
	} {
		same(t, describe("Uses", x.i), Uses(x.i), x.want)
	}
}

// TestDefines checks P7.3: instructions that write a register, that write none, and that have an error.
func TestDefines(t *testing.T) {
	writers := []api.Op{api.OpConst, api.OpCopy, api.OpCalc, api.OpLoad, api.OpSwap, api.OpFetchAdd, api.OpCas, api.OpAwait, api.OpTryLock, api.OpSpawn}
	for _, op := range allOps() {
		i, want := valid(op), 0
		writes := slices.Contains(writers, op)
		if writes {
			i.A = 6
			want = 6
		}
		r, ok := Defines(i)
		same(t, describe("Defines", i), results(r, ok), results(want, writes))
		if writes {
			i.A = 0
			r, ok = Defines(i)
			same(t, describe("Defines", i), results(r, ok), results(0, true))
		}
	}
	for _, i := range []api.Inst{
		{}, {A: 1}, {Op: 23, A: 1}, {Op: -1, A: 1},
		{Op: api.OpConst, A: 8}, {Op: api.OpConst, A: -1}, {Op: api.OpConst, A: 3, N: 1 << 31},
		{Op: api.OpCopy, A: 3, B: 8}, {Op: api.OpCopy, A: 3, C: 1}, {Op: api.OpCalc, A: 3}, {Op: api.OpLoad, A: 3, Order: -1}, {Op: api.OpStore, A: 3},
	} {
		r, ok := Defines(i)
		same(t, describe("Defines", i), results(r, ok), results(0, false))
	}
}

// TestMnemonics checks P7.4 for every operation, and for other numbers.
func TestMnemonics(t *testing.T) {
	for _, op := range allOps() {
		name := operands[op-1][0]
		same(t, results("Mnemonic ", int(op)), Mnemonic(op), name)
		found, ok := ByMnemonic(name)
		same(t, "ByMnemonic "+name, results(found, ok), results(op, true))
	}
	for _, op := range unknownOps {
		same(t, results("Mnemonic ", int(op)), Mnemonic(op), "")
	}
}

// TestOrderNames checks P7.4 for every memory order, and for other numbers.
func TestOrderNames(t *testing.T) {
	for o, name := range []string{"plain", "relaxed", "relacq"} {
		same(t, results("OrderName ", o), OrderName(api.Order(o)), name)
		found, ok := ByOrderName(name)
		same(t, "ByOrderName "+name, results(found, ok), results(o, true))
	}
	for _, o := range unknownOrders {
		same(t, results("OrderName ", int(o)), OrderName(o), "")
	}
}

// alterations are the texts that differ from a name in one letter, in length or in case.
func alterations(name string) []string {
	all := []string{strings.ToUpper(name), strings.ToUpper(name[:1]) + name[1:], name + " ", " " + name, name + "\n", name + "\x00", name + name, name + "s"}
	for k := range len(name) {
		all = append(all, name[:k]+"x"+name[k+1:], name[:k]+string(name[k]^32)+name[k+1:], name[:k]+name[k+1:], name[:k]+"-"+name[k:])
	}
	return all
}

// TestUnknownNames checks P7.4: texts that are no names, among them the names of other things.
func TestUnknownNames(t *testing.T) {
	names := []string{"plain", "relaxed", "relacq"}
	for _, words := range operands {
		names = append(names, words[0])
	}
	unknown := []string{"", " ", "0", "1", "r0", "add", "le", "nop", "OpLoad", "seqcst", "release", "acquire", "\x00", "\xff", "é"}
	for _, name := range names {
		unknown = append(unknown, alterations(name)...)
	}
	for _, s := range unknown {
		if slices.Contains(names, s) {
			continue
		}
		op, ok := ByMnemonic(s)
		same(t, fmt.Sprintf("ByMnemonic(%q)", s), results(op, ok), results(0, false))
		o, ok := ByOrderName(s)
		same(t, fmt.Sprintf("ByOrderName(%q)", s), results(o, ok), results(0, false))
	}
	for k, name := range names {
		if k < 3 {
			op, ok := ByMnemonic(name)
			same(t, "ByMnemonic "+name, results(op, ok), results(0, false))
		} else {
			o, ok := ByOrderName(name)
			same(t, "ByOrderName "+name, results(o, ok), results(0, false))
		}
	}
}

// TestRename checks P7.5: registers are replaced, and only in the fields that the operation uses.
func TestRename(t *testing.T) {
	to := []int{7, 5, 3, 1, 6, 4, 2, 0}
	for _, x := range []struct{ i, want api.Inst }{
		{api.Inst{Op: api.OpConst, A: 0, N: 2}, api.Inst{Op: api.OpConst, A: 7, N: 2}},
		{api.Inst{Op: api.OpCopy, A: 1, B: 2}, api.Inst{Op: api.OpCopy, A: 5, B: 3}},
		{api.Inst{Op: api.OpCalc, Fn: 3, A: 3, B: 3, C: 7}, api.Inst{Op: api.OpCalc, Fn: 3, A: 1, B: 1, C: 0}},
		{api.Inst{Op: api.OpJump, N: 1}, api.Inst{Op: api.OpJump, N: 1}},
		{api.Inst{Op: api.OpBranch, B: 0, N: 1}, api.Inst{Op: api.OpBranch, B: 7, N: 1}},
		{api.Inst{Op: api.OpAssert, B: 4}, api.Inst{Op: api.OpAssert, B: 6}},
		{api.Inst{Op: api.OpStop}, api.Inst{Op: api.OpStop}},
		{api.Inst{Op: api.OpLoad, A: 1, Obj: 1, Order: 1}, api.Inst{Op: api.OpLoad, A: 5, Obj: 1, Order: 1}},
		{api.Inst{Op: api.OpStore, Obj: 2, B: 2, Order: 2}, api.Inst{Op: api.OpStore, Obj: 2, B: 3, Order: 2}},
		{api.Inst{Op: api.OpSwap, A: 5, Obj: 3, B: 6}, api.Inst{Op: api.OpSwap, A: 4, Obj: 3, B: 2}},
		{api.Inst{Op: api.OpFetchAdd, A: 6, B: 5}, api.Inst{Op: api.OpFetchAdd, A: 2, B: 4}},
		{api.Inst{Op: api.OpCas, A: 0, Obj: 0, B: 1, C: 2, Order: 1}, api.Inst{Op: api.OpCas, A: 7, Obj: 0, B: 5, C: 3, Order: 1}},
		{api.Inst{Op: api.OpFence}, api.Inst{Op: api.OpFence}},
		{api.Inst{Op: api.OpAwait, A: 2, Obj: 4, Fn: 7, B: 1}, api.Inst{Op: api.OpAwait, A: 3, Obj: 4, Fn: 7, B: 5}},
		{api.Inst{Op: api.OpLock, Obj: 3}, api.Inst{Op: api.OpLock, Obj: 3}},
		{api.Inst{Op: api.OpUnlock, Obj: 3}, api.Inst{Op: api.OpUnlock, Obj: 3}},
		{api.Inst{Op: api.OpTryLock, A: 3, Obj: 3}, api.Inst{Op: api.OpTryLock, A: 1, Obj: 3}},
		{api.Inst{Op: api.OpWait, Obj: 1, N: 2}, api.Inst{Op: api.OpWait, Obj: 1, N: 2}},
		{api.Inst{Op: api.OpSignal, Obj: 1}, api.Inst{Op: api.OpSignal, Obj: 1}},
		{api.Inst{Op: api.OpBroadcast, Obj: 1}, api.Inst{Op: api.OpBroadcast, Obj: 1}},
		{api.Inst{Op: api.OpSpawn, A: 4, Obj: 1, B: 0}, api.Inst{Op: api.OpSpawn, A: 6, Obj: 1, B: 7}},
		{api.Inst{Op: api.OpJoin, B: 7}, api.Inst{Op: api.OpJoin, B: 0}},
	} {
		i, err := Rename(x.i, to)
		same(t, describe("Rename", x.i), results(i, err), results(x.want, api.OK))
	}
}

// TestRenameErrors checks P7.5: each error, and the order of several ones.
func TestRenameErrors(t *testing.T) {
	good := api.Inst{Op: api.OpCopy, A: 0, B: 1}
	identity := []int{0, 1, 2, 3, 4, 5, 6, 7}
	for _, x := range []struct {
		i    api.Inst
		to   []int
		want api.Errno
	}{
		{good, nil, api.ErrArg},
		{good, []int{}, api.ErrArg},
		{good, identity[:7], api.ErrArg},
		{good, append(slices.Clone(identity), 0), api.ErrArg},
		{good, []int{8, 1, 2, 3, 4, 5, 6}, api.ErrArg},
		{good, []int{0, 1, 2, 3, 4, 5, 6, 7, -1}, api.ErrArg},
		{good, make([]int, 16), api.ErrArg},
		{api.Inst{Op: api.OpStop}, nil, api.ErrArg},
		{api.Inst{}, identity, api.ErrOp},
		{api.Inst{}, nil, api.ErrOp},
		{api.Inst{Op: 23}, []int{8}, api.ErrOp},
		{api.Inst{Op: api.OpCopy, C: 1}, nil, api.ErrField},
		{api.Inst{Op: api.OpCopy, A: 8}, identity, api.ErrRegister},
		{api.Inst{Op: api.OpCopy, A: 8}, nil, api.ErrRegister},
		{api.Inst{Op: api.OpLoad, Order: 3}, nil, api.ErrOrder},
		{api.Inst{Op: api.OpLoad, Order: 3}, []int{8, 8, 8, 8, 8, 8, 8, 8}, api.ErrOrder},
		{api.Inst{Op: api.OpCalc}, nil, api.ErrOp},
		{api.Inst{Op: api.OpConst, N: 1 << 31}, nil, api.ErrRange},
		{api.Inst{Op: api.OpConst, N: -1<<31 - 1}, []int{-1, 1, 2, 3, 4, 5, 6, 7}, api.ErrRange},
	} {
		i, err := Rename(x.i, x.to)
		same(t, describe("Rename", x.i, x.to), results(i, err), results(api.Inst{}, x.want))
	}
	// An element is examined even if no field has its register.
	for _, i := range []api.Inst{good, {Op: api.OpStop}, valid(api.OpCas)} {
		for k := range identity {
			for _, r := range []int{-1, 8, 9, 1 << 32, math.MaxInt, math.MinInt} {
				to := slices.Clone(identity)
				to[k] = r
				renamed, err := Rename(i, to)
				same(t, describe("Rename", i, to), results(renamed, err), results(api.Inst{}, api.ErrRegister))
			}
		}
	}
}

// instructions are instructions of every operation without errors, with many choices of registers.
func instructions(yield func(api.Inst) bool) {
	for _, op := range allOps() {
		for _, registers := range registerSamples {
			i := valid(op)
			for k, field := range []string{"A", "B", "C"} {
				if has(op, field) {
					i = set(i, field, registers[k])
				}
			}
			if reference(i) == api.OK && !yield(i) {
				return
			}
		}
	}
}

// rename is Rename without an error.
func rename(t *testing.T, i api.Inst, to []int) api.Inst {
	t.Helper()
	renamed, err := Rename(i, to)
	same(t, describe("Rename", i, to), err, api.OK)
	return renamed
}

// TestRenaming checks P7.6: Rename commutes with Uses and Defines, and preserves everything else.
func TestRenaming(t *testing.T) {
	for i := range instructions {
		for _, to := range mappings {
			renamed := rename(t, i, to)
			same(t, describe("Check of the renamed", i, to), Check(renamed), api.OK)
			var images []int
			for _, r := range Uses(i) {
				images = append(images, to[r])
			}
			slices.Sort(images)
			same(t, describe("Uses of the renamed", i, to), Uses(renamed), slices.Compact(images))
			r, ok := Defines(renamed)
			before, writes := Defines(i)
			if writes {
				before = to[before]
			}
			same(t, describe("Defines of the renamed", i, to), results(r, ok), results(before, writes))
			rest := renamed
			rest.A, rest.B, rest.C = i.A, i.B, i.C
			same(t, describe("other fields of the renamed", i, to), rest, i)
		}
	}
}

// TestComposition checks P7.6: two renamings are one with the composition, and the identity changes nothing.
func TestComposition(t *testing.T) {
	for i := range instructions {
		same(t, describe("identity", i), rename(t, i, mappings[0]), i)
		for _, first := range mappings {
			for _, second := range mappings {
				var both []int
				for _, r := range first {
					both = append(both, second[r])
				}
				same(t, describe("composition", i, first, second), rename(t, rename(t, i, first), second), rename(t, i, both))
			}
		}
	}
}

// TestClasses checks P7.7: the classes of the operations, and names that are different.
func TestClasses(t *testing.T) {
	local := []api.Op{api.OpConst, api.OpCopy, api.OpCalc, api.OpJump, api.OpBranch, api.OpAssert, api.OpStop}
	seen := map[string]bool{}
	for _, op := range allOps() {
		same(t, results("local ", op), !Visible(op), slices.Contains(local, op))
		if Drains(op) && !Visible(op) {
			t.Fatalf("operation %d drains but is not visible", op)
		}
		if seen[Mnemonic(op)] {
			t.Fatalf("two operations have the name %q", Mnemonic(op))
		}
		seen[Mnemonic(op)] = true
	}
	for o := range api.Order(3) {
		if seen[OrderName(o)] {
			t.Fatalf("two things have the name %q", OrderName(o))
		}
		seen[OrderName(o)] = true
	}
	same(t, "names", len(seen), 25)
	if seen[""] {
		t.Fatal("an operation or order has no name")
	}
}

// TestMemory checks the rules on arguments and results: the mapping stays as it is, and every result is new memory.
func TestMemory(t *testing.T) {
	i := api.Inst{Op: api.OpCas, A: 1, B: 6, C: 2}
	first := Uses(i)
	for k := range first[:cap(first)] {
		first[:cap(first)][k] = 99
	}
	same(t, "Uses after its result was overwritten", Uses(i), []int{2, 6})

	whole := []int{3, 2, 1, 0, 4, 5, 6, 7, 55, 66}
	before := slices.Clone(whole)
	renamed := rename(t, i, whole[:8])
	same(t, "the mapping after Rename", whole, before)
	for k := range whole {
		whole[k] = -1
	}
	same(t, "the renamed instruction", renamed, api.Inst{Op: api.OpCas, A: 2, B: 6, C: 1})
	same(t, "the instruction itself", i, api.Inst{Op: api.OpCas, A: 1, B: 6, C: 2})
	whole[0] = 8
	Rename(i, whole[:8])
	same(t, "the mapping after an error", whole, []int{8, -1, -1, -1, -1, -1, -1, -1, -1, -1})
}

// FuzzInst compares all functions of an instruction with their definitions.
func FuzzInst(f *testing.F) {
	f.Add(1, 0, 0, 0, 0, 2147483648, 0, 0, []byte{0, 1, 2, 3, 4, 5, 6, 7})
	f.Add(12, 1, 5, 4, 0, 0, 0, 2, []byte{3, 2, 1, 0, 4, 5, 6, 8})
	f.Add(14, 1, 5, 0, 1, 0, 10, 1, []byte{3, 2, 1})
	f.Fuzz(func(t *testing.T, op, a, b, c, obj, n, fn, order int, mapping []byte) {
		i := api.Inst{Op: api.Op(op), A: a, B: b, C: c, Obj: obj, N: n, Fn: api.Fn(fn), Order: api.Order(order)}
		same(t, describe("Check", i), Check(i), reference(i))
		same(t, describe("Uses", i), Uses(i), referenceUses(i))
		r, ok := Defines(i)
		want, writes := referenceDefines(i)
		same(t, describe("Defines", i), results(r, ok), results(want, writes))
		var to []int
		for _, m := range mapping {
			to = append(to, int(m))
		}
		renamed, err := Rename(i, to)
		switch {
		case reference(i) != api.OK:
			same(t, describe("Rename", i, to), results(renamed, err), results(api.Inst{}, reference(i)))
		case len(to) != 8:
			same(t, describe("Rename", i, to), results(renamed, err), results(api.Inst{}, api.ErrArg))
		case slices.Max(to) > 7:
			same(t, describe("Rename", i, to), results(renamed, err), results(api.Inst{}, api.ErrRegister))
		default:
			for _, field := range []string{"A", "B", "C"} {
				if has(i.Op, field) {
					i = set(i, field, to[get(i, field)])
				}
			}
			same(t, describe("Rename", i, to), results(renamed, err), results(i, api.OK))
		}
	})
}
