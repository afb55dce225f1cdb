package compile

import (
	"fmt"
	"slices"
	"strconv"
	"strings"

	"modelcheck/api"
	"modelcheck/asm"
	"modelcheck/ast"
)

// codes is the table of the chapter in the notation of the assembler. E and F stand for the code of the first expression for register 5 and of the second one for register 6, V for the register of Name, OBJ, OTHER, FN and ORD for the fields, BODY and ELSE for the code of the blocks. A label stands before the code that follows it.
var codes = map[api.StmtKind]string{
	api.StLet:       "E; copy V r5",
	api.StLoad:      "load V OBJ ORD",
	api.StStore:     "E; store OBJ r5 ORD",
	api.StSwap:      "E; swap V OBJ r5 ORD",
	api.StFetchAdd:  "E; fetchadd V OBJ r5 ORD",
	api.StCas:       "E; F; cas V OBJ r5 r6 ORD",
	api.StFence:     "fence",
	api.StAwait:     "E; await V OBJ FN r5 ORD",
	api.StLock:      "lock OBJ",
	api.StUnlock:    "unlock OBJ",
	api.StTryLock:   "trylock V OBJ",
	api.StWait:      "wait OBJ OTHER",
	api.StSignal:    "signal OBJ",
	api.StBroadcast: "broadcast OBJ",
	api.StSpawn:     "E; spawn V OBJ r5",
	api.StJoin:      "E; join r5",
	api.StAssert:    "E; assert r5",
	api.StIf:        "E; branch r5 L1; ELSE; jump L2; L1; BODY; L2",
	api.StWhile:     "L0; E; branch r5 L1; jump L2; L1; BODY; jump L0; L2",
	api.StReturn:    "stop",
}

// orders and functions are the names of orders and functions.
var (
	orders    = []string{"plain", "relaxed", "relacq"}
	functions = []string{"", "add", "sub", "mul", "and", "or", "xor", "eq", "ne", "lt", "le"}
)

// invisible are the kinds of statements that are not visible.
var invisible = []api.StmtKind{api.StLet, api.StAssert, api.StIf, api.StWhile, api.StReturn}

// A writer writes the code of a procedure as lines, each of which is an instruction or a label.
type writer struct {
	registers map[string]string
	labels    int
	lines     []string
}

// add adds a line.
func (w *writer) add(words ...string) {
	w.lines = append(w.lines, strings.Join(words, " "))
}

// expr adds the code of an expression for register t.
func (w *writer) expr(e api.Expr, t int) {
	target, next := fmt.Sprint("r", t), fmt.Sprint("r", t+1)
	switch e.Kind {
	case api.ExNumber:
		w.add("const", target, strconv.Itoa(e.N))
	case api.ExLocal:
		w.add("copy", target, w.registers[e.Name])
	case api.ExCalc:
		w.expr(e.Args[0], t)
		w.expr(e.Args[1], t+1)
		w.add("calc", functions[e.Fn], target, target, next)
	}
}

// block adds the code of a block.
func (w *writer) block(l []api.Stmt) {
	for _, s := range l {
		w.statement(s)
	}
}

// statement adds the code of a statement.
func (w *writer) statement(s api.Stmt) {
	w.labels++
	number := fmt.Sprint(".", w.labels)
	for piece := range strings.SplitSeq(codes[s.Kind], "; ") {
		switch piece {
		case "E":
			w.expr(s.Exprs[0], 5)
		case "F":
			w.expr(s.Exprs[1], 6)
		case "BODY":
			w.block(s.Body)
		case "ELSE":
			w.block(s.Else)
		default:
			words := strings.Fields(piece)
			for k, word := range words {
				words[k] = w.word(word, s, number)
			}
			w.add(words...)
		}
	}
}

// word returns what a word of the table stands for in a statement with the given number.
func (w *writer) word(word string, s api.Stmt, number string) string {
	switch word {
	case "V":
		return w.registers[s.Name]
	case "OBJ":
		return s.Obj
	case "OTHER":
		return s.Other
	case "FN":
		return functions[s.Fn]
	case "ORD":
		return orders[s.Order]
	case "L0", "L1", "L2":
		return word + number
	}
	return word
}

// instructions returns the lines without the labels, with numbers in their places.
func (w *writer) instructions() []string {
	var lines []string
	numbers := map[string]string{}
	for _, line := range w.lines {
		if line[0] == 'L' {
			numbers[line] = strconv.Itoa(len(lines))
		} else {
			lines = append(lines, line)
		}
	}
	for k, line := range lines {
		words := strings.Fields(line)
		if last := len(words) - 1; words[0] == "jump" || words[0] == "branch" {
			words[last] = numbers[words[last]]
		}
		lines[k] = strings.Join(words, " ")
	}
	return lines
}

// referenceLines returns the code of a procedure by its definition.
func referenceLines(p api.Proc) []string {
	w := &writer{registers: map[string]string{}}
	next := 1
	for _, name := range ast.Locals(p) {
		if name == p.Param {
			w.registers[name] = "r0"
			continue
		}
		w.registers[name] = fmt.Sprint("r", next)
		next++
	}
	w.block(p.Body)
	return w.instructions()
}

// reference is Unit by its definition.
func reference(u api.Unit) (api.Program, api.Errno) {
	if err, _, _ := ast.Check(u); err != api.OK {
		return api.Program{}, err
	}
	p := api.Program{Vars: u.Vars, Mutexes: u.Mutexes, Conds: u.Conds}
	for _, proc := range u.Procs {
		p.Funcs = append(p.Funcs, api.Func{Name: proc.Name})
	}
	for _, start := range u.Threads {
		f := slices.IndexFunc(u.Procs, func(p api.Proc) bool { return p.Name == start.Proc })
		p.Threads = append(p.Threads, api.Start{Func: f, Arg: start.Arg})
	}
	whole := p
	whole.Funcs = slices.Clone(p.Funcs)
	for k, proc := range u.Procs {
		lines := referenceLines(proc)
		if len(lines) > 64 {
			return api.Program{}, api.ErrLimit
		}
		for _, line := range lines {
			i, fault := asm.Instruction(p, line)
			if fault != (api.Fault{}) {
				panic(fmt.Sprint(line, " is no instruction: ", fault))
			}
			whole.Funcs[k].Code = append(whole.Funcs[k].Code, i)
		}
	}
	return whole, api.OK
}

// calculate returns the result of a function on values.
func calculate(fn api.Fn, a, b int32) int32 {
	holds := false
	switch functions[fn] {
	case "add":
		return a + b
	case "sub":
		return a - b
	case "mul":
		return a * b
	case "and":
		return a & b
	case "or":
		return a | b
	case "xor":
		return a ^ b
	case "eq":
		holds = a == b
	case "ne":
		holds = a != b
	case "lt":
		holds = a < b
	case "le":
		holds = a <= b
	}
	if holds {
		return 1
	}
	return 0
}

// valueOf returns the value of an expression, in which a local variable that is not there is 0.
func valueOf(e api.Expr, locals map[string]int32) int32 {
	switch e.Kind {
	case api.ExNumber:
		return int32(e.N)
	case api.ExLocal:
		return locals[e.Name]
	}
	return calculate(e.Fn, valueOf(e.Args[0], locals), valueOf(e.Args[1], locals))
}

// The ways in which an execution ends.
const (
	finished = "finished"
	failed   = "failed"
	endless  = "endless"
)

// An execution executes statements that are not visible, as long as some are left.
type execution struct {
	locals map[string]int32
	left   int
	end    string
}

// block executes the statements of a block one after the other, until one of them ends the execution.
func (x *execution) block(l []api.Stmt) {
	for _, s := range l {
		if x.statement(s); x.end != "" {
			return
		}
	}
}

// statement executes a statement.
func (x *execution) statement(s api.Stmt) {
	if x.left--; x.left < 0 {
		x.end = endless
		return
	}
	switch s.Kind {
	case api.StLet:
		x.locals[s.Name] = valueOf(s.Exprs[0], x.locals)
	case api.StAssert:
		if valueOf(s.Exprs[0], x.locals) == 0 {
			x.end = failed
		}
	case api.StIf:
		if valueOf(s.Exprs[0], x.locals) != 0 {
			x.block(s.Body)
		} else {
			x.block(s.Else)
		}
	case api.StWhile:
		for x.end == "" && valueOf(s.Exprs[0], x.locals) != 0 {
			if x.left--; x.left < 0 {
				x.end = endless
				return
			}
			x.block(s.Body)
		}
	case api.StReturn:
		x.end = finished
	}
}

// executed returns the local variables after the execution of a procedure, and how it ends.
func executed(p api.Proc, arg int32, steps int) (map[string]int32, string) {
	x := &execution{locals: map[string]int32{}, left: steps}
	if p.Param != "" {
		x.locals[p.Param] = arg
	}
	if x.block(p.Body); x.end == "" {
		x.end = finished
	}
	return x.locals, x.end
}

// execute executes local instructions from the given registers, and returns the registers then and how the execution ends.
func execute(code []api.Inst, registers [8]int32, steps int) ([8]int32, string) {
	for at := 0; at < len(code); {
		if steps--; steps < 0 {
			return registers, endless
		}
		i := code[at]
		at++
		switch i.Op {
		case api.OpConst:
			registers[i.A] = int32(i.N)
		case api.OpCopy:
			registers[i.A] = registers[i.B]
		case api.OpCalc:
			registers[i.A] = calculate(i.Fn, registers[i.B], registers[i.C])
		case api.OpJump:
			at = i.N
		case api.OpBranch:
			if registers[i.B] != 0 {
				at = i.N
			}
		case api.OpAssert:
			if registers[i.B] == 0 {
				return registers, failed
			}
		case api.OpStop:
			return registers, finished
		default:
			panic(fmt.Sprint("the operation ", i.Op, " is not local"))
		}
	}
	return registers, finished
}
