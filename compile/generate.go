package compile

import (
	"slices"

	"modelcheck/api"
	"modelcheck/ast"
	"modelcheck/program"
)

// temporary is the first register for the values of expressions. The local variables have those before it.
const temporary = api.MaxLocals

// ops are the operations of the instructions that follow the code of the expressions of each kind of statements. StIf and StWhile have none: several instructions follow there.
var ops = [...]api.Op{
	api.StLet:       api.OpCopy,
	api.StLoad:      api.OpLoad,
	api.StStore:     api.OpStore,
	api.StSwap:      api.OpSwap,
	api.StFetchAdd:  api.OpFetchAdd,
	api.StCas:       api.OpCas,
	api.StFence:     api.OpFence,
	api.StAwait:     api.OpAwait,
	api.StLock:      api.OpLock,
	api.StUnlock:    api.OpUnlock,
	api.StTryLock:   api.OpTryLock,
	api.StWait:      api.OpWait,
	api.StSignal:    api.OpSignal,
	api.StBroadcast: api.OpBroadcast,
	api.StSpawn:     api.OpSpawn,
	api.StJoin:      api.OpJoin,
	api.StAssert:    api.OpAssert,
	api.StIf:        0,
	api.StWhile:     0,
	api.StReturn:    api.OpStop,
}

// A unitGenerator makes the program of a valid unit.
type unitGenerator struct {
	built api.Program
}

// A functionGenerator makes the code of a function.
type functionGenerator struct {
	*unitGenerator
	registers map[string]int // of the local variables
	code      []api.Inst
}

// newUnitGenerator returns a generator whose program has everything but the code of its functions: all objects have their numbers before a statement names them.
func newUnitGenerator(u api.Unit) *unitGenerator {
	g := &unitGenerator{}
	p := &g.built
	p.Vars = append(p.Vars, u.Vars...)
	p.Mutexes = append(p.Mutexes, u.Mutexes...)
	p.Conds = append(p.Conds, u.Conds...)
	for _, proc := range u.Procs {
		p.Funcs = append(p.Funcs, api.Func{Name: proc.Name})
	}
	for _, start := range u.Threads {
		p.Threads = append(p.Threads, api.Start{Func: g.function(start.Proc), Arg: start.Arg})
	}
	return g
}

// codeOf returns the code of a procedure of the unit.
func (g *unitGenerator) codeOf(p api.Proc) []api.Inst {
	f := &functionGenerator{unitGenerator: g, registers: registersOf(p)}
	f.block(p.Body)
	return f.code
}

// registersOf returns the registers of the local variables of a procedure.
func registersOf(p api.Proc) map[string]int {
	// Register 0 is kept for Param also where the procedure has none.
	registers := map[string]int{p.Param: 0}
	for _, name := range ast.Locals(p) {
		if name != p.Param {
			registers[name] = len(registers)
		}
	}
	return registers
}

// variable returns the number of a variable.
func (g *unitGenerator) variable(name string) int {
	return slices.IndexFunc(g.built.Vars, func(v api.Var) bool { return v.Name == name })
}

// mutex returns the number of a mutex.
func (g *unitGenerator) mutex(name string) int {
	return slices.Index(g.built.Mutexes, name)
}

// cond returns the number of a condition variable.
func (g *unitGenerator) cond(name string) int {
	return slices.Index(g.built.Conds, name)
}

// function returns the number of the function of a procedure.
func (g *unitGenerator) function(name string) int {
	number, _ := program.Function(g.built, name)
	return number
}

// object returns the number of the object that a statement names as Obj, or 0 if its kind names none.
func (g *unitGenerator) object(s api.Stmt) int {
	switch s.Kind {
	case api.StLoad, api.StStore, api.StSwap, api.StFetchAdd, api.StCas, api.StAwait:
		return g.variable(s.Obj)
	case api.StLock, api.StUnlock, api.StTryLock:
		return g.mutex(s.Obj)
	case api.StWait, api.StSignal, api.StBroadcast:
		return g.cond(s.Obj)
	case api.StSpawn:
		return g.function(s.Obj)
	}
	return 0
}

// block adds the code of a block. It calls itself for each level, of which a valid unit has only a few.
func (f *functionGenerator) block(statements []api.Stmt) {
	for _, s := range statements {
		f.statement(s)
	}
}

// statement adds the code of a statement.
func (f *functionGenerator) statement(s api.Stmt) {
	first := len(f.code)
	for k, e := range s.Exprs {
		f.expression(e, temporary+k)
	}
	switch s.Kind {
	case api.StIf:
		f.choice(s)
	case api.StWhile:
		f.loop(s, first)
	default:
		f.add(f.instruction(s))
	}
}

// choice adds the code that follows the condition of an if.
func (f *functionGenerator) choice(s api.Stmt) {
	placeBody := f.forward(api.Inst{Op: api.OpBranch, B: temporary})
	f.block(s.Else)
	placeEnd := f.forward(api.Inst{Op: api.OpJump})
	placeBody()
	f.block(s.Body)
	placeEnd()
}

// loop adds the code that follows the condition of a while, whose code begins with the given instruction.
func (f *functionGenerator) loop(s api.Stmt, first int) {
	placeBody := f.forward(api.Inst{Op: api.OpBranch, B: temporary})
	placeEnd := f.forward(api.Inst{Op: api.OpJump})
	placeBody()
	f.block(s.Body)
	f.add(api.Inst{Op: api.OpJump, N: first})
	placeEnd()
}

// instruction returns the instruction that follows the code of the expressions of a statement.
func (f *functionGenerator) instruction(s api.Stmt) api.Inst {
	// The fields that the kind does not use are zero in the statement, and become zero here: the empty name has register 0, with and without a Param.
	i := api.Inst{Op: ops[s.Kind], A: f.registers[s.Name], Obj: f.object(s), Fn: s.Fn, Order: s.Order}
	if len(s.Exprs) > 0 {
		i.B = temporary
	}
	if len(s.Exprs) > 1 {
		i.C = temporary + 1
	}
	if s.Kind == api.StWait {
		i.N = f.mutex(s.Other)
	}
	return i
}

// expression adds the code of an expression for a register.
func (f *functionGenerator) expression(e api.Expr, register int) {
	switch e.Kind {
	case api.ExNumber:
		f.add(api.Inst{Op: api.OpConst, A: register, N: e.N})
	case api.ExLocal:
		f.add(api.Inst{Op: api.OpCopy, A: register, B: f.registers[e.Name]})
	case api.ExCalc:
		f.expression(e.Args[0], register)
		f.expression(e.Args[1], register+1)
		f.add(api.Inst{Op: api.OpCalc, A: register, B: register, C: register + 1, Fn: e.Fn})
	}
}

// forward adds a jump or a branch to a label behind it, and returns the function that places this label where the code ends when it is called.
func (f *functionGenerator) forward(i api.Inst) (place func()) {
	at := len(f.code)
	f.add(i)
	return func() { f.code[at].N = len(f.code) }
}

// add adds an instruction.
func (f *functionGenerator) add(i api.Inst) {
	f.code = append(f.code, i)
}
