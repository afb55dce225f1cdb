package format

import (
	"strings"

	"modelcheck/api"
	"modelcheck/inst"
	"modelcheck/value"
)

// forms are the texts of the statements of each kind. A capital letter stands for a part of the statement: X for Name, O for Obj, M for Other, R for Order, N for Fn, E and F for the first and the second element of Exprs, B for the block of Body, and L for that of Else.
var forms = [...]string{
	api.StLet:       "X = E;",
	api.StLoad:      "X = load O R;",
	api.StStore:     "store O R E;",
	api.StSwap:      "X = swap O R E;",
	api.StFetchAdd:  "X = fetchadd O R E;",
	api.StCas:       "X = cas O R E, F;",
	api.StFence:     "fence;",
	api.StAwait:     "X = await O R N E;",
	api.StLock:      "lock O;",
	api.StUnlock:    "unlock O;",
	api.StTryLock:   "X = trylock O;",
	api.StWait:      "wait O M;",
	api.StSignal:    "signal O;",
	api.StBroadcast: "broadcast O;",
	api.StSpawn:     "X = spawn O E;",
	api.StJoin:      "join E;",
	api.StAssert:    "assert E;",
	api.StIf:        "if EBL",
	api.StWhile:     "while EB",
	api.StReturn:    "return;",
}

// A printer writes the text of a valid unit or expression into its buffer.
type printer struct {
	strings.Builder
	tabs int // at the beginning of a line
}

// unit writes the lines of a unit.
func (p *printer) unit(u api.Unit) {
	for _, v := range u.Vars {
		p.line("var ", v.Name, " = ", value.Format(v.Init), ";")
	}
	for _, name := range u.Mutexes {
		p.line("mutex ", name, ";")
	}
	for _, name := range u.Conds {
		p.line("cond ", name, ";")
	}
	for _, proc := range u.Procs {
		p.write("proc ", proc.Name, "(", proc.Param, ")")
		p.block(proc.Body)
		p.line()
	}
	for _, start := range u.Threads {
		p.line("thread ", start.Proc, "(", value.Format(start.Arg), ");")
	}
}

// block writes a block whose opening brace belongs to the line that has been begun. It calls itself for each level, of which a valid unit has only a few.
func (p *printer) block(statements []api.Stmt) {
	p.line(" {")
	p.tabs++
	for _, s := range statements {
		p.indent()
		p.statement(s)
		p.line()
	}
	p.tabs--
	p.indent()
	p.write("}")
}

// statement writes a statement.
func (p *printer) statement(s api.Stmt) {
	for _, letter := range []byte(forms[s.Kind]) {
		switch letter {
		case 'X':
			p.write(s.Name)
		case 'O':
			p.write(s.Obj)
		case 'M':
			p.write(s.Other)
		case 'R':
			p.write(inst.OrderName(s.Order))
		case 'N':
			p.write(value.Name(s.Fn))
		case 'E':
			p.expression(s.Exprs[0])
		case 'F':
			p.expression(s.Exprs[1])
		case 'B':
			p.block(s.Body)
		case 'L':
			p.otherwise(s.Else)
		default:
			p.WriteByte(letter)
		}
	}
}

// otherwise writes the second block of a statement, which is left out if it is empty.
func (p *printer) otherwise(statements []api.Stmt) {
	if len(statements) > 0 {
		p.write(" else")
		p.block(statements)
	}
}

// expression writes an expression.
func (p *printer) expression(e api.Expr) {
	switch e.Kind {
	case api.ExNumber:
		p.write(value.Format(e.N))
	case api.ExLocal:
		p.write(e.Name)
	case api.ExCalc:
		p.write("(")
		p.expression(e.Args[0])
		p.write(" ", value.Name(e.Fn), " ")
		p.expression(e.Args[1])
		p.write(")")
	}
}

// indent begins a line inside a block.
func (p *printer) indent() {
	p.write(strings.Repeat("\t", p.tabs))
}

// line writes the rest of a line.
func (p *printer) line(words ...string) {
	p.write(words...)
	p.write("\n")
}

// write writes words as they are.
func (p *printer) write(words ...string) {
	for _, word := range words {
		p.WriteString(word)
	}
}
