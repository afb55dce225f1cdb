package parse

import (
	"modelcheck/api"
	"modelcheck/inst"
	"modelcheck/value"
)

// A part is a part of the text of a statement: the field that it stands for, or a symbol.
type part int

const (
	object part = iota
	other
	order
	function
	expression
	body
	otherwise
	comma
	semicolon
)

// unknown is the kind of no statement.
const unknown api.StmtKind = 0

// A form is the text of the statements of a kind: the keyword that tells the kind, whether NAME and "=" come before it, and the parts that follow.
type form struct {
	keyword string
	assigns bool
	parts   []part
}

// forms has an empty row for unknown. The text of StLet has no keyword.
var forms = [...]form{
	api.StLet:       {"", true, []part{expression, semicolon}},
	api.StLoad:      {"load", true, []part{object, order, semicolon}},
	api.StStore:     {"store", false, []part{object, order, expression, semicolon}},
	api.StSwap:      {"swap", true, []part{object, order, expression, semicolon}},
	api.StFetchAdd:  {"fetchadd", true, []part{object, order, expression, semicolon}},
	api.StCas:       {"cas", true, []part{object, order, expression, comma, expression, semicolon}},
	api.StFence:     {"fence", false, []part{semicolon}},
	api.StAwait:     {"await", true, []part{object, order, function, expression, semicolon}},
	api.StLock:      {"lock", false, []part{object, semicolon}},
	api.StUnlock:    {"unlock", false, []part{object, semicolon}},
	api.StTryLock:   {"trylock", true, []part{object, semicolon}},
	api.StWait:      {"wait", false, []part{object, other, semicolon}},
	api.StSignal:    {"signal", false, []part{object, semicolon}},
	api.StBroadcast: {"broadcast", false, []part{object, semicolon}},
	api.StSpawn:     {"spawn", true, []part{object, expression, semicolon}},
	api.StJoin:      {"join", false, []part{expression, semicolon}},
	api.StAssert:    {"assert", false, []part{expression, semicolon}},
	api.StIf:        {"if", false, []part{expression, body, otherwise}},
	api.StWhile:     {"while", false, []part{expression, body}},
	api.StReturn:    {"return", false, []part{semicolon}},
}

// A block is a block whose statements are being read.
type block struct {
	*parser
	statements []api.Stmt
}

// statement reads the next statement of a block, if the next token begins one.
func (b *block) statement() bool {
	first := b.peek()
	s := api.Stmt{Kind: kindOf(first.Text, false)}
	switch {
	case s.Kind != unknown:
		b.next()
	case isName(first):
		s.Name = b.name()
		b.symbol("=")
		s.Kind = b.assignment()
	default:
		return false
	}
	b.begin(first)
	for _, x := range forms[s.Kind].parts {
		b.part(x, &s)
	}
	b.statements = append(b.statements, s)
	return true
}

// assignment reads the keyword behind NAME and "=", if there is one, and returns the kind of the statement.
func (p *parser) assignment() api.StmtKind {
	kind := kindOf(p.peek().Text, true)
	if kind == unknown {
		return api.StLet
	}
	p.next()
	return kind
}

// begin counts a statement with the given first token, before the statements inside it: the order of the first tokens is that of the numbers.
func (p *parser) begin(first api.Token) {
	p.offsetOf[place{len(p.built.Procs), p.count}] = first.At
	p.count++
}

// part reads a part of a statement.
func (p *parser) part(x part, s *api.Stmt) {
	switch x {
	case object:
		s.Obj = p.name()
	case other:
		s.Other = p.name()
	case order:
		s.Order = named(p, inst.ByOrderName, api.ErrOrder)
	case function:
		s.Fn = named(p, value.ByName, api.ErrOp)
	case expression:
		s.Exprs = append(s.Exprs, p.expression())
	case body:
		s.Body = p.block()
	case otherwise:
		if p.peek().Text == "else" {
			p.next()
			s.Else = p.block()
		}
	case comma:
		p.symbol(",")
	case semicolon:
		p.symbol(";")
	}
}

// kindOf returns the kind that a keyword tells, at the beginning of a statement or behind NAME and "=", or unknown.
func kindOf(keyword string, assigns bool) api.StmtKind {
	for kind, f := range forms {
		if keyword != "" && f.keyword == keyword && f.assigns == assigns {
			return api.StmtKind(kind)
		}
	}
	return unknown
}
