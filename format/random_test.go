package format

import (
	"math/rand"
	"slices"
	"strings"

	"modelcheck/api"
	"modelcheck/ast"
)

// A maker makes random units and expressions, which are valid until something is broken.
type maker struct {
	*rand.Rand
	locals []string
	left   int // how many statements may still be made
}

// pick returns one of some words.
func (m *maker) pick(words ...string) string {
	return words[m.Intn(len(words))]
}

// value returns a value.
func (m *maker) value() int {
	return []int{0, 1, -1, 7, api.MaxValue, api.MinValue, m.Intn(1 << 20)}[m.Intn(7)]
}

// expr returns an expression of at most the given depth.
func (m *maker) expr(depth int) api.Expr {
	switch kind := m.Intn(4); {
	case depth > 1 && kind < 2:
		return calc(m.expr(depth-1), api.Fn(1+m.Intn(10)), m.expr(depth-1))
	case kind%2 == 0:
		return local(m.pick(m.locals...))
	}
	return num(m.value())
}

// block returns a block with statements of at most the given number of levels.
func (m *maker) block(levels int) []api.Stmt {
	var l []api.Stmt
	for range m.Intn(6) {
		if m.left > 0 {
			m.left--
			l = append(l, m.statement(levels))
		}
	}
	return l
}

// statement returns a statement of at most the given number of levels, with the fields of which its text consists.
func (m *maker) statement(levels int) api.Stmt {
	s := api.Stmt{Kind: api.StLet + api.StmtKind(m.Intn(20))}
	if levels == 1 && (s.Kind == api.StIf || s.Kind == api.StWhile) {
		s.Kind = api.StFence
	}
	if uses(s.Kind, "X") {
		s.Name = m.pick(m.locals...)
	}
	if uses(s.Kind, "O") {
		s.Obj = m.pick(objects(s.Kind)...)
	}
	if uses(s.Kind, "M") {
		s.Other = m.pick("m", "n")
	}
	if uses(s.Kind, "ORD") {
		s.Order = api.Order(m.Intn(3))
	}
	if uses(s.Kind, "FN") {
		s.Fn = api.Fn(1 + m.Intn(10))
	}
	if uses(s.Kind, "E") {
		s.Exprs = append(s.Exprs, m.expr(3))
	}
	if uses(s.Kind, "F") {
		s.Exprs = append(s.Exprs, m.expr(2))
	}
	if s.Kind == api.StIf || s.Kind == api.StWhile {
		s.Body = m.block(levels - 1)
	}
	if s.Kind == api.StIf && m.Intn(2) == 0 {
		s.Else = m.block(levels - 1)
	}
	return s
}

// objects are the names of the objects of random units that a statement of a kind may name as Obj.
func objects(kind api.StmtKind) []string {
	switch {
	case uses(kind, "ORD"):
		return []string{"x", "y"}
	case strings.Contains(statementTexts[kind], "lock"):
		return []string{"m", "n"}
	case kind == api.StSpawn:
		return []string{"f", "g"}
	}
	return []string{"c", "d"}
}

// unit returns a valid unit with two objects of each kind.
func (m *maker) unit() api.Unit {
	u := api.Unit{
		Vars:    []api.Var{{Name: "x", Init: m.value()}, {Name: "y", Init: m.value()}},
		Mutexes: []string{"m", "n"},
		Conds:   []string{"c", "d"},
	}
	for _, name := range []string{"f", "g"} {
		m.locals, m.left = []string{"a", "x", "iff", "a_local_variable"}, 60
		p := api.Proc{Name: name, Param: m.pick("", "p", "a")}
		// All local variables are assigned, so each of them can be used anywhere.
		for _, name := range m.locals {
			p.Body = append(p.Body, let(name, m.expr(1)))
		}
		p.Body = append(p.Body, m.block(1+m.Intn(api.MaxNest))...)
		u.Procs = append(u.Procs, p)
	}
	for range 1 + m.Intn(api.MaxThreads) {
		u.Threads = append(u.Threads, api.Launch{Proc: m.pick("f", "g"), Arg: m.value()})
	}
	return u
}

// word returns a word that is often not the right one.
func (m *maker) word() string {
	return m.pick("", "a", "x", "m", "c", "f", "z", "if", "9", "a_name_too_long_1", "A", "x y", "é", "a;")
}

// number returns a number that is often not the right one.
func (m *maker) number() int {
	return []int{-1, 0, 1, 2, 3, 4, 11, 20, 21, api.MaxValue + 1, api.MinValue - 1, 1 << 62}[m.Intn(12)]
}

// brokenExpr returns an expression with other contents somewhere.
func (m *maker) brokenExpr(e api.Expr) api.Expr {
	if len(e.Args) > 0 && m.Intn(2) == 0 {
		k := m.Intn(len(e.Args))
		e.Args[k] = m.brokenExpr(e.Args[k])
		return e
	}
	switch m.Intn(6) {
	case 0:
		e.Kind = api.ExprKind(m.number())
	case 1:
		e.N = m.number()
	case 2:
		e.Name = m.word()
	case 3:
		e.Fn = api.Fn(m.number())
	case 4:
		e.Args = append(e.Args, m.expr(1))
	case 5:
		return calc(e, api.FnOr, num(1))
	}
	return e
}

// breakStatement changes a statement somewhere.
func (m *maker) breakStatement(s *api.Stmt) {
	blocks := slices.DeleteFunc([][]api.Stmt{s.Body, s.Else}, func(l []api.Stmt) bool { return len(l) == 0 })
	if len(blocks) > 0 && m.Intn(2) == 0 {
		l := blocks[m.Intn(len(blocks))]
		m.breakStatement(&l[m.Intn(len(l))])
		return
	}
	switch m.Intn(9) {
	case 0:
		s.Kind = api.StmtKind(m.number())
	case 1:
		s.Name = m.word()
	case 2:
		s.Obj = m.word()
	case 3:
		s.Other = m.word()
	case 4:
		s.Order = api.Order(m.number())
	case 5:
		s.Fn = api.Fn(m.number())
	case 6:
		s.Exprs = append(s.Exprs, m.expr(1))
	case 7:
		s.Body, s.Else = m.block(2), m.block(2)
	case 8:
		if len(s.Exprs) > 0 {
			k := m.Intn(len(s.Exprs))
			s.Exprs[k] = m.brokenExpr(s.Exprs[k])
		}
	}
}

// broken returns a copy of a unit with other contents somewhere, which may still be valid.
func (m *maker) broken(u api.Unit) api.Unit {
	u = ast.Clone(u)
	m.left = 20
	p := &u.Procs[m.Intn(len(u.Procs))]
	switch m.Intn(12) {
	case 0:
		u.Vars[m.Intn(2)] = api.Var{Name: m.word(), Init: m.number()}
	case 1:
		u.Mutexes[m.Intn(2)] = m.word()
	case 2:
		u.Conds[m.Intn(2)] = m.word()
	case 3:
		p.Name = m.word()
	case 4:
		p.Param = m.word()
	case 5:
		u.Threads[0] = api.Launch{Proc: m.word(), Arg: m.number()}
	default:
		m.breakStatement(&p.Body[m.Intn(len(p.Body))])
	}
	return u
}
