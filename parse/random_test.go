package parse

import (
	"math/rand"

	"modelcheck/api"
)

// A maker makes random units.
type maker struct {
	*rand.Rand
	locals []string
	wild   bool // whether the unit may be invalid
	left   int  // how many statements may still be made
}

// pick returns one of some words, and sometimes another one if the unit may be invalid.
func (m *maker) pick(words ...string) string {
	if m.wild && m.Intn(60) == 0 {
		return []string{"z", "x", "m", "c", "f", "a_name_too_long_1"}[m.Intn(6)]
	}
	return words[m.Intn(len(words))]
}

// value returns a value.
func (m *maker) value() int {
	return []int{0, 1, -1, 7, api.MaxValue, api.MinValue, m.Intn(1 << 20)}[m.Intn(7)]
}

// expr returns an expression of at most the given depth.
func (m *maker) expr(depth int) api.Expr {
	if m.wild && m.Intn(60) == 0 {
		depth++
	}
	switch {
	case depth > 1 && m.Intn(2) == 0:
		return api.Expr{Kind: api.ExCalc, Fn: api.Fn(1 + m.Intn(10)), Args: []api.Expr{m.expr(depth - 1), m.expr(depth - 1)}}
	case m.Intn(2) == 0:
		return api.Expr{Kind: api.ExLocal, Name: m.pick(m.locals...)}
	}
	return api.Expr{Kind: api.ExNumber, N: m.value()}
}

// block returns a block.
func (m *maker) block(level int) []api.Stmt {
	var l []api.Stmt
	for range m.Intn(6) {
		if m.left > 0 {
			m.left--
			l = append(l, m.statement(level))
		}
	}
	return l
}

// statement returns a statement.
func (m *maker) statement(level int) api.Stmt {
	s := api.Stmt{Kind: api.StmtKind(1 + m.Intn(20))}
	if level == 0 {
		s.Kind = api.StmtKind(1 + m.Intn(17))
	}
	exprs := func(depths ...int) {
		for _, depth := range depths {
			s.Exprs = append(s.Exprs, m.expr(depth))
		}
	}
	access := func(depths ...int) {
		s.Obj, s.Order = m.pick("x", "y"), api.Order(m.Intn(3))
		exprs(depths...)
	}
	switch s.Kind {
	case api.StLet, api.StLoad, api.StSwap, api.StFetchAdd, api.StCas, api.StAwait, api.StTryLock, api.StSpawn:
		s.Name = m.pick(m.locals...)
	}
	switch s.Kind {
	case api.StLet, api.StJoin, api.StAssert:
		exprs(3)
	case api.StLoad:
		access()
	case api.StStore, api.StSwap, api.StFetchAdd:
		access(3)
	case api.StCas:
		access(3, 2)
	case api.StAwait:
		access(3)
		s.Fn = api.Fn(1 + m.Intn(10))
	case api.StLock, api.StUnlock, api.StTryLock:
		s.Obj = m.pick("m", "n")
	case api.StWait:
		s.Obj, s.Other = m.pick("c", "d"), m.pick("m", "n")
	case api.StSignal, api.StBroadcast:
		s.Obj = m.pick("c", "d")
	case api.StSpawn:
		s.Obj = m.pick("f", "g")
		exprs(3)
	case api.StIf:
		exprs(3)
		s.Body, s.Else = m.block(level-1), m.block(level-1)
	case api.StWhile:
		exprs(3)
		s.Body = m.block(level - 1)
	}
	return s
}

// unit returns a unit, which is valid unless it may be invalid.
func (m *maker) unit() api.Unit {
	u := api.Unit{
		Vars:    []api.Var{{Name: m.pick("x"), Init: m.value()}, {Name: m.pick("y"), Init: m.value()}},
		Mutexes: []string{m.pick("m"), m.pick("n")},
		Conds:   []string{m.pick("c"), m.pick("d")},
	}
	for _, name := range []string{"f", "g"} {
		m.locals, m.left = []string{"a", "b", "e", "x"}, 40
		p := api.Proc{Name: m.pick(name)}
		// All local variables are assigned, so each of them can be used anywhere.
		for _, local := range m.locals {
			p.Body = append(p.Body, api.Stmt{Kind: api.StLet, Name: local, Exprs: []api.Expr{m.expr(1)}})
		}
		if m.Intn(2) == 0 {
			p.Param = m.pick("p", "a")
		}
		p.Body = append(p.Body, m.block(3)...)
		u.Procs = append(u.Procs, p)
	}
	for range 1 + m.Intn(8) {
		u.Threads = append(u.Threads, api.Launch{Proc: m.pick("f", "g"), Arg: m.value()})
	}
	return u
}
