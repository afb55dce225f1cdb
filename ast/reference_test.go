package ast

import (
	"math"
	"math/rand"
	"reflect"
	"slices"
	"strings"
	"testing"

	"modelcheck/api"
	"modelcheck/program"
)

// keywords are the keywords, as the chapter lists them.
const keywords = "var, mutex, cond, proc, thread, load, store, swap, fetchadd, cas, fence, await, lock, unlock, trylock, wait, signal, broadcast, " +
	"spawn, join, assert, if, else, while, return, plain, relaxed, relacq, add, sub, mul, and, or, xor, eq, ne, lt, le"

// referenceName reports by the definition whether s is a name.
func referenceName(s string) bool {
	return program.ValidName(s) && !slices.Contains(strings.Split(keywords, ", "), s)
}

// A numbered statement is a statement with its level; its number is its place in the list of all of them.
type numbered struct {
	s     api.Stmt
	level int
}

// flatten lists the statements of a block by their numbers.
func flatten(block []api.Stmt, level int) []numbered {
	var all []numbered
	for _, s := range block {
		all = append(all, numbered{s, level})
		all = append(all, flatten(s.Body, level+1)...)
		all = append(all, flatten(s.Else, level+1)...)
	}
	return all
}

// referenceLocals lists the local variables by the definition: the Param, and the others.
func referenceLocals(p api.Proc) (param, others []string) {
	if p.Param != "" {
		param = []string{p.Param}
	}
	for _, x := range flatten(p.Body, 1) {
		_, uses := field(x.s.Kind, "Name")
		if uses && !slices.Contains(param, x.s.Name) && !slices.Contains(others, x.s.Name) {
			others = append(others, x.s.Name)
		}
	}
	return param, others
}

// referenceDepth is the depth of an expression by the definition.
func referenceDepth(e api.Expr) int {
	largest := 0
	for _, arg := range e.Args {
		largest = max(largest, referenceDepth(arg))
	}
	return 1 + largest
}

// isInt32 reports whether n is a value.
func isInt32(n int) bool {
	return int(int32(n)) == n
}

// exprErrors lists the errors of an expression and of its Args in their order.
func exprErrors(e api.Expr, locals []string) []api.Errno {
	var all []api.Errno
	add := func(wrong bool, err api.Errno) {
		if wrong {
			all = append(all, err)
		}
	}
	switch e.Kind {
	case 1:
		add(e.Name != "" || e.Fn != 0 || len(e.Args) > 0, api.ErrField)
		add(!isInt32(e.N), api.ErrRange)
	case 2:
		add(e.N != 0 || e.Fn != 0 || len(e.Args) > 0, api.ErrField)
		add(!referenceName(e.Name), api.ErrName)
		add(slices.Index(locals, e.Name) == -1, api.ErrObject)
	case 3:
		add(e.N != 0 || e.Name != "" || len(e.Args) != 2, api.ErrField)
		add(e.Fn < 1 || e.Fn > 10, api.ErrOp)
	default:
		add(true, api.ErrOp)
	}
	for _, arg := range e.Args {
		all = append(all, exprErrors(arg, locals)...)
	}
	return all
}

// referenceExpr is CheckExpr by its definition.
func referenceExpr(e api.Expr, locals []string) api.Errno {
	if referenceDepth(e) > 3 {
		return api.ErrLimit
	}
	return append(exprErrors(e, locals), api.OK)[0]
}

// named returns the names of the objects of a unit of each kind, by the words of the table.
func named(u api.Unit) map[string][]string {
	all := map[string][]string{"mutex": u.Mutexes, "condition": u.Conds}
	for _, v := range u.Vars {
		all["variable"] = append(all["variable"], v.Name)
	}
	for _, p := range u.Procs {
		all["procedure"] = append(all["procedure"], p.Name)
	}
	return all
}

// statementErrors lists the errors of a statement in their order.
func statementErrors(u api.Unit, x numbered, locals []string) []api.Errno {
	var all []api.Errno
	add := func(wrong bool, err api.Errno) {
		if wrong {
			all = append(all, err)
		}
	}
	s, table := x.s, fieldTable[x.s.Kind]
	add(x.level > 12, api.ErrLimit)
	add(s.Kind < 1 || s.Kind > 20, api.ErrOp)
	_, name := field(s.Kind, "Name")
	obj, hasObj := field(s.Kind, "Obj")
	other, hasOther := field(s.Kind, "Other")
	fn, order := strings.Contains(table, "Fn"), strings.Contains(table, "Order")
	add(!name && s.Name != "" || !hasObj && s.Obj != "" || !hasOther && s.Other != "" || !fn && s.Fn != 0 || !order && s.Order != 0, api.ErrField)
	add(len(s.Exprs) != exprsOf(s.Kind), api.ErrField)
	add(!strings.Contains(table, "Body") && len(s.Body) > 0 || !strings.Contains(table, "Else") && len(s.Else) > 0, api.ErrField)
	add(name && !referenceName(s.Name), api.ErrName)
	add(hasObj && !slices.Contains(named(u)[obj], s.Obj), api.ErrObject)
	add(hasOther && !slices.Contains(named(u)[other], s.Other), api.ErrObject)
	add(fn && (s.Fn < 1 || s.Fn > 10), api.ErrOp)
	add(order && (s.Order < 0 || s.Order > 2), api.ErrOrder)
	for _, e := range s.Exprs {
		add(referenceExpr(e, locals) != api.OK, referenceExpr(e, locals))
	}
	add(s.Kind == 6 && len(s.Exprs) > 1 && referenceDepth(s.Exprs[1]) > 2, api.ErrLimit)
	return all
}

// reference is Check by its definition: it lists all errors in their order and returns the first one.
func reference(u api.Unit) result {
	var all []result
	add := func(wrong bool, err api.Errno, k, n int) {
		if wrong {
			all = append(all, result{err, k, n})
		}
	}
	for _, list := range []string{"variable", "mutex", "condition", "procedure"} {
		elements := named(u)[list]
		for k, name := range elements {
			mentioned := -1
			if list == "procedure" {
				mentioned = k
			}
			add(!referenceName(name), api.ErrName, mentioned, -1)
			add(slices.Index(elements, name) < k, api.ErrTwice, mentioned, -1)
		}
	}
	add(len(u.Vars) > 8 || len(u.Mutexes) > 4 || len(u.Conds) > 4 || len(u.Procs) > 8, api.ErrLimit, -1, -1)
	for _, v := range u.Vars {
		add(!isInt32(v.Init), api.ErrRange, -1, -1)
	}
	for k, p := range u.Procs {
		param, others := referenceLocals(p)
		flat := flatten(p.Body, 1)
		add(p.Param != "" && !referenceName(p.Param), api.ErrName, k, -1)
		add(len(flat) > 128, api.ErrLimit, k, -1)
		add(len(others) > 4, api.ErrLimit, k, -1)
		for n, x := range flat {
			for _, err := range statementErrors(u, x, append(param, others...)) {
				add(true, err, k, n)
			}
		}
	}
	add(len(u.Threads) == 0 || len(u.Threads) > 8, api.ErrLimit, -1, -1)
	for _, start := range u.Threads {
		add(!slices.Contains(named(u)["procedure"], start.Proc), api.ErrObject, -1, -1)
		add(!isInt32(start.Arg), api.ErrRange, -1, -1)
	}
	return append(all, good)[0]
}

// A maker makes random units.
type maker struct {
	*rand.Rand
}

// pick returns a random element of a list.
func pick[T any](m maker, list ...T) T {
	return list[m.Intn(len(list))]
}

// expr makes an expression of at most the given depth with the given variables.
func (m maker) expr(depth int, locals []string) api.Expr {
	switch {
	case depth > 1 && m.Intn(2) == 0:
		return calc(api.Fn(1+m.Intn(10)), m.expr(depth-1, locals), m.expr(depth-1, locals))
	case len(locals) > 0 && m.Intn(2) == 0:
		return local(pick(m, locals...))
	}
	return number(pick(m, 0, 1, -1, 9, math.MaxInt32, math.MinInt32))
}

// block makes a block with statements of the given level whose names are among those of the procedure.
func (m maker) block(u api.Unit, level int, locals []string) []api.Stmt {
	var block []api.Stmt
	for range m.Intn(4) {
		s := api.Stmt{Kind: pick(m, kinds()...)}
		if obj, ok := field(s.Kind, "Obj"); ok {
			if len(named(u)[obj]) == 0 {
				continue
			}
			s.Obj = pick(m, named(u)[obj]...)
		}
		if other, ok := field(s.Kind, "Other"); ok {
			if len(named(u)[other]) == 0 {
				continue
			}
			s.Other = pick(m, named(u)[other]...)
		}
		if _, ok := field(s.Kind, "Name"); ok {
			s.Name = pick(m, locals...)
		}
		if _, ok := field(s.Kind, "Fn"); ok {
			s.Fn = api.Fn(1 + m.Intn(10))
		}
		if _, ok := field(s.Kind, "Order"); ok {
			s.Order = api.Order(m.Intn(3))
		}
		for k := range exprsOf(s.Kind) {
			s.Exprs = append(s.Exprs, m.expr(3-k, locals))
		}
		if _, ok := field(s.Kind, "Body"); ok && level < 12 {
			s.Body = m.block(u, level+1, locals)
		}
		if _, ok := field(s.Kind, "Else"); ok && level < 12 {
			s.Else = m.block(u, level+1, locals)
		}
		block = append(block, s)
	}
	return block
}

// proc fills a procedure of a unit with valid statements.
func (m maker) proc(u api.Unit, p *api.Proc) {
	locals := []string{"a", "b1", "C_", "d"}[:1+m.Intn(4)]
	p.Body = m.block(u, 1, append(slices.Clone(locals), pick(m, "a", "p")))
	if m.Intn(2) == 0 {
		p.Param = pick(m, "p", "q", "a")
	}
	// Variables that no statement assigns, and those beyond the limit, are replaced.
	param, others := referenceLocals(*p)
	if len(others) > 4 {
		p.Param = "p"
		param, others = referenceLocals(*p)
	}
	var repair func(list []api.Expr)
	repair = func(list []api.Expr) {
		for k := range list {
			if list[k].Kind == api.ExLocal && !slices.Contains(param, list[k].Name) && !slices.Contains(others, list[k].Name) {
				list[k] = number(k)
			}
			repair(list[k].Args)
		}
	}
	for _, x := range flatten(p.Body, 1) {
		repair(x.s.Exprs)
	}
}

// unit makes a valid unit.
func (m maker) unit() api.Unit {
	u := api.Unit{Mutexes: names("m", m.Intn(5)), Conds: names("c", m.Intn(5))}
	for _, name := range names("x", m.Intn(9)) {
		u.Vars = append(u.Vars, api.Var{Name: name, Init: pick(m, 0, 5, math.MaxInt32, math.MinInt32)})
	}
	for _, name := range names("f", 1+m.Intn(8)) {
		u.Procs = append(u.Procs, api.Proc{Name: name})
	}
	for k := range u.Procs {
		m.proc(u, &u.Procs[k])
	}
	for range 1 + m.Intn(8) {
		u.Threads = append(u.Threads, api.Launch{Proc: pick(m, u.Procs...).Name, Arg: pick(m, 0, 1, math.MaxInt32, math.MinInt32)})
	}
	return u
}

// change changes a random number, text or list of a unit.
func (m maker) change(u *api.Unit) {
	leaves, lists := spots(u)
	if m.Intn(3) > 0 && len(leaves) > 0 {
		switch v := pick(m, leaves...).v; v.Kind() {
		case reflect.Int:
			v.SetInt(pick[int64](m, -1, 0, 1, 2, 3, 4, 6, 8, 10, 11, 18, 19, 20, 21, 1<<31, -1<<31-1))
		case reflect.String:
			v.SetString(pick(m, "", "a", "d", "p", "x0", "x1", "m0", "c0", "f0", "f1", "if", "_", "1a", "Var", "abcdefghijklmnop", "abcdefghijklmnopq"))
		}
		return
	}
	v := pick(m, lists...).v
	switch n := v.Len(); {
	case m.Intn(2) == 0 && n > 0:
		v.Set(v.Slice(0, n-1))
	case m.Intn(2) == 0 && n > 0:
		for range pick(m, 1, 3, 8) {
			v.Set(reflect.Append(v, deepCopy(v.Index(m.Intn(n)), 0)))
		}
	default:
		v.Set(reflect.Append(v, reflect.Zero(v.Type().Elem())))
	}
}

// TestCheckReference compares Check, Locals, Count and CheckExpr with their definitions, for valid units and units with random faults.
func TestCheckReference(t *testing.T) {
	m := maker{rand.New(rand.NewSource(16))}
	found := map[api.Errno]int{}
	for round := range 8000 {
		u := m.unit()
		if got := checked(u); got != good {
			t.Fatalf("Check of the valid unit %+v: %v", u, got)
		}
		if round%2 == 0 {
			u = fresh(full())
		}
		for range 1 + m.Intn(4) {
			m.change(&u)
		}
		want := reference(u)
		if got := checked(u); got != want {
			t.Fatalf("Check(%+v): %v, want %v", u, got, want)
		}
		found[want.err]++
		for _, p := range u.Procs {
			param, others := referenceLocals(p)
			if got := Locals(p); !slices.Equal(got, append(param, others...)) {
				t.Fatalf("Locals(%+v): %q, want %q and %q", p, got, param, others)
			}
			if got := Count(p.Body); got != len(flatten(p.Body, 1)) {
				t.Fatalf("Count(%+v): %d", p.Body, got)
			}
		}
	}
	for _, err := range []api.Errno{api.OK, api.ErrName, api.ErrTwice, api.ErrLimit, api.ErrRange, api.ErrOp, api.ErrField, api.ErrOrder, api.ErrObject} {
		if found[err] < 50 {
			t.Errorf("only %d units have the result %d", found[err], err)
		}
	}
}

// TestCheckExprReference compares CheckExpr and Depth with their definitions, for random expressions.
func TestCheckExprReference(t *testing.T) {
	m := maker{rand.New(rand.NewSource(17))}
	found := map[api.Errno]int{}
	for range 60000 {
		holder := simple(let("a", m.expr(1+m.Intn(4), []string{"a", "b", "le"})))
		holder.Vars, holder.Mutexes, holder.Conds, holder.Threads = nil, nil, nil, nil
		for range m.Intn(3) {
			m.change(&holder)
		}
		for _, p := range holder.Procs {
			for _, s := range p.Body {
				for _, e := range s.Exprs {
					locals := pick(m, nil, []string{"a"}, []string{"b", "a"}, []string{"a", "b", "le", "", "1a"})
					want := referenceExpr(e, locals)
					if got := CheckExpr(e, locals); got != want {
						t.Fatalf("CheckExpr(%+v, %q): %d, want %d", e, locals, got, want)
					}
					if got := Depth(e); got != referenceDepth(e) {
						t.Fatalf("Depth(%+v): %d", e, got)
					}
					found[want]++
				}
			}
		}
	}
	for _, err := range []api.Errno{api.OK, api.ErrName, api.ErrLimit, api.ErrRange, api.ErrOp, api.ErrField, api.ErrObject} {
		if found[err] < 50 {
			t.Errorf("only %d expressions have the result %d", found[err], err)
		}
	}
}

// TestLocalVariables checks P16.5 for valid units, and that the variables of a prefix are a prefix for any unit.
func TestLocalVariables(t *testing.T) {
	m := maker{rand.New(rand.NewSource(18))}
	counts := map[int]bool{}
	for round := range 3000 {
		u := m.unit()
		if round%3 == 0 {
			m.change(&u)
		}
		valid := checked(u) == good
		for _, p := range u.Procs {
			locals := Locals(p)
			for k := range locals {
				if slices.Contains(locals[:k], locals[k]) {
					t.Fatalf("Locals(%+v): %q", p, locals)
				}
			}
			for k := range p.Body {
				prefix := Locals(api.Proc{Param: p.Param, Body: p.Body[:k]})
				if !slices.Equal(prefix, locals[:min(len(prefix), len(locals))]) {
					t.Fatalf("Locals of %d statements of %+v: %q, no prefix of %q", k, p, prefix, locals)
				}
			}
			if !valid {
				continue
			}
			counts[len(locals)] = true
			if len(locals) > api.MaxLocals {
				t.Fatalf("Locals(%+v) of a valid unit: %q", p, locals)
			}
			for _, x := range flatten(p.Body, 1) {
				for _, e := range x.s.Exprs {
					for _, part := range expressions(e) {
						if part.Kind == api.ExLocal && !slices.Contains(locals, part.Name) {
							t.Fatalf("the variable %q of %+v is not among %q", part.Name, p, locals)
						}
					}
				}
			}
		}
	}
	same(t, "numbers of local variables", len(counts), 6)
}

// TestBlocks checks P16.6, for valid units and others.
func TestBlocks(t *testing.T) {
	m := maker{rand.New(rand.NewSource(19))}
	for round := range 3000 {
		u := m.unit()
		for range round % 4 {
			m.change(&u)
		}
		c := Clone(u)
		if !Equal(u, c) || !Equal(c, u) || !Equal(u, u) || checked(c) != checked(u) {
			t.Fatalf("%+v and its clone %+v", u, c)
		}
		if len(u.Procs) == 0 {
			continue
		}
		a, b := pick(m, u.Procs...).Body, pick(m, u.Procs...).Body
		if got := Count(slices.Concat(a, b)); got != Count(a)+Count(b) {
			t.Fatalf("Count of %+v and %+v: %d", a, b, got)
		}
		blocks := []*[]api.Stmt{}
		_, lists := spots(&c)
		for _, x := range lists {
			if block, ok := x.v.Addr().Interface().(*[]api.Stmt); ok {
				blocks = append(blocks, block)
			}
		}
		block := pick(m, blocks...)
		*block = slices.Insert(*block, m.Intn(len(*block)+1), pick(m, fence(), api.Stmt{}, let("a", number(1)), while(fence())))
		if Equal(u, c) || Equal(c, u) {
			t.Fatalf("%+v equals %+v with an additional statement", u, c)
		}
	}
}
