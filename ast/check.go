package ast

import (
	"slices"

	"modelcheck/api"
	"modelcheck/program"
)

// none is the number of the procedure or of the statement where an error mentions none.
const none = -1

// An object is a kind of objects that a statement can name.
type object int

const (
	nothing object = iota
	variable
	mutex
	cond
	procedure
)

// A row describes the fields of a kind of statements: whether it uses them, what Obj and Other name, and the number of Exprs.
type row struct {
	name, fn, order bool
	obj, other      object
	exprs           int
	body, otherwise bool
}

// rows has an empty row for 0, which is not a kind.
var rows = [...]row{
	api.StLet:       {name: true, exprs: 1},
	api.StLoad:      {name: true, obj: variable, order: true},
	api.StStore:     {obj: variable, order: true, exprs: 1},
	api.StSwap:      {name: true, obj: variable, order: true, exprs: 1},
	api.StFetchAdd:  {name: true, obj: variable, order: true, exprs: 1},
	api.StCas:       {name: true, obj: variable, order: true, exprs: 2},
	api.StFence:     {},
	api.StAwait:     {name: true, obj: variable, fn: true, order: true, exprs: 1},
	api.StLock:      {obj: mutex},
	api.StUnlock:    {obj: mutex},
	api.StTryLock:   {name: true, obj: mutex},
	api.StWait:      {obj: cond, other: mutex},
	api.StSignal:    {obj: cond},
	api.StBroadcast: {obj: cond},
	api.StSpawn:     {name: true, obj: procedure, exprs: 1},
	api.StJoin:      {exprs: 1},
	api.StAssert:    {exprs: 1},
	api.StIf:        {exprs: 1, body: true, otherwise: true},
	api.StWhile:     {exprs: 1, body: true},
	api.StReturn:    {},
}

// A unitCheck returns the first error of a part of a unit, with the procedure and the statement.
type unitCheck func() (api.Errno, int, int)

// A statementCheck returns the error of one property of a statement at a level, after the checks before it have found none.
type statementCheck func(s api.Stmt, level int) api.Errno

// Check returns the first error of a unit, with the procedure and the number of the statement.
func Check(u api.Unit) (api.Errno, int, int) {
	checks := [...]unitCheck{nameCheck(u), limitCheck(u), initCheck(u), procCheck(u), threadCheck(u)}
	for _, examine := range checks {
		if err, k, n := examine(); err != api.OK {
			return err, k, n
		}
	}
	return api.OK, none, none
}

// CheckExpr returns the first error of an expression with the given local variables.
func CheckExpr(e api.Expr, locals []string) api.Errno {
	for at := range expressions(e) {
		if at.level > api.MaxExpr {
			return api.ErrLimit
		}
	}
	for _, part := range expressions(e) {
		if err := checkPart(part, locals); err != api.OK {
			return err
		}
	}
	return api.OK
}

// nameCheck checks the names of the objects.
func nameCheck(u api.Unit) unitCheck {
	return func() (api.Errno, int, int) {
		itself := func(name string) string { return name }
		if err, _ := checkNames(u.Vars, func(v api.Var) string { return v.Name }); err != api.OK {
			return err, none, none
		}
		if err, _ := checkNames(u.Mutexes, itself); err != api.OK {
			return err, none, none
		}
		if err, _ := checkNames(u.Conds, itself); err != api.OK {
			return err, none, none
		}
		err, k := checkNames(u.Procs, func(p api.Proc) string { return p.Name })
		return err, k, none
	}
}

// checkNames returns the first error of the names of a list, with the number of the element.
func checkNames[T any](list []T, name func(T) string) (api.Errno, int) {
	// The length of the list is checked later, so it may be large: looking through all earlier names would take too long.
	seen := map[string]bool{}
	for k, element := range list {
		s := name(element)
		if !isName(s) {
			return api.ErrName, k
		}
		if seen[s] {
			return api.ErrTwice, k
		}
		seen[s] = true
	}
	return api.OK, none
}

// limitCheck checks the numbers of objects.
func limitCheck(u api.Unit) unitCheck {
	return func() (api.Errno, int, int) {
		within := len(u.Vars) <= api.MaxVars && len(u.Mutexes) <= api.MaxMutexes && len(u.Conds) <= api.MaxConds && len(u.Procs) <= api.MaxFuncs
		return unless(within, api.ErrLimit), none, none
	}
}

// initCheck checks the initial values of the variables.
func initCheck(u api.Unit) unitCheck {
	return func() (api.Errno, int, int) {
		for _, v := range u.Vars {
			if !isValue(v.Init) {
				return api.ErrRange, none, none
			}
		}
		return api.OK, none, none
	}
}

// procCheck checks the procedures.
func procCheck(u api.Unit) unitCheck {
	return func() (api.Errno, int, int) {
		for k, p := range u.Procs {
			if err := checkSize(p); err != api.OK {
				return err, k, none
			}
			checks := statementChecks(u, Locals(p))
			for at, s := range statements(p.Body) {
				for _, examine := range checks {
					if err := examine(s, at.level); err != api.OK {
						return err, k, at.number
					}
				}
			}
		}
		return api.OK, none, none
	}
}

// threadCheck checks the initial threads.
func threadCheck(u api.Unit) unitCheck {
	return func() (api.Errno, int, int) {
		if len(u.Threads) < 1 || len(u.Threads) > api.MaxThreads {
			return api.ErrLimit, none, none
		}
		for _, start := range u.Threads {
			if !exists(u, procedure, start.Proc) {
				return api.ErrObject, none, none
			}
			if !isValue(start.Arg) {
				return api.ErrRange, none, none
			}
		}
		return api.OK, none, none
	}
}

// checkSize returns the first error of a procedure that mentions no statement.
func checkSize(p api.Proc) api.Errno {
	if p.Param != "" && !isName(p.Param) {
		return api.ErrName
	}
	for at := range statements(p.Body) {
		if at.number >= api.MaxStmts {
			return api.ErrLimit
		}
	}
	// An empty Param is not a local variable, so all of them are others then.
	others := len(Locals(p))
	if p.Param != "" {
		others--
	}
	return unless(others < api.MaxLocals, api.ErrLimit)
}

// statementChecks returns the checks of the statements of a procedure with the given local variables, in their order.
func statementChecks(u api.Unit, locals []string) []statementCheck {
	return []statementCheck{
		func(s api.Stmt, level int) api.Errno { return unless(level <= api.MaxNest, api.ErrLimit) },
		func(s api.Stmt, _ int) api.Errno { return unless(isKind(s.Kind), api.ErrOp) },
		func(s api.Stmt, _ int) api.Errno { return unless(hasFields(s), api.ErrField) },
		func(s api.Stmt, _ int) api.Errno { return unless(!rows[s.Kind].name || isName(s.Name), api.ErrName) },
		func(s api.Stmt, _ int) api.Errno {
			r := rows[s.Kind]
			return unless(exists(u, r.obj, s.Obj) && exists(u, r.other, s.Other), api.ErrObject)
		},
		func(s api.Stmt, _ int) api.Errno { return unless(!rows[s.Kind].fn || isFn(s.Fn), api.ErrOp) },
		// An Order that is not used is 0 by now, which is a memory order.
		func(s api.Stmt, _ int) api.Errno { return unless(isOrder(s.Order), api.ErrOrder) },
		func(s api.Stmt, _ int) api.Errno {
			for _, e := range s.Exprs {
				if err := CheckExpr(e, locals); err != api.OK {
					return err
				}
			}
			return api.OK
		},
		func(s api.Stmt, _ int) api.Errno {
			return unless(s.Kind != api.StCas || Depth(s.Exprs[1]) < api.MaxExpr, api.ErrLimit)
		},
	}
}

// hasFields reports whether a statement has only fields that its kind uses, and the right number of Exprs.
func hasFields(s api.Stmt) bool {
	r := rows[s.Kind]
	return (r.name || s.Name == "") &&
		(r.obj != nothing || s.Obj == "") &&
		(r.other != nothing || s.Other == "") &&
		(r.fn || s.Fn == 0) &&
		(r.order || s.Order == 0) &&
		len(s.Exprs) == r.exprs &&
		(r.body || len(s.Body) == 0) &&
		(r.otherwise || len(s.Else) == 0)
}

// checkPart returns the first error of an expression apart from those of its Args.
func checkPart(e api.Expr, locals []string) api.Errno {
	number, local, calc := e.Kind == api.ExNumber, e.Kind == api.ExLocal, e.Kind == api.ExCalc
	args := 0
	if calc {
		args = 2
	}
	switch {
	case !number && !local && !calc:
		return api.ErrOp
	case !number && e.N != 0 || !local && e.Name != "" || !calc && e.Fn != 0 || len(e.Args) != args:
		return api.ErrField
	case !isValue(e.N):
		return api.ErrRange
	case local && !isName(e.Name):
		return api.ErrName
	case local && !slices.Contains(locals, e.Name):
		return api.ErrObject
	case calc && !isFn(e.Fn):
		return api.ErrOp
	}
	return api.OK
}

// exists reports whether a unit has an object of a kind with the given name. A field that names nothing needs none.
func exists(u api.Unit, kind object, name string) bool {
	switch kind {
	case variable:
		return slices.ContainsFunc(u.Vars, func(v api.Var) bool { return v.Name == name })
	case mutex:
		return slices.Contains(u.Mutexes, name)
	case cond:
		return slices.Contains(u.Conds, name)
	case procedure:
		return slices.ContainsFunc(u.Procs, func(p api.Proc) bool { return p.Name == name })
	}
	return true
}

// unless returns an error if a property does not hold.
func unless(holds bool, err api.Errno) api.Errno {
	if holds {
		return api.OK
	}
	return err
}

// isName reports whether s is a name of the structured language.
func isName(s string) bool {
	return program.ValidName(s) && !isKeyword(s)
}

// isKeyword reports whether s is a keyword.
func isKeyword(s string) bool {
	switch s {
	case "var", "mutex", "cond", "proc", "thread",
		"load", "store", "swap", "fetchadd", "cas", "fence", "await",
		"lock", "unlock", "trylock", "wait", "signal", "broadcast", "spawn", "join",
		"assert", "if", "else", "while", "return",
		"plain", "relaxed", "relacq",
		"add", "sub", "mul", "and", "or", "xor", "eq", "ne", "lt", "le":
		return true
	}
	return false
}

// isKind reports whether k is a kind of statements.
func isKind(k api.StmtKind) bool {
	return k >= api.StLet && k <= api.StReturn
}

// isFn reports whether f is a function on values.
func isFn(f api.Fn) bool {
	return f >= api.FnAdd && f <= api.FnLe
}

// isOrder reports whether o is a memory order.
func isOrder(o api.Order) bool {
	return o >= api.Plain && o <= api.RelAcq
}

// isValue reports whether n is a value.
func isValue(n int) bool {
	return n >= api.MinValue && n <= api.MaxValue
}
