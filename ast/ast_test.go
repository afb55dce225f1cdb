package ast

import (
	"fmt"
	"math"
	"reflect"
	"runtime/debug"
	"slices"
	"strings"
	"testing"

	"modelcheck/api"
)

// example is the procedure of the first example of the chapter.
func example() api.Proc {
	return api.Proc{Name: "p", Param: "a", Body: []api.Stmt{
		let("b", number(1)),
		{Kind: api.StIf, Exprs: []api.Expr{local("a")}, Body: []api.Stmt{let("c", local("b"))}},
	}}
}

// TestExamples checks the examples of the chapter.
func TestExamples(t *testing.T) {
	p := example()
	same(t, "Locals", Locals(p), []string{"a", "b", "c"})
	same(t, "Count", Count(p.Body), 3)
	u := api.Unit{Procs: []api.Proc{p}, Threads: []api.Launch{{Proc: "p"}}}
	checks(t, "the example", u, good)
	u.Procs[0].Body[1].Body[0].Exprs[0].Name = "d"
	checks(t, "the example with c = d", u, result{api.ErrObject, 0, 2})
	for at, s := range statements(p.Body) {
		if s.Name == "c" {
			same(t, "place of c = b", at, place{2, 2})
		}
	}
	same(t, "CheckExpr of (a add b)", CheckExpr(calc(api.FnAdd, local("a"), local("b")), []string{"a"}), api.ErrObject)
	same(t, "CheckExpr of a deep expression", CheckExpr(deep(4, 0), []string{"a"}), api.ErrLimit)
}

// TestCheckValid checks P16.1: units without an error.
func TestCheckValid(t *testing.T) {
	checks(t, "a unit with every kind", full(), good)
	checks(t, "a unit without statements", simple(), good)
	checks(t, "a unit with nil lists", api.Unit{Procs: []api.Proc{{Name: "f"}}, Threads: []api.Launch{{Proc: "f"}}}, good)
	checks(t, "a unit with empty lists", api.Unit{
		Vars: []api.Var{}, Mutexes: []string{}, Conds: []string{},
		Procs: []api.Proc{{Name: "f", Body: []api.Stmt{
			{Kind: api.StFence, Exprs: []api.Expr{}, Body: []api.Stmt{}, Else: []api.Stmt{}},
			{Kind: api.StJoin, Exprs: []api.Expr{{Kind: api.ExNumber, Args: []api.Expr{}}}, Else: []api.Stmt{}},
		}}},
		Threads: []api.Launch{{Proc: "f"}},
	}, good)
	checks(t, "no unit", api.Unit{}, result{api.ErrLimit, -1, -1})
	checks(t, "a unit without procedures", api.Unit{Threads: []api.Launch{{}}}, result{api.ErrObject, -1, -1})
	// Objects of different kinds, and local variables, may have the same names.
	checks(t, "a unit with one name", api.Unit{
		Vars: []api.Var{{Name: "a"}}, Mutexes: []string{"a"}, Conds: []string{"a"},
		Procs: []api.Proc{{Name: "a", Param: "a", Body: []api.Stmt{
			{Kind: api.StLoad, Name: "a", Obj: "a"}, {Kind: api.StWait, Obj: "a", Other: "a"}, {Kind: api.StSpawn, Name: "a", Obj: "a", Exprs: []api.Expr{local("a")}},
		}}},
		Threads: []api.Launch{{Proc: "a"}},
	}, good)
	for _, kind := range kinds() {
		checks(t, fmt.Sprint("a unit with a statement of the kind ", kind), simple(sample(kind)), good)
	}
}

// validNames are names.
var validNames = []string{"a", "Z", "x1y2", "a_b_c", "abcdefghijklmnop", "Var", "IF", "If", "var1", "if_", "els", "whiles", "const", "copy", "stop", "func", "end", "do", "main", "do_", "plain0"}

// invalidNames are no names: keywords, and texts that are no names of a program.
var invalidNames = append(strings.Split(keywords, ", "), "", "0", "_", "1a", "_a", "abcdefghijklmnopq", " ", "a ", " a", "a b", "a-b", "a\n", "é", "aé", "a\xff", "if ", "var,", "var mutex", strings.Repeat("a", 100000))

// naming describes a place of a name in a unit: how to put one there, and the place that an error mentions.
var naming = []struct {
	place string
	put   func(u *api.Unit, name string)
	want  result
}{
	{"variable 0", func(u *api.Unit, name string) { u.Vars[0].Name = name }, result{api.ErrName, -1, -1}},
	{"variable 2", func(u *api.Unit, name string) { u.Vars[2].Name = name }, result{api.ErrName, -1, -1}},
	{"mutex 0", func(u *api.Unit, name string) { u.Mutexes[0] = name }, result{api.ErrName, -1, -1}},
	{"mutex 1", func(u *api.Unit, name string) { u.Mutexes[1] = name }, result{api.ErrName, -1, -1}},
	{"condition variable 2", func(u *api.Unit, name string) { u.Conds[2] = name }, result{api.ErrName, -1, -1}},
	{"procedure 0", func(u *api.Unit, name string) { u.Procs[0].Name = name }, result{api.ErrName, 0, -1}},
	{"procedure 1", func(u *api.Unit, name string) { u.Procs[1].Name = name }, result{api.ErrName, 1, -1}},
	{"procedure 2", func(u *api.Unit, name string) { u.Procs[2].Name = name }, result{api.ErrName, 2, -1}},
	{"parameter of procedure 0", func(u *api.Unit, name string) { u.Procs[0].Param = name }, result{api.ErrName, 0, -1}},
	{"parameter of procedure 2", func(u *api.Unit, name string) { u.Procs[2].Param = name }, result{api.ErrName, 2, -1}},
	{"statement 0 of procedure 0", func(u *api.Unit, name string) { u.Procs[0].Body[0].Name = name }, result{api.ErrName, 0, 0}},
	{"statement 2 of procedure 0", func(u *api.Unit, name string) { u.Procs[0].Body[1].Body[0].Name = name }, result{api.ErrName, 0, 2}},
	{"statement 6 of procedure 0", func(u *api.Unit, name string) { u.Procs[0].Body[1].Else[0].Name = name }, result{api.ErrName, 0, 6}},
	{"statement 4 of procedure 1", func(u *api.Unit, name string) { u.Procs[1].Body[4].Name = name }, result{api.ErrName, 1, 4}},
}

// bare is the unit full with statements that depend on no name that a test changes.
func bare() api.Unit {
	u := full()
	for k := range u.Procs {
		p := &u.Procs[k]
		for _, x := range flatten(p.Body, 1) {
			for n, e := range x.s.Exprs {
				x.s.Exprs[n] = number(referenceDepth(e))
			}
		}
	}
	// One variable fewer leaves room for that of a name that is put in.
	u.Procs[0].Body[1].Else[1].Name = "c"
	u.Threads = []api.Launch{{Proc: "f"}}
	return u
}

// TestCheckNames checks P16.1: names, keywords and other texts at each place where a name is needed.
func TestCheckNames(t *testing.T) {
	same(t, "number of keywords", len(strings.Split(keywords, ", ")), 38)
	for _, x := range naming {
		for _, name := range invalidNames {
			u := bare()
			x.put(&u, name)
			want := x.want
			if name == "" && strings.Contains(x.place, "parameter") {
				want = good
			}
			checks(t, fmt.Sprintf("a unit with the name %.20q of %s", name, x.place), u, want)
		}
		for _, name := range validNames {
			u := bare()
			x.put(&u, name)
			if err, _, _ := Check(u); err == api.ErrName {
				t.Errorf("the name %q of %s is not accepted", name, x.place)
			}
			same(t, fmt.Sprintf("Check with the name %q of %s", name, x.place), checked(u), reference(u))
		}
	}
	// Every kind that uses Name needs one.
	for _, kind := range kinds() {
		if _, ok := field(kind, "Name"); ok {
			for _, name := range invalidNames {
				s := sample(kind)
				s.Name = name
				checks(t, fmt.Sprintf("a statement of the kind %d with the name %.20q", kind, name), simple(fence(), s), result{api.ErrName, 0, 1})
			}
		}
	}
}

// listing describes a list of names: how to replace it, whether an error mentions the procedure, and the limit.
var listing = []struct {
	list     string
	put      func(u *api.Unit, names []string)
	mentions bool
	limit    int
}{
	{"Vars", func(u *api.Unit, names []string) {
		u.Vars = nil
		for _, name := range names {
			u.Vars = append(u.Vars, api.Var{Name: name})
		}
	}, false, 8},
	{"Mutexes", func(u *api.Unit, names []string) { u.Mutexes = names }, false, 4},
	{"Conds", func(u *api.Unit, names []string) { u.Conds = names }, false, 4},
	{"Procs", func(u *api.Unit, names []string) {
		u.Procs = nil
		for _, name := range names {
			u.Procs = append(u.Procs, api.Proc{Name: name})
		}
		u.Threads = []api.Launch{{Proc: names[0]}}
	}, true, 8},
}

// TestCheckTwice checks P16.1: names that occur twice, in their order with wrong names.
func TestCheckTwice(t *testing.T) {
	for _, kind := range listing {
		fails := func(err api.Errno, k int, names ...string) {
			t.Helper()
			u := simple()
			kind.put(&u, names)
			want := result{err, -1, -1}
			if kind.mentions {
				want.proc = k
			}
			checks(t, fmt.Sprintf("%s %q", kind.list, names), u, want)
		}
		fails(api.OK, -1, "a", "A", "aa", "a_")
		fails(api.ErrTwice, 1, "a", "a", "b")
		fails(api.ErrTwice, 2, "a", "b", "a")
		fails(api.ErrTwice, 3, "a", "b", "c", "b")
		fails(api.ErrTwice, 1, "a", "a", "a")
		fails(api.ErrTwice, 2, "b", "a", "a", "b")
		fails(api.ErrTwice, 4, "a", "b", "c", "d", "d")
		fails(api.ErrTwice, 1, "a", "a", "")
		fails(api.ErrTwice, 1, "a", "a", "if")
		fails(api.ErrName, 1, "a", "if", "if")
		fails(api.ErrName, 1, "a", "", "a")
		fails(api.ErrName, 0, "le", "le")
	}
}

// TestCheckLimits checks P16.1: the numbers of objects, after all names, and of initial threads.
func TestCheckLimits(t *testing.T) {
	for _, kind := range listing {
		for _, count := range []int{1, kind.limit - 1, kind.limit, kind.limit + 1, 2 * kind.limit, 1000} {
			u, want := simple(), good
			if count > kind.limit {
				want = result{api.ErrLimit, -1, -1}
			}
			kind.put(&u, names("a", count))
			checks(t, fmt.Sprint(count, " ", kind.list), u, want)
			for _, k := range []int{0, count / 2, count - 1} {
				list := names("a", count)
				list[k] = "while"
				want := result{api.ErrName, -1, -1}
				if kind.mentions {
					want.proc = k
				}
				kind.put(&u, list)
				checks(t, fmt.Sprintf("%d %s with the name %d wrong", count, kind.list, k), u, want)
			}
		}
	}
	all := simple()
	for _, kind := range listing {
		kind.put(&all, names("a", kind.limit))
	}
	checks(t, "all lists at their limits", all, good)
	for _, count := range []int{0, 1, 2, 7, 8, 9, 10, 1000} {
		u, want := simple(), good
		if count < 1 || count > 8 {
			want = result{api.ErrLimit, -1, -1}
		}
		u.Threads = slices.Repeat([]api.Launch{{Proc: "g"}}, count)
		checks(t, fmt.Sprint(count, " initial threads"), u, want)
	}
	// The length of a list is examined after all names, so it may be large.
	large := simple()
	listing[0].put(&large, names("a", 200000))
	checks(t, "200000 variables", large, result{api.ErrLimit, -1, -1})
}

// numbers are values, and numbers that are none.
var numbers = map[int]bool{
	0: true, 1: true, -1: true, -2147483648: true, -2147483647: true, 2147483647: true, 2147483646: true,
	-2147483649: false, 2147483648: false, 1 << 32: false, -1 << 32: false, 1<<32 + 1: false, math.MaxInt: false, math.MinInt: false,
}

// TestCheckValues checks P16.1 and P16.2: initial values, arguments of threads, and numbers of expressions.
func TestCheckValues(t *testing.T) {
	for n, ok := range numbers {
		want, err := good, api.OK
		if !ok {
			want, err = result{api.ErrRange, -1, -1}, api.ErrRange
		}
		for k := range 3 {
			u := full()
			u.Vars[k].Init = n
			checks(t, fmt.Sprintf("Init %d of variable %d", n, k), u, want)
			u = full()
			u.Threads[k].Arg = n
			checks(t, fmt.Sprintf("Arg %d of thread %d", n, k), u, want)
		}
		same(t, fmt.Sprintf("CheckExpr of %d", n), CheckExpr(number(n), nil), err)
		same(t, fmt.Sprintf("CheckExpr of a sum with %d", n), CheckExpr(calc(api.FnAdd, number(1), number(n)), nil), err)
		if !ok {
			want = result{api.ErrRange, 0, 1}
		}
		checks(t, fmt.Sprintf("a statement with %d", n), simple(fence(), let("a", number(n))), want)
	}
}

// TestCheckThreads checks P16.1: the procedures of the initial threads, and which of their errors is the first.
func TestCheckThreads(t *testing.T) {
	wrong := result{api.ErrObject, -1, -1}
	for name, want := range map[string]result{"f": good, "g": good, "h": good, "x": wrong, "m": wrong, "c": wrong, "p": wrong, "": wrong, "F": wrong, "if": wrong} {
		for k := range 3 {
			u := simple()
			u.Threads = []api.Launch{{Proc: "g"}, {Proc: "h"}, {Proc: "f"}}
			u.Threads[k].Proc = name
			checks(t, fmt.Sprintf("procedure %q of thread %d", name, k), u, want)
		}
	}
	u := simple()
	u.Threads = []api.Launch{{Proc: "z", Arg: 1 << 31}}
	checks(t, "both errors of a thread", u, wrong)
	u.Threads = []api.Launch{{Proc: "f", Arg: 1 << 31}, {Proc: "z"}}
	checks(t, "a wrong argument and then a wrong procedure", u, result{api.ErrRange, -1, -1})
	u.Threads = append(slices.Repeat([]api.Launch{{Proc: "f"}}, 8), api.Launch{Proc: "z"})
	checks(t, "too many threads, the last one wrong", u, result{api.ErrLimit, -1, -1})
}

// TestCheckFields checks P16.1 for each kind, above and below them too, with every set of fields and every number of Exprs.
func TestCheckFields(t *testing.T) {
	fields := []string{"Name", "Obj", "Other", "Fn", "Order", "Body", "Else"}
	all := append(kinds(), 0, -1, 21, 22, math.MaxInt, math.MinInt)
	for _, kind := range all {
		for set := range 1 << len(fields) {
			for exprs := range 4 {
				s := api.Stmt{Kind: kind, Exprs: slices.Repeat([]api.Expr{number(1)}, exprs)}
				want := api.OK
				missing := map[string]api.Errno{"Name": api.ErrName, "Obj": api.ErrObject, "Other": api.ErrObject, "Fn": api.ErrOp}
				for k := len(fields) - 1; k >= 0; k-- {
					_, used := field(kind, fields[k])
					if err := missing[fields[k]]; used && set>>k&1 == 0 && err != api.OK {
						want = err
					}
				}
				for k, name := range fields {
					value, used := field(kind, name)
					if set>>k&1 == 0 {
						continue
					}
					if !used {
						want = api.ErrField
					}
					fill(&s, name, value)
				}
				if exprs != exprsOf(kind) {
					want = api.ErrField
				}
				if kind < 1 || kind > 20 {
					want = api.ErrOp
				}
				place := result{want, 0, 1}
				if want == api.OK {
					place = good
				}
				checks(t, fmt.Sprintf("%+v", s), simple(fence(), s), place)
			}
		}
	}
}

// fill sets a field of a statement.
func fill(s *api.Stmt, name, value string) {
	if value == "" {
		value = "variable"
	}
	switch name {
	case "Name":
		s.Name = "b"
	case "Obj":
		s.Obj = objects[value]
	case "Other":
		s.Other = objects[value]
	case "Fn":
		s.Fn = api.FnAdd
	case "Order":
		s.Order = api.Relaxed
	case "Body":
		s.Body = fences(1)
	case "Else":
		s.Else = fences(1)
	}
}

// TestCheckNumbers checks P16.1: every Fn and Order, for the kinds that use them and for the others.
func TestCheckNumbers(t *testing.T) {
	for _, kind := range kinds() {
		for _, n := range []int{-1, 0, 1, 2, 3, 4, 9, 10, 11, 12, 1 << 32, math.MaxInt, math.MinInt} {
			s, want := sample(kind), good
			s.Fn = api.Fn(n)
			if _, used := field(kind, "Fn"); !used && n != 0 {
				want = result{api.ErrField, 0, 0}
			} else if used && (n < 1 || n > 10) {
				want = result{api.ErrOp, 0, 0}
			}
			checks(t, fmt.Sprintf("Fn %d of the kind %d", n, kind), simple(s), want)
			s, want = sample(kind), good
			s.Order = api.Order(n)
			if _, used := field(kind, "Order"); !used && n != 0 {
				want = result{api.ErrField, 0, 0}
			} else if used && (n < 0 || n > 2) {
				want = result{api.ErrOrder, 0, 0}
			}
			checks(t, fmt.Sprintf("Order %d of the kind %d", n, kind), simple(s), want)
		}
	}
}

// TestCheckObjects checks P16.1: the objects of every kind of statement that names some, of their own kind.
func TestCheckObjects(t *testing.T) {
	owners := map[string]string{
		"x": "variable", "y": "variable", "m": "mutex", "n": "mutex", "c": "condition", "d": "condition", "f": "procedure", "g": "procedure", "h": "procedure",
		"": "", "z": "", "p": "", "a": "", "X": "", "if": "", "x ": "",
	}
	for _, kind := range kinds() {
		for name, owner := range owners {
			if object, ok := field(kind, "Obj"); ok {
				s, want := sample(kind), good
				s.Obj = name
				if owner != object {
					want = result{api.ErrObject, 0, 2}
				}
				checks(t, fmt.Sprintf("object %q of the kind %d", name, kind), simple(let("a", number(1)), fence(), s), want)
			}
			if object, ok := field(kind, "Other"); ok {
				s, want := sample(kind), good
				s.Other = name
				if owner != object {
					want = result{api.ErrObject, 0, 1}
				}
				checks(t, fmt.Sprintf("mutex %q of the kind %d", name, kind), simple(fence(), s, s), want)
			}
		}
		if _, ok := field(kind, "Obj"); ok {
			u := api.Unit{Procs: []api.Proc{{Name: "e", Body: []api.Stmt{sample(kind)}}}, Threads: []api.Launch{{Proc: "e"}}}
			checks(t, fmt.Sprintf("the kind %d without objects", kind), u, result{api.ErrObject, 0, 0})
		}
	}
}

// TestCheckExprs checks P16.1: the errors of the Exprs of each kind, with all local variables of the procedure.
func TestCheckExprs(t *testing.T) {
	for _, kind := range kinds() {
		for at := range exprsOf(kind) {
			for _, x := range []struct {
				e   api.Expr
				err api.Errno
			}{
				{local("p"), api.OK}, {local("a"), api.OK}, {local("late"), api.OK}, {local("inner"), api.OK},
				{local("q"), api.ErrObject}, {local("x"), api.ErrObject}, {local("f"), api.ErrObject}, {local("else"), api.ErrName}, {local(""), api.ErrName},
				{number(1 << 31), api.ErrRange}, {calc(0, number(1), number(2)), api.ErrOp}, {calc(11, number(1), number(2)), api.ErrOp},
				{api.Expr{}, api.ErrOp}, {calc(api.FnAdd, number(1)), api.ErrField}, {deep(2, 0), api.OK}, {deep(2, 1), api.OK}, {deep(4, 0), api.ErrLimit}, {deep(4, 1), api.ErrLimit},
			} {
				s, want := sample(kind), good
				s.Exprs = slices.Clone(s.Exprs)
				s.Exprs[at] = x.e
				if x.err != api.OK {
					want = result{x.err, 0, 2}
				}
				u := simple(let("a", number(1)), while(s, let("inner", number(2))), let("late", number(3)))
				checks(t, fmt.Sprintf("the kind %d with the expression %+v", kind, x.e), u, want)
			}
		}
	}
	// A procedure without a parameter does not have that of another one.
	u := simple(let("a", number(1)))
	u.Procs[1].Body = []api.Stmt{let("b", local("p"))}
	checks(t, "a parameter of another procedure", u, result{api.ErrObject, 1, 0})
	u.Procs[1].Body = []api.Stmt{let("b", local("a"))}
	checks(t, "a variable of another procedure", u, result{api.ErrObject, 1, 0})
}

// TestCheckCas checks P16.1: the depth of the second expression of an StCas, after all errors of both.
func TestCheckCas(t *testing.T) {
	limit := result{api.ErrLimit, 0, 1}
	for _, x := range []struct {
		first, second api.Expr
		want          result
	}{
		{number(1), number(2), good},
		{deep(3, 0), deep(2, 0), good},
		{deep(3, 1), deep(2, 1), good},
		{number(1), deep(3, 0), limit},
		{number(1), deep(3, 1), limit},
		{deep(3, 0), deep(3, 1), limit},
		{deep(4, 0), number(1), limit},
		{number(1), deep(4, 0), limit},
		{local("no"), deep(3, 0), result{api.ErrObject, 0, 1}},
		{number(1), calc(api.FnAdd, deep(2, 0), local("no")), result{api.ErrObject, 0, 1}},
		{number(1 << 31), local("no"), result{api.ErrRange, 0, 1}},
		{local("no"), number(1 << 31), result{api.ErrObject, 0, 1}},
	} {
		s := api.Stmt{Kind: api.StCas, Name: "a", Obj: "x", Exprs: []api.Expr{x.first, x.second}}
		checks(t, fmt.Sprintf("cas with %+v and %+v", x.first, x.second), simple(fence(), s), x.want)
	}
	for _, kind := range kinds() {
		if exprsOf(kind) == 1 {
			s := sample(kind)
			s.Exprs = []api.Expr{deep(3, 1)}
			checks(t, fmt.Sprintf("the kind %d with the greatest depth", kind), simple(s), good)
		}
	}
}

// TestCheckLevels checks P16.1: the greatest level, in Body and Else, and one more.
func TestCheckLevels(t *testing.T) {
	for levels := range 20 {
		want := good
		if levels+1 > 12 {
			want = result{api.ErrLimit, 0, 13}
		}
		checks(t, fmt.Sprint(levels+1, " levels"), simple(fence(), nest(fence(), levels+1)), want)
		// The level comes before all other errors of the statement.
		if levels+1 <= 12 {
			want = result{api.ErrOp, 0, levels + 1}
		}
		checks(t, fmt.Sprint("no kind at the level ", levels+1), simple(fence(), nest(api.Stmt{}, levels+1)), want)
	}
	loop := while()
	for range 11 {
		loop = while(loop)
	}
	checks(t, "12 loops", simple(loop), good)
	checks(t, "13 loops", simple(while(loop)), result{api.ErrLimit, 0, 12})
	// Statements of one block have the same level.
	wide := nest(either(fences(3), fences(4)), 11)
	checks(t, "wide blocks at the greatest level", simple(wide, wide, fence(), wide), good)
	wide = nest(either(fences(1), []api.Stmt{fence(), fence(), either(nil, fences(1))}), 11)
	checks(t, "one statement at a greater level", simple(wide), result{api.ErrLimit, 0, 15})
}

// TestCheckStatements checks P16.1: the greatest number of statements of a procedure, in all its blocks, and one more.
func TestCheckStatements(t *testing.T) {
	for _, count := range []int{0, 1, 127, 128, 129, 200, 10000} {
		want := good
		if count > 128 {
			want = result{api.ErrLimit, 0, -1}
		}
		checks(t, fmt.Sprint(count, " statements"), simple(fences(count)...), want)
		if count < 2 {
			continue
		}
		checks(t, fmt.Sprint(count, " statements in a loop"), simple(while(fences(count-1)...)), want)
		checks(t, fmt.Sprint(count, " statements in Else"), simple(either(nil, fences(count-1))), want)
		checks(t, fmt.Sprint(count, " statements in both"), simple(either(fences(count/2), fences(count-1-count/2))), want)
		u := simple()
		u.Procs[2].Body = fences(count)
		if count > 128 {
			want.proc = 2
		}
		checks(t, fmt.Sprint(count, " statements in the last procedure"), u, want)
	}
	u := simple()
	for k := range u.Procs {
		u.Procs[k].Body = fences(128)
	}
	checks(t, "the greatest number in each procedure", u, good)
	// Statements in fields that a kind does not use count too.
	hidden := fence()
	hidden.Body, hidden.Else = fences(60), fences(68)
	checks(t, "statements in a fence", simple(hidden), result{api.ErrLimit, 0, -1})
	hidden.Else = fences(67)
	checks(t, "fewer statements in a fence", simple(hidden), result{api.ErrField, 0, 0})
}

// TestCheckLocals checks P16.1: the greatest number of local variables, with and without Param, and one more.
func TestCheckLocals(t *testing.T) {
	for _, param := range []string{"", "p", "v0", "v3"} {
		for count := range 8 {
			var body []api.Stmt
			for _, name := range names("v", count) {
				body = append(body, let(name, number(1)), either([]api.Stmt{let(name, local(name))}, []api.Stmt{let("v0", number(2))}))
			}
			others := count
			if param == "v0" && count > 0 || param == "v3" && count > 3 {
				others--
			}
			u, want := simple(), good
			u.Procs[0].Param, u.Procs[0].Body = param, body
			if others > 4 {
				want = result{api.ErrLimit, 0, -1}
			}
			checks(t, fmt.Sprintf("%d variables beside the parameter %q", count, param), u, want)
			u.Procs[0].Body = append(u.Procs[0].Body, api.Stmt{})
			if others <= 4 {
				want = result{api.ErrOp, 0, len(flatten(body, 1))}
			}
			checks(t, fmt.Sprintf("%d variables, and a statement without a kind", count), u, want)
		}
	}
	// Only kinds that use Name have local variables.
	var body []api.Stmt
	for _, name := range names("v", 9) {
		body = append(body, api.Stmt{Kind: api.StFence, Name: name}, api.Stmt{Kind: 21, Name: name}, api.Stmt{Name: name})
	}
	checks(t, "names of statements without variables", simple(body...), result{api.ErrField, 0, 0})
}

// A fault changes a unit so that it has one error.
type fault struct {
	name string
	make func(u *api.Unit)
	want result
}

// faults are changes of the unit full, each in memory that no other one changes, in the order in which Check finds them.
var faults = []fault{
	{"variable 1 has no name", func(u *api.Unit) { u.Vars[1].Name = "" }, result{api.ErrName, -1, -1}},
	{"variable 2 twice", func(u *api.Unit) { u.Vars[2].Name = u.Vars[0].Name }, result{api.ErrTwice, -1, -1}},
	{"mutex 1 twice", func(u *api.Unit) { u.Mutexes[1] = u.Mutexes[0] }, result{api.ErrTwice, -1, -1}},
	{"mutex 2 is a keyword", func(u *api.Unit) { u.Mutexes[2] = "lock" }, result{api.ErrName, -1, -1}},
	{"condition variable 1 has a wrong name", func(u *api.Unit) { u.Conds[1] = "1c" }, result{api.ErrName, -1, -1}},
	{"condition variable 2 twice", func(u *api.Unit) { u.Conds[2] = u.Conds[0] }, result{api.ErrTwice, -1, -1}},
	{"procedure 1 twice", func(u *api.Unit) { u.Procs[1].Name = u.Procs[0].Name }, result{api.ErrTwice, 1, -1}},
	{"procedure 2 is a keyword", func(u *api.Unit) { u.Procs[2].Name = "proc" }, result{api.ErrName, 2, -1}},
	{"too many variables", func(u *api.Unit) { u.Vars = append(u.Vars, make([]api.Var, 6)...); nameVars(u) }, result{api.ErrLimit, -1, -1}},
	{"too many mutexes", func(u *api.Unit) { u.Mutexes = append(u.Mutexes, names("v", 2)...) }, result{api.ErrLimit, -1, -1}},
	{"too many condition variables", func(u *api.Unit) { u.Conds = append(u.Conds, names("v", 2)...) }, result{api.ErrLimit, -1, -1}},
	{"Init too large", func(u *api.Unit) { u.Vars[1].Init = 1 << 31 }, result{api.ErrRange, -1, -1}},
	{"wrong Param of procedure 0", func(u *api.Unit) { u.Procs[0].Param = "a b" }, result{api.ErrName, 0, -1}},
	{"too many statements in procedure 0", func(u *api.Unit) {
		u.Procs[0].Body[1].Body[1].Body = append(u.Procs[0].Body[1].Body[1].Body, fences(120)...)
	}, result{api.ErrLimit, 0, -1}},
	{"too many variables in procedure 0", func(u *api.Unit) { u.Procs[0].Body[1].Else = append(u.Procs[0].Body[1].Else, let("e", number(1))) }, result{api.ErrLimit, 0, -1}},
	{"a field of statement 0", func(u *api.Unit) { u.Procs[0].Body[0].Obj = "x" }, result{api.ErrField, 0, 0}},
	{"an expression of statement 0", func(u *api.Unit) { u.Procs[0].Body[0].Exprs[0].Args[0].Args[1].N = 1 << 31 }, result{api.ErrRange, 0, 0}},
	{"the kind of statement 3", func(u *api.Unit) { u.Procs[0].Body[1].Body[1].Kind = 21 }, result{api.ErrOp, 0, 3}},
	{"the object of statement 4", func(u *api.Unit) { u.Procs[0].Body[1].Body[1].Body[0].Obj = "m" }, result{api.ErrObject, 0, 4}},
	{"the order of statement 4", func(u *api.Unit) { u.Procs[0].Body[1].Body[1].Body[0].Order = 3 }, result{api.ErrOrder, 0, 4}},
	{"a field of statement 6", func(u *api.Unit) { u.Procs[0].Body[1].Else[0].Fn = 1 }, result{api.ErrField, 0, 6}},
	{"the name of statement 6", func(u *api.Unit) { u.Procs[0].Body[1].Else[0].Name = "" }, result{api.ErrName, 0, 6}},
	{"the second expression of statement 7", func(u *api.Unit) { u.Procs[0].Body[1].Else[1].Exprs[1] = deep(3, 1) }, result{api.ErrLimit, 0, 7}},
	{"the last statement of procedure 0", func(u *api.Unit) { u.Procs[0].Body[2].Exprs = []api.Expr{number(1)} }, result{api.ErrField, 0, 8}},
	{"wrong Param of procedure 1", func(u *api.Unit) { u.Procs[1].Param = "relacq" }, result{api.ErrName, 1, -1}},
	{"too many statements in procedure 1", func(u *api.Unit) { u.Procs[1].Body = append(u.Procs[1].Body, fences(122)...) }, result{api.ErrLimit, 1, -1}},
	{"the Fn of statement 0 of procedure 1", func(u *api.Unit) { u.Procs[1].Body[0].Fn = 11 }, result{api.ErrOp, 1, 0}},
	{"the order of the same statement", func(u *api.Unit) { u.Procs[1].Body[0].Order = -1 }, result{api.ErrOrder, 1, 0}},
	{"the expression of the same statement", func(u *api.Unit) { u.Procs[1].Body[0].Exprs[0] = local("x") }, result{api.ErrObject, 1, 0}},
	{"the other object of statement 2", func(u *api.Unit) { u.Procs[1].Body[2].Other = "c" }, result{api.ErrObject, 1, 2}},
	{"an Else in statement 6", func(u *api.Unit) { u.Procs[1].Body[6].Else = fences(1) }, result{api.ErrField, 1, 6}},
	{"the procedure of a spawn", func(u *api.Unit) { u.Procs[2].Body[0].Obj = "t" }, result{api.ErrObject, 2, 0}},
	{"the number of Exprs of a join", func(u *api.Unit) { u.Procs[2].Body[1].Exprs = nil }, result{api.ErrField, 2, 1}},
	{"the function of a calculation", func(u *api.Unit) { u.Procs[2].Body[2].Exprs[0].Fn = 0 }, result{api.ErrOp, 2, 2}},
	{"the last statement", func(u *api.Unit) { u.Procs[2].Body[3].Kind = -1 }, result{api.ErrOp, 2, 3}},
	{"too many threads", func(u *api.Unit) { u.Threads = append(u.Threads, slices.Repeat(u.Threads[2:], 6)...) }, result{api.ErrLimit, -1, -1}},
	{"wrong procedure of thread 0", func(u *api.Unit) { u.Threads[0].Proc = "x" }, result{api.ErrObject, -1, -1}},
	{"wrong argument of thread 1", func(u *api.Unit) { u.Threads[1].Arg = -1 << 32 }, result{api.ErrRange, -1, -1}},
	{"wrong procedure of thread 2", func(u *api.Unit) { u.Threads[2].Proc = "" }, result{api.ErrObject, -1, -1}},
	{"no threads", func(u *api.Unit) { u.Threads = nil }, result{api.ErrLimit, -1, -1}},
}

// nameVars gives names to the variables that have none after the first three.
func nameVars(u *api.Unit) {
	for k, name := range names("v", len(u.Vars)) {
		if k > 2 {
			u.Vars[k].Name = name
		}
	}
}

// TestCheckOrder checks P16.1: each fault alone, and the first one of every two that can occur together.
func TestCheckOrder(t *testing.T) {
	for i, first := range faults {
		u := full()
		first.make(&u)
		checks(t, first.name, u, first.want)
		same(t, "reference for "+first.name, reference(u), first.want)
		for _, second := range faults[i+1:] {
			if second.name == "no threads" && strings.Contains(first.name, "thread") {
				continue
			}
			u := full()
			first.make(&u)
			second.make(&u)
			checks(t, first.name+" and "+second.name, u, first.want)
		}
	}
}

// TestCheckExpr checks P16.2: each error of each kind of expression, alone and in Args, and the local variables.
func TestCheckExpr(t *testing.T) {
	one, two := number(1), number(2)
	for _, x := range []struct {
		e    api.Expr
		want api.Errno
	}{
		{one, api.OK}, {local("a"), api.OK}, {local("b_2"), api.OK}, {calc(1, one, two), api.OK}, {calc(10, local("a"), local("a")), api.OK},
		{deep(3, 0), api.OK}, {deep(3, 1), api.OK}, {deep(4, 0), api.ErrLimit}, {deep(4, 1), api.ErrLimit}, {deep(1000, 0), api.ErrLimit},
		{calc(api.FnAdd, deep(2, 0), deep(2, 1)), api.OK}, {calc(api.FnAdd, deep(2, 0), deep(3, 1)), api.ErrLimit},
		// The depth comes before all other errors.
		{calc(0, deep(3, 0)), api.ErrLimit}, {api.Expr{Args: []api.Expr{deep(3, 0)}}, api.ErrLimit},
		{api.Expr{}, api.ErrOp}, {api.Expr{Kind: 4}, api.ErrOp}, {api.Expr{Kind: -1, N: 3, Name: "z"}, api.ErrOp}, {api.Expr{Kind: math.MaxInt}, api.ErrOp}, {api.Expr{Kind: math.MinInt}, api.ErrOp},
		{api.Expr{Kind: 1, Name: "a"}, api.ErrField}, {api.Expr{Kind: 1, Fn: 1}, api.ErrField}, {api.Expr{Kind: 1, Args: []api.Expr{one}}, api.ErrField}, {api.Expr{Kind: 1, Args: []api.Expr{one, two}}, api.ErrField},
		{api.Expr{Kind: 1, Args: []api.Expr{}}, api.OK}, {api.Expr{Kind: 1, Name: "a", N: 1 << 31}, api.ErrField},
		{api.Expr{Kind: 2, Name: "a", N: 1}, api.ErrField}, {api.Expr{Kind: 2, Name: "a", Fn: 1}, api.ErrField}, {api.Expr{Kind: 2, Name: "a", Args: []api.Expr{one}}, api.ErrField},
		{api.Expr{Kind: 2, Name: "a", N: -1}, api.ErrField}, {api.Expr{Kind: 2, Name: "a", Fn: -1}, api.ErrField}, {api.Expr{Kind: 2, Name: "if", N: 1}, api.ErrField},
		{local("c"), api.ErrObject}, {local("A"), api.ErrObject}, {local("b"), api.ErrObject}, {local("if"), api.ErrName}, {local(""), api.ErrName}, {local("1a"), api.ErrName},
		{api.Expr{Kind: 3}, api.ErrField}, {calc(1), api.ErrField}, {calc(1, one), api.ErrField}, {calc(1, one, two, one), api.ErrField},
		{api.Expr{Kind: 3, Fn: 1, N: 1, Args: []api.Expr{one, two}}, api.ErrField}, {api.Expr{Kind: 3, Fn: 1, Name: "a", Args: []api.Expr{one, two}}, api.ErrField},
		{calc(0, one, two), api.ErrOp}, {calc(11, one, two), api.ErrOp}, {calc(-1, one, two), api.ErrOp}, {calc(1<<32+1, one, two), api.ErrOp}, {calc(0, one), api.ErrField},
		// The errors of a calculation come before those of its arguments, and those of the first argument before those of the second one.
		{calc(0, local("c"), number(1<<31)), api.ErrOp}, {calc(1, local("c"), number(1<<31)), api.ErrObject}, {calc(1, number(1<<31), local("c")), api.ErrRange},
		{calc(1, calc(1, one, local("")), local("c")), api.ErrName}, {calc(1, calc(1, one, two), local("c")), api.ErrObject}, {calc(1, one, calc(0, local("c"), one)), api.ErrOp},
		{calc(1, calc(2, one, calc0()), number(1<<31)), api.ErrField}, {calc(1, local("c")), api.ErrField}, {calc(1, local("if"), local("c"), one), api.ErrField},
	} {
		same(t, fmt.Sprintf("CheckExpr(%+v)", x.e), CheckExpr(x.e, []string{"a", "b_2"}), x.want)
		same(t, fmt.Sprintf("reference for %+v", x.e), referenceExpr(x.e, []string{"a", "b_2"}), x.want)
		if Depth(x.e) < 3 {
			same(t, fmt.Sprintf("CheckExpr(%+v) as a second argument", x.e), CheckExpr(calc(api.FnLe, local("a"), x.e), []string{"a", "b_2"}), x.want)
			want := x.want
			if want == api.OK {
				want = api.ErrObject
			}
			same(t, fmt.Sprintf("CheckExpr(%+v) as a first argument", x.e), CheckExpr(calc(api.FnLe, x.e, local("none")), []string{"a", "b_2"}), want)
		}
	}
	same(t, "CheckExpr without local variables", CheckExpr(local("a"), nil), api.ErrObject)
	same(t, "CheckExpr with an empty list", CheckExpr(local("a"), []string{}), api.ErrObject)
	// A name that is none is not made one by the list.
	same(t, "CheckExpr with a keyword", CheckExpr(local("le"), []string{"le"}), api.ErrName)
	same(t, "CheckExpr with an empty name", CheckExpr(local(""), []string{""}), api.ErrName)
	same(t, "CheckExpr with the last one of many", CheckExpr(local("v999"), names("v", 1000)), api.OK)
}

// calc0 is a calculation without arguments.
func calc0() api.Expr {
	return api.Expr{Kind: api.ExCalc, Fn: api.FnAdd}
}

// TestDepth checks P16.2: the depth of any expression, also with other numbers of Args.
func TestDepth(t *testing.T) {
	for _, x := range []struct {
		e    api.Expr
		want int
	}{
		{api.Expr{}, 1}, {number(5), 1}, {local("a"), 1}, {calc0(), 1}, {api.Expr{Args: []api.Expr{}}, 1},
		{calc(1, number(1), number(2)), 2}, {calc(1, number(1)), 2}, {calc(1, number(1), number(2), deep(4, 0), number(1)), 5},
		{calc(1, deep(3, 1), deep(7, 0)), 8}, {calc(1, deep(7, 0), deep(3, 1)), 8}, {api.Expr{Kind: 1, Args: []api.Expr{{Kind: 2, Args: []api.Expr{{}}}}}, 3},
	} {
		same(t, fmt.Sprintf("Depth(%+v)", x.e), Depth(x.e), x.want)
	}
	for depth := 1; depth < 40; depth++ {
		same(t, "Depth", []int{Depth(deep(depth, 0)), Depth(deep(depth, 1))}, []int{depth, depth})
	}
}

// TestLocals checks P16.3: Param, the order of the first statements, nested blocks, and kinds without variables.
func TestLocals(t *testing.T) {
	one := number(1)
	for _, x := range []struct {
		param string
		body  []api.Stmt
		want  []string
	}{
		{"", nil, nil},
		{"p", nil, []string{"p"}},
		{"p", []api.Stmt{let("p", one)}, []string{"p"}},
		{"p", []api.Stmt{let("a", one), let("p", one), let("b", one), let("a", one)}, []string{"p", "a", "b"}},
		{"", []api.Stmt{let("b", local("z")), let("a", one), let("b", one)}, []string{"b", "a"}},
		{"", []api.Stmt{either([]api.Stmt{let("d", one), while(let("b", one)), let("c", one)}, []api.Stmt{let("a", one), let("d", one)}), let("e", one), let("b", one)}, []string{"d", "b", "c", "a", "e"}},
		{"e", []api.Stmt{while(while(let("z", one)), let("y", one)), let("x", one), let("e", one)}, []string{"e", "z", "y", "x"}},
		// Any procedure is accepted: more variables, names that are none, and blocks of any kind.
		{"if", []api.Stmt{let("1", one), let("else", one), let("if", one)}, []string{"if", "1", "else"}},
		{"", []api.Stmt{let("a", one), let("", one), let("", one), let("b", one)}, []string{"a", "", "b"}},
		{"", []api.Stmt{{Kind: 21, Name: "a", Body: []api.Stmt{let("b", one)}, Else: []api.Stmt{{Name: "d"}, let("c", one)}}}, []string{"b", "c"}},
	} {
		same(t, fmt.Sprintf("Locals(%q, %+v)", x.param, x.body), fmt.Sprintf("%q", Locals(api.Proc{Param: x.param, Body: x.body})), fmt.Sprintf("%q", x.want))
	}
	for kind := api.StmtKind(-2); kind < 24; kind++ {
		want := []string{"p", "v"}
		if _, ok := field(kind, "Name"); !ok {
			want = want[:1]
		}
		same(t, fmt.Sprint("Locals with the kind ", kind), Locals(api.Proc{Param: "p", Body: []api.Stmt{{Kind: kind, Name: "v"}}}), want)
	}
	var many []api.Stmt
	for _, name := range names("v", 100000) {
		many = append(many, let(name, one))
	}
	same(t, "number of many variables", len(Locals(api.Proc{Param: "v7", Body: append(many, many...)})), 100000)
}

// TestCount checks P16.3: statements of all blocks, of kinds that use blocks and of others.
func TestCount(t *testing.T) {
	hidden := api.Stmt{Kind: api.StReturn, Body: fences(2), Else: []api.Stmt{{Kind: 99, Else: fences(3)}}}
	for _, x := range []struct {
		block []api.Stmt
		want  int
	}{
		{nil, 0}, {[]api.Stmt{}, 0}, {fences(1), 1}, {fences(1000), 1000}, {[]api.Stmt{{}, {}}, 2}, {example().Body, 3},
		{[]api.Stmt{while()}, 1}, {[]api.Stmt{while(fences(4)...), fence()}, 6}, {[]api.Stmt{either(fences(4), fences(5)), fence()}, 11},
		{[]api.Stmt{nest(fence(), 30)}, 30}, {[]api.Stmt{hidden}, 7}, {[]api.Stmt{fence(), while(hidden, hidden)}, 16},
		{full().Procs[0].Body, 9},
	} {
		same(t, fmt.Sprintf("Count(%+v)", x.block), Count(x.block), x.want)
	}
}

// TestEqual checks P16.4: each number, text and list of a unit counts, and nil lists are equal to empty ones.
func TestEqual(t *testing.T) {
	units := []api.Unit{{}, simple(), full(), simple(nest(fence(), 40)), simple(api.Stmt{Kind: 99, Exprs: []api.Expr{deep(9, 1)}, Else: fences(2)})}
	for i, a := range units {
		for k, b := range units {
			same(t, fmt.Sprint("Equal of the units ", i, " and ", k), Equal(a, b), i == k)
		}
		b := fresh(a)
		leaves, lists := spots(&b)
		for _, x := range append(leaves, lists...) {
			old := reflect.New(x.v.Type()).Elem()
			old.Set(x.v)
			unequal := func(what string) {
				t.Helper()
				if Equal(a, b) || Equal(b, a) {
					t.Errorf("units are equal after %s: %s", what, x.path)
				}
				x.v.Set(old)
				if !Equal(a, b) || !Equal(b, a) {
					t.Errorf("units are not equal after the change was undone: %s", x.path)
				}
			}
			switch x.v.Kind() {
			case reflect.Int:
				for _, n := range []int64{1, -1, 1 << 32} {
					x.v.SetInt(old.Int() + n)
					unequal("a change")
				}
			case reflect.String:
				x.v.SetString(old.String() + "a")
				unequal("a change")
			case reflect.Slice:
				x.v.Set(reflect.Append(deepCopy(old, 1), reflect.Zero(old.Type().Elem())))
				unequal("an element was added")
				if n := old.Len(); n > 0 {
					x.v.Set(old.Slice(0, n-1))
					unequal("an element was removed")
					x.v.Set(old.Slice(1, n))
					if n > 1 || !Equal(a, b) {
						unequal("the first element was removed")
					}
				} else {
					x.v.Set(reflect.MakeSlice(old.Type(), 0, 0))
					same(t, "Equal with an empty list: "+x.path, []bool{Equal(a, b), Equal(b, a)}, []bool{true, true})
					x.v.Set(reflect.Zero(old.Type()))
					same(t, "Equal with a nil list: "+x.path, []bool{Equal(a, b), Equal(b, a)}, []bool{true, true})
				}
			}
		}
	}
	// The same elements in another order, or in another list.
	same(t, "Equal of Body and Else", Equal(simple(either(fences(1), nil)), simple(either(nil, fences(1)))), false)
	same(t, "Equal of a block and its end", Equal(simple(while(fence(), fence())), simple(while(fence()), fence())), false)
	same(t, "Equal of exchanged statements", Equal(simple(fence(), while()), simple(while(), fence())), false)
	same(t, "Equal of nested arguments", Equal(simple(let("a", calc(1, deep(2, 0), number(1)))), simple(let("a", calc(1, number(1), deep(2, 0))))), false)
	same(t, "Equal of mutexes and condition variables", Equal(api.Unit{Mutexes: []string{"a"}}, api.Unit{Conds: []string{"a"}}), false)
}

// cases are valid and invalid units.
func cases() []api.Unit {
	units := []api.Unit{
		full(), simple(), {}, {Vars: []api.Var{}, Mutexes: []string{}, Conds: []string{}, Procs: []api.Proc{}, Threads: []api.Launch{}},
		simple(nest(let("a", deep(3, 1)), 30)), simple(fences(300)...), simple(api.Stmt{Kind: -1, Exprs: []api.Expr{deep(9, 0), {}}, Body: fences(1), Else: []api.Stmt{{}}}),
		{Procs: []api.Proc{{Body: []api.Stmt{}}, {}, {Name: "a", Body: []api.Stmt{{Exprs: []api.Expr{}}}}}},
		{Vars: make([]api.Var, 20), Mutexes: make([]string, 20), Conds: make([]string, 20), Procs: make([]api.Proc, 20), Threads: make([]api.Launch, 20)},
	}
	for _, f := range faults {
		u := full()
		f.make(&u)
		units = append(units, u)
	}
	return units
}

// TestClone checks P16.4: a clone is equal and shares no memory with the unit, which may be invalid.
func TestClone(t *testing.T) {
	for k, u := range cases() {
		what := fmt.Sprint("unit ", k)
		a, b := spacious(u), spacious(u)
		before := wholeUnit(a)
		c := Clone(a)
		same(t, "Equal of the clone of "+what, []bool{Equal(c, u), Equal(u, c)}, []bool{true, true})
		same(t, "the clone of "+what, c, u)
		same(t, "after Clone: "+what, wholeUnit(a), before)
		overwriteUnit(c)
		same(t, "after its clone was overwritten: "+what, wholeUnit(a), before)
		c = Clone(b)
		overwriteUnit(b)
		same(t, "the clone after the overwriting of "+what, c, u)
		d := Clone(c)
		overwriteUnit(d)
		same(t, "a clone after the overwriting of its clone: "+what, c, u)
	}
}

// TestCloneParts checks P16.4: lists that share memory do not share it in the clone.
func TestCloneParts(t *testing.T) {
	args, block := []api.Expr{number(1), number(2)}, fences(2)
	e := calc(api.FnAdd, args...)
	e.Args = args
	s := api.Stmt{Kind: api.StIf, Exprs: []api.Expr{e, e}, Body: block, Else: block}
	list := names("a", 3)
	u := api.Unit{Mutexes: list, Conds: list, Procs: []api.Proc{{Body: []api.Stmt{s, s}}, {Body: []api.Stmt{s}}}}
	want := fmt.Sprint(u)
	c := Clone(u)
	leaves, _ := spots(&c)
	for _, x := range leaves {
		before := wholeUnit(c)
		old := reflect.New(x.v.Type()).Elem()
		old.Set(x.v)
		overwrite(x.v)
		changed := wholeUnit(c)
		x.v.Set(old)
		same(t, "the clone after a change was undone: "+x.path, wholeUnit(c), before)
		if len(changed)-len(before) > 10 || changed == before {
			t.Errorf("a change of %s in the clone changes more, or nothing", x.path)
		}
		same(t, "the unit", fmt.Sprint(u), want)
	}
	c.Procs[0].Body[0].Exprs[0].Args[0].N = 55
	c.Procs[0].Body[0].Body[0].Kind = 55
	c.Mutexes[0] = "other"
	same(t, "other parts of the clone", []any{
		c.Procs[0].Body[0].Exprs[1].Args[0].N, c.Procs[0].Body[1].Exprs[0].Args[0].N, c.Procs[1].Body[0].Exprs[0].Args[0].N,
		c.Procs[0].Body[0].Else[0].Kind, c.Procs[0].Body[1].Body[0].Kind, c.Procs[1].Body[0].Body[0].Kind, c.Conds[0],
	}, []any{1, 1, 1, api.StFence, api.StFence, api.StFence, "a0"})
}

// TestMemory checks the rules on arguments and results: units stay as they are, and results are new memory.
func TestMemory(t *testing.T) {
	for k, u := range cases() {
		u, other := spacious(u), spacious(u)
		before := wholeUnit(u)
		locals := append(make([]string, 0, 9), "a", "p", "q")
		Check(u)
		Equal(u, other)
		Equal(other, u)
		Equal(u, full())
		Clone(u)
		for _, p := range u.Procs {
			Locals(p)
			Count(p.Body)
			for _, x := range flatten(p.Body, 1) {
				for _, e := range x.s.Exprs {
					CheckExpr(e, locals)
					Depth(e)
				}
			}
		}
		same(t, fmt.Sprint("after all calls: unit ", k), wholeUnit(u), before)
		same(t, fmt.Sprint("after all calls: the other unit ", k), wholeUnit(other), before)
		same(t, "after all calls: the local variables", fmt.Sprintf("%q", locals[:9]), fmt.Sprintf("%q", []string{"a", "p", "q", "", "", "", "", "", ""}))
	}
	p := example()
	first := Locals(p)
	for k := range first {
		first[k] = "other"
	}
	same(t, "Locals after its result was overwritten", Locals(p), []string{"a", "b", "c"})
	same(t, "the procedure", fmt.Sprint(p), fmt.Sprint(example()))
}

// TestDeep checks that units and expressions of any depth are accepted: the memory for calls must not depend on it.
func TestDeep(t *testing.T) {
	const depth = 200000
	defer debug.SetMaxStack(debug.SetMaxStack(256 << 10))
	e, block := deep(depth, 0), []api.Stmt{nest(let("a", number(1)), depth)}
	same(t, "Depth", Depth(e), depth)
	same(t, "CheckExpr", CheckExpr(e, nil), api.ErrLimit)
	same(t, "Count", Count(block), depth)
	same(t, "Locals", Locals(api.Proc{Param: "p", Body: block}), []string{"p", "a"})
	u := simple(block...)
	checks(t, "a deep unit", u, result{api.ErrLimit, 0, -1})
	checks(t, "a deep expression", simple(fence(), let("a", e)), result{api.ErrLimit, 0, 1})
	u.Procs[1].Body = []api.Stmt{let("b", e), let("c", deep(depth, 1))}
	c := Clone(u)
	same(t, "Equal of the clone", Equal(u, c), true)
	c.Procs[1].Body[1] = let("c", deep(depth+1, 1))
	same(t, "Equal of a deeper expression", Equal(u, c), false)
	u.Procs[1] = c.Procs[1]
	same(t, "Equal of the same unit", Equal(u, c), true)
	c.Procs[0].Body = []api.Stmt{nest(let("a", number(2)), depth)}
	same(t, "Equal of another statement", Equal(u, c), false)
}

// TestEndless checks that the checks end also for a statement and an expression that contain themselves: they are beyond every limit.
func TestEndless(t *testing.T) {
	args := make([]api.Expr, 2)
	args[0], args[1] = calc(api.FnAdd, args...), number(1)
	args[0].Args = args
	same(t, "CheckExpr", CheckExpr(args[0], nil), api.ErrLimit)
	checks(t, "an endless expression", simple(let("a", args[0])), result{api.ErrLimit, 0, 0})
	block := fences(2)
	block[1] = while()
	block[1].Body = block
	checks(t, "an endless block", simple(block...), result{api.ErrLimit, 0, -1})
}

// FuzzExpr compares CheckExpr with its definition, for an expression of two parts.
func FuzzExpr(f *testing.F) {
	f.Add(3, 0, "", 1, 2, 0, "a", 0, 2)
	f.Add(1, 1<<31, "", 0, 1, 5, "if", 0, 0)
	f.Add(3, 0, "", 11, 3, 0, "", 1, 1)
	f.Fuzz(func(t *testing.T, kind, n int, name string, fn, innerKind, innerN int, innerName string, innerFn, args int) {
		inner := api.Expr{Kind: api.ExprKind(innerKind), N: innerN, Name: innerName, Fn: api.Fn(innerFn)}
		e := api.Expr{Kind: api.ExprKind(kind), N: n, Name: name, Fn: api.Fn(fn)}
		if args >= 0 && args < 4 {
			e.Args = slices.Repeat([]api.Expr{inner}, args)
		}
		for _, locals := range [][]string{nil, {"a"}, {"b", name}, {name, innerName}} {
			same(t, fmt.Sprintf("CheckExpr(%+v, %q)", e, locals), CheckExpr(e, locals), referenceExpr(e, locals))
		}
	})
}
