package ast

import (
	"fmt"
	"reflect"
	"slices"
	"strconv"
	"strings"
	"testing"

	"modelcheck/api"
)

// A result is what Check returns.
type result struct {
	err             api.Errno
	proc, statement int
}

// good is the result of Check for a unit without an error.
var good = result{api.OK, -1, -1}

// checked returns the results of Check in one value.
func checked(u api.Unit) result {
	err, k, n := Check(u)
	return result{err, k, n}
}

// same fails if the result of a call is not the one that is wanted.
func same(t *testing.T, call string, got, want any) {
	t.Helper()
	if fmt.Sprint(got) != fmt.Sprint(want) {
		t.Errorf("%s: %v, want %v", call, got, want)
	}
}

// checks fails if Check does not return what is wanted.
func checks(t *testing.T, what string, u api.Unit, want result) {
	t.Helper()
	same(t, "Check of "+what, checked(u), want)
}

// number is the expression n.
func number(n int) api.Expr {
	return api.Expr{Kind: api.ExNumber, N: n}
}

// local is the expression of a local variable.
func local(name string) api.Expr {
	return api.Expr{Kind: api.ExLocal, Name: name}
}

// calc is the expression of a calculation.
func calc(fn api.Fn, args ...api.Expr) api.Expr {
	return api.Expr{Kind: api.ExCalc, Fn: fn, Args: args}
}

// deep is an expression of the given depth, the deepest part of which is the first or the second argument of each calculation.
func deep(depth, at int) api.Expr {
	e := number(7)
	for range depth - 1 {
		args := []api.Expr{number(1), number(2)}
		args[at] = e
		e = calc(api.FnAdd, args...)
	}
	return e
}

// let is the statement name = e.
func let(name string, e api.Expr) api.Stmt {
	return api.Stmt{Kind: api.StLet, Name: name, Exprs: []api.Expr{e}}
}

// fence is a statement without fields.
func fence() api.Stmt {
	return api.Stmt{Kind: api.StFence}
}

// fences is a block of count statements.
func fences(count int) []api.Stmt {
	return slices.Repeat([]api.Stmt{fence()}, count)
}

// while is a loop with the given body.
func while(body ...api.Stmt) api.Stmt {
	return api.Stmt{Kind: api.StWhile, Exprs: []api.Expr{number(1)}, Body: body}
}

// either is a statement with the given blocks.
func either(body, otherwise []api.Stmt) api.Stmt {
	return api.Stmt{Kind: api.StIf, Exprs: []api.Expr{number(1)}, Body: body, Else: otherwise}
}

// nest puts a statement into levels - 1 others, alternately into the Body and the Else.
func nest(s api.Stmt, levels int) api.Stmt {
	for k := range levels - 1 {
		if k%2 == 0 {
			s = either([]api.Stmt{s}, nil)
		} else {
			s = either(nil, []api.Stmt{s})
		}
	}
	return s
}

// names returns the names of count objects, all of them different.
func names(prefix string, count int) []string {
	var all []string
	for k := range count {
		all = append(all, prefix+strconv.Itoa(k))
	}
	return all
}

// simple is a unit with several objects of each kind, whose first procedure f(p) has the given statements.
func simple(body ...api.Stmt) api.Unit {
	return api.Unit{
		Vars:    []api.Var{{Name: "x"}, {Name: "y", Init: 3}},
		Mutexes: []string{"m", "n"},
		Conds:   []string{"c", "d"},
		Procs:   []api.Proc{{Name: "f", Param: "p", Body: body}, {Name: "g"}, {Name: "h", Param: "q"}},
		Threads: []api.Launch{{Proc: "f", Arg: 1}},
	}
}

// fieldTable is the table of the chapter: the fields of each kind of statement, with the kind of an object and the number of Exprs.
var fieldTable = map[api.StmtKind]string{
	api.StLet:       "Name Exprs=1",
	api.StLoad:      "Name Obj=variable Order",
	api.StStore:     "Obj=variable Order Exprs=1",
	api.StSwap:      "Name Obj=variable Order Exprs=1",
	api.StFetchAdd:  "Name Obj=variable Order Exprs=1",
	api.StCas:       "Name Obj=variable Order Exprs=2",
	api.StFence:     "",
	api.StReturn:    "",
	api.StAwait:     "Name Obj=variable Fn Order Exprs=1",
	api.StLock:      "Obj=mutex",
	api.StUnlock:    "Obj=mutex",
	api.StTryLock:   "Name Obj=mutex",
	api.StWait:      "Obj=condition Other=mutex",
	api.StSignal:    "Obj=condition",
	api.StBroadcast: "Obj=condition",
	api.StSpawn:     "Name Obj=procedure Exprs=1",
	api.StJoin:      "Exprs=1",
	api.StAssert:    "Exprs=1",
	api.StIf:        "Exprs=1 Body Else",
	api.StWhile:     "Exprs=1 Body",
}

// field returns what the table of the chapter says of a field: whether the kind uses it, and what stands after =.
func field(kind api.StmtKind, name string) (string, bool) {
	for _, word := range strings.Fields(fieldTable[kind]) {
		used, value, _ := strings.Cut(word, "=")
		if used == name {
			return value, true
		}
	}
	return "", false
}

// exprsOf returns the number of Exprs of a kind.
func exprsOf(kind api.StmtKind) int {
	value, _ := field(kind, "Exprs")
	count, _ := strconv.Atoi(value)
	return count
}

// kinds are all kinds of statements.
func kinds() []api.StmtKind {
	var all []api.StmtKind
	for k := api.StLet; k <= api.StReturn; k++ {
		all = append(all, k)
	}
	return all
}

// objects are the names of objects of each kind in the unit simple.
var objects = map[string]string{"variable": "y", "mutex": "n", "condition": "d", "procedure": "h"}

// sample is a statement of a kind that is valid in the unit simple.
func sample(kind api.StmtKind) api.Stmt {
	s := api.Stmt{Kind: kind, Exprs: slices.Repeat([]api.Expr{number(5)}, exprsOf(kind))}
	if _, ok := field(kind, "Name"); ok {
		s.Name = "a"
	}
	if object, ok := field(kind, "Obj"); ok {
		s.Obj = objects[object]
	}
	if object, ok := field(kind, "Other"); ok {
		s.Other = objects[object]
	}
	if _, ok := field(kind, "Fn"); ok {
		s.Fn = api.FnLe
	}
	if _, ok := field(kind, "Order"); ok {
		s.Order = api.RelAcq
	}
	return s
}

// full is a valid unit with several elements in each list, every kind of statement and every kind of expression.
func full() api.Unit {
	all := []api.Stmt{
		let("a", calc(api.FnMul, calc(api.FnSub, local("p"), number(-7)), local("b"))),
		either([]api.Stmt{
			{Kind: api.StLoad, Name: "b", Obj: "x", Order: api.RelAcq},
			while(
				api.Stmt{Kind: api.StStore, Obj: "y", Order: api.Relaxed, Exprs: []api.Expr{local("b")}},
				api.Stmt{Kind: api.StSwap, Name: "a", Obj: "z", Exprs: []api.Expr{number(3)}},
			),
		}, []api.Stmt{
			{Kind: api.StFetchAdd, Name: "c", Obj: "x", Order: api.RelAcq, Exprs: []api.Expr{local("a")}},
			{Kind: api.StCas, Name: "d", Obj: "y", Exprs: []api.Expr{deep(3, 0), deep(2, 1)}},
		}),
		fence(),
	}
	blocking := []api.Stmt{
		{Kind: api.StAwait, Name: "e", Obj: "x", Fn: api.FnEq, Order: api.Relaxed, Exprs: []api.Expr{number(1)}},
		{Kind: api.StLock, Obj: "m"},
		{Kind: api.StWait, Obj: "c", Other: "m"},
		{Kind: api.StUnlock, Obj: "m"},
		{Kind: api.StTryLock, Name: "e", Obj: "n"},
		{Kind: api.StSignal, Obj: "d"},
		{Kind: api.StBroadcast, Obj: "k"},
	}
	threads := []api.Stmt{
		{Kind: api.StSpawn, Name: "t", Obj: "f", Exprs: []api.Expr{local("q")}},
		{Kind: api.StJoin, Exprs: []api.Expr{local("t")}},
		{Kind: api.StAssert, Exprs: []api.Expr{calc(api.FnNe, local("q"), local("t"))}},
		{Kind: api.StReturn},
	}
	return api.Unit{
		Vars:    []api.Var{{Name: "x", Init: 5}, {Name: "y", Init: -7}, {Name: "z"}},
		Mutexes: []string{"m", "n", "o"},
		Conds:   []string{"c", "d", "k"},
		Procs:   []api.Proc{{Name: "f", Param: "p", Body: all}, {Name: "g", Body: blocking}, {Name: "h", Param: "q", Body: threads}},
		Threads: []api.Launch{{Proc: "g", Arg: 4}, {Proc: "f", Arg: -4}, {Proc: "g"}},
	}
}

// spacious copies a unit into new memory, with filled memory behind the end of each list.
func spacious(u api.Unit) api.Unit {
	return deepCopy(reflect.ValueOf(u), 2).Interface().(api.Unit)
}

// fresh copies a unit into new memory.
func fresh(u api.Unit) api.Unit {
	return deepCopy(reflect.ValueOf(u), 0).Interface().(api.Unit)
}

// deepCopy copies a value into new memory, with the given number of further elements behind the end of each list.
func deepCopy(v reflect.Value, more int) reflect.Value {
	c := reflect.New(v.Type()).Elem()
	c.Set(v)
	switch v.Kind() {
	case reflect.Struct:
		for k := range v.NumField() {
			c.Field(k).Set(deepCopy(v.Field(k), more))
		}
	case reflect.Slice:
		if v.IsNil() && more == 0 {
			break
		}
		c.Set(reflect.MakeSlice(v.Type(), v.Len()+more, v.Len()+more))
		for k := range c.Len() {
			if k < v.Len() {
				c.Index(k).Set(deepCopy(v.Index(k), more))
			} else {
				overwrite(c.Index(k))
			}
		}
		c.Set(c.Slice(0, v.Len()))
	}
	return c
}

// overwrite changes everything in a value that can be set, also the memory behind the ends of its lists.
func overwrite(v reflect.Value) {
	switch v.Kind() {
	case reflect.Int:
		v.SetInt(v.Int() + 55)
	case reflect.String:
		v.SetString(v.String() + "other")
	case reflect.Struct:
		for k := range v.NumField() {
			overwrite(v.Field(k))
		}
	case reflect.Slice:
		for k := range v.Cap() {
			overwrite(v.Slice(0, v.Cap()).Index(k))
		}
	}
}

// whole is the text of a value with the memory behind the ends of its lists.
func whole(v reflect.Value) string {
	switch v.Kind() {
	case reflect.Struct:
		text := "{"
		for k := range v.NumField() {
			text += whole(v.Field(k)) + " "
		}
		return text + "}"
	case reflect.Slice:
		text := fmt.Sprint(v.Len(), "[")
		for k := range v.Cap() {
			text += whole(v.Slice(0, v.Cap()).Index(k)) + " "
		}
		return text + "]"
	}
	return fmt.Sprintf("%#v", v.Interface())
}

// wholeUnit is the text of a unit with the memory behind the ends of its lists.
func wholeUnit(u api.Unit) string {
	return whole(reflect.ValueOf(u))
}

// overwriteUnit changes everything in a unit.
func overwriteUnit(u api.Unit) {
	overwrite(reflect.ValueOf(&u).Elem())
}

// A spot is a number, a text or a list in a unit, with the way to it.
type spot struct {
	path string
	v    reflect.Value
}

// spots returns the numbers and texts of a unit, and its lists. A change of one of them changes the unit.
func spots(u *api.Unit) (leaves, lists []spot) {
	var walk func(path string, v reflect.Value)
	walk = func(path string, v reflect.Value) {
		switch v.Kind() {
		case reflect.Struct:
			for k := range v.NumField() {
				walk(path+"."+v.Type().Field(k).Name, v.Field(k))
			}
		case reflect.Slice:
			lists = append(lists, spot{path, v})
			for k := range v.Len() {
				walk(path+"["+strconv.Itoa(k)+"]", v.Index(k))
			}
		default:
			leaves = append(leaves, spot{path, v})
		}
	}
	walk("u", reflect.ValueOf(u).Elem())
	return leaves, lists
}
