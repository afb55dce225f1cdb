package compile

import (
	"fmt"
	"math/rand"
	"reflect"
	"runtime/debug"
	"slices"
	"strings"
	"testing"

	"modelcheck/api"
	"modelcheck/ast"
	"modelcheck/inst"
	"modelcheck/program"
)

// A maker makes the texts of random units.
type maker struct {
	*rand.Rand
	kinds  []string // of the statements that are made besides if and while
	locals []string
	left   int // how many statements may still be made
}

// pick returns one of some texts.
func (m *maker) pick(texts ...string) string {
	return texts[m.Intn(len(texts))]
}

// value returns a value.
func (m *maker) value() int {
	return limits[m.Intn(len(limits))]
}

// expr returns an expression of at most the given depth.
func (m *maker) expr(depth int) string {
	switch kind := m.Intn(4); {
	case depth > 1 && kind < 2:
		return "(" + m.expr(depth-1) + " " + m.pick(functions[1:]...) + " " + m.expr(depth-1) + ")"
	case kind%2 == 0:
		return m.pick(m.locals...)
	}
	return fmt.Sprint(m.value())
}

// block returns a block with statements of at most the given number of levels.
func (m *maker) block(levels int) string {
	text := "{ "
	for range m.Intn(5) {
		if m.left > 0 {
			m.left--
			text += m.statement(levels)
		}
	}
	return text + "} "
}

// statement returns a statement of at most the given number of levels.
func (m *maker) statement(levels int) string {
	kind := m.Intn(8)
	switch {
	case kind == 0 && levels > 1:
		return "if " + m.expr(3) + " " + m.block(levels-1)
	case kind == 1 && levels > 1:
		return "if " + m.expr(3) + " " + m.block(levels-1) + "else " + m.block(levels-1)
	case kind == 2 && levels > 1:
		// A loop that counts ends more often than another one.
		a, body := m.pick(m.locals...), m.block(levels-1)
		if m.Intn(3) == 0 {
			return "while " + m.expr(3) + " " + body
		}
		return a + " = 0; while (" + a + " lt 3) { " + a + " = (" + a + " add 1); " + body[2:]
	}
	return strings.NewReplacer("V", m.pick(m.locals...), "E", m.expr(3), "FN", m.pick(functions[1:]...), "F", m.expr(2), "X", m.pick("x", "y"), "M", m.pick("m", "n"), "C", m.pick("c", "d"), "P", m.pick("f", "g"), "ORD", m.pick(orders...)).Replace(m.pick(m.kinds...))
}

// local and visible are the kinds of statements besides if and while.
var (
	local   = []string{"V = E; ", "V = E; ", "V = E; ", "V = E; ", "V = E; ", "V = E; ", "assert E; ", "return; "}
	visible = []string{"V = load X ORD; ", "store X ORD E; ", "V = swap X ORD E; ", "V = fetchadd X ORD E; ", "V = cas X ORD E, F; ", "fence; ", "V = await X ORD FN E; ", "lock M; ", "unlock M; ", "V = trylock M; ", "wait C M; ", "signal C; ", "broadcast C; ", "V = spawn P E; ", "join E; "}
)

// proc returns a procedure with the given number of statements at most besides those that loops add.
func (m *maker) proc(name string, statements int) string {
	param := m.pick("", "p", "a")
	m.locals, m.left = []string{"a", "b", "x"}, statements
	if param != "" {
		m.locals = append(m.locals, param)
	}
	body := m.block(1 + m.Intn(5))
	// All local variables are assigned somewhere, so each of them can be used anywhere.
	if m.Intn(2) == 0 {
		return "proc " + name + "(" + param + ") " + body[:len(body)-2] + "a = a; b = b; x = x; } "
	}
	return "proc " + name + "(" + param + ") { a = 0; b = a; x = b; " + body[2:]
}

// unit returns a unit with two objects of each kind.
func (m *maker) unit() string {
	text := fmt.Sprint("var x = ", m.value(), "; var y = ", m.value(), "; mutex m; mutex n; cond c; cond d; ")
	text += m.proc("f", 1+m.Intn(14)) + m.proc("g", 1+m.Intn(14))
	for range 1 + m.Intn(8) {
		text += fmt.Sprint("thread ", m.pick("f", "g"), "(", m.value(), "); ")
	}
	return text
}

// TestRandomUnits checks P19.1, P19.2 and the second part of P19.5 with many units, also with such that are not valid.
func TestRandomUnits(t *testing.T) {
	m := &maker{Rand: rand.New(rand.NewSource(19)), kinds: slices.Concat(local, visible)}
	found := map[api.Errno]int{}
	for range 4000 {
		text := m.unit()
		u := of(t, text)
		if asReference(t, text).Err == api.OK {
			found[api.OK]++
			program, _ := Unit(u)
			visibleAsStatements(t, u, program)
		}
		for range 3 {
			u := ast.Clone(u)
			m.spoil(&u)
			want, err := reference(u)
			unitIs(t, u, want, err)
			found[err]++
		}
	}
	for _, err := range []api.Errno{api.OK, api.ErrRange, api.ErrLimit, api.ErrName, api.ErrTwice, api.ErrOp, api.ErrField, api.ErrObject, api.ErrOrder} {
		if found[err] < 20 {
			t.Errorf("the error %d was found %d times", err, found[err])
		}
	}
}

// visibleAsStatements fails if the program of a unit is not valid, or if a function does not have as many visible instructions as its procedure has visible statements.
func visibleAsStatements(t *testing.T, u api.Unit, p api.Program) {
	t.Helper()
	if err, f, n := program.Check(p); err != api.OK {
		t.Fatalf("the program of %+v has the error %d at %d, %d", u, err, f, n)
	}
	for k, proc := range u.Procs {
		instructions := 0
		for _, i := range p.Funcs[k].Code {
			if inst.Visible(i.Op) {
				instructions++
			}
		}
		if statements := visibleStatements(proc.Body); statements != instructions {
			t.Fatalf("%+v has %d visible statements and %d visible instructions", proc, statements, instructions)
		}
	}
}

// visibleStatements returns the number of visible statements of a block.
func visibleStatements(l []api.Stmt) int {
	count := 0
	for _, s := range l {
		if !slices.Contains(invisible, s.Kind) {
			count++
		}
		count += visibleStatements(s.Body) + visibleStatements(s.Else)
	}
	return count
}

// spoil changes a number, a text or a list somewhere in a unit, which may still be valid.
func (m *maker) spoil(u *api.Unit) {
	var spots []reflect.Value
	var walk func(v reflect.Value)
	walk = func(v reflect.Value) {
		switch v.Kind() {
		case reflect.Struct:
			for k := range v.NumField() {
				walk(v.Field(k))
			}
		case reflect.Slice:
			for k := range v.Len() {
				walk(v.Index(k))
			}
		}
		if v.Kind() != reflect.Struct {
			spots = append(spots, v)
		}
	}
	walk(reflect.ValueOf(u).Elem())
	switch v := spots[m.Intn(len(spots))]; v.Kind() {
	case reflect.Int:
		v.SetInt([]int64{-1, 0, 1, 2, 3, 10, 11, 20, 21, most + 1, least - 1}[m.Intn(11)])
	case reflect.String:
		v.SetString(m.pick("", "a", "x", "y", "m", "n", "c", "d", "f", "g", "p", "if", "9", "a_name_of_17_byte", "a_name_of_16_byt"))
	case reflect.Slice:
		// An element is left out, or the elements are doubled.
		if n := v.Len(); n > 0 && m.Intn(2) == 0 {
			v.SetLen(n - 1)
		} else {
			v.Set(reflect.AppendSlice(v, v))
		}
	}
}

// TestEveryBlock checks P19.1 with all blocks of up to four statements with the kinds fence, return, if and while.
func TestEveryBlock(t *testing.T) {
	blocks := [][]string{{""}}
	for size := 1; size <= 4; size++ {
		var all []string
		for first := 1; first <= size; first++ {
			for _, rest := range blocks[size-first] {
				for _, s := range statementsOf(blocks, first) {
					all = append(all, s+rest)
				}
			}
		}
		blocks = append(blocks, all)
		for _, text := range all {
			u := of(t, within(text))
			want, err := reference(u)
			unitIs(t, u, want, err)
			visibleAsStatements(t, u, want)
		}
	}
	if len(blocks[3]) != 260 || len(blocks[4]) != 2780 {
		t.Errorf("there are %d and %d blocks", len(blocks[3]), len(blocks[4]))
	}
}

// statementsOf returns the texts of all statements that consist of the given number of statements, where the blocks with fewer statements are given.
func statementsOf(blocks [][]string, size int) []string {
	var all []string
	if size == 1 {
		all = append(all, "fence; ", "return; ")
	}
	for _, body := range blocks[size-1] {
		all = append(all, "while a { "+body+"} ")
	}
	for inside := range size {
		for _, body := range blocks[inside] {
			for _, otherwise := range blocks[size-1-inside] {
				all = append(all, "if a { "+body+"} else { "+otherwise+"} ")
			}
		}
	}
	return all
}

// evaluates fails if P19.4 does not hold for an expression with the given local variables, and P19.3 for its value.
func evaluates(t *testing.T, text string, locals []string, registers [8]int32) {
	t.Helper()
	e := expr(t, text)
	u := of(t, "proc f("+locals[0]+") { assert "+text+"; "+strings.Join(locals[1:], " = 0; ")+" = 0; } thread f(0);")
	p, err := Unit(u)
	length := slices.IndexFunc(p.Funcs[0].Code, func(i api.Inst) bool { return i.Op == api.OpAssert })
	if err != api.OK || length < 1 {
		t.Fatalf("%s has the code %+v, %d", text, p, err)
	}
	var values []int
	environment := map[string]int32{}
	for k, name := range locals {
		values = append(values, int(registers[k]))
		environment[name] = registers[k]
	}
	want := valueOf(e, environment)
	evalIs(t, e, locals, values, int(want), api.OK)
	after, end := execute(p.Funcs[0].Code[:length], registers, length)
	if end != finished || after[5] != want || [5]int32(after[:5]) != [5]int32(registers[:5]) {
		t.Fatalf("the code of %s, executed from %v, ends %s with %v, want %d in register 5", text, registers, end, after, want)
	}
}

// TestEvaluation checks P19.4: expressions of each form, with each function.
func TestEvaluation(t *testing.T) {
	m := &maker{Rand: rand.New(rand.NewSource(20))}
	locals := []string{"a", "b", "c", "d", "e"}
	forms := [][]string{{"V", "N"}}
	for len(forms) < 3 {
		last := forms[len(forms)-1]
		next := []string{"V", "N"}
		for _, left := range last {
			for _, right := range last {
				next = append(next, "("+left+" FN "+right+")")
			}
		}
		forms = append(forms, next)
	}
	if len(forms[2]) != 38 {
		t.Fatalf("there are %d forms", len(forms[2]))
	}
	for _, form := range forms[2] {
		for k := range 120 {
			text := form
			for strings.Contains(text, "FN") {
				text = strings.Replace(text, "FN", functions[1+(k+m.Intn(2)*m.Intn(10))%10], 1)
			}
			for strings.Contains(text, "V") {
				text = strings.Replace(text, "V", m.pick(locals...), 1)
			}
			for strings.Contains(text, "N") {
				text = strings.Replace(text, "N", fmt.Sprint(m.value()), 1)
			}
			evaluates(t, text, locals, m.registers())
		}
	}
}

// registers returns registers with any values.
func (m *maker) registers() [8]int32 {
	var registers [8]int32
	for k := range registers {
		registers[k] = int32(m.value())
	}
	return registers
}

// runsAlike fails if the first part of P19.5 does not hold for a procedure and an argument. It returns how the execution ends.
func runsAlike(t *testing.T, proc api.Proc, arg int32) string {
	t.Helper()
	p, err := Unit(api.Unit{Procs: []api.Proc{proc}, Threads: []api.Launch{{Proc: proc.Name}}})
	if err != api.OK {
		return fmt.Sprint(err)
	}
	want, end := executed(proc, arg, 400)
	if end == endless {
		return end
	}
	// A statement has at most ten instructions besides those of the blocks inside it.
	registers, ended := execute(p.Funcs[0].Code, [8]int32{arg}, 10*400)
	next := 1
	for _, name := range ast.Locals(proc) {
		register := 0
		if name != proc.Param {
			register = next
			next++
		}
		if registers[register] != want[name] || ended != end {
			t.Fatalf("%+v with the argument %d ends %s with %v, want %s with %v", proc, arg, ended, registers, end, want)
		}
	}
	return end
}

// TestControl checks P19.5: procedures without visible statements.
func TestControl(t *testing.T) {
	for _, x := range []struct {
		proc string
		arg  int32
		want []int32 // the registers of the local variables
		end  string
	}{
		{"f(n) { r = 1; while (0 lt n) { r = (r mul n); n = (n sub 1); } }", 10, []int32{0, 3628800}, finished},
		{"f(n) { r = 1; while (0 lt n) { r = (r mul n); n = (n sub 1); } }", 13, []int32{0, 1932053504}, finished},
		{"f(n) { while (n ne 1) { if (n and 1) { n = ((n mul 3) add 1); } else { h = 0; m = n; while (1 lt m) { m = (m sub 2); h = (h add 1); } n = h; } s = (s add 1); } }", 7, []int32{1, 1, 0, 16}, finished},
		{"f(a) { if a { if (a lt 5) { b = 1; } else { b = 2; } } else { b = 3; } c = b; }", 4, []int32{4, 1, 1}, finished},
		{"f(a) { if a { if (a lt 5) { b = 1; } else { b = 2; } } else { b = 3; } c = b; }", 5, []int32{5, 2, 2}, finished},
		{"f(a) { if a { if (a lt 5) { b = 1; } else { b = 2; } } else { b = 3; } c = b; }", 0, []int32{0, 3, 3}, finished},
		{"f(a) { if a { b = 1; return; } b = 2; }", 0, []int32{0, 2}, finished},
		{"f(a) { if a { b = 1; return; } b = 2; }", -1, []int32{-1, 1}, finished},
		{"f(a) { while 1 { b = (b add a); if (50 lt b) { return; } } }", 7, []int32{7, 56}, finished},
		{"f(a) { b = 1; assert (a lt 3); b = 2; }", 3, []int32{3, 1}, failed},
		{"f(a) { b = 1; assert (a lt 3); b = 2; }", 2, []int32{2, 2}, finished},
		// The argument is in register 0, where a procedure without a parameter has no local variable.
		{"f() { a = b; b = (a add 1); while (b lt 3) { b = (b add 1); } }", 9, []int32{9, 0, 3}, finished},
		{"f(a) { t = a; a = b; b = t; }", 9, []int32{0, 9, 9}, finished},
	} {
		u := of(t, "proc "+x.proc+" thread f(0);")
		p, err := Unit(u)
		if err != api.OK {
			t.Fatalf("%s has the error %d", x.proc, err)
		}
		got, end := execute(p.Funcs[0].Code, [8]int32{x.arg}, 5000)
		if !slices.Equal(got[:len(x.want)], x.want) || end != x.end {
			t.Errorf("%s with %d ends %s with %v, want %s with %v", x.proc, x.arg, end, got, x.end, x.want)
		}
		runsAlike(t, u.Procs[0], x.arg)
	}
}

// TestRandomControl checks P19.5 with many procedures without visible statements.
func TestRandomControl(t *testing.T) {
	m := &maker{Rand: rand.New(rand.NewSource(21)), kinds: local}
	ends := map[string]int{}
	for range 12000 {
		u := of(t, m.proc("f", 1+m.Intn(20))+"thread f(0);")
		for range 3 {
			ends[runsAlike(t, u.Procs[0], int32(m.value()))]++
		}
	}
	for _, end := range []string{finished, failed, endless, fmt.Sprint(api.ErrLimit)} {
		if ends[end] < 500 {
			t.Errorf("the procedures end as follows: %v", ends)
		}
	}
}

// TestDeep checks that units and expressions of any depth and kind have an error, on a small stack.
func TestDeep(t *testing.T) {
	defer debug.SetMaxStack(debug.SetMaxStack(1 << 20))
	const depth = 200000
	one := api.Expr{Kind: api.ExNumber, N: 1}
	a := api.Expr{Kind: api.ExLocal, Name: "a"}
	base := of(t, within("fence;"))
	fails := func(s api.Stmt) {
		t.Helper()
		base.Procs[0].Body[0] = s
		if p, err := Unit(base); err != api.ErrLimit || !program.Equal(p, api.Program{}) {
			t.Errorf("a deep unit: %.100v, %d", p, err)
		}
	}
	for _, kind := range []api.ExprKind{api.ExCalc, api.ExNumber, api.ExLocal, 0, 99} {
		for k := range 2 {
			e := a
			for range depth {
				args := []api.Expr{one, one}
				args[k] = e
				e = api.Expr{Kind: kind, Fn: api.FnAdd, Args: args}
			}
			if n, err := Eval(e, []string{"a"}, []int{1}); n != 0 || err != api.ErrLimit {
				t.Errorf("a deep expression: %d, %d", n, err)
			}
			fails(api.Stmt{Kind: api.StAssert, Exprs: []api.Expr{e}})
		}
	}
	for _, kind := range []api.StmtKind{api.StIf, api.StWhile, api.StFence, 0, 99} {
		body, otherwise := api.Stmt{Kind: api.StFence}, api.Stmt{Kind: api.StReturn}
		for range depth {
			body = api.Stmt{Kind: kind, Exprs: []api.Expr{a}, Body: []api.Stmt{body}}
			otherwise = api.Stmt{Kind: kind, Exprs: []api.Expr{a}, Else: []api.Stmt{otherwise}}
		}
		fails(body)
		fails(otherwise)
	}
	// An expression and a block that contain themselves have no end.
	endless := sum(a, one)
	endless.Args[0] = endless
	if n, err := Eval(endless, []string{"a"}, []int{1}); n != 0 || err != api.ErrLimit {
		t.Errorf("an endless expression: %d, %d", n, err)
	}
	fails(api.Stmt{Kind: api.StJoin, Exprs: []api.Expr{endless}})
	body := []api.Stmt{{Kind: api.StWhile, Exprs: []api.Expr{a}}}
	body[0].Body = body
	fails(body[0])
}

// TestDeepTexts checks the deepest texts.
func TestDeepTexts(t *testing.T) {
	deep := "proc f() { " + strings.Repeat("if 1 { ", 2000)
	sourceIs(t, deep, api.Program{}, api.Fault{Err: api.ErrEnd, At: len(deep)})
	sourceIs(t, "proc f() { b = "+strings.Repeat("(", 15000), api.Program{}, api.Fault{Err: api.ErrEnd, At: 15015})
}

// TestWide checks long lists.
func TestWide(t *testing.T) {
	u := of(t, within(""))
	u.Procs[0].Body = slices.Repeat([]api.Stmt{{Kind: api.StFence}}, 1000000)
	unitFails(t, "many statements", u, api.ErrLimit)
	u.Procs[0].Body = []api.Stmt{{Kind: api.StJoin, Exprs: make([]api.Expr, 1000000)}}
	unitFails(t, "many expressions", u, api.ErrField)
	e := api.Expr{Kind: api.ExCalc, Fn: api.FnAdd, Args: make([]api.Expr, 1000000)}
	evalIs(t, e, nil, nil, 0, api.ErrField)
}

// A span is the memory of a list: the addresses of its beginning and of its end.
type span struct {
	from, to uintptr
}

// memory returns the memory of all lists in a value, with the capacity behind them.
func memory(v reflect.Value) []span {
	var spans []span
	switch v.Kind() {
	case reflect.Struct:
		for k := range v.NumField() {
			spans = append(spans, memory(v.Field(k))...)
		}
	case reflect.Slice:
		if v.Cap() > 0 {
			spans = append(spans, span{v.Pointer(), v.Pointer() + uintptr(v.Cap())*v.Type().Elem().Size()})
		}
		for k := range v.Len() {
			spans = append(spans, memory(v.Index(k))...)
		}
	}
	return spans
}

// whole is the text of a value with the memory behind the ends of its lists.
func whole(v reflect.Value) string {
	text := ""
	switch v.Kind() {
	case reflect.Struct:
		for k := range v.NumField() {
			text += whole(v.Field(k)) + " "
		}
	case reflect.Slice:
		text += fmt.Sprint(v.Len(), ":")
		for k := range v.Cap() {
			text += whole(v.Slice(0, v.Cap()).Index(k)) + ","
		}
	default:
		text += fmt.Sprintf("%#v", v.Interface())
	}
	return text
}

// TestMemory checks that units stay as they are, that results are new memory, and that equal calls have equal results.
func TestMemory(t *testing.T) {
	m := &maker{Rand: rand.New(rand.NewSource(22)), kinds: slices.Concat(local, visible)}
	texts := []string{faulty, within(""), "proc f() {} thread f(0);", within(fences(65))}
	for range 200 {
		texts = append(texts, m.unit())
	}
	for _, text := range texts {
		u := of(t, text)
		// The lists of a unit and those behind them are one memory, which is not that of the results.
		u.Procs = append(u.Procs, api.Proc{Name: "behind", Body: []api.Stmt{{Kind: 77}}})[:len(u.Procs)]
		u.Vars, u.Mutexes = append(u.Vars, api.Var{Name: "behind"})[:len(u.Vars)], append(u.Mutexes, "behind")[:len(u.Mutexes)]
		before := whole(reflect.ValueOf(u))
		p, err := Unit(u)
		q, _ := Unit(u)
		r, _ := Source(text)
		s, fault := Source(text)
		if after := whole(reflect.ValueOf(u)); after != before {
			t.Fatalf("the unit %s became %s", before, after)
		}
		if !program.Equal(p, q) || !program.Equal(p, r) || !program.Equal(p, s) || fault != (api.Fault{Err: err}) {
			t.Fatalf("%s has the programs %v, %v, %v and %v, %d, %v", text, p, q, r, s, err, fault)
		}
		var spans []span
		for _, x := range []any{u, p, q, r, s} {
			spans = append(spans, memory(reflect.ValueOf(x))...)
		}
		slices.SortFunc(spans, func(a, b span) int { return int(a.from) - int(b.from) })
		for k := range len(spans) - 1 {
			if spans[k].to > spans[k+1].from {
				t.Fatalf("two lists of %s share memory", text)
			}
		}
	}
}
