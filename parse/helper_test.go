package parse

import (
	"fmt"
	"math/rand"
	"reflect"
	"slices"
	"strconv"
	"strings"
	"testing"

	"modelcheck/api"
	"modelcheck/lex"
)

// unitIs fails if the result of Unit is not the one that is wanted.
func unitIs(t *testing.T, s string, want api.Unit, fault api.Fault) {
	t.Helper()
	u, f := Unit(s)
	if f != fault || fmt.Sprint(u) != fmt.Sprint(want) {
		t.Errorf("Unit of %s: %.2000v, %v, want %.2000v, %v", short(s), u, f, want, fault)
	}
}

// exprIs fails if the result of Expr is not the one that is wanted.
func exprIs(t *testing.T, s string, want api.Expr, fault api.Fault) {
	t.Helper()
	e, f := Expr(s)
	if f != fault || fmt.Sprint(e) != fmt.Sprint(want) {
		t.Errorf("Expr of %s: %.2000v, %v, want %.2000v, %v", short(s), e, f, want, fault)
	}
}

// unitFails fails if Unit does not return the zero unit with the given fault.
func unitFails(t *testing.T, s string, err api.Errno, at int) {
	t.Helper()
	u, f := Unit(s)
	if f != (api.Fault{Err: err, At: at}) || !reflect.ValueOf(u).IsZero() {
		t.Errorf("Unit of %s: %.2000v, %v, want the fault %d at %d", short(s), u, f, err, at)
	}
}

// exprFails fails if Expr does not return the zero expression with the given fault.
func exprFails(t *testing.T, s string, err api.Errno, at int) {
	t.Helper()
	e, f := Expr(s)
	if f != (api.Fault{Err: err, At: at}) || !reflect.ValueOf(e).IsZero() {
		t.Errorf("Expr of %s: %.2000v, %v, want the fault %d at %d", short(s), e, f, err, at)
	}
}

// asReference fails if Unit or Expr of a text is not what the definitions say. It returns the fault of Unit.
func asReference(t *testing.T, s string) api.Fault {
	t.Helper()
	u, f := referenceUnit(s)
	unitIs(t, s, u, f)
	e, g := referenceExpr(s)
	exprIs(t, s, e, g)
	return f
}

// short is a text as it is shown in a message.
func short(s string) string {
	if len(s) > 1500 {
		return fmt.Sprintf("%q .. %q (%d bytes)", s[:1000], s[len(s)-400:], len(s))
	}
	return strconv.Quote(s)
}

// marked splits a text at its first mark @, and returns it without the mark, and the offset of the mark.
func marked(t *testing.T, s string) (string, int) {
	t.Helper()
	before, after, found := strings.Cut(s, "@")
	if !found {
		t.Fatalf("the text %s has no mark", short(s))
	}
	return before + after, len(before)
}

// failsAtMark fails if Unit of a text without its mark does not have the given fault at the mark.
func failsAtMark(t *testing.T, err api.Errno, s string) {
	t.Helper()
	text, at := marked(t, s)
	unitFails(t, text, err, at)
}

// A printer makes the tokens of a unit, and keeps the numbers of some of them.
type printer struct {
	words      []string
	procs      []int
	statements [][]int
}

// orders and functions are the words of orders and operations.
var (
	orders    = []string{"plain", "relaxed", "relacq"}
	functions = []string{"", "add", "sub", "mul", "and", "or", "xor", "eq", "ne", "lt", "le"}
)

// add adds tokens.
func (p *printer) add(words ...string) {
	p.words = append(p.words, words...)
}

// expr adds the tokens of an expression.
func (p *printer) expr(e api.Expr) {
	switch e.Kind {
	case api.ExNumber:
		p.add(strconv.Itoa(e.N))
	case api.ExLocal:
		p.add(e.Name)
	default:
		p.add("(")
		p.expr(e.Args[0])
		p.add(functions[e.Fn])
		p.expr(e.Args[1])
		p.add(")")
	}
}

// block adds the tokens of a block.
func (p *printer) block(l []api.Stmt, random *rand.Rand) {
	p.add("{")
	for _, s := range l {
		p.statement(s, random)
	}
	p.add("}")
}

// statement adds the tokens of a statement.
func (p *printer) statement(s api.Stmt, random *rand.Rand) {
	last := &p.statements[len(p.statements)-1]
	*last = append(*last, len(p.words))
	access := func(word string) { p.add(word, s.Obj, orders[s.Order]) }
	if s.Name != "" {
		p.add(s.Name, "=")
	}
	switch s.Kind {
	case api.StLoad:
		access("load")
	case api.StStore:
		access("store")
	case api.StSwap:
		access("swap")
	case api.StFetchAdd:
		access("fetchadd")
	case api.StCas:
		access("cas")
	case api.StAwait:
		access("await")
		p.add(functions[s.Fn])
	case api.StLock:
		p.add("lock", s.Obj)
	case api.StUnlock:
		p.add("unlock", s.Obj)
	case api.StTryLock:
		p.add("trylock", s.Obj)
	case api.StWait:
		p.add("wait", s.Obj, s.Other)
	case api.StSignal:
		p.add("signal", s.Obj)
	case api.StBroadcast:
		p.add("broadcast", s.Obj)
	case api.StSpawn:
		p.add("spawn", s.Obj)
	case api.StFence, api.StJoin, api.StAssert, api.StIf, api.StWhile, api.StReturn:
		p.add(map[api.StmtKind]string{api.StFence: "fence", api.StJoin: "join", api.StAssert: "assert", api.StIf: "if", api.StWhile: "while", api.StReturn: "return"}[s.Kind])
	}
	for k, e := range s.Exprs {
		if k > 0 {
			p.add(",")
		}
		p.expr(e)
	}
	if s.Kind != api.StIf && s.Kind != api.StWhile {
		p.add(";")
		return
	}
	p.block(s.Body, random)
	// An empty Else may be written or left out.
	if len(s.Else) > 0 || s.Kind == api.StIf && random.Intn(4) == 0 {
		p.add("else")
		p.block(s.Else, random)
	}
}

// printed makes the tokens of a unit, whose lists are mixed at random.
func printed(u api.Unit, random *rand.Rand) *printer {
	p := &printer{}
	var lists []int
	for list, count := range []int{len(u.Vars), len(u.Mutexes), len(u.Conds), len(u.Procs), len(u.Threads)} {
		lists = append(lists, slices.Repeat([]int{list}, count)...)
	}
	random.Shuffle(len(lists), func(k, n int) { lists[k], lists[n] = lists[n], lists[k] })
	next := make([]int, 5)
	for _, list := range lists {
		k := next[list]
		next[list]++
		switch list {
		case 0:
			p.add("var", u.Vars[k].Name, "=", strconv.Itoa(u.Vars[k].Init), ";")
		case 1:
			p.add("mutex", u.Mutexes[k], ";")
		case 2:
			p.add("cond", u.Conds[k], ";")
		case 3:
			p.procs = append(p.procs, len(p.words))
			p.statements = append(p.statements, nil)
			p.add("proc", u.Procs[k].Name, "(")
			if u.Procs[k].Param != "" {
				p.add(u.Procs[k].Param)
			}
			p.add(")")
			p.block(u.Procs[k].Body, random)
		case 4:
			p.add("thread", u.Threads[k].Proc, "(", strconv.Itoa(u.Threads[k].Arg), ")", ";")
		}
	}
	return p
}

// laid lays tokens out with blanks, tabs, line feeds and comments, and returns the offsets of the tokens too. It begins with a blank, so that no token is at 0.
func laid(words []string, random *rand.Rand) (string, []int) {
	var b strings.Builder
	var offsets []int
	b.WriteByte(' ')
	space := func(need bool) {
		for need || random.Intn(3) == 0 {
			b.WriteString([]string{" ", "\t", "\n", "  ", " \t\n", "#\n", "# a comment; proc f() {\n", "#\xff\x00é # #\n"}[random.Intn(8)])
			need = false
		}
	}
	for k, word := range words {
		// Two tokens of word characters need something between them.
		wordy := func(c byte) bool { return !strings.ContainsRune("(){},;=:", rune(c)) }
		space(k > 0 && wordy(words[k-1][0]) && wordy(word[0]) && (word[0] != '-' || random.Intn(2) == 0))
		offsets = append(offsets, b.Len())
		b.WriteString(word)
	}
	space(false)
	if random.Intn(4) == 0 {
		b.WriteString("# the end")
	}
	return b.String(), offsets
}

// plainly writes tokens with a blank between two of them.
func plainly(words []string) string {
	return strings.Join(words, " ")
}

// wordsOf returns the texts of the tokens of a text without line feeds.
func wordsOf(t *testing.T, s string) []string {
	t.Helper()
	tokens, fault := lex.Scan(s)
	if fault.Err != api.OK {
		t.Fatalf("the text %s has no tokens", short(s))
	}
	var words []string
	for _, x := range tokens {
		if x.Kind != api.TokLine {
			words = append(words, x.Text)
		}
	}
	return words
}

// vocabulary has tokens of each kind: all keywords, names, words that are no names of a program, numbers and symbols.
func vocabulary() []string {
	words := strings.Fields(keywords)
	words = append(words, "a", "x", "m", "c", "f", "Var", "iff", "pow", "func", "a_name_too_long_1", "0", "1", "-1", "2147483647", "-2147483648")
	return append(words, "(", ")", "{", "}", ",", ";", "=", ":")
}
