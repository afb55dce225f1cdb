package parse

import (
	"slices"
	"strings"

	"modelcheck/api"
	"modelcheck/ast"
	"modelcheck/lex"
)

// grammar is the grammar of the chapter, a line for each rule.
const grammar = `unit = { "var" NAME "=" NUMBER ";" | "mutex" NAME ";" | "cond" NAME ";" | "proc" NAME "(" [ NAME ] ")" block | "thread" NAME "(" NUMBER ")" ";" }
block = "{" { stmt } "}"
stmt = NAME "=" expr ";" | NAME "=" "load" NAME order ";" | "store" NAME order expr ";" | NAME "=" "swap" NAME order expr ";" | NAME "=" "fetchadd" NAME order expr ";" | NAME "=" "cas" NAME order expr "," expr ";" | "fence" ";" | NAME "=" "await" NAME order fn expr ";" | "lock" NAME ";" | "unlock" NAME ";" | NAME "=" "trylock" NAME ";" | "wait" NAME NAME ";" | "signal" NAME ";" | "broadcast" NAME ";" | NAME "=" "spawn" NAME expr ";" | "join" expr ";" | "assert" expr ";" | "if" expr block [ "else" block ] | "while" expr block | "return" ";"
expr = NUMBER | NAME | "(" expr fn expr ")"
order = "plain" | "relaxed" | "relacq"
fn = "add" | "sub" | "mul" | "and" | "or" | "xor" | "eq" | "ne" | "lt" | "le"`

// keywords are the keywords of chapter 16.
const keywords = "var mutex cond proc thread load store swap fetchadd cas fence await lock unlock trylock wait signal broadcast spawn join assert if else while return plain relaxed relacq add sub mul and or xor eq ne lt le"

// An item is an item of the right side of a rule: a word of the grammar, a repetition (word "{") or an optional part (word "[") with its alternatives, or the end of a rule (word "").
type item struct {
	word         string
	alternatives [][]item
}

// rules maps the name of each rule to its alternatives.
var rules = readGrammar()

// readGrammar reads the grammar.
func readGrammar() map[string][][]item {
	all := map[string][][]item{}
	for line := range strings.SplitSeq(grammar, "\n") {
		words := strings.Fields(line)
		rest := words[2:]
		all[words[0]] = readAlternatives(&rest)
	}
	return all
}

// readAlternatives reads alternatives up to the end of the words or of a repetition or optional part.
func readAlternatives(words *[]string) [][]item {
	all := [][]item{nil}
	last := func() *[]item { return &all[len(all)-1] }
	for len(*words) > 0 {
		word := (*words)[0]
		*words = (*words)[1:]
		switch word {
		case "}", "]":
			return all
		case "|":
			all = append(all, nil)
		case "{", "[":
			*last() = append(*last(), item{word, readAlternatives(words)})
		default:
			*last() = append(*last(), item{word: word})
		}
	}
	return all
}

// An expected is a list of items that may follow in a text, each one with the name of its rule.
type expected struct {
	item item
	rule string
	next *expected
}

// A step is a step of a derivation: the beginning of a rule, its end (no rule and no token), or a token.
type step struct {
	rule        string
	alternative int
	token       *api.Token
	before      *step
}

// A derivation is a way to derive the tokens so far, and what it expects next. Without an expected it is complete.
type derivation struct {
	steps *step
	next  *expected
}

// push puts the items of an alternative before what is expected.
func push(items []item, rule string, next *expected) *expected {
	for _, x := range slices.Backward(items) {
		next = &expected{x, rule, next}
	}
	return next
}

// expand returns the derivations, each of which is complete or expects a token next.
func expand(open []derivation) []derivation {
	var all []derivation
	for len(open) > 0 {
		d := open[len(open)-1]
		open = open[:len(open)-1]
		if d.next == nil {
			all = append(all, d)
			continue
		}
		x, rule, next := d.next.item, d.next.rule, d.next.next
		switch alternatives, isRule := rules[x.word]; {
		case x.word == "":
			open = append(open, derivation{&step{before: d.steps}, next})
		case x.word == "{" || x.word == "[":
			open = append(open, derivation{d.steps, next})
			if x.word == "{" {
				next = d.next
			}
			for _, items := range x.alternatives {
				open = append(open, derivation{d.steps, push(items, rule, next)})
			}
		case isRule:
			for k, items := range alternatives {
				end := &expected{item{}, x.word, next}
				open = append(open, derivation{&step{rule: x.word, alternative: k, before: d.steps}, push(items, x.word, end)})
			}
		default:
			all = append(all, d)
		}
	}
	return all
}

// matches reports whether a token is one for which a word of the grammar stands.
func matches(word string, t api.Token) bool {
	switch word {
	case "NUMBER":
		return t.Kind == api.TokNumber
	case "NAME":
		return t.Kind == api.TokWord && !slices.Contains(strings.Fields(keywords), t.Text)
	}
	return word == `"`+t.Text+`"`
}

// derive returns the derivation of the tokens from a rule, or the fault.
func derive(rule string, tokens []api.Token, length int) (*step, api.Fault) {
	current := expand([]derivation{{nil, &expected{item{word: rule}, "", nil}}})
	for k, t := range tokens {
		var following []derivation
		wanted := map[string]bool{}
		for _, d := range current {
			if d.next == nil {
				continue
			}
			wanted[d.next.rule] = true
			if matches(d.next.item.word, t) {
				following = append(following, derivation{&step{token: &tokens[k], before: d.steps}, d.next.next})
			}
		}
		switch {
		case len(following) > 0:
		case t.Kind == api.TokWord && wanted["order"]:
			return nil, api.Fault{Err: api.ErrOrder, At: t.At}
		case t.Kind == api.TokWord && wanted["fn"]:
			return nil, api.Fault{Err: api.ErrOp, At: t.At}
		default:
			return nil, api.Fault{Err: api.ErrToken, At: t.At}
		}
		current = expand(following)
	}
	for _, d := range current {
		if d.next == nil {
			return d.steps, api.Fault{}
		}
	}
	return nil, api.Fault{Err: api.ErrEnd, At: length}
}

// A node is a node of the tree of a derivation: a rule with its alternative, or a token.
type node struct {
	rule        string
	alternative int
	token       api.Token
	inside      []*node
}

// tree returns the tree of a derivation.
func tree(last *step) *node {
	var steps []*step
	for s := last; s != nil; s = s.before {
		steps = append(steps, s)
	}
	open := []*node{{}}
	for _, s := range slices.Backward(steps) {
		top := open[len(open)-1]
		switch {
		case s.token != nil:
			top.inside = append(top.inside, &node{token: *s.token})
		case s.rule != "":
			n := &node{rule: s.rule, alternative: s.alternative}
			top.inside = append(top.inside, n)
			open = append(open, n)
		default:
			open = open[:len(open)-1]
		}
	}
	return open[0].inside[0]
}

// parts returns the nodes of a rule directly inside a node.
func (n *node) parts(rule string) []*node {
	var all []*node
	for _, x := range n.inside {
		if x.rule == rule {
			all = append(all, x)
		}
	}
	return all
}

// exprOf is the expression of a node by the definition.
func exprOf(n *node) api.Expr {
	first := n.inside[0].token
	switch n.alternative {
	case 0:
		return api.Expr{Kind: api.ExNumber, N: first.N}
	case 1:
		return api.Expr{Kind: api.ExLocal, Name: first.Text}
	}
	e := api.Expr{Kind: api.ExCalc, Fn: api.Fn(n.parts("fn")[0].alternative + 1)}
	for _, x := range n.parts("expr") {
		e.Args = append(e.Args, exprOf(x))
	}
	return e
}

// stmtOf is the statement of a node by the definition, apart from Body and Else.
func stmtOf(n *node) api.Stmt {
	s := api.Stmt{Kind: api.StmtKind(n.alternative + 1)}
	var names []string
	for _, x := range n.inside {
		if x.token.Text == "=" {
			s.Name, names = names[0], nil
		} else if matches("NAME", x.token) {
			names = append(names, x.token.Text)
		}
	}
	if len(names) > 0 {
		s.Obj = names[0]
	}
	if len(names) > 1 {
		s.Other = names[1]
	}
	for _, x := range n.parts("order") {
		s.Order = api.Order(x.alternative)
	}
	for _, x := range n.parts("fn") {
		s.Fn = api.Fn(x.alternative + 1)
	}
	for _, x := range n.parts("expr") {
		s.Exprs = append(s.Exprs, exprOf(x))
	}
	return s
}

// blockOf is the block of a node by the definition. It appends the offsets of the first tokens of its statements.
func blockOf(n *node, offsets *[]int) []api.Stmt {
	var all []api.Stmt
	for _, x := range n.parts("stmt") {
		s := stmtOf(x)
		*offsets = append(*offsets, x.inside[0].token.At)
		for k, b := range x.parts("block") {
			if k == 0 {
				s.Body = blockOf(b, offsets)
			} else {
				s.Else = blockOf(b, offsets)
			}
		}
		all = append(all, s)
	}
	return all
}

// unitOf is the unit of a node by the definition, with the offsets of the tokens "proc" and of the first tokens of the statements of each procedure.
func unitOf(n *node) (api.Unit, []int, [][]int) {
	var u api.Unit
	var procs []int
	var statements [][]int
	for k, x := range n.inside {
		token := func(after int) api.Token { return n.inside[k+after].token }
		switch x.token.Text {
		case "var":
			u.Vars = append(u.Vars, api.Var{Name: token(1).Text, Init: token(3).N})
		case "mutex":
			u.Mutexes = append(u.Mutexes, token(1).Text)
		case "cond":
			u.Conds = append(u.Conds, token(1).Text)
		case "thread":
			u.Threads = append(u.Threads, api.Launch{Proc: token(1).Text, Arg: token(3).N})
		case "proc":
			p := api.Proc{Name: token(1).Text}
			body := n.inside[k+4]
			if body.rule == "" {
				p.Param, body = token(3).Text, n.inside[k+5]
			}
			var offsets []int
			p.Body = blockOf(body, &offsets)
			u.Procs = append(u.Procs, p)
			procs = append(procs, x.token.At)
			statements = append(statements, offsets)
		}
	}
	return u, procs, statements
}

// referenceTokens returns the tokens of a text without line feeds, or the fault.
func referenceTokens(s string) ([]api.Token, api.Fault) {
	tokens, fault := lex.Scan(s)
	return slices.DeleteFunc(tokens, func(t api.Token) bool { return t.Kind == api.TokLine }), fault
}

// referenceUnit is the result of Unit by the definitions.
func referenceUnit(s string) (api.Unit, api.Fault) {
	tokens, fault := referenceTokens(s)
	if fault != (api.Fault{}) {
		return api.Unit{}, fault
	}
	steps, fault := derive("unit", tokens, len(s))
	if fault != (api.Fault{}) {
		return api.Unit{}, fault
	}
	u, procs, statements := unitOf(tree(steps))
	err, k, n := ast.Check(u)
	switch {
	case err == api.OK:
		return u, api.Fault{}
	case n >= 0:
		return api.Unit{}, api.Fault{Err: err, At: statements[k][n]}
	case k >= 0:
		return api.Unit{}, api.Fault{Err: err, At: procs[k]}
	}
	return api.Unit{}, api.Fault{Err: err}
}

// referenceExpr is the result of Expr by the definitions.
func referenceExpr(s string) (api.Expr, api.Fault) {
	tokens, fault := referenceTokens(s)
	if fault != (api.Fault{}) {
		return api.Expr{}, fault
	}
	steps, fault := derive("expr", tokens, len(s))
	if fault != (api.Fault{}) {
		return api.Expr{}, fault
	}
	e := exprOf(tree(steps))
	if err := ast.CheckExpr(e, namesIn(e)); err != api.OK {
		return api.Expr{}, api.Fault{Err: err}
	}
	return e, api.Fault{}
}

// namesIn returns the names in an expression.
func namesIn(e api.Expr) []string {
	var all []string
	if e.Kind == api.ExLocal {
		all = append(all, e.Name)
	}
	for _, arg := range e.Args {
		all = append(all, namesIn(arg)...)
	}
	return all
}
