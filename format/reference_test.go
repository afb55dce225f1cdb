package format

import (
	"fmt"
	"regexp"
	"strings"

	"modelcheck/api"
)

// statementTexts is the table of the chapter. The blocks of StIf and StWhile are not in it.
var statementTexts = map[api.StmtKind]string{
	api.StLet:       "X = E;",
	api.StLoad:      "X = load O ORD;",
	api.StStore:     "store O ORD E;",
	api.StSwap:      "X = swap O ORD E;",
	api.StFetchAdd:  "X = fetchadd O ORD E;",
	api.StCas:       "X = cas O ORD E, F;",
	api.StFence:     "fence;",
	api.StAwait:     "X = await O ORD FN E;",
	api.StLock:      "lock O;",
	api.StUnlock:    "unlock O;",
	api.StTryLock:   "X = trylock O;",
	api.StWait:      "wait O M;",
	api.StSignal:    "signal O;",
	api.StBroadcast: "broadcast O;",
	api.StSpawn:     "X = spawn O E;",
	api.StJoin:      "join E;",
	api.StAssert:    "assert E;",
	api.StIf:        "if E",
	api.StWhile:     "while E",
	api.StReturn:    "return;",
}

// placeholder matches the words of statementTexts that stand for something.
var placeholder = regexp.MustCompile(`\b(X|O|M|ORD|FN|E|F)\b`)

// orders and functions are the names of orders and functions.
var (
	orders    = []string{"plain", "relaxed", "relacq"}
	functions = []string{"", "add", "sub", "mul", "and", "or", "xor", "eq", "ne", "lt", "le"}
)

// uses reports whether the text of a kind of statements contains a placeholder.
func uses(kind api.StmtKind, word string) bool {
	for _, found := range placeholder.FindAllString(statementTexts[kind], -1) {
		if found == word {
			return true
		}
	}
	return false
}

// exprText is the text of an expression by its definition.
func exprText(e api.Expr) string {
	switch e.Kind {
	case api.ExNumber:
		return fmt.Sprintf("%d", e.N)
	case api.ExLocal:
		return e.Name
	}
	return fmt.Sprintf("(%s %s %s)", exprText(e.Args[0]), functions[e.Fn], exprText(e.Args[1]))
}

// statementText is the text of a statement in a line with n tabs at its beginning, by its definition.
func statementText(s api.Stmt, n int) string {
	text := placeholder.ReplaceAllStringFunc(statementTexts[s.Kind], func(word string) string {
		switch word {
		case "X":
			return s.Name
		case "O":
			return s.Obj
		case "M":
			return s.Other
		case "ORD":
			return orders[s.Order]
		case "FN":
			return functions[s.Fn]
		case "E":
			return exprText(s.Exprs[0])
		}
		return exprText(s.Exprs[1])
	})
	if s.Kind == api.StIf || s.Kind == api.StWhile {
		text += blockText(s.Body, n)
	}
	if len(s.Else) > 0 {
		text += " else" + blockText(s.Else, n)
	}
	return text
}

// blockText is the text of a block in a line with n tabs at its beginning, by its definition.
func blockText(l []api.Stmt, n int) string {
	text := " {\n"
	for _, s := range l {
		text += strings.Repeat("\t", n+1) + statementText(s, n+1) + "\n"
	}
	return text + strings.Repeat("\t", n) + "}"
}

// unitText is the text of a unit by its definition.
func unitText(u api.Unit) string {
	var lines []string
	for _, v := range u.Vars {
		lines = append(lines, fmt.Sprintf("var %s = %d;", v.Name, v.Init))
	}
	for _, name := range u.Mutexes {
		lines = append(lines, fmt.Sprintf("mutex %s;", name))
	}
	for _, name := range u.Conds {
		lines = append(lines, fmt.Sprintf("cond %s;", name))
	}
	for _, p := range u.Procs {
		lines = append(lines, fmt.Sprintf("proc %s(%s)%s", p.Name, p.Param, blockText(p.Body, 0)))
	}
	for _, start := range u.Threads {
		lines = append(lines, fmt.Sprintf("thread %s(%d);", start.Proc, start.Arg))
	}
	return strings.Join(lines, "\n") + "\n"
}
