package compile

import (
	"fmt"
	"strings"
	"testing"

	"modelcheck/api"
	"modelcheck/parse"
)

// faultIs fails if Source of a text, without its mark @, does not return the wanted error at the mark and no program.
func faultIs(t *testing.T, err api.Errno, marked string) {
	t.Helper()
	before, after, found := strings.Cut(marked, "@")
	if !found {
		t.Fatalf("the text %.500q has no mark", marked)
	}
	sourceIs(t, before+after, api.Program{}, api.Fault{Err: err, At: len(before)})
}

// TestSource checks P19.2: the program of a text.
func TestSource(t *testing.T) {
	sourceIs(t, " # SB\nvar x = 0;\tvar y=-1;\nproc f(a) { store x relaxed a; b = load y relaxed; }\nproc g() { store y plain 1; if 1 {} }\nthread g(0); thread f(-2);#", api.Program{
		Vars: []api.Var{{Name: "x"}, {Name: "y", Init: -1}},
		Funcs: []api.Func{
			{Name: "f", Code: []api.Inst{{Op: api.OpCopy, A: 5}, {Op: api.OpStore, B: 5, Order: api.Relaxed}, {Op: api.OpLoad, A: 1, Obj: 1, Order: api.Relaxed}}},
			{Name: "g", Code: []api.Inst{{Op: api.OpConst, A: 5, N: 1}, {Op: api.OpStore, B: 5, Obj: 1}, {Op: api.OpConst, A: 5, N: 1}, {Op: api.OpBranch, B: 5, N: 5}, {Op: api.OpJump, N: 5}}},
		},
		Threads: []api.Start{{Func: 1}, {Func: 0, Arg: -2}},
	}, api.Fault{})
	sourceIs(t, "proc f(){}thread f(1);", api.Program{Funcs: []api.Func{{Name: "f"}}, Threads: []api.Start{{Arg: 1}}}, api.Fault{})
	for _, x := range samples {
		want, err := reference(of(t, within(x.statement)))
		if err != api.OK {
			t.Fatalf("%s has the error %d", x.statement, err)
		}
		sourceIs(t, within(x.statement), want, api.Fault{})
	}
}

// TestSourceFaults checks P19.2: each fault of parse.Unit, at its place.
func TestSourceFaults(t *testing.T) {
	const rest = " proc g() { } thread g(0);"
	// The faults of the tokens.
	faultIs(t, api.ErrToken, "proc f() { b = @\"x\"; }"+rest)
	faultIs(t, api.ErrToken, "proc f() { b = (1 @+ 2); }"+rest)
	faultIs(t, api.ErrNumber, "proc f() { b = @01; }"+rest)
	faultIs(t, api.ErrNumber, "proc f() { b = @-; }"+rest)
	faultIs(t, api.ErrRange, "proc f() { b = @2147483648; }"+rest)
	faultIs(t, api.ErrRange, "var x = @-2147483649;"+rest)
	faultIs(t, api.ErrLimit, "@"+rest+strings.Repeat(" ", api.MaxText))
	sourceIs(t, rest+strings.Repeat(" ", api.MaxText-len(rest)), api.Program{Funcs: []api.Func{{Name: "g"}}, Threads: []api.Start{{}}}, api.Fault{})
	// The faults of the syntax.
	faultIs(t, api.ErrEnd, "proc f(@")
	faultIs(t, api.ErrEnd, rest+" proc f() { b = (1 add @")
	faultIs(t, api.ErrToken, rest+" @f")
	faultIs(t, api.ErrToken, "proc f() { b = load x plain @1; }"+rest)
	faultIs(t, api.ErrOrder, "proc f() { b = load x @sc; }"+rest)
	faultIs(t, api.ErrOp, "proc f() { b = (1 @div 2); }"+rest)
	// The faults of the unit.
	faultIs(t, api.ErrLimit, "@")
	faultIs(t, api.ErrLimit, "@ # no thread\n proc f() { }")
	faultIs(t, api.ErrTwice, "@ var x = 0; var x = 1;"+rest)
	faultIs(t, api.ErrName, "@ var a_name_of_17_byte = 0;"+rest)
	faultIs(t, api.ErrTwice, rest+" @proc g() { fence; }")
	faultIs(t, api.ErrObject, "@ thread f(0);"+rest)
	faultIs(t, api.ErrName, " @proc f(a_name_of_17_byte) { }"+rest)
	faultIs(t, api.ErrLimit, " @proc f() { "+fences(129)+" }"+rest)
	faultIs(t, api.ErrLimit, " @proc f() { a = 1; b = 1; c = 1; d = 1; e = 1; }"+rest)
	faultIs(t, api.ErrLimit, "proc f() { "+strings.Repeat("if 1 { ", 12)+"@fence; "+strings.Repeat("} ", 12)+"}"+rest)
	faultIs(t, api.ErrName, "proc f() { fence; @a_name_of_17_byte = 1; }"+rest)
	faultIs(t, api.ErrObject, "proc f() { fence; @lock m; }"+rest)
	faultIs(t, api.ErrObject, "mutex m; cond c; proc f() { while 1 { @wait c c; } }"+rest)
	faultIs(t, api.ErrObject, "proc f() { while 1 { @assert a; } }"+rest)
	faultIs(t, api.ErrLimit, "proc f() { fence; @assert (((1 add 2) add 3) add 4); }"+rest)
	faultIs(t, api.ErrLimit, "var x = 0; proc f() { fence; @a = cas x plain 1, ((1 add 2) add 3); }"+rest)
}

// TestSourceLimit checks P19.2: the fault at 0 with the error of Unit, which comes after every fault of parse.Unit.
func TestSourceLimit(t *testing.T) {
	const rest = " proc g() { } thread g(0);"
	long := " proc f() { " + fences(65) + "}"
	faultIs(t, api.ErrLimit, "@\n\t "+long+rest)
	faultIs(t, api.ErrLimit, "@# long"+"\n"+rest+long)
	faultIs(t, api.ErrLimit, "@ proc f() { "+fences(62)+"while 1 { } }"+rest)
	faultIs(t, api.ErrToken, long+rest+" @;")
	faultIs(t, api.ErrEnd, long+rest+"var@")
	faultIs(t, api.ErrObject, long+" proc h() { fence; @unlock m; }"+rest)
	faultIs(t, api.ErrLimit, long+" @proc h() { "+fences(129)+"}"+rest)
	faultIs(t, api.ErrTwice, long+rest+" @proc f() { }")
	faultIs(t, api.ErrRange, long+rest+" thread g(@2147483648);")
}

// asReference fails if Source of a text is not what the definitions say. It returns the fault.
func asReference(t *testing.T, s string) api.Fault {
	t.Helper()
	u, fault := parse.Unit(s)
	want, err := api.Program{}, api.OK
	if fault == (api.Fault{}) {
		want, err = reference(u)
		unitIs(t, u, want, err)
		fault.Err = err
	}
	sourceIs(t, s, want, fault)
	return fault
}

// TestSourceTokens checks P19.2 on texts in which a word is left out, replaced or doubled.
func TestSourceTokens(t *testing.T) {
	texts := []string{faulty}
	for _, x := range samples {
		texts = append(texts, within(x.statement))
	}
	found := map[api.Errno]int{}
	for _, text := range texts {
		words := strings.SplitAfter(text, " ")
		for k, word := range words {
			before, after := strings.Join(words[:k], ""), strings.Join(words[k+1:], "")
			for _, other := range []string{"", word + word, "a ", "7 ", "if ", "} ", "relacq ", "le ", "; ", "é", "x", "07 ", "a_name_of_17_byte ", before} {
				found[asReference(t, before+other+after).Err]++
			}
			found[asReference(t, before).Err]++
		}
	}
	for _, err := range []api.Errno{api.OK, api.ErrToken, api.ErrEnd, api.ErrOrder, api.ErrOp, api.ErrNumber, api.ErrTwice, api.ErrObject, api.ErrLimit, api.ErrName} {
		if found[err] == 0 {
			t.Errorf("no text has the error %d: %s", err, fmt.Sprint(found))
		}
	}
}

// FuzzSource compares Source and Unit with their definitions.
func FuzzSource(f *testing.F) {
	f.Add(faulty)
	for _, x := range samples {
		f.Add(within(x.statement))
	}
	f.Add("proc f() { " + fences(65) + "} thread f(1);")
	f.Fuzz(func(t *testing.T, s string) {
		asReference(t, s)
	})
}
