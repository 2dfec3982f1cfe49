package tests

import (
	"math"
	"math/rand"
	"slices"
	"strconv"
	"strings"
	"testing"

	"loop.example/g00589/impl"
)

// Promise 11: a step keeps the type, and a typed term is a result or has a step.

// ruleWords has the names of rules in order.
func ruleWords() []string {
	return strings.Fields("none op if app rec let splice run lift")
}

// ruleWord returns a text that is no name for numbers of no rule.
func ruleWord(rule int) string {
	if words := ruleWords(); 0 <= rule && rule < len(words) {
		return words[rule]
	}
	return "rule " + strconv.Itoa(rule)
}

// stepByParts does the step of a term, form by form, as the document says it, and names its rule.
func stepByParts(e impl.Term) (impl.Term, string) {
	if !strings.Contains(levelingByParts(e).ok, "0") {
		return e, "none"
	}
	return stepAtLevel0(e)
}

func stepAtLevel0(e impl.Term) (impl.Term, string) {
	looked := map[int]int{4: len(e.Args), 7: 2, 8: 1, 12: 1, 13: 1}[e.Kind] // so many Args are searched unless they are results
	for k, arg := range e.Args[:looked] {
		if !isDone(arg) {
			after, rule := stepAtLevel0(arg)
			return withPart(e, k, after), rule
		}
	}
	switch e.Kind {
	case 4:
		return operated(e)
	case 5:
		return chosen(e)
	case 7:
		return applied(e)
	case 8:
		return substituted(e.Args[1], e.Name, e.Args[0]), "let"
	case 10:
		after, rule, _ := stepInCode(e.Args[0], 1)
		return quoteTerm(after), rule
	case 12:
		if e.Args[0].Kind == 10 {
			return e.Args[0].Args[0], "run"
		}
	case 13:
		if e.Args[0].Kind == 2 || e.Args[0].Kind == 3 {
			return quoteTerm(e.Args[0]), "lift"
		}
	}
	return e, "none"
}

// isDone reports whether a part of level 0 is a result; its levels are ok.
func isDone(e impl.Term) bool {
	done := slices.Contains([]int{2, 3, 6, 9, 10}, e.Kind)
	if e.Kind == 10 {
		forLevels(e, 0, func(node impl.Term, level int) { done = done && (node.Kind != 11 || level != 1) })
	}
	return done
}

func withPart(e impl.Term, k int, part impl.Term) impl.Term {
	e.Args = slices.Clone(e.Args)
	e.Args[k] = part
	return e
}

func operated(e impl.Term) (impl.Term, string) {
	values, kinds := []int{}, ""
	for _, arg := range e.Args {
		values = append(values, arg.N)
		kinds += map[int]string{2: "I ", 3: "B "}[arg.Kind]
	}
	taken, to := strings.CutPrefix(signatures()[e.Name], kinds)
	switch {
	case to && taken == "I":
		return number(resultOf(e.Name, values[0], append(values, 0)[1])), "op"
	case to && taken == "B":
		return boolean(resultOf(e.Name, values[0], append(values, 0)[1])), "op"
	}
	return e, "none"
}

func chosen(e impl.Term) (impl.Term, string) {
	switch textOfTerm(e.Args[0]) {
	case textOfTerm(boolean(1)):
		return e.Args[1], "if"
	case textOfTerm(boolean(0)):
		return e.Args[2], "if"
	}
	after, rule := stepAtLevel0(e.Args[0])
	return withPart(e, 0, after), rule
}

func applied(e impl.Term) (impl.Term, string) {
	f, arg := e.Args[0], e.Args[1]
	switch f.Kind {
	case 6:
		return substituted(f.Args[0], f.Name, arg), "app"
	case 9:
		return substituted(substituted(f.Args[0], f.Name, f), f.Other, arg), "rec"
	}
	return e, "none"
}

// stepInCode does the step in the first splice of what stands at level n whose part has level 0, and reports whether there is one.
func stepInCode(e impl.Term, n int) (impl.Term, string, bool) {
	if e.Kind == 11 && n == 1 {
		part := e.Args[0]
		if part.Kind == 10 && isDone(part) {
			return part.Args[0], "splice", true
		}
		after, rule := stepAtLevel0(part)
		return spliceTerm(after), rule, true
	}
	for k, arg := range e.Args {
		if after, rule, found := stepInCode(arg, n+map[int]int{10: 1, 11: -1}[e.Kind]); found {
			return withPart(e, k, after), rule, true
		}
	}
	return e, "none", false
}

// expectStep checks one step, and that it keeps what it was given.
func expectStep(t *testing.T, e, to impl.Term, rule string) {
	t.Helper()
	text := textOfTerm(e)
	got, gotRule := impl.Step(e)
	if textOfTerm(got) != textOfTerm(to) || ruleWord(gotRule) != rule {
		t.Errorf("Step(%.300s) = %.300s, %s, want %.300s, %s", text, textOfTerm(got), ruleWord(gotRule), textOfTerm(to), rule)
	}
	if impl.RuleName(gotRule) != rule {
		t.Errorf("RuleName(%d) = %q, want %q", gotRule, impl.RuleName(gotRule), rule)
	}
	if got := textOfTerm(e); got != text {
		t.Errorf("%.300s became %.300s", text, got)
	}
}

// expectSteps checks the step of any value, and the promise if it has a type. It returns the term after the step, and the rule.
func expectSteps(t *testing.T, e impl.Term) (impl.Term, string) {
	t.Helper()
	to, rule := stepByParts(e)
	expectStep(t, e, to, rule)
	expectPromise(t, e, typeOfClosed(e))
	return to, rule
}

// typeOfClosed returns the representation of the type of any value at level 0 without a context, "" if there is none.
func typeOfClosed(e impl.Term) string {
	if !strings.Contains(levelingByParts(e).ok, "0") {
		return ""
	}
	return typeByRules(nil, e, 0)
}

// expectPromise checks a term of the type at level 0 without a context; if the type is "", it has none.
func expectPromise(t *testing.T, e impl.Term, of string) {
	t.Helper()
	after, rule := impl.Step(e)
	if impl.IsResult(e) && rule != impl.RuNone {
		t.Errorf("a result has a step: %.300s", textOfTerm(e))
	}
	if of == "" {
		return
	}
	if !impl.IsResult(e) && rule == impl.RuNone {
		t.Errorf("%.300s has the type %s, is no result, and has no step", textOfTerm(e), of)
	}
	expectTypeOf(t, nil, e, 0, textOfTerm(e), of)
	expectTypeOf(t, nil, after, 0, textOfTerm(after), of)
	if got := typeOfClosed(after); got != of {
		t.Errorf("a step takes %.300s of the type %s to %.300s of the type %q", textOfTerm(e), of, textOfTerm(after), got)
	}
}

type stepCase struct{ of, to, rule string }

// expectStepCases checks terms whose step is given, with the rule none if there is none.
func expectStepCases(t *testing.T, cases []stepCase) {
	t.Helper()
	for _, c := range cases {
		e, to := parsed(t, c.of), parsed(t, c.to)
		if own, rule := stepByParts(e); textOfTerm(own) != textOfTerm(to) || rule != c.rule {
			t.Fatalf("the test finds %s, %s for %s, and wants %s, %s", writtenTerm(own), rule, c.of, c.to, c.rule)
		}
		expectStep(t, e, to, c.rule)
		for _, whole := range inside(e) {
			expectSteps(t, whole)
		}
	}
}

// expectNoSteps checks terms that have none.
func expectNoSteps(t *testing.T, texts ...string) {
	t.Helper()
	for _, s := range texts {
		expectStepCases(t, []stepCase{{s, s, "none"}})
	}
}

func TestRuleConstants(t *testing.T) {
	got := [9]int{impl.RuNone, impl.RuOp, impl.RuIf, impl.RuApp, impl.RuRec, impl.RuLet, impl.RuSplice, impl.RuRun, impl.RuLift}
	if want := [9]int{0, 1, 2, 3, 4, 5, 6, 7, 8}; got != want {
		t.Errorf("the constants are %v, want %v", got, want)
	}
}

func TestRuleName(t *testing.T) {
	for k, want := range strings.Fields("? none op if app rec let splice run lift ?") {
		if got := impl.RuleName(k - 1); got != want {
			t.Errorf("RuleName(%d) = %q, want %q", k-1, got, want)
		}
	}
	for rule := -1000; rule <= 1000; rule++ {
		if got := impl.RuleName(rule); (got == "?") != (rule < 0 || rule > 8) {
			t.Errorf("RuleName(%d) = %q", rule, got)
		}
	}
	others := []int{math.MinInt64, math.MinInt64 + 1, math.MaxInt64, math.MaxInt64 - 1, 9, 10}
	for rule := range 9 {
		others = append(others, rule+1<<8, rule+1<<16, rule+1<<32, rule+1<<60, rule+math.MinInt64, -rule-1)
	}
	for _, rule := range others {
		if got := impl.RuleName(rule); got != "?" {
			t.Errorf("RuleName(%d) = %q", rule, got)
		}
	}
}

func TestStepOfEachKind(t *testing.T) {
	expectStepCases(t, []stepCase{
		{"x", "x", "none"},
		{"7", "7", "none"},
		{"#t", "#t", "none"},
		{"(1+2)", "3", "op"},
		{"(if #t 1 2)", "1", "if"},
		{"(\\x:I.(1+1))", "(\\x:I.(1+1))", "none"},
		{"((\\x:I.(x+x)) 5)", "(5+5)", "app"},
		{"(let x=1 (x+x))", "(1+1)", "let"},
		{"(rec f x:I>I.(1+1))", "(rec f x:I>I.(1+1))", "none"},
		{"((rec f x:I>I.(f x)) 1)", "((rec f x:I>I.(f x)) 1)", "rec"},
		{"<(1+1)>", "<(1+1)>", "none"},
		{"<~<1>>", "<1>", "splice"},
		{"~<1>", "~<1>", "none"}, // no part may stand below level 0
		{"(run <1>)", "1", "run"},
		{"(lift 1)", "<1>", "lift"},
	})
	for _, e := range properTerms() {
		for _, whole := range inside(e) {
			expectSteps(t, whole)
		}
	}
}

func TestStepOfOperations(t *testing.T) {
	expectStepCases(t, []stepCase{
		{"(1+2)", "3", "op"},
		{"(7-2)", "5", "op"},
		{"(7*6)", "42", "op"},
		{"(3=3)", "#t", "op"},
		{"(3=4)", "#f", "op"},
		{"(3<4)", "#t", "op"},
		{"(4<3)", "#f", "op"},
		{"(3<3)", "#f", "op"},
		{"(#t&#t)", "#t", "op"},
		{"(#t&#f)", "#f", "op"},
		{"(#f|#t)", "#t", "op"},
		{"(#f|#f)", "#f", "op"},
		{"(!#t)", "#f", "op"},
		{"(!#f)", "#t", "op"},
		{"(10006+1)", "0", "op"}, // beyond the numbers of the language
		{"(10006+10006)", "10005", "op"},
		{"(0-1)", "10006", "op"},
		{"(0-10006)", "1", "op"},
		{"(5-7)", "10005", "op"},
		{"(100*200)", "9993", "op"},
		{"(10006*10006)", "1", "op"},
		{"((1+2)*3)", "(3*3)", "op"}, // Args[1] alone is a result
		{"(3*(1+2))", "(3*3)", "op"}, // Args[0] alone
		{"((1+2)*(3+4))", "(3*(3+4))", "op"},
		{"(3*(3+4))", "(3*7)", "op"},
		{"((1+1)<#t)", "(2<#t)", "op"},
		{"((1<2)&(2<1))", "(#t&(2<1))", "op"},
		{"(!(1<2))", "(!#t)", "op"},
		{"(!(!(!#t)))", "(!(!#f))", "op"},
		{"(((1+2)+3)+(4+5))", "((3+3)+(4+5))", "op"},
		{"((run <1>)+(lift 1))", "(1+(lift 1))", "run"},
		{"(#t+(1+1))", "(#t+2)", "op"}, // a result of a wrong kind, and what has a step behind it
		{"(<x>-(1+1))", "(<x>-2)", "op"},
		{"((\\x:I.x)&(!#t))", "((\\x:I.x)&#f)", "op"},
		{"(<~<1>>+x)", "(<1>+x)", "splice"}, // a result is wanted even where it is of a wrong kind
		{"(x+~<1>)", "(x+~<1>)", "none"},
	})
}

func TestOperationsWithoutSteps(t *testing.T) {
	for _, op := range operations()[:7] {
		wrong := "#t"
		if strings.HasPrefix(signatures()[op], "B") {
			wrong = "1"
		}
		for _, part := range []string{wrong, "<1>", "<#t>", "(\\x:I.x)", "(rec f x:I>I.x)", "x", "(1 2)", "<~x>", "(lift x)"} {
			right := map[string]string{"#t": "1", "1": "#t"}[wrong]
			expectNoSteps(t, "("+part+op+right+")", "("+right+op+part+")", "("+part+op+part+")")
		}
		expectNoSteps(t, "(x"+op+"(1+1))", "((1 2)"+op+"(1+1))", "((#t+1)"+op+"(1+1))", "(<~x>"+op+"(1+1))") // what is searched has no step
	}
	expectNoSteps(t, "(!1)", "(!0)", "(!<#t>)", "(!(\\x:B.x))", "(!x)", "(!(1+#t))", "(#t=#t)", "(#f<#t)", "(1&1)", "(0|1)")
}

// TestStepOfEveryOperation has operations on numbers, on booleans and on both.
func TestStepOfEveryOperation(t *testing.T) {
	values := []impl.Term{boolean(0), boolean(1)}
	for _, n := range []int{0, 1, 2, 3, 100, 101, 5003, 5004, 10005, 10006} {
		values = append(values, number(n))
	}
	for _, op := range operations() {
		for _, a := range values {
			if op == "!" {
				expectSteps(t, operation(op, a))
				continue
			}
			for _, b := range values {
				to, rule := expectSteps(t, operation(op, a, b))
				if both := a.Kind == b.Kind; rule == "op" && !both || rule == "op" && to.Kind == 4 {
					t.Errorf("the test finds a step of %s", writtenTerm(operation(op, a, b)))
				}
			}
		}
	}
}

func TestStepOfChoices(t *testing.T) {
	expectStepCases(t, []stepCase{
		{"(if #t (1+1) (2+2))", "(1+1)", "if"},
		{"(if #f (1+1) (2+2))", "(2+2)", "if"},
		{"(if #t x (1 2))", "x", "if"},
		{"(if #f x (1 2))", "(1 2)", "if"},
		{"(if #t <~<1>> 2)", "<~<1>>", "if"},
		{"(if (1<2) (1+1) (2+2))", "(if #t (1+1) (2+2))", "op"}, // by what has a step
		{"(if (if #f 1 #t) x y)", "(if #t x y)", "if"},
		{"(if (let b=#t (!b)) 1 2)", "(if (!#t) 1 2)", "let"},
		{"(if (run <#t>) 1 2)", "(if #t 1 2)", "run"},
		{"(if <~<1>> 1 2)", "(if <1> 1 2)", "splice"},
	})
	expectNoSteps(t, "(if 1 2 3)", "(if 0 2 3)", "(if <#t> 2 3)", "(if (\\x:I.#t) 2 3)", "(if (rec f x:I>B.#t) 2 3)", // by a result that is no boolean
		"(if x (1+1) (2+2))", "(if 1 (1+1) (2+2))", "(if (1 2) (1+1) (2+2))", "(if (#t+1) 2 3)", "(if x #t #t)")
}

func TestStepOfApplications(t *testing.T) {
	expectStepCases(t, []stepCase{
		{"((\\x:I.(x+1)) 5)", "(5+1)", "app"},
		{"((\\x:I.7) 5)", "7", "app"}, // not used
		{"((\\x:I.((x+x)*x)) 5)", "((5+5)*5)", "app"},
		{"((\\f:(I>I).(f (f 1))) (\\x:I.x))", "((\\x:I.x) ((\\x:I.x) 1))", "app"},
		{"((\\x:I.(1+1)) (\\y:I.(1+1)))", "(1+1)", "app"},
		{"((\\x:I.(\\y:I.(x+y))) 1)", "(\\y:I.(1+y))", "app"},
		{"(((\\x:I.(\\y:I.(x+y))) 1) (1+1))", "((\\y:I.(1+y)) (1+1))", "app"}, // Args[0] first
		{"((\\y:I.(1+y)) (1+1))", "((\\y:I.(1+y)) 2)", "op"},
		{"((if #t (\\x:I.x) (\\x:I.1)) (1+1))", "((\\x:I.x) (1+1))", "if"},
		{"((\\x:I.x) ((\\y:I.y) 1))", "((\\x:I.x) 1)", "app"},
		{"((\\x:I.x) (if #t 1 2))", "((\\x:I.x) 1)", "if"},
		{"((\\x:I.x) #t)", "#t", "app"}, // types do not matter
		{"((\\x:<I>.<~x>) <(1+1)>)", "<~<(1+1)>>", "app"},
		{"((\\x:<I>.<~x>) <~<1>>)", "((\\x:<I>.<~x>) <1>)", "splice"},
		{"((run <(\\x:I.x)>) 1)", "((\\x:I.x) 1)", "run"},
		{"((rec f x:I>I.(x+1)) 5)", "(5+1)", "rec"},
		{"((rec f x:I>I.7) 5)", "7", "rec"},
		{"((rec f x:I>I.f) 5)", "(rec f x:I>I.f)", "rec"},
		{"((rec f x:I>I.(if (x=0) 1 (x*(f (x-1))))) 3)", "(if (3=0) 1 (3*((rec f x:I>I.(if (x=0) 1 (x*(f (x-1))))) (3-1))))", "rec"},
		{"((rec f x:I>I.(f (f x))) (1+1))", "((rec f x:I>I.(f (f x))) 2)", "op"},
		{"((let y=1 (rec f x:I>I.y)) (1+1))", "((rec f x:I>I.1) (1+1))", "let"},
		{"((rec f x:I>I.(f x)) (\\y:I.y))", "((rec f x:I>I.(f x)) (\\y:I.y))", "rec"}, // to the same term
		{"((rec f x:I>I.(f x)) (rec f x:I>I.(f x)))", "((rec f x:I>I.(f x)) (rec f x:I>I.(f x)))", "rec"},
		{"(1 (1+1))", "(1 2)", "op"}, // what is no function
		{"(<x> (1+1))", "(<x> 2)", "op"},
		{"((1+1) (1+1))", "(2 (1+1))", "op"},
	})
	expectNoSteps(t, "(1 2)", "(#t #f)", "(<1> 2)", "(<(\\x:I.x)> 2)", "(f x)", "(f 1)", "(f (1+1))", "((f 1) (1+1))", "((1 2) (1+1))",
		"((\\x:I.x) y)", "((\\x:I.x) (1 2))", "((\\x:I.1) (#t+1))", "((rec f x:I>I.x) y)", "((rec f x:I>I.1) (y 1))", "((\\x:I.x) <~y>)", "(1 (\\x:I.x))", "(1 x)")
}

// TestStepOfApplicationsInScope has names that are hidden, and free variables that would be bound.
func TestStepOfApplicationsInScope(t *testing.T) {
	expectStepCases(t, []stepCase{
		{"((\\x:I.(x+(\\x:I.x))) 1)", "(1+(\\x:I.x))", "app"}, // hidden
		{"((\\x:I.(x+((\\y:I.(x+y)) x))) 1)", "(1+((\\y:I.(1+y)) 1))", "app"},
		{"((\\x:I.(let x=x x)) 1)", "(let x=1 x)", "app"},
		{"((\\x:I.(rec f x:I>I.x)) 1)", "(rec f x:I>I.x)", "app"},
		{"((\\x:I.(rec x y:I>I.x)) 1)", "(rec x y:I>I.x)", "app"},
		{"(\\x:I.((\\x:I.x) 1))", "(\\x:I.((\\x:I.x) 1))", "none"},
		{"(((\\x:I.(\\x:I.x)) 1) 2)", "((\\x:I.x) 2)", "app"},
		{"((\\x:<I>.(\\y:I.x)) <y>)", "(\\v1:I.<y>)", "app"}, // free variables of the argument
		{"((\\x:<I>.(\\y:I.<(~x+~(lift y))>)) <y>)", "(\\v1:I.<(~<y>+~(lift v1))>)", "app"},
		{"((\\x:(I>I).(\\y:I.(x y))) (\\z:I.(y+z)))", "(\\v1:I.((\\z:I.(y+z)) v1))", "app"},
		{"((\\x:<I>.(let y=1 x)) <y>)", "(let v1=1 <y>)", "app"},
		{"((\\x:<I>.(let y=x y)) <y>)", "(let y=<y> y)", "app"},
		{"((\\x:<I>.(rec f y:I><I>.x)) <(f y)>)", "(rec v1 v2:I><I>.<(f y)>)", "app"},
		{"((\\x:<I>.(\\y:I.1)) <y>)", "(\\y:I.1)", "app"},
		{"((\\x:<I>.(\\y:I.(\\v1:I.x))) <y>)", "(\\v1:I.(\\v1:I.<y>))", "app"},
		{"((\\y:<I>.<(\\x:I.~y)>) <x>)", "<(\\v1:I.~<x>)>", "app"},
		{"((\\x:I.<x>) 1)", "<1>", "app"}, // in code and in splices
		{"((\\x:<I>.<(~x*(\\x:I.x))>) <1>)", "<(~<1>*(\\x:I.x))>", "app"},
		{"((\\x:<I>.<(~x+~(let x=x x))>) <1>)", "<(~<1>+~(let x=<1> x))>", "app"},
		{"((\\x:<<I>>.<<~~x>>) <<1>>)", "<<~~<<1>>>>", "app"},
		{"((\\x:<I>.<(~x+~x)>) <(1+y)>)", "<(~<(1+y)>+~<(1+y)>)>", "app"},
	})
}

// TestStepOfRecursiveFunctionsInScope has functions and arguments with free variables that the function binds.
func TestStepOfRecursiveFunctionsInScope(t *testing.T) {
	expectStepCases(t, []stepCase{
		{"((rec f x:I>I.(f x)) <f>)", "((rec f x:I>I.(f x)) <f>)", "rec"}, // Name is free in the argument
		{"((rec f x:I>I.(x f)) (\\y:I.(f x)))", "((\\y:I.(f x)) (rec f x:I>I.(x f)))", "rec"},
		{"((rec f x:<I>><I>.<(~x+~(f x))>) <(f x)>)", "<(~<(f x)>+~((rec f x:<I>><I>.<(~x+~(f x))>) <(f x)>))>", "rec"},
		{"((rec f x:<I>><I>.(\\f:I.x)) <f>)", "(\\v1:I.<f>)", "rec"},
		{"((rec f x:<I>><I>.(\\y:I.(f x))) <y>)", "(\\v1:I.((rec f x:<I>><I>.(\\y:I.(f x))) <y>))", "rec"},
		{"((rec f x:I>I.(\\f:I.(f x))) 1)", "(\\f:I.(f 1))", "rec"}, // names that are hidden
		{"((rec f x:I>I.(\\x:I.(f x))) 1)", "(\\x:I.((rec f x:I>I.(\\x:I.(f x))) x))", "rec"},
		{"((rec f x:I>I.(rec x f:I>I.(f x))) 1)", "(rec x f:I>I.(f x))", "rec"},
		{"((rec f x:I>I.(let f=(f x) (f x))) 1)", "(let f=((rec f x:I>I.(let f=(f x) (f x))) 1) (f 1))", "rec"},
		{"((rec f x:I>I.((\\y:I.(f y)) y)) 1)", "((\\v1:I.((rec f x:I>I.((\\y:I.(f y)) y)) v1)) y)", "rec"}, // of the function
		{"((rec f x:I>I.(\\y:I.(\\z:I.(f (x (y z)))))) <(y z)>)", "(\\v1:I.(\\v2:I.((rec f x:I>I.(\\y:I.(\\z:I.(f (x (y z)))))) (<(y z)> (v1 v2)))))", "rec"},
		{"((rec f x:I>I.(z (\\z:I.(f x)))) <z>)", "(z (\\v1:I.((rec f x:I>I.(z (\\z:I.(f x)))) <z>)))", "rec"},
		{"((rec f x:I>I.<(\\y:I.~(f <y>))>) 1)", "<(\\y:I.~((rec f x:I>I.<(\\y:I.~(f <y>))>) <y>))>", "rec"},
	})
}

func TestStepOfLet(t *testing.T) {
	expectStepCases(t, []stepCase{
		{"(let x=1 (x+x))", "(1+1)", "let"},
		{"(let x=1 7)", "7", "let"},
		{"(let x=(1+1) (x+x))", "(let x=2 (x+x))", "op"},
		{"(let x=(let y=1 y) x)", "(let x=1 x)", "let"},
		{"(let x=(if #f 1 2) (1+1))", "(let x=2 (1+1))", "if"},
		{"(let x=<~<1>> <~x>)", "(let x=<1> <~x>)", "splice"},
		{"(let x=(run <1>) x)", "(let x=1 x)", "run"},
		{"(let x=(lift 1) x)", "(let x=<1> x)", "lift"},
		{"(let x=#t (1+x))", "(1+#t)", "let"},
		{"(let x=1 y)", "y", "let"},
		{"(let x=1 (let x=x (let x=x x)))", "(let x=1 (let x=x x))", "let"}, // hidden
		{"(let x=1 (x+(let x=2 x)))", "(1+(let x=2 x))", "let"},
		{"(let x=1 (\\x:I.x))", "(\\x:I.x)", "let"},
		{"(let f=(rec f x:I>I.(f x)) (f (f 1)))", "((rec f x:I>I.(f x)) ((rec f x:I>I.(f x)) 1))", "let"},
		{"(let x=<y> (\\y:I.x))", "(\\v1:I.<y>)", "let"}, // free variables of Args[0]
		{"(let x=<y> (let y=x <(~x+~y)>))", "(let v1=<y> <(~<y>+~v1)>)", "let"},
		{"(let x=<(y+v1)> (\\y:I.(x v1)))", "(\\v2:I.(<(y+v1)> v1))", "let"},
		{"(let x=(\\y:I.x) (x x))", "((\\y:I.x) (\\y:I.x))", "let"},
		{"(let x=<y> <(\\y:I.(y+~x))>)", "<(\\v1:I.(v1+~<y>))>", "let"}, // in code and in splices
		{"(let x=<y> <~x>)", "<~<y>>", "let"},
		{"(let x=1 <(x+~(lift x))>)", "<(1+~(lift 1))>", "let"},
	})
	expectNoSteps(t, "(let x=y x)", "(let x=y (1+1))", "(let x=(1 2) (1+1))", "(let x=(1+#t) 1)", "(let x=<~y> 1)", "(let x=x 1)", "(let x=(lift <1>) (1+1))")
}

func TestStepOfRunAndLift(t *testing.T) {
	expectStepCases(t, []stepCase{
		{"(run <(1+1)>)", "(1+1)", "run"},
		{"(run <x>)", "x", "run"},
		{"(run <(\\x:I.x)>)", "(\\x:I.x)", "run"},
		{"(run <<1>>)", "<1>", "run"},
		{"(run <<~<1>>>)", "<~<1>>", "run"}, // the part comes one level down, with its splices
		{"(run <(run <1>)>)", "(run <1>)", "run"},
		{"(run <~<1>>)", "(run <1>)", "splice"}, // code with splices
		{"(run <(1+~(lift (1+1)))>)", "(run <(1+~(lift 2))>)", "op"},
		{"(run <(\\x:I.~<(x+1)>)>)", "(run <(\\x:I.(x+1))>)", "splice"},
		{"(run (run <<1>>))", "(run <1>)", "run"},
		{"(run (lift 1))", "(run <1>)", "lift"},
		{"(run (if #t <1> <2>))", "(run <1>)", "if"},
		{"(run (1+1))", "(run 2)", "op"}, // what is no code
		{"(lift 0)", "<0>", "lift"},
		{"(lift 10006)", "<10006>", "lift"},
		{"(lift #t)", "<#t>", "lift"},
		{"(lift #f)", "<#f>", "lift"},
		{"(lift (1+1))", "(lift 2)", "op"},
		{"(lift (!#t))", "(lift #f)", "op"},
		{"(lift (run <1>))", "(lift 1)", "run"},
		{"(lift (lift 1))", "(lift <1>)", "lift"},
		{"(lift <~<1>>)", "(lift <1>)", "splice"},
	})
	expectNoSteps(t, "(run 1)", "(run #t)", "(run x)", "(run (\\x:I.<1>))", "(run (rec f x:I>I.<1>))", "(run (1 2))", "(run <~x>)", "(run <~1>)", "(run <(1+~(#t+1))>)", "(run (lift <1>))",
		"(lift <1>)", "(lift <(1+1)>)", "(lift (\\x:I.1))", "(lift (rec f x:I>I.1))", "(lift x)", "(lift (1 2))", "(lift <~x>)", "(lift <<~<1>>>)")
}

func TestStepInCode(t *testing.T) {
	expectStepCases(t, []stepCase{
		{"<~<1>>", "<1>", "splice"}, // the part is a result
		{"<(1+~<2>)>", "<(1+2)>", "splice"},
		{"<~<x>>", "<x>", "splice"},
		{"<~<(1+1)>>", "<(1+1)>", "splice"},
		{"<~<(\\x:I.x)>>", "<(\\x:I.x)>", "splice"},
		{"<~<<1>>>", "<<1>>", "splice"},
		{"<(\\x:I.~<(x+1)>)>", "<(\\x:I.(x+1))>", "splice"}, // x becomes bound by what is around
		{"<~(lift 1)>", "<~<1>>", "lift"},                   // the part has a step
		{"<~(lift (1+1))>", "<~(lift 2)>", "op"},
		{"<(1+~((\\x:<I>.x) <2>))>", "<(1+~<2>)>", "app"},
		{"<~(let c=<1> c)>", "<~<1>>", "let"},
		{"<~(run <<1>>)>", "<~<1>>", "run"},
		{"<~(1+1)>", "<~2>", "op"},
		{"<(~<1>+~<2>)>", "<(1+~<2>)>", "splice"}, // several splices
		{"<(1+~<2>)>", "<(1+2)>", "splice"},
		{"<(~(lift 1)+~<2>)>", "<(~<1>+~<2>)>", "lift"},
		{"<((x ~(lift (1+2)))+(~(lift (3+4)) y))>", "<((x ~(lift 3))+(~(lift (3+4)) y))>", "op"},
		{"<(let x=~<1> ~<x>)>", "<(let x=1 ~<x>)>", "splice"},
		{"<(if ~<#t> ~<1> ~<2>)>", "<(if #t ~<1> ~<2>)>", "splice"},
		{"<(if #t ~<1> ~<2>)>", "<(if #t 1 ~<2>)>", "splice"},
		{"<(if #t 1 ~<2>)>", "<(if #t 1 2)>", "splice"},
		{"<((\\x:I.~<x>) ~<1>)>", "<((\\x:I.x) ~<1>)>", "splice"}, // in the forms of code
		{"<(rec f x:I>I.~<(f x)>)>", "<(rec f x:I>I.(f x))>", "splice"},
		{"<(let x=1 ~<x>)>", "<(let x=1 x)>", "splice"},
		{"<(let x=~(lift 1) x)>", "<(let x=~<1> x)>", "lift"},
		{"<(\\x:I.(rec f y:I>I.(let z=(if ~<x> 1 2) z)))>", "<(\\x:I.(rec f y:I>I.(let z=(if x 1 2) z)))>", "splice"},
		{"<(run ~<<1>>)>", "<(run <1>)>", "splice"},
		{"<(lift ~<1>)>", "<(lift 1)>", "splice"},
		{"<(!~<#t>)>", "<(!#t)>", "splice"},
	})
	expectNoSteps(t, "<1>", "<x>", "<(1+1)>", "<((\\x:I.x) 1)>", "<(if #t 1 2)>", "<(let x=1 x)>", "<(run <1>)>", "<(lift 1)>", "<((rec f x:I>I.(f x)) 1)>", // without a splice
		"<~x>", "<~1>", "<~#t>", "<~(\\x:I.<x>)>", "<~(rec f x:I>I.<1>)>", "<~(1 2)>", "<~(1+#t)>", "<~(x <1>)>", // the part has no step
		"<(~x+~<1>)>", "<(~1+~<1>)>", "<(~(\\x:I.x)+~(lift 1))>", "<(let x=~y ~<1>)>", "<(if ~(1 2) ~<1> (1+1))>") // only the first splice counts
}

// TestStepInCodeInCode has splices of level 1 and 2, and code within splices.
func TestStepInCodeInCode(t *testing.T) {
	expectStepCases(t, []stepCase{
		{"<<~~<<1>>>>", "<<~<1>>>", "splice"}, // the inner splice of two has a part of level 0
		{"<<~~(1+1)>>", "<<~~2>>", "op"},
		{"<<(~<1>+~~<<2>>)>>", "<<(~<1>+~<2>)>>", "splice"},
		{"<<~(lift ~<1>)>>", "<<~(lift 1)>>", "splice"},
		{"<(<~<1>>+~<2>)>", "<(<~<1>>+2)>", "splice"},
		{"<(<~<1>> ~(lift 1))>", "<(<~<1>> ~<1>)>", "lift"},
		{"<<~((\\x:<I>.x) ~<<1>>)>>", "<<~((\\x:<I>.x) <1>)>>", "splice"},
		{"<~<~<1>>>", "<~<1>>", "splice"}, // code within a splice, and a splice within that
		{"<~<(1+~<2>)>>", "<~<(1+2)>>", "splice"},
		{"<~<(\\x:I.~(lift (1+1)))>>", "<~<(\\x:I.~(lift 2))>>", "op"},
		{"<(~<(~<1>+~<2>)>+~<3>)>", "<(~<(1+~<2>)>+~<3>)>", "splice"},
		{"<(~<(1+2)>+~<3>)>", "<((1+2)+~<3>)>", "splice"},
		{"<~<~<~(lift 1)>>>", "<~<~<~<1>>>>", "lift"},
		{"<~<~<~<1>>>>", "<~<~<1>>>", "splice"},
		{"<~<<~<1>>>>", "<<~<1>>>", "splice"}, // of level 1 there
		{"<~<<~~<<1>>>>>", "<~<<~<1>>>>", "splice"},
		{"<~((\\x:<I>.<(~x+~<1>)>) <~<2>>)>", "<~((\\x:<I>.<(~x+~<1>)>) <2>)>", "splice"},
		{"<~(let x=<~<1>> <~x>)>", "<~(let x=<1> <~x>)>", "splice"},
		{"<(\\x:I.~(let y=<x> <(\\x:I.~y)>))>", "<(\\x:I.~<(\\v1:I.~<x>)>)>", "let"},
		{"<~(if #t <~<1>> <2>)>", "<~<~<1>>>", "if"},
		{"<~(run <<~<1>>>)>", "<~<~<1>>>", "run"},
	})
	expectNoSteps(t, "<<1>>", "<<~<1>>>", "<<~x>>", "<<~(lift (1+1))>>", "<<(~<1>+~<2>)>>", "<(1+<~<1>>)>", "<(<~<1>>+<~(lift 1)>)>", // of level 1 alone
		"<<~~x>>", "<<~~1>>", "<<(~~x+~~<<1>>)>>", "<<~(lift ~x)>>", "<(<~<1>>+~x)>", "<~<~x>>", "<~<(~x+~<1>)>>", "<~<~<~1>>>", "<(~<~x>+~<1>)>")
}

func TestStepOfOpenTerms(t *testing.T) {
	expectStepCases(t, []stepCase{
		{"((1+1)+x)", "(2+x)", "op"},
		{"((\\x:I.y) 1)", "y", "app"},
		{"(if #t x y)", "x", "if"},
		{"(let x=1 (x+y))", "(1+y)", "let"},
		{"(let x=(\\y:I.z) (x w))", "((\\y:I.z) w)", "let"},
		{"(run <(x+y)>)", "(x+y)", "run"},
		{"<(x+~<y>)>", "<(x+y)>", "splice"},
		{"<(x+~(lift (1+1)))>", "<(x+~(lift 2))>", "op"},
		{"<<(x+~(y ~<z>))>>", "<<(x+~(y z))>>", "splice"},
	})
	expectNoSteps(t, "x", "(x+1)", "(1+x)", "(x+(1+1))", "(!x)", "(if x 1 2)", "(x 1)", "((\\x:I.x) x)", "(let y=x y)", "(run x)", "(lift x)", "<~x>", "<x>", "<<x>>", "<<~x>>", "<<~~x>>", "<(x+~y)>", "(\\x:I.y)")
}

func TestNoStepWhereLevelsAreNotOk(t *testing.T) {
	expectNoSteps(t, "~x", "~<1>", "~(1+1)", "~~<<1>>", "(~<1>+1)", "((1+1)+~<1>)", "(1+~<1>)", "(if #t 1 ~<1>)", "((\\x:I.~x) 1)", "((\\x:I.1) (\\x:I.~x))", "(let x=1 ~x)", "(let x=(1+1) ~x)", "(rec f x:I>I.~x)",
		"<~~<<1>>>", "<(~<1>+~~x)>", "<~<(1+~~x)>>", "<<~~~x>>", "(run <~~<1>>)", "(lift ~1)", // below level 0
		"<<<1>>>", "<<<(1+1)>>>", "((1+1)+<<<1>>>)", "(<<<1>>>+(1+1))", "(if #t 1 <<<1>>>)", "((\\x:I.x) <<<1>>>)", "(let x=1 <<<x>>>)", "<(~<1>+<<1>>)>", "<~<<<1>>>>", "<(~(1+1) <<x>>)>", "(run <<<1>>>)", "(run (lift <<<1>>>))", "<<<~<1>>>>", "<<~(run ~<<<1>>>)>>") // beyond the highest one
	expectStepCases(t, []stepCase{
		{"((1+1)+<<1>>)", "(2+<<1>>)", "op"}, // the highest level, and the lowest one
		{"(if #t 1 <<1>>)", "1", "if"},
		{"(run <<1>>)", "<1>", "run"},
		{"<~<<1>>>", "<<1>>", "splice"},
		{"(let x=1 <~x>)", "<~1>", "let"},
		{"(let x=1 <<~~x>>)", "<<~~1>>", "let"},
		{"(let x=<<1>> <<x>>)", "<<<<1>>>>", "let"}, // levels may be wrong after a step
		{"((\\x:I.<~<x>>) <<1>>)", "<~<<<1>>>>", "app"},
		{"<(x ~<<x>>)>", "<(x <x>)>", "splice"},
	})
}

// searchedPlaces returns what puts a part where it is searched next, unless it is a result.
func searchedPlaces() []func(impl.Term) impl.Term {
	i, x, n, next := intType(), variable("x"), number(3), operation("+", number(1), number(1))
	return []func(impl.Term) impl.Term{
		func(e impl.Term) impl.Term { return operation("!", e) },
		func(e impl.Term) impl.Term { return operation("-", e, next) },
		func(e impl.Term) impl.Term { return operation("<", n, e) },
		func(e impl.Term) impl.Term { return operation("&", function("y", i, x), e) },
		func(e impl.Term) impl.Term { return choice(e, next, x) },
		func(e impl.Term) impl.Term { return application(e, next) },
		func(e impl.Term) impl.Term { return application(function("y", i, variable("y")), e) },
		func(e impl.Term) impl.Term { return application(recursive("f", "y", i, i, next), e) },
		func(e impl.Term) impl.Term { return application(n, e) },
		func(e impl.Term) impl.Term { return letTerm("z", e, next) },
		runTerm,
		liftTerm,
		func(e impl.Term) impl.Term { return quoteTerm(spliceTerm(e)) },
		func(e impl.Term) impl.Term { return quoteTerm(operation("+", x, spliceTerm(e))) },
		func(e impl.Term) impl.Term {
			return quoteTerm(operation("+", spliceTerm(e), spliceTerm(quoteTerm(next))))
		},
		func(e impl.Term) impl.Term { return quoteTerm(choice(next, x, spliceTerm(e))) },
		func(e impl.Term) impl.Term { return quoteTerm(function("y", i, spliceTerm(e))) },
		func(e impl.Term) impl.Term { return quoteTerm(recursive("f", "y", i, i, spliceTerm(e))) },
		func(e impl.Term) impl.Term { return quoteTerm(application(next, spliceTerm(e))) },
		func(e impl.Term) impl.Term { return quoteTerm(letTerm("y", spliceTerm(e), spliceTerm(next))) },
		func(e impl.Term) impl.Term { return quoteTerm(letTerm("y", n, spliceTerm(e))) },
		func(e impl.Term) impl.Term { return quoteTerm(runTerm(liftTerm(spliceTerm(e)))) },
		func(e impl.Term) impl.Term { return quoteTerm(spliceTerm(quoteTerm(spliceTerm(e)))) },
		func(e impl.Term) impl.Term { return quoteTerm(quoteTerm(spliceTerm(spliceTerm(e)))) },
		func(e impl.Term) impl.Term {
			return quoteTerm(operation("+", quoteTerm(spliceTerm(x)), spliceTerm(e)))
		},
	}
}

// otherPlaces returns what puts a part where it is not searched, though nothing else has a step.
func otherPlaces() []func(impl.Term) impl.Term {
	i, x, n := intType(), variable("x"), number(3)
	return []func(impl.Term) impl.Term{
		func(e impl.Term) impl.Term { return operation("-", x, e) },
		func(e impl.Term) impl.Term { return operation("&", application(n, n), e) },
		func(e impl.Term) impl.Term { return choice(x, e, n) },
		func(e impl.Term) impl.Term { return choice(n, x, e) },
		func(e impl.Term) impl.Term { return function("y", i, e) },
		func(e impl.Term) impl.Term { return recursive("f", "y", i, i, e) },
		func(e impl.Term) impl.Term { return application(x, e) },
		func(e impl.Term) impl.Term { return application(function("y", i, e), x) },
		func(e impl.Term) impl.Term { return letTerm("z", x, e) },
		func(e impl.Term) impl.Term { return letTerm("z", application(n, n), e) },
		quoteTerm,
		func(e impl.Term) impl.Term { return quoteTerm(function("y", i, e)) },
		func(e impl.Term) impl.Term { return quoteTerm(quoteTerm(spliceTerm(e))) },
		func(e impl.Term) impl.Term { return quoteTerm(operation("+", spliceTerm(x), spliceTerm(e))) },
		func(e impl.Term) impl.Term { return quoteTerm(operation("+", spliceTerm(n), spliceTerm(e))) },
		func(e impl.Term) impl.Term {
			return quoteTerm(application(spliceTerm(function("y", i, n)), spliceTerm(e)))
		},
		func(e impl.Term) impl.Term { return quoteTerm(operation("+", e, spliceTerm(x))) },
	}
}

// partsWithSteps returns terms that have a step, one for each rule, and keep to the levels in all places.
func partsWithSteps() []impl.Term {
	i, x, y, one := intType(), variable("x"), variable("y"), number(1)
	return []impl.Term{
		operation("+", one, one),
		choice(boolean(0), x, operation("+", one, one)),
		application(function("x", i, operation("+", x, y)), one),
		application(recursive("f", "x", i, i, application(variable("f"), x)), one),
		letTerm("x", one, operation("*", x, x)),
		quoteTerm(operation("+", x, spliceTerm(quoteTerm(y)))),
		runTerm(quoteTerm(operation("+", x, y))),
		liftTerm(boolean(1)),
	}
}

func TestStepInEachPlace(t *testing.T) {
	places := searchedPlaces()
	for k, e := range partsWithSteps() {
		after, rule := stepByParts(e)
		if rule != ruleWords()[k+1] {
			t.Fatalf("the test finds the rule %s for %s", rule, writtenTerm(e))
		}
		for n, place := range places {
			for _, other := range places {
				whole, wanted := place(other(e)), place(other(after))
				if !impl.LevelsOk(whole, 0) {
					t.Fatalf("the levels of %s are not ok", writtenTerm(whole))
				}
				expectStep(t, whole, wanted, rule)
				expectSteps(t, whole)
				expectSteps(t, wanted)
			}
			expectStep(t, nested(place, 10, e), nested(place, 10, after), rule)
			expectSteps(t, place(places[(n+7)%len(places)](places[(n+3)%len(places)](e))))
		}
	}
}

func TestNoStepInOtherPlaces(t *testing.T) {
	for _, e := range partsWithSteps() {
		for _, other := range otherPlaces() {
			expectStep(t, other(e), other(e), "none")
			expectSteps(t, other(e))
			for _, place := range searchedPlaces() {
				expectSteps(t, other(place(e)))
				expectSteps(t, place(other(e)))
			}
		}
	}
}

// TestStepOfResultsInEachPlace has terms without a step, some of which are results, where they are searched.
func TestStepOfResultsInEachPlace(t *testing.T) {
	i, x := intType(), variable("x")
	parts := []impl.Term{x, number(1), boolean(0), boolean(1), function("x", i, x), recursive("f", "x", i, i, x), quoteTerm(x), quoteTerm(quoteTerm(spliceTerm(x))), quoteTerm(spliceTerm(x)), application(number(1), number(2)), liftTerm(quoteTerm(x))}
	rules := map[string]int{}
	for _, place := range searchedPlaces() {
		for _, e := range parts {
			_, rule := expectSteps(t, place(e))
			rules[rule]++
			for _, other := range searchedPlaces() {
				_, rule := expectSteps(t, other(place(e)))
				rules[rule]++
			}
		}
	}
	for _, rule := range ruleWords() {
		if rules[rule] < 10 {
			t.Errorf("%d steps of the rule %s are too few", rules[rule], rule)
		}
	}
}

// expectRun performs steps until there is none, or there are so many, and returns the last term and the rules.
func expectRun(t *testing.T, e impl.Term, steps int) (impl.Term, string) {
	t.Helper()
	var rules []string
	for range steps {
		after, rule := expectSteps(t, e)
		if rule == "none" || sizeByParts(after) > 300 {
			break
		}
		rules = append(rules, rule)
		e = after
	}
	return e, strings.Join(rules, " ")
}

func TestRunsOfSteps(t *testing.T) {
	const power = "(rec p n:I><I>.(if (n=0) <1> <(x*~(p (n-1)))>))"
	for _, c := range []stepCase{
		{"<(\\x:I.~(" + power + " 3))>", "<(\\x:I.(x*(x*(x*1))))>", "rec op if op rec op if op rec op if op rec op if splice splice splice splice"},
		{"(let c=<(1+2)> <(~c*~c)>)", "<((1+2)*(1+2))>", "let splice splice"},
		{"<(\\y:I.~((\\z:<I>.<(\\y:I.(~z+y))>) <y>))>", "<(\\y:I.(\\v1:I.(y+v1)))>", "app splice splice"},
		{"((run <(\\x:I.(x+~(lift (2*3))))>) 1)", "7", "op lift splice run app op"},
		{"(run <(run <5>)>)", "5", "run run"},
		{"(let n=7 <~(if (n<5) <0> <(1+~(lift n))>)>)", "<(1+7)>", "let op if lift splice splice"},
		{"((1+2)*(3+4))", "21", "op op op"},
		{"((rec f n:I>I.(if (n=0) 1 (n*(f (n-1))))) 3)", "6", "rec op if op rec op if op rec op if op rec op if op op op"},
		{"(((\\f:(I>I).(\\x:I.(f (f x)))) (\\x:I.(x*x))) 3)", "81", "app app app op app op"},
		{"(let f=(\\x:<I>.<(~x*~x)>) (run <(\\y:I.~(f (f <y>)))>))", "(\\y:I.((y*y)*(y*y)))", "let app splice splice app splice splice splice run"},
		{"(run (run <<(1+2)>>))", "3", "run run op"},
		{"(run (lift (2*3)))", "6", "op lift run"},
		{"<<(\\x:I.~~(let c=<<x>> c))>>", "<<(\\x:I.~<x>)>>", "let splice"},
		{"(run <<~(lift (1+1))>>)", "<2>", "run op lift splice"},
		{"(if (!(#t&#f)) (lift (0-1)) <0>)", "<10006>", "op op if op lift"},
		{"((let y=1 (\\x:I.(x+y))) (let x=2 (x*x)))", "5", "let let op app op"},
		{"(let x=(1+1) (let y=(x+x) (lift (x*y))))", "<8>", "op let op let op lift"},
		{"((1+1) (2+2))", "(2 4)", "op op"}, // these have no type
		{"((1+1)+(#t&#t))", "(2+#t)", "op op"},
		{"<(~(lift (1+1))+~(run 1))>", "<(2+~(run 1))>", "op lift splice"},
	} {
		last, rules := expectRun(t, parsed(t, c.of), 200)
		if writtenTerm(last) != c.to || rules != c.rule {
			t.Errorf("%s ends with %s by %s, want %s by %s", c.of, writtenTerm(last), rules, c.to, c.rule)
		}
	}
}

// TestStepsThatDoNotEnd has terms that always have a step.
func TestStepsThatDoNotEnd(t *testing.T) {
	for _, s := range []string{"((rec f x:I>I.(f x)) 1)", "(1+((rec f x:I>I.(f (x+1))) 1))", "<~((rec f x:I><I>.(f x)) 1)>", "<(\\y:I.~((rec f x:<I>><I>.(f x)) <y>))>", "((\\x:I.(x x)) (\\x:I.(x x)))"} {
		e, rules := expectRun(t, parsed(t, s), 50)
		if strings.Count(rules, " ") != 49 {
			t.Errorf("%s ends with %s", s, writtenTerm(e))
		}
	}
}

func TestStepsOfEveryTermOfFewNodes(t *testing.T) {
	rules := map[string]int{}
	for _, e := range slices.Concat(termsOfFewNodes(4), scopeTerms(4), chainsOfStages(6)) { // some of these are no terms
		_, rule := expectSteps(t, e)
		rules[rule]++
		for _, place := range []func(impl.Term) impl.Term{liftTerm, func(e impl.Term) impl.Term { return quoteTerm(function("iff", intType(), spliceTerm(e))) }} {
			_, rule := expectSteps(t, place(e))
			rules[rule]++
		}
	}
	for _, rule := range ruleWords() {
		if rules[rule] < 20 {
			t.Errorf("%d steps of the rule %s are too few", rules[rule], rule)
		}
	}
}

func TestStepsOfEveryTermOfCodeAndSplices(t *testing.T) {
	splices := 0
	for _, e := range levelTerms(8) {
		for _, e := range []impl.Term{e, quoteTerm(e), quoteTerm(spliceTerm(e))} {
			if _, rule := expectSteps(t, e); rule == "splice" {
				splices++
			}
		}
	}
	if splices < 300 {
		t.Errorf("%d splices are too few", splices)
	}
}

// TestStepsKeepTypes performs many steps of random terms that have a type, all the way to a result if they come to one.
func TestStepsKeepTypes(t *testing.T) {
	m := maker{rand.New(rand.NewSource(31))}
	rules, results := map[string]int{}, 0
	for range 2000 {
		of := m.typeText()
		e := m.term(nil, of, 0, 1+m.Intn(60))
		if typeOfClosed(e) != of {
			t.Fatalf("%s is not of the type %s", writtenTerm(e), of)
		}
		last, names := expectRun(t, e, 30)
		for _, rule := range strings.Fields(names) {
			rules[rule]++
		}
		if impl.IsResult(last) {
			results++
		}
	}
	for _, rule := range ruleWords()[1:] {
		if rules[rule] < 100 {
			t.Errorf("%d steps of the rule %s are too few", rules[rule], rule)
		}
	}
	if results < 1200 {
		t.Errorf("%d runs that come to a result are too few", results)
	}
}

// TestStepsOfChangedTerms has terms that mostly have no type, and often come to no result.
func TestStepsOfChangedTerms(t *testing.T) {
	m := maker{rand.New(rand.NewSource(32))}
	rules, stuck, typed := map[string]int{}, 0, 0
	for range 4000 {
		e := m.term(m.context(), m.typeText(), 0, 1+m.Intn(30))
		for range m.Intn(3) {
			e = m.changed(e)
		}
		if typeOfClosed(e) != "" {
			typed++
		}
		last, names := expectRun(t, e, 12)
		for _, rule := range strings.Fields(names) {
			rules[rule]++
		}
		if _, rule := stepByParts(last); rule == "none" && !impl.IsResult(last) {
			stuck++
		}
	}
	for _, rule := range ruleWords()[1:] {
		if rules[rule] < 100 {
			t.Errorf("%d steps of the rule %s are too few", rules[rule], rule)
		}
	}
	if stuck < 500 || typed < 500 {
		t.Errorf("%d runs that get stuck and %d terms with a type are too few", stuck, typed)
	}
}

func TestStepsOfRandomTerms(t *testing.T) {
	source := rand.New(rand.NewSource(33))
	steps := 0
	for range 3000 {
		for _, e := range []impl.Term{randomStaged(source, 1+source.Intn(60), 0), quoteTerm(randomStaged(source, 1+source.Intn(60), 1)), randomTerm(source, 1+source.Intn(30))} {
			_, rules := expectRun(t, e, 5)
			steps += len(strings.Fields(rules))
		}
	}
	if steps < 1000 {
		t.Errorf("%d steps are too few", steps)
	}
}

// TestNoStepOfWhatIsNoTerm has values that are no terms, alone, and as parts of what would have a step otherwise.
func TestNoStepOfWhatIsNoTerm(t *testing.T) {
	i, x, next := intType(), variable("x"), operation("+", number(1), number(1))
	wholes := []func(impl.Term) impl.Term{
		func(e impl.Term) impl.Term { return e },
		func(e impl.Term) impl.Term { return operation("+", next, e) },
		func(e impl.Term) impl.Term { return operation("+", e, next) },
		func(e impl.Term) impl.Term { return choice(boolean(1), x, e) },
		func(e impl.Term) impl.Term { return choice(e, x, x) },
		func(e impl.Term) impl.Term { return application(function("x", i, e), number(1)) },
		func(e impl.Term) impl.Term { return application(function("x", i, x), e) },
		func(e impl.Term) impl.Term { return application(recursive("f", "x", i, i, x), function("x", i, e)) },
		func(e impl.Term) impl.Term { return letTerm("x", number(1), e) },
		func(e impl.Term) impl.Term { return letTerm("x", e, x) },
		func(e impl.Term) impl.Term { return runTerm(quoteTerm(e)) },
		liftTerm,
		func(e impl.Term) impl.Term { return quoteTerm(spliceTerm(quoteTerm(e))) },
		func(e impl.Term) impl.Term { return quoteTerm(operation("+", spliceTerm(next), e)) },
	}
	for _, fault := range faultyTerms() {
		for _, whole := range wholes {
			e := whole(fault)
			if isTermByForms(e) {
				t.Fatalf("the test takes %s for a term", textOfTerm(e))
			}
			expectStep(t, e, e, "none")
		}
	}
	for _, part := range []impl.Term{x, number(1), boolean(1), function("x", i, x), quoteTerm(number(1))} {
		for kind := -2; kind <= 16; kind++ {
			for count := range 5 {
				e := impl.Term{Kind: kind, Args: slices.Repeat([]impl.Term{part}, count)}
				expectSteps(t, e)
				expectSteps(t, liftTerm(e))
				expectSteps(t, quoteTerm(spliceTerm(e)))
			}
		}
	}
}

func TestStepsNearTheLimitsOfTerms(t *testing.T) {
	for _, size := range []int{78, 79, 80, 81, 82, 1000} {
		for _, e := range termsOfSize(size) {
			expectSteps(t, e)
			expectSteps(t, runTerm(quoteTerm(e)))
			expectSteps(t, quoteTerm(operation("+", spliceTerm(quoteTerm(e)), spliceTerm(e))))
			expectSteps(t, letTerm("x", e, e))
			expectSteps(t, letTerm("x", function("y", intType(), e), operation("+", variable("x"), variable("x"))))
		}
		e := typedOfSize(size)
		if _, rule := expectSteps(t, e); rule == "none" || impl.SizeOf(e) != size || impl.IsValidTerm(e) != (size <= 80) || typeOfClosed(e) != "I" {
			t.Errorf("a term of %d nodes has no step, or no type", size)
		}
		if size <= 82 {
			last, rules := expectRun(t, e, 200)
			if last.Kind != 2 || strings.Contains(rules, "none") {
				t.Errorf("a term of %d nodes comes to %s", size, writtenTerm(last))
			}
		}
	}
	for _, depth := range []int{18, 19, 20, 21, 22, 100} {
		for _, e := range termsOfDepth(depth) {
			expectSteps(t, e)
			expectSteps(t, quoteTerm(spliceTerm(e)))
		}
	}
}

// expectLargeStep is for terms that are too deep or too large for texts.
func expectLargeStep(t *testing.T, name string, e, to impl.Term, rule string) {
	t.Helper()
	got, gotRule := impl.Step(e)
	if ruleWord(gotRule) != rule || !impl.EqualTerm(got, to) {
		t.Errorf("Step of a %s returns the rule %s, want %s, or another term", name, ruleWord(gotRule), rule)
	}
}

func TestStepsOfDeepTerms(t *testing.T) {
	const times = 20000
	next, after := operation("+", number(1), number(1)), number(2)
	for k, place := range searchedPlaces() {
		deep, deepAfter := nested(place, times, next), nested(place, times, after)
		stuck, faulty := nested(place, times, variable("x")), nested(place, times, variable("X"))
		withLittleStack(func() {
			name := "deep term of place " + strconv.Itoa(k)
			expectLargeStep(t, name, deep, deepAfter, "op")
			expectLargeStep(t, "stuck "+name, stuck, stuck, "none")
			expectLargeStep(t, "faulty "+name, faulty, faulty, "none")
		})
	}
	for k, place := range otherPlaces() {
		deep := nested(place, times, next)
		withLittleStack(func() {
			expectLargeStep(t, "deep term of other place "+strconv.Itoa(k), deep, deep, "none")
		})
	}
	for k, context := range contexts() {
		deep, faulty := nested(context, times, next), nested(context, times, variable("X"))
		to, rule := stepByParts(nested(context, 3, next))
		want := deep
		switch {
		case rule == "let":
			want = nested(context, times-1, next)
		case rule != "none":
			want = nested(context, times, after)
			if textOfTerm(to) != textOfTerm(nested(context, 3, after)) {
				t.Fatalf("context %d has another step", k)
			}
		}
		withLittleStack(func() {
			expectLargeStep(t, "deep term of context "+strconv.Itoa(k), deep, want, rule)
			expectLargeStep(t, "faulty deep term of context "+strconv.Itoa(k), faulty, faulty, "none")
		})
	}
}

// TestStepsThatMoveDeepParts has rules that put deep parts in other places.
func TestStepsThatMoveDeepParts(t *testing.T) {
	const times = 30000
	i, x, one := intType(), variable("x"), number(1)
	sums := func(e impl.Term) impl.Term {
		return nested(func(e impl.Term) impl.Term { return operation("+", one, e) }, times, e)
	}
	functions := func(e impl.Term) impl.Term {
		return nested(func(e impl.Term) impl.Term { return function("y", i, e) }, times, e)
	}
	upAndDown := func(e impl.Term) impl.Term {
		return nested(func(e impl.Term) impl.Term { return quoteTerm(letTerm("y", one, spliceTerm(e))) }, times, e)
	}
	rec := recursive("f", "x", i, i, functions(operation("+", variable("f"), x)))
	for k, c := range []struct {
		of, to impl.Term
		rule   string
	}{
		{choice(boolean(1), sums(x), x), sums(x), "if"},
		{choice(boolean(0), x, sums(x)), sums(x), "if"},
		{application(function("x", i, functions(x)), one), functions(one), "app"},
		{application(function("x", i, operation("+", x, x)), functions(x)), operation("+", functions(x), functions(x)), "app"},
		{application(rec, one), functions(operation("+", rec, one)), "rec"},
		{letTerm("x", functions(x), functions(x)), functions(functions(x)), "let"},
		{letTerm("x", quoteTerm(sums(one)), upAndDown(x)), upAndDown(quoteTerm(sums(one))), "let"},
		{runTerm(quoteTerm(sums(x))), sums(x), "run"},
		{runTerm(quoteTerm(upAndDown(x))), upAndDown(x), "run"},
		{runTerm(quoteTerm(upAndDown(spliceTerm(x)))), runTerm(quoteTerm(upAndDown(spliceTerm(x)))), "none"},
		{quoteTerm(spliceTerm(quoteTerm(functions(x)))), quoteTerm(functions(x)), "splice"},
		{quoteTerm(spliceTerm(quoteTerm(upAndDown(x)))), quoteTerm(upAndDown(x)), "splice"},
		{upAndDown(liftTerm(one)), upAndDown(quoteTerm(one)), "lift"},
		{quoteTerm(upAndDown(spliceTerm(quoteTerm(one)))), quoteTerm(upAndDown(one)), "splice"},
		{quoteTerm(operation("+", sums(spliceTerm(one)), spliceTerm(quoteTerm(one)))), quoteTerm(operation("+", sums(spliceTerm(one)), spliceTerm(quoteTerm(one)))), "none"},
		{quoteTerm(operation("+", sums(spliceTerm(quoteTerm(x))), spliceTerm(one))), quoteTerm(operation("+", sums(x), spliceTerm(one))), "splice"},
		{operation("+", functions(x), operation("+", one, one)), operation("+", functions(x), number(2)), "op"},
	} {
		withLittleStack(func() { expectLargeStep(t, "deep term of case "+strconv.Itoa(k), c.of, c.to, c.rule) })
	}
}

func TestStepsOfWideValues(t *testing.T) {
	const many = 50000
	for kind := -1; kind <= 15; kind++ {
		e := impl.Term{Kind: kind, Name: "+", Args: slices.Repeat([]impl.Term{number(1)}, many)}
		expectLargeStep(t, "wide value of kind "+strconv.Itoa(kind), e, e, "none")
		expectLargeStep(t, "wide value of kind "+strconv.Itoa(kind)+" in code", quoteTerm(spliceTerm(e)), quoteTerm(spliceTerm(e)), "none")
	}
	for _, e := range slices.Concat(termsWithType(codesOf(50000, intType())), termsWithType(typeOf(impl.TyFun, slices.Repeat([]impl.Type{intType()}, many)...))) {
		withLittleStack(func() {
			expectLargeStep(t, "term of kind "+strconv.Itoa(e.Kind)+" with a large type", e, e, "none")
			expectLargeStep(t, "application to a term with a large type", application(e, number(1)), application(e, number(1)), "none")
		})
	}
}

func TestStepsOfWideTerms(t *testing.T) {
	const times = 12
	i, x, one := intType(), variable("x"), number(1)
	wide := func(e impl.Term) impl.Term { return nested(doubled, times, e) }
	// leftmost has its part where it comes first, and last behind all others.
	leftmost := func(e, other impl.Term) impl.Term {
		for k := range times {
			e = operation("+", e, nested(doubled, k, other))
		}
		return e
	}
	last := func(e, other impl.Term) impl.Term {
		for k := range times {
			e = operation("+", nested(doubled, k, other), e)
		}
		return e
	}
	next := operation("*", number(2), number(3))
	for k, c := range []struct {
		of, to impl.Term
		rule   string
	}{
		{wide(x), wide(x), "none"},
		{wide(next), leftmost(number(6), next), "op"},
		{last(next, x), last(next, x), "none"},
		{quoteTerm(wide(x)), quoteTerm(wide(x)), "none"},
		{quoteTerm(wide(spliceTerm(quoteTerm(x)))), quoteTerm(leftmost(x, spliceTerm(quoteTerm(x)))), "splice"},
		{quoteTerm(last(spliceTerm(quoteTerm(one)), x)), quoteTerm(last(one, x)), "splice"},
		{quoteTerm(last(spliceTerm(next), x)), quoteTerm(last(spliceTerm(number(6)), x)), "op"},
		{quoteTerm(last(spliceTerm(next), spliceTerm(x))), quoteTerm(last(spliceTerm(next), spliceTerm(x))), "none"},
		{quoteTerm(quoteTerm(last(spliceTerm(spliceTerm(next)), spliceTerm(x)))), quoteTerm(quoteTerm(last(spliceTerm(spliceTerm(number(6))), spliceTerm(x)))), "op"},
		{application(function("x", i, wide(x)), one), wide(one), "app"},
		{application(function("x", i, wide(one)), one), wide(one), "app"},
		{letTerm("x", quoteTerm(wide(one)), operation("+", x, x)), operation("+", quoteTerm(wide(one)), quoteTerm(wide(one))), "let"},
		{runTerm(quoteTerm(wide(next))), wide(next), "run"},
		{choice(boolean(0), wide(next), wide(x)), wide(x), "if"},
	} {
		expectLargeStep(t, "wide term of case "+strconv.Itoa(k), c.of, c.to, c.rule)
	}
}

func TestStepsOfNilAndEmptyArgs(t *testing.T) {
	none := impl.Type{Args: []impl.Type{}}
	var empty func(e impl.Term) impl.Term
	empty = func(e impl.Term) impl.Term {
		for _, of := range []*impl.Type{&e.Type, &e.Res} {
			if len(of.Args) == 0 {
				of.Args = none.Args
			}
		}
		args := []impl.Term{}
		for _, arg := range e.Args {
			args = append(args, empty(arg))
		}
		e.Args = args
		return e
	}
	for _, e := range slices.Concat(partsWithSteps(), properTerms(), termsOfFewNodes(3), levelTerms(6)) {
		to, rule := stepByParts(e)
		expectStep(t, empty(e), to, rule)
	}
}

// memoryOf counts how often each element of a slice is met in e and its types, the unused parts of slices too.
func memoryOf(e *impl.Term) map[any]int {
	met := map[any]int{}
	var seeType func(of *impl.Type)
	seeType = func(of *impl.Type) {
		whole := of.Args[:cap(of.Args)]
		for k := range whole {
			met[&whole[k]]++
			seeType(&whole[k])
		}
	}
	var see func(e *impl.Term)
	see = func(e *impl.Term) {
		seeType(&e.Type)
		seeType(&e.Res)
		whole := e.Args[:cap(e.Args)]
		for k := range whole {
			met[&whole[k]]++
			see(&whole[k])
		}
	}
	see(e)
	return met
}

// stepValues are terms, and what is none, for the tests of what happens to memory.
func stepValues() []impl.Term {
	i, x, one := intType(), variable("x"), number(1)
	pair := funType(i, codeType(boolType()))
	values := []impl.Term{
		application(function("x", pair, choice(x, application(x, x), quoteTerm(spliceTerm(x)))), function("y", pair, quoteTerm(variable("y")))),
		application(function("x", pair, function("y", pair, x)), quoteTerm(variable("y"))),
		application(recursive("f", "x", pair, pair, choice(x, application(variable("f"), x), application(variable("f"), x))), recursive("f", "x", pair, pair, x)),
		letTerm("x", function("y", pair, recursive("f", "z", pair, codeType(pair), variable("z"))), operation("+", x, application(x, x))),
		choice(boolean(1), function("x", pair, x), function("y", pair, x)),
		runTerm(quoteTerm(function("x", pair, x))),
		quoteTerm(application(function("x", pair, x), spliceTerm(quoteTerm(function("y", pair, one))))),
		doubled(doubled(operation("+", one, one))),
		doubled(letTerm("x", doubled(one), doubled(x))),
		quoteTerm(doubled(doubled(spliceTerm(quoteTerm(doubled(x)))))),
		application(function("x", pair, doubled(x)), quoteTerm(doubled(function("x", pair, x)))),
		termOfSize(80), termOfSize(81),
	}
	for _, e := range slices.Concat(partsWithSteps(), scopeValues(), differentTerms()) {
		values = append(values, e)
		for _, place := range searchedPlaces()[10:14] {
			values = append(values, place(e))
		}
	}
	m := maker{rand.New(rand.NewSource(34))}
	for range 200 {
		values = append(values, m.term(nil, m.typeText(), 0, 30))
	}
	return values
}

func TestStepsKeepTerms(t *testing.T) {
	for _, original := range stepValues() {
		e := termWithCapacity(original)
		before := termTextWithCapacity(e)
		to, rule := stepByParts(original)
		expectStep(t, e, to, rule)
		if got := termTextWithCapacity(e); got != before {
			t.Errorf("%s became %s", before, got)
		}
	}
}

func TestStepsShareNoMemory(t *testing.T) {
	rules := map[string]int{}
	for _, original := range stepValues() {
		for _, e := range []impl.Term{original, termWithCapacity(original)} {
			first, rule := impl.Step(e)
			second, _ := impl.Step(e)
			rules[ruleWord(rule)]++
			ofTerm, ofFirst, ofSecond := memoryOf(&e), memoryOf(&first), memoryOf(&second)
			for place, count := range ofFirst {
				if count > 1 || ofTerm[place] > 0 || ofSecond[place] > 0 {
					t.Fatalf("Step(%s) shares memory with its argument, with another result or within itself", textOfTerm(e))
				}
			}
			want, before := textOfTerm(second), textOfTerm(e)
			overwriteTerm(&first)
			if textOfTerm(second) != want || textOfTerm(e) != before {
				t.Errorf("Step(%s) shares memory", before)
			}
		}
	}
	for _, rule := range ruleWords() {
		if rules[rule] < 10 {
			t.Errorf("%d steps of the rule %s are too few", rules[rule], rule)
		}
	}
}
