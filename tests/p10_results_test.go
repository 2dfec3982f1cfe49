package tests

import (
	"math"
	"math/rand"
	"slices"
	"strconv"
	"strings"
	"testing"

	"loop.example/g00589/impl"
)

// Promise 10: the part of what is lifted is what was lifted.

// A nature is what chapter 10 says of a term: whether it is a result, whether it is open,
// and the texts of the part of its code and of what is lifted of it, "" if there is none.
type nature struct {
	result, open bool
	part, lifted string
}

func natureByParts(e impl.Term) nature {
	if !isTermByForms(e) {
		return nature{}
	}
	of := nature{open: strings.Contains(levelingByParts(e).ok, "0") && len(freeByParts(e)) > 0}
	switch e.Kind {
	case 2, 3:
		of.result, of.lifted = true, textOfTerm(quoteTerm(e))
	case 6, 9:
		of.result = true
	case 10:
		if strings.Contains(levelingByParts(e.Args[0]).generated, "1") {
			of.result, of.part = true, textOfTerm(e.Args[0])
		}
	}
	return of
}

// partOrNone returns the text of a Term that comes with ok, "" for the zero Term and false.
func partOrNone(t *testing.T, function, of string, e impl.Term, ok bool) string {
	t.Helper()
	text := textOfTerm(e)
	if ok {
		return text
	}
	if text != textOfTerm(impl.Term{}) {
		t.Errorf("%s(%.300s) = %.300s, false", function, of, text)
	}
	return ""
}

// expectNature checks every function of one term.
func expectNature(t *testing.T, e impl.Term, want nature) {
	t.Helper()
	text := textOfTerm(e)
	part, isCode := impl.CodePart(e)
	lifted, isBase := impl.LiftOf(e)
	got := nature{impl.IsResult(e), impl.IsOpen(e), partOrNone(t, "CodePart", text, part, isCode), partOrNone(t, "LiftOf", text, lifted, isBase)}
	if got != want {
		t.Errorf("the nature of %.300s is %.300v, want %.300v", text, got, want)
	}
	if got := textOfTerm(e); got != text {
		t.Errorf("%.300s became %.300s", text, got)
	}
}

func expectResults(t *testing.T, e impl.Term) {
	t.Helper()
	expectNature(t, e, natureByParts(e))
}

// A resultCase has texts of terms as they are written, and neither part nor lifted if there is none.
type resultCase struct {
	of string
	nature
}

func expectResultCases(t *testing.T, cases []resultCase) {
	t.Helper()
	for _, c := range cases {
		e, want := parsed(t, c.of), c.nature
		if want.part != "" {
			want.part = textOfTerm(parsed(t, want.part))
		}
		if want.lifted != "" {
			want.lifted = textOfTerm(parsed(t, want.lifted))
		}
		if own := natureByParts(e); own != want {
			t.Fatalf("the test finds %v for %s, and wants %v", own, c.of, want)
		}
		expectNature(t, e, want)
		for _, whole := range inside(e) {
			expectResults(t, whole)
		}
	}
}

func TestPartOfWhatIsLifted(t *testing.T) {
	bases := []impl.Term{boolean(0), boolean(1)}
	for n := range 10007 {
		bases = append(bases, number(n))
	}
	for _, e := range bases {
		lifted, ok := impl.LiftOf(e)
		if !ok || !impl.EqualTerm(lifted, quoteTerm(e)) || !impl.IsResult(lifted) || impl.IsOpen(lifted) {
			t.Errorf("LiftOf(%s) = %s, %v", textOfTerm(e), textOfTerm(lifted), ok)
		}
		part, ok := impl.CodePart(lifted)
		if !ok || textOfTerm(part) != textOfTerm(e) {
			t.Errorf("CodePart of LiftOf(%s) = %s, %v", textOfTerm(e), textOfTerm(part), ok)
		}
		if _, ok := impl.LiftOf(lifted); ok {
			t.Errorf("LiftOf of LiftOf(%s) returns true", textOfTerm(e))
		}
		if _, ok := impl.CodePart(part); ok {
			t.Errorf("CodePart(%s) returns true", textOfTerm(part))
		}
		of, typed := impl.TypeOf(nil, liftTerm(e), 0)
		if ofLifted, ok := impl.TypeOf(nil, lifted, 0); !ok || !typed || !impl.EqualType(of, ofLifted) {
			t.Errorf("LiftOf(%s) has the type %s, want %s", textOfTerm(e), textOfType(ofLifted), textOfType(of))
		}
	}
}

func TestResultsOfEachKind(t *testing.T) {
	open, closed, function := nature{open: true}, nature{}, nature{result: true}
	expectResultCases(t, []resultCase{
		{"x", open},
		{"7", nature{true, false, "", "<7>"}},
		{"#t", nature{true, false, "", "<#t>"}},
		{"#f", nature{true, false, "", "<#f>"}},
		{"(!#t)", closed},
		{"(x+1)", open},
		{"(1+1)", closed},
		{"(if #t 1 2)", closed},
		{"(\\x:I.x)", function},
		{"(\\x:I.y)", nature{true, true, "", ""}},
		{"(x 1)", open},
		{"((\\x:I.x) 1)", closed},
		{"(let x=1 x)", closed},
		{"(rec f x:I>I.x)", function},
		{"(rec f x:I>I.y)", nature{true, true, "", ""}},
		{"<1>", nature{true, false, "1", ""}},
		{"<x>", nature{true, true, "x", ""}},
		{"~x", closed}, // no part may stand below level 0
		{"~1", closed},
		{"(run <1>)", closed},
		{"(run x)", open},
		{"(lift 1)", closed},
		{"(lift x)", open},
	})
	for _, e := range properTerms() {
		for _, whole := range inside(e) {
			expectResults(t, whole)
		}
	}
}

// TestFunctionsAreResults has functions whose bodies are no results, and bodies whose levels are not ok.
func TestFunctionsAreResults(t *testing.T) {
	bodies := []string{"x", "(1+1)", "((\\y:I.y) 1)", "(let y=1 y)", "(if #t 1 2)", "(run <1>)", "(lift 1)", "<~<1>>", "<~x>", "<<1>>", "(f x)", "(!1)"}
	faults := []string{"~x", "~<1>", "<<<x>>>", "<~~x>", "(1+~x)"}
	for _, body := range slices.Concat(bodies, faults) {
		for _, head := range []string{"(\\x:I.", "(\\x:<I>.", "(rec f x:I>I.", "(rec x f:<I>>(I>B)."} {
			e := parsed(t, head+body+")")
			if !impl.IsResult(e) {
				t.Errorf("%s is no result", writtenTerm(e))
			}
			if impl.IsOpen(e) != (head[1] == '\\' && body == "(f x)") {
				t.Errorf("IsOpen(%s) = %v", writtenTerm(e), impl.IsOpen(e))
			}
			if _, ok := impl.CodePart(e); ok {
				t.Errorf("CodePart(%s) returns true", writtenTerm(e))
			}
			if part, ok := impl.CodePart(quoteTerm(e)); ok && textOfTerm(part) != textOfTerm(e) {
				t.Errorf("CodePart of the code of %s = %s", writtenTerm(e), textOfTerm(part))
			}
			expectResults(t, e)
			expectResults(t, quoteTerm(e))
			expectResults(t, quoteTerm(quoteTerm(e)))
		}
	}
}

func TestResultsThatAreCode(t *testing.T) {
	closed, open := nature{}, nature{open: true}
	code := func(part string) nature { return nature{true, false, part, ""} }
	openCode := func(part string) nature { return nature{true, true, part, ""} }
	expectResultCases(t, []resultCase{
		{"<(1+1)>", code("(1+1)")}, // without splices
		{"<((\\x:I.x) 1)>", code("((\\x:I.x) 1)")},
		{"<(if x y z)>", openCode("(if x y z)")},
		{"<(\\x:I.(x+y))>", openCode("(\\x:I.(x+y))")},
		{"<(rec f x:I>I.(f (x-1)))>", code("(rec f x:I>I.(f (x-1)))")},
		{"<(let x=<1> x)>", code("(let x=<1> x)")},
		{"<(run <1>)>", code("(run <1>)")},
		{"<(run (lift x))>", openCode("(run (lift x))")},
		{"<(lift 1)>", code("(lift 1)")},
		{"<~<1>>", closed}, // a splice whose part is of level 0
		{"<~x>", open},
		{"<(1+~<1>)>", closed},
		{"<(~(lift 1)+1)>", closed},
		{"<(\\x:I.~<x>)>", closed},
		{"<(\\x:I.~y)>", open},
		{"<~(\\x:I.<x>)>", closed},
		{"<(if ~x y z)>", open},
		{"<(if y z ~x)>", open},
		{"<<1>>", code("<1>")}, // code in the code
		{"<<x>>", openCode("<x>")},
		{"<(1+<(2+2)>)>", code("(1+<(2+2)>)")},
		{"<<~<1>>>", code("<~<1>>")}, // a splice whose part is of level 1
		{"<<~x>>", openCode("<~x>")},
		{"<<(\\x:I.~(lift x))>>", code("<(\\x:I.~(lift x))>")},
		{"<(\\x:<I>.<~x>)>", code("(\\x:<I>.<~x>)")},
		{"<<(~x+~<y>)>>", openCode("<(~x+~<y>)>")},
		{"<(<~x>+<~y>)>", openCode("(<~x>+<~y>)")},
		{"<(run <(lift (run <~x>))>)>", closed}, // of a level beyond the highest one
		{"<(run (lift (run <~x>)))>", openCode("(run (lift (run <~x>)))")},
		{"<<~~x>>", open}, // splices of splices
		{"<<~~<<1>>>>", closed},
		{"<<~<~x>>>", openCode("<~<~x>>")},
		{"<<~<<~x>>>>", closed},
		{"<<~(1+~x)>>", open},
		{"<~~x>", closed},
		{"<~<~x>>", open},
		{"<~<<~x>>>", open},
		{"<~<<1>>>", closed},
		{"<(~x+<~y>)>", open}, // splices of both kinds
		{"<(<~x>+~y)>", open},
		{"<<(~x+~~y)>>", open},
		{"<<(~~x+~y)>>", open},
		{"<(<1>+~<2>)>", closed},
		{"<(let x=~y <~x>)>", open},
		{"<(let x=<~y> ~x)>", open},
		{"<(let x=<~y> x)>", openCode("(let x=<~y> x)")},
		{"<(\\x:I.(<~x> ~<<x>>))>", closed},
	})
}

// TestResultsWhoseLevelsAreNotOk has parts at the highest and at the lowest level, and beyond.
func TestResultsWhoseLevelsAreNotOk(t *testing.T) {
	expectResultCases(t, []resultCase{
		{"<<x>>", nature{true, true, "<x>", ""}}, // up to the highest level
		{"<<<x>>>", nature{}},
		{"<<<<x>>>>", nature{}},
		{"<<<1>>>", nature{}},
		{"<(1+<(2+<3>)>)>", nature{}},
		{"<(1+<(2+~<3>)>)>", nature{true, false, "(1+<(2+~<3>)>)", ""}},
		{"<(1+<(2+~<<3>>)>)>", nature{}},
		{"<(x+<(y+z)>)>", nature{true, true, "(x+<(y+z)>)", ""}},
		{"(\\x:I.<<1>>)", nature{true, false, "", ""}},
		{"(\\x:I.<<<1>>>)", nature{true, false, "", ""}}, // functions are results whatever their levels are
		{"(\\x:I.<<<y>>>)", nature{true, false, "", ""}},
		{"<(\\x:I.<y>)>", nature{true, true, "(\\x:I.<y>)", ""}},
		{"<(\\x:I.<<y>>)>", nature{}},
		{"<~x>", nature{open: true}}, // down to the lowest level
		{"<~~x>", nature{}},
		{"<<~~x>>", nature{open: true}},
		{"<<~~~x>>", nature{}},
		{"<(<~~y>+x)>", nature{open: true}},
		{"<(<~~~y>+x)>", nature{}},
		{"<(x+<~y>)>", nature{true, true, "(x+<~y>)", ""}},
		{"<(x+<<~y>>)>", nature{}},
		{"<(~~x+1)>", nature{}},
		{"<(1+~~x)>", nature{}},
		{"(rec f x:I>I.~y)", nature{true, false, "", ""}},
		{"(\\x:I.(y+~x))", nature{true, false, "", ""}},
		{"~<x>", nature{}},
		{"~~<<x>>", nature{}},
	})
}

func TestOpenTerms(t *testing.T) {
	for of, want := range map[string]bool{
		"1": false, "#t": false, "(1+2)": false, "<1>": false, "(run <1>)": false, "(if #t 1 2)": false, // no variables
		"x": true, "(!x)": true, "(x+x)": true, "(x+1)": true, "(f (f x))": true, "(if x 1 2)": true, "(if 1 x 2)": true, "(if 1 2 x)": true, // free ones
		"(a (b (c (d (e (f (g (h i))))))))": true, "(let x=x x)": true, "(let x=y 1)": true, "(let x=1 y)": true, "((\\x:I.x) x)": true, "(x (\\x:I.x))": true, "(lift x)": true, "(run x)": true,
		"(\\x:I.x)": false, "(\\x:I.(\\y:I.(x+y)))": false, "(let x=1 x)": false, "(let x=1 (let y=x (x+y)))": false, "(rec f x:I>I.(f x))": false, "(rec f x:I>I.f)": false, // bound ones alone
		"(\\x:I.y)": true, "(\\x:I.(\\y:I.(x+z)))": true, "(rec f x:I>I.(g x))": true, "(let f=(rec f x:I>I.(f x)) (f x))": true,
		"<x>": true, "<<x>>": true, "<~x>": true, "<~<x>>": true, "<<~x>>": true, "<<~~x>>": true, "<(\\x:I.y)>": true, "<(\\x:I.~y)>": true, "<~(\\x:I.<y>)>": true, // in code and in splices
		"<(\\x:I.x)>": false, "(\\x:I.<x>)": false, "<(\\x:I.~x)>": false, "<(\\x:I.~<x>)>": false, "<~(\\x:I.<x>)>": false, "(\\x:<I>.<~x>)": false, "<(rec f x:I>I.~(f <x>))>": false, "(let x=<1> <~x>)": false,
		"~x": false, "~<x>": false, "<<<x>>>": false, "<~~x>": false, "(x+~1)": false, "(x+<<<1>>>)": false, "(<<<1>>>+x)": false, "(\\y:I.(x+~y))": false, "<(x+<<1>>)>": false, "(x ~<1>)": false, "(let x=~1 y)": false, // levels that are not ok
		"(x+<<1>>)": true, "(<<1>>+x)": true, "(x <~<1>>)": true, "<(x+<1>)>": true,
	} {
		e := parsed(t, of)
		if got := impl.IsOpen(e); got != want || natureByParts(e).open != want {
			t.Errorf("IsOpen(%s) = %v, and the test finds %v, want %v", of, got, natureByParts(e).open, want)
		}
		for _, whole := range inside(e) {
			expectResults(t, whole)
		}
	}
}

// TestOpenTermsOfEachPlace has variables in every place, some of which are bound there.
func TestOpenTermsOfEachPlace(t *testing.T) {
	for _, context := range contexts() {
		for _, other := range contexts() {
			for _, name := range []string{"x", "y", "z", "f", "k", "here"} {
				expectResults(t, context(other(variable(name))))
				expectResults(t, quoteTerm(context(other(variable(name)))))
				expectResults(t, function("x", intType(), context(other(variable(name)))))
			}
		}
	}
}

// TestManyFreeVariables has the free variable first, last, or in the middle of many bound ones.
func TestManyFreeVariables(t *testing.T) {
	shortNames := func(count int) []string {
		var names []string
		for k := range count {
			names = append(names, "n"+strconv.Itoa(k))
		}
		return names
	}
	sum := func(names []string) impl.Term {
		e := number(0)
		for _, name := range names {
			e = operation("+", variable(name), e)
		}
		return e
	}
	bound := func(names []string, e impl.Term) impl.Term {
		for _, name := range names {
			e = function(name, intType(), e)
		}
		return e
	}
	for _, count := range []int{1, 2, 3, 100, 900} {
		names := shortNames(count)
		e := sum(names)
		if !impl.IsOpen(e) || !impl.IsOpen(quoteTerm(e)) || impl.IsOpen(bound(names, e)) || impl.IsOpen(quoteTerm(bound(names, e))) {
			t.Errorf("IsOpen of terms with %d variables", count)
		}
		for _, k := range []int{0, count / 2, count - 1} {
			others := slices.Concat(names[:k], names[k+1:])
			if one := bound(others, e); !impl.IsOpen(one) || !impl.IsResult(quoteTerm(one)) || impl.IsOpen(spliceTerm(one)) {
				t.Errorf("IsOpen of a term of %d variables of which number %d alone is free", count, k)
			}
		}
	}
}

func TestCodePartOfOtherResults(t *testing.T) {
	for _, of := range []string{"1", "0", "#t", "#f", "(\\x:I.<1>)", "(\\x:I.x)", "(rec f x:I>I.<x>)", "x", "~<1>", "(run <1>)", "(lift 1)", "(let x=1 <x>)", "(if #t <1> <2>)", "((\\x:I.<x>) 1)", "(<1>+<2>)", "(!<1>)", "(run <<1>>)", "<~<1>>", "<(1+~(lift 1))>", "<<<1>>>", "<~~<1>>"} {
		e := parsed(t, of)
		if part, ok := impl.CodePart(e); ok || textOfTerm(part) != textOfTerm(impl.Term{}) {
			t.Errorf("CodePart(%s) = %s, %v", of, textOfTerm(part), ok)
		}
	}
	for _, of := range []string{"1", "0", "#t", "x", "(1+1)", "(\\x:I.(x y))", "<1>", "<<~x>>", "<~<1>>", "(run <1>)", "(rec f x:(I>B)><I>.<x>)"} {
		e := parsed(t, of)
		part, ok := impl.CodePart(quoteTerm(e))
		if want := strings.Contains(levelingByParts(e).generated, "1"); ok != want || ok && textOfTerm(part) != textOfTerm(e) {
			t.Errorf("CodePart(<%s>) = %s, %v", of, textOfTerm(part), ok)
		}
	}
}

func TestLiftOf(t *testing.T) {
	for _, n := range []int{0, 1, 2, 9, 10, 127, 128, 255, 256, 9999, 10005, 10006} {
		e := number(n)
		lifted, ok := impl.LiftOf(e)
		if !ok || lifted.Kind != 10 || len(lifted.Args) != 1 || textOfTerm(lifted) != textOfTerm(quoteTerm(e)) || writtenTerm(lifted) != "<"+strconv.Itoa(n)+">" {
			t.Errorf("LiftOf(%d) = %s, %v", n, textOfTerm(lifted), ok)
		}
	}
	for _, n := range []int{-1, -2, -10006, -10007, 10007, 10008, 20013, 20014, 1 << 16, 1 << 31, 1 << 32, 1<<32 + 1, math.MaxInt64, math.MinInt64} {
		expectNature(t, number(n), nature{})
		expectNature(t, quoteTerm(number(n)), nature{})
	}
	for n, want := range map[int]string{0: "<#f>", 1: "<#t>"} {
		lifted, ok := impl.LiftOf(boolean(n))
		if !ok || textOfTerm(lifted) != textOfTerm(quoteTerm(boolean(n))) || writtenTerm(lifted) != want {
			t.Errorf("LiftOf(boolean %d) = %s, %v", n, textOfTerm(lifted), ok)
		}
	}
	for _, n := range []int{-1, 2, 3, 255, 256, 257, 10006, 10007, 10008, 1 << 32, 1<<32 + 1, math.MaxInt64, math.MinInt64} {
		expectNature(t, boolean(n), nature{})
		expectNature(t, quoteTerm(boolean(n)), nature{})
	}
	for _, of := range []string{"x", "(1+1)", "(!#t)", "(if #t 1 2)", "(\\x:I.1)", "(1 2)", "(let x=1 1)", "(rec f x:I>I.1)", "<1>", "<#t>", "~1", "~<1>", "(run <1>)", "(lift 1)", "(lift #t)"} {
		e := parsed(t, of)
		if lifted, ok := impl.LiftOf(e); ok || textOfTerm(lifted) != textOfTerm(impl.Term{}) {
			t.Errorf("LiftOf(%s) = %s, %v", of, textOfTerm(lifted), ok)
		}
	}
}

func TestKindName(t *testing.T) {
	names := strings.Fields("? ? var int bool op if lam app let rec quote splice run lift ?")
	for k, want := range names {
		if got := impl.KindName(k - 1); got != want {
			t.Errorf("KindName(%d) = %q, want %q", k-1, got, want)
		}
	}
	for k, e := range properTerms() {
		if got := impl.KindName(e.Kind); got != names[k+2] {
			t.Errorf("KindName of %s = %q, want %q", textOfTerm(e), got, names[k+2])
		}
	}
	for kind := -1000; kind <= 1000; kind++ {
		if got := impl.KindName(kind); (got == "?") != (kind < 1 || kind > 13) {
			t.Errorf("KindName(%d) = %q", kind, got)
		}
	}
	others := []int{math.MinInt64, math.MinInt64 + 1, math.MaxInt64, math.MaxInt64 - 1}
	for kind := range 15 {
		others = append(others, kind+1<<8, kind+1<<16, kind+1<<32, kind+1<<60, kind+math.MinInt64, -kind)
	}
	for _, kind := range others {
		if got := impl.KindName(kind); got != "?" {
			t.Errorf("KindName(%d) = %q", kind, got)
		}
	}
}

func TestResultsOfEveryTermOfFewNodes(t *testing.T) {
	for _, e := range termsOfFewNodes(4) {
		expectResults(t, e)
		expectResults(t, quoteTerm(e))
	}
	for _, e := range scopeTerms(4) { // some of these are no terms
		expectResults(t, e)
	}
	for _, e := range chainsOfStages(6) {
		expectResults(t, e)
	}
}

func TestResultsOfEveryTermOfCodeAndSplices(t *testing.T) {
	seen := map[string]int{}
	for _, e := range levelTerms(8) {
		want := natureByParts(e)
		expectNature(t, e, want)
		seen[strconv.FormatBool(want.result)+strconv.FormatBool(want.open)+strconv.Itoa(min(strings.Count(want.part, "11\""), 2))]++
	}
	for _, kind := range []string{"falsefalse0", "falsetrue0", "truetrue0", "truetrue1", "truetrue2"} {
		if seen[kind] < 10 {
			t.Errorf("%d terms of the nature %s are too few", seen[kind], kind)
		}
	}
}

func TestResultsOfRandomTerms(t *testing.T) {
	source := rand.New(rand.NewSource(21))
	results, open, parts := 0, 0, 0
	for range 2500 {
		e := randomStaged(source, 1+source.Intn(60), source.Intn(3))
		for _, e := range []impl.Term{e, quoteTerm(e), quoteTerm(quoteTerm(e)), randomTerm(source, 1+source.Intn(30))} {
			want := natureByParts(e)
			expectNature(t, e, want)
			if want.result {
				results++
			}
			if want.open {
				open++
			}
			if want.part != "" {
				parts++
			}
		}
	}
	if results < 2000 || open < 1000 || parts < 1000 || parts > results-200 {
		t.Errorf("of the terms, %d are results, %d are open, and %d have parts", results, open, parts)
	}
}

// TestResultsOfWhatIsNoTerm has values that are no terms, alone, as what stands in code, and in the bodies of functions.
func TestResultsOfWhatIsNoTerm(t *testing.T) {
	i, x := intType(), variable("x")
	wholes := []func(impl.Term) impl.Term{
		func(e impl.Term) impl.Term { return e },
		quoteTerm,
		func(e impl.Term) impl.Term { return quoteTerm(quoteTerm(e)) },
		func(e impl.Term) impl.Term { return quoteTerm(operation("+", x, e)) },
		func(e impl.Term) impl.Term { return quoteTerm(quoteTerm(spliceTerm(e))) },
		func(e impl.Term) impl.Term { return function("x", i, e) },
		func(e impl.Term) impl.Term { return function("x", i, letTerm("y", e, x)) },
		func(e impl.Term) impl.Term { return recursive("f", "x", i, i, application(x, e)) },
		func(e impl.Term) impl.Term { return application(x, e) },
	}
	for _, fault := range faultyTerms() {
		for _, whole := range wholes {
			e := whole(fault)
			if isTermByForms(e) {
				t.Fatalf("the test takes %s for a term", textOfTerm(e))
			}
			expectNature(t, e, nature{})
		}
	}
	for _, part := range []impl.Term{x, number(1), quoteTerm(number(1))} {
		for kind := -2; kind <= 16; kind++ {
			for count := range 5 {
				e := impl.Term{Kind: kind, Args: slices.Repeat([]impl.Term{part}, count)}
				expectResults(t, e)
				expectResults(t, quoteTerm(e))
			}
		}
	}
}

func TestResultsNearTheLimitsOfTerms(t *testing.T) {
	for _, size := range []int{78, 79, 80, 81, 1000} {
		for _, e := range termsOfSize(size) {
			expectResults(t, e)
			expectResults(t, quoteTerm(e))
			expectResults(t, function("x", intType(), e))
			expectResults(t, quoteTerm(quoteTerm(spliceTerm(e))))
		}
		if e := quoteTerm(termOfSize(size)); !impl.IsResult(e) || impl.IsOpen(e) {
			t.Errorf("the code of a term of %d nodes is no result, or it is open", size)
		}
	}
	for _, depth := range []int{18, 19, 20, 21, 100} {
		for _, e := range termsOfDepth(depth) {
			expectResults(t, e)
			expectResults(t, quoteTerm(e))
			expectResults(t, function("x", intType(), e))
		}
	}
}

// expectLargeResults checks terms that are too deep or too large for texts. If part is true, e is code that is a result.
func expectLargeResults(t *testing.T, name string, e impl.Term, result, open, part bool) {
	t.Helper()
	if impl.IsResult(e) != result || impl.IsOpen(e) != open {
		t.Errorf("IsResult and IsOpen of a %s = %v and %v, want %v and %v", name, impl.IsResult(e), impl.IsOpen(e), result, open)
	}
	want := impl.Term{}
	if part {
		want = e.Args[0]
	}
	if got, ok := impl.CodePart(e); ok != part || !impl.EqualTerm(got, want) {
		t.Errorf("CodePart of a %s returns %v", name, ok)
	}
	if got, ok := impl.LiftOf(e); ok || !impl.EqualTerm(got, impl.Term{}) {
		t.Errorf("LiftOf of a %s returns %v", name, ok)
	}
}

func TestResultsOfDeepTerms(t *testing.T) {
	const times = 50000
	for k, context := range contexts() {
		deep, faulty := nested(context, times, variable("x")), nested(context, times, variable("X"))
		of, ofCode := natureByParts(nested(context, 3, variable("x"))), natureByParts(quoteTerm(nested(context, 3, variable("x"))))
		withLittleStack(func() {
			name := "deep term of context " + strconv.Itoa(k)
			expectLargeResults(t, name, deep, of.result, of.open, false)
			expectLargeResults(t, "code of a "+name, quoteTerm(deep), ofCode.result, ofCode.open, ofCode.part != "")
			expectLargeResults(t, "faulty "+name, faulty, false, false, false)
			expectLargeResults(t, "code of a faulty "+name, quoteTerm(faulty), false, false, false)
		})
	}
}

// TestResultsOfTermsThatLeadUpAndDown has deep terms that keep to a few levels all the way.
func TestResultsOfTermsThatLeadUpAndDown(t *testing.T) {
	const times = 50000
	i, x := intType(), variable("x")
	upAndDown := func(e impl.Term) impl.Term {
		return nested(func(e impl.Term) impl.Term { return quoteTerm(letTerm("y", number(1), spliceTerm(e))) }, times, e)
	}
	cases := []struct {
		of                 impl.Term
		result, open, part bool
	}{
		{upAndDown(x), false, true, false},
		{upAndDown(number(1)), false, false, false},
		{quoteTerm(upAndDown(x)), true, true, true},
		{quoteTerm(upAndDown(number(1))), true, false, true},
		{quoteTerm(upAndDown(spliceTerm(x))), false, true, false},
		{quoteTerm(upAndDown(spliceTerm(spliceTerm(x)))), false, false, false},
		{quoteTerm(upAndDown(quoteTerm(x))), true, true, true},
		{quoteTerm(upAndDown(quoteTerm(quoteTerm(x)))), false, false, false},
		{quoteTerm(upAndDown(number(-1))), false, false, false},
		{quoteTerm(quoteTerm(upAndDown(x))), false, false, false},
		{function("x", i, upAndDown(x)), true, false, false},
		{function("y", i, upAndDown(spliceTerm(x))), true, false, false},
		{function("y", i, upAndDown(number(-1))), false, false, false},
	}
	for k, c := range cases {
		withLittleStack(func() {
			expectLargeResults(t, "deep term of case "+strconv.Itoa(k), c.of, c.result, c.open, c.part)
		})
	}
}

func TestResultsOfWideValues(t *testing.T) {
	for kind := -1; kind <= 15; kind++ {
		e := impl.Term{Kind: kind, Name: "+", Args: slices.Repeat([]impl.Term{quoteTerm(number(1))}, 100000)}
		expectLargeResults(t, "wide value of kind "+strconv.Itoa(kind), e, false, false, false)
		expectLargeResults(t, "code of a wide value of kind "+strconv.Itoa(kind), quoteTerm(e), false, false, false)
	}
}

func TestResultsOfWideTerms(t *testing.T) {
	const times = 14
	i, x := intType(), variable("x")
	wide := func(e impl.Term) impl.Term { return nested(doubled, times, e) }
	last := func(e impl.Term) impl.Term {
		return nested(func(e impl.Term) impl.Term { return operation("+", number(1), e) }, times, e)
	}
	expectLargeResults(t, "wide term", wide(x), false, true, false)
	expectLargeResults(t, "code of a wide term", quoteTerm(wide(x)), true, true, true)
	expectLargeResults(t, "code of a wide term with a variable behind", quoteTerm(application(wide(number(1)), last(x))), true, true, true)
	expectLargeResults(t, "code of a wide closed term", quoteTerm(wide(function("x", i, x))), true, false, true)
	expectLargeResults(t, "code of a wide term of splices", quoteTerm(wide(spliceTerm(x))), false, true, false)
	expectLargeResults(t, "code of a wide term with a splice behind", quoteTerm(application(wide(x), last(spliceTerm(number(1))))), false, true, false)
	expectLargeResults(t, "code of the code of a wide term of splices", quoteTerm(quoteTerm(wide(spliceTerm(x)))), true, true, true)
	expectLargeResults(t, "code of the code of a wide term with a splice of a splice", quoteTerm(quoteTerm(application(wide(spliceTerm(x)), last(spliceTerm(spliceTerm(x)))))), false, true, false)
	expectLargeResults(t, "code of a wide term with code of code behind", quoteTerm(application(wide(x), last(quoteTerm(quoteTerm(x))))), false, false, false)
	expectLargeResults(t, "code of a wide term with a fault behind", quoteTerm(application(wide(x), last(number(-1)))), false, false, false)
	expectLargeResults(t, "function with a wide body", function("x", i, wide(x)), true, false, false)
	expectLargeResults(t, "recursive function with a wide body", recursive("f", "x", i, i, wide(spliceTerm(variable("y")))), true, false, false)
	expectLargeResults(t, "function with a fault in its body", function("x", i, application(wide(x), last(number(-1)))), false, false, false)
}

// TestResultsOfHugeTerms has values that contain themselves, or more nodes than can be counted: the kind, a level or a fault ends the search.
func TestResultsOfHugeTerms(t *testing.T) {
	huge, rest := hugeTerms(), hugeTerms()[:1]
	for _, e := range append(huge[:3:3], huge[4]) {
		if lifted, ok := impl.LiftOf(e); ok || lifted.Kind != 0 {
			t.Errorf("LiftOf of a huge term of kind %d", e.Kind)
		}
		if part, ok := impl.CodePart(e); ok || part.Kind != 0 || impl.IsResult(e) {
			t.Errorf("IsResult or CodePart of a huge term of kind %d", e.Kind)
		}
	}
	for _, e := range append(rest, application(variable("x"), rest[0]), function("x", intType(), quoteTerm(rest[0]))) {
		if impl.IsOpen(e) {
			t.Errorf("a huge term of kind %d is open", e.Kind)
		}
	}
	hugeType := intType()
	for range 200 {
		hugeType = funType(hugeType, codeType(hugeType))
	}
	for _, e := range slices.Concat(termsWithType(hugeType), termsWithType(codesOf(200000, intType()))) {
		withLittleStack(func() {
			expectLargeResults(t, "term of kind "+strconv.Itoa(e.Kind)+" with a huge type", e, false, false, false)
			expectLargeResults(t, "code of a term of kind "+strconv.Itoa(e.Kind)+" with a huge type", quoteTerm(e), false, false, false)
		})
	}
}

func TestResultsOfNilAndEmptyArgs(t *testing.T) {
	none := impl.Type{Args: []impl.Type{}}
	empty := func(e impl.Term) impl.Term {
		e.Type, e.Res, e.Args = none, none, []impl.Term{}
		return e
	}
	for _, e := range []impl.Term{number(7), boolean(1)} {
		lifted, ok := impl.LiftOf(empty(e))
		if !ok || textOfTerm(lifted) != textOfTerm(quoteTerm(e)) || !impl.IsResult(empty(e)) {
			t.Errorf("LiftOf(%s) with empty Args = %s, %v", textOfTerm(e), textOfTerm(lifted), ok)
		}
	}
	code := quoteTerm(operation("+", empty(number(1)), empty(variable("x"))))
	code.Type, code.Res = none, none
	part, ok := impl.CodePart(code)
	if !ok || writtenTerm(part) != "(1+x)" || !impl.IsResult(code) || !impl.IsOpen(code) {
		t.Errorf("CodePart of code with empty Args = %s, %v", textOfTerm(part), ok)
	}
}

// resultValues are terms, and what is none, for the tests of what happens to memory.
func resultValues() []impl.Term {
	var values []impl.Term
	for _, e := range slices.Concat(scopeValues(), differentTerms(), levelTerms(5), []impl.Term{number(0), boolean(0), number(-1), termOfSize(80)}) {
		values = append(values, e, quoteTerm(e), function("y", funType(intType(), codeType(boolType())), e))
	}
	return values
}

func TestResultsKeepTerms(t *testing.T) {
	for _, original := range resultValues() {
		e := termWithCapacity(original)
		before := termTextWithCapacity(e)
		expectNature(t, e, natureByParts(original))
		if got := termTextWithCapacity(e); got != before {
			t.Errorf("%s became %s", before, got)
		}
	}
}

func TestPartsAndLiftedTermsShareNoMemory(t *testing.T) {
	parts, lifted := 0, 0
	for _, original := range resultValues() {
		for name, get := range map[string]func(impl.Term) (impl.Term, bool){"CodePart": impl.CodePart, "LiftOf": impl.LiftOf} {
			e := termWithCapacity(original)
			before := termTextWithCapacity(e)
			first, ok := get(e)
			second, _ := get(e)
			if ok && name == "CodePart" {
				parts++
			} else if ok {
				lifted++
			}
			want := textOfTerm(second)
			overwriteTerm(&first)
			if termTextWithCapacity(e) != before {
				t.Errorf("%s(%s) shares memory with its argument", name, before)
			}
			overwriteTerm(&e)
			if textOfTerm(second) != want {
				t.Errorf("%s(%s) shares memory with its argument or with another result", name, before)
			}
		}
	}
	if parts < 40 || lifted != 4 {
		t.Errorf("%d parts and %d lifted terms are too few", parts, lifted)
	}
}

func TestPartsOfCodeShareNothing(t *testing.T) {
	pair := funType(intType(), codeType(boolType()))
	for _, of := range []impl.Term{number(1), application(variable("x"), variable("x")), function("x", pair, variable("x")), recursive("f", "x", pair, pair, liftTerm(variable("x"))), letTerm("x", variable("x"), quoteTerm(number(1)))} {
		want := textOfTerm(of)
		for side := range 3 {
			part, ok := impl.CodePart(quoteTerm(choice(of, of, of)))
			if !ok {
				t.Fatalf("CodePart of the code of a choice between %s returns false", want)
			}
			overwriteTerm(&part.Args[side])
			for k, other := range part.Args {
				if k != side && textOfTerm(other) != want {
					t.Errorf("a part with %s at three places has parts that share memory", want)
				}
			}
		}
	}
	part, _ := impl.CodePart(quoteTerm(recursive("f", "x", pair, pair, variable("x"))))
	overwrite(&part.Type)
	if writtenType(part.Res) != "(I><B>)" {
		t.Error("the types of a recursive function share memory")
	}
}
