package tests

import (
	"math"
	"regexp"
	"slices"
	"strconv"
	"strings"
	"testing"

	"loop.example/g00589/impl"
)

// Promise 5: sizes of terms are those of their parts.

const (
	largestTerm = 80
	deepestTerm = 20
)

func termOf(kind int, args ...impl.Term) impl.Term { return impl.Term{Kind: kind, Args: args} }

func variable(name string) impl.Term { return impl.Term{Kind: impl.TmVar, Name: name} }
func number(n int) impl.Term         { return impl.Term{Kind: impl.TmInt, N: n} }
func boolean(n int) impl.Term        { return impl.Term{Kind: impl.TmBool, N: n} }

func operation(op string, args ...impl.Term) impl.Term {
	return impl.Term{Kind: impl.TmOp, Name: op, Args: args}
}

func choice(by, a, b impl.Term) impl.Term { return termOf(impl.TmIf, by, a, b) }

func function(name string, from impl.Type, body impl.Term) impl.Term {
	return impl.Term{Kind: impl.TmLam, Name: name, Type: from, Args: []impl.Term{body}}
}

func application(f, a impl.Term) impl.Term { return termOf(impl.TmApp, f, a) }

func letTerm(name string, a, body impl.Term) impl.Term {
	return impl.Term{Kind: impl.TmLet, Name: name, Args: []impl.Term{a, body}}
}

func recursive(name, other string, from, to impl.Type, body impl.Term) impl.Term {
	return impl.Term{Kind: impl.TmRec, Name: name, Other: other, Type: from, Res: to, Args: []impl.Term{body}}
}

func quoteTerm(e impl.Term) impl.Term  { return termOf(impl.TmQuote, e) }
func spliceTerm(e impl.Term) impl.Term { return termOf(impl.TmSplice, e) }
func runTerm(e impl.Term) impl.Term    { return termOf(impl.TmRun, e) }
func liftTerm(e impl.Term) impl.Term   { return termOf(impl.TmLift, e) }

// properTerms returns a term of each of the thirteen kinds, by its kind less one.
func properTerms() []impl.Term {
	i, x := intType(), variable("x")
	return []impl.Term{
		x,
		number(7),
		boolean(1),
		operation("+", x, number(1)),
		choice(boolean(0), x, x),
		function("x", i, x),
		application(x, x),
		letTerm("x", x, x),
		recursive("p", "n", i, boolType(), x),
		quoteTerm(x),
		spliceTerm(x),
		runTerm(x),
		liftTerm(x),
	}
}

// contexts returns, for each place that a part can have, what puts a part there.
func contexts() []func(impl.Term) impl.Term {
	x, n := variable("x"), number(3)
	return []func(impl.Term) impl.Term{
		func(e impl.Term) impl.Term { return operation("!", e) },
		func(e impl.Term) impl.Term { return operation("-", e, n) },
		func(e impl.Term) impl.Term { return operation("<", n, e) },
		func(e impl.Term) impl.Term { return choice(e, x, n) },
		func(e impl.Term) impl.Term { return choice(x, e, n) },
		func(e impl.Term) impl.Term { return choice(x, n, e) },
		func(e impl.Term) impl.Term { return function("y", codeType(intType()), e) },
		func(e impl.Term) impl.Term { return application(e, n) },
		func(e impl.Term) impl.Term { return application(x, e) },
		func(e impl.Term) impl.Term { return letTerm("z", e, x) },
		func(e impl.Term) impl.Term { return letTerm("z", n, e) },
		func(e impl.Term) impl.Term { return recursive("f", "k", boolType(), intType(), e) },
		quoteTerm,
		spliceTerm,
		runTerm,
		liftTerm,
	}
}

// nested puts e so often into the context.
func nested(context func(impl.Term) impl.Term, times int, e impl.Term) impl.Term {
	for range times {
		e = context(e)
	}
	return e
}

// inside returns e at the top, and deep inside of terms that have no fault themselves.
func inside(e impl.Term) []impl.Term {
	list := []impl.Term{e}
	all := contexts()
	for k, context := range all {
		other := all[(k+5)%len(all)]
		list = append(list, context(e), other(context(e)), nested(other, 3, nested(context, 4, e)))
	}
	return list
}

// textOfTerm differs for terms that differ in any field, whether they are valid or not.
func textOfTerm(e impl.Term) string {
	text := strconv.Itoa(e.Kind) + strconv.Quote(e.Name) + strconv.Quote(e.Other) + strconv.Itoa(e.N) + textOfType(e.Type) + textOfType(e.Res) + "{"
	for _, arg := range e.Args {
		text += textOfTerm(arg)
	}
	return text + "}"
}

func sizeByParts(e impl.Term) int {
	size := 1
	for _, arg := range e.Args {
		size += sizeByParts(arg)
	}
	return size
}

func depthByParts(e impl.Term) int {
	deepest := 0
	for _, arg := range e.Args {
		deepest = max(deepest, depthByParts(arg))
	}
	return deepest + 1
}

// formsOfNodes has the forms of chapter 5, as nodeText writes them.
var formsOfNodes = regexp.MustCompile("^(" + strings.Join([]string{
	"1 name - 0 - - 0",
	"2 - - (0|1|n) - - 0",
	"3 - - (0|1) - - 0",
	"4 op2 - 0 - - 2",
	"4 op1 - 0 - - 1",
	"5 - - 0 - - 3",
	"6 name - 0 type - 1",
	"7 - - 0 - - 2",
	"8 name - 0 - - 2",
	"9 name name 0 type type 1",
	"1[0-3] - - 0 - - 1",
}, "|") + ")$")

// nodeText has a word for each field of e, and for Args their number.
func nodeText(e impl.Term) string {
	return strings.Join([]string{
		strconv.Itoa(e.Kind), nameWord(e.Name), nameWord(e.Other), numberWord(e.N), typeWord(e.Type), typeWord(e.Res), strconv.Itoa(len(e.Args)),
	}, " ")
}

func nameWord(s string) string {
	switch {
	case s == "":
		return "-"
	case s == "!":
		return "op1"
	case slices.Contains(operations(), s):
		return "op2"
	case hasNameForm(s):
		return "name"
	}
	return "bad"
}

func numberWord(n int) string {
	switch {
	case n == 0 || n == 1:
		return strconv.Itoa(n)
	case 2 <= n && n <= 10006:
		return "n"
	}
	return "bad"
}

func typeWord(t impl.Type) string {
	switch {
	case textOfType(t) == "0[]":
		return "-"
	case validByText(t):
		return "type"
	}
	return "bad"
}

func isTermByForms(e impl.Term) bool {
	twice := e.Kind == 9 && e.Name == e.Other
	return formsOfNodes.MatchString(nodeText(e)) && !twice && !slices.ContainsFunc(e.Args, func(arg impl.Term) bool { return !isTermByForms(arg) })
}

// expectTerm checks every function of one term against what the document says of it.
func expectTerm(t *testing.T, e impl.Term, term bool) {
	t.Helper()
	text, size, depth := textOfTerm(e), sizeByParts(e), depthByParts(e)
	if isTermByForms(e) != term {
		t.Fatalf("the test takes %.200s for a term: %v", text, !term)
	}
	if got := impl.SizeOf(e); got != size {
		t.Errorf("SizeOf(%.200s) = %d, want %d", text, got, size)
	}
	if got := impl.DepthOf(e); got != depth {
		t.Errorf("DepthOf(%.200s) = %d, want %d", text, got, depth)
	}
	if got := impl.IsTerm(e); got != term {
		t.Errorf("IsTerm(%.200s) = %v", text, got)
	}
	if got := impl.IsValidTerm(e); got != (term && size <= largestTerm && depth <= deepestTerm) {
		t.Errorf("IsValidTerm(%.200s) = %v", text, got)
	}
	if !impl.EqualTerm(e, e) {
		t.Errorf("EqualTerm(%.200s) of it and itself = false", text)
	}
	if got := textOfTerm(e); got != text {
		t.Errorf("%.200s became %.200s", text, got)
	}
}

// expectInside checks e, whether it is a term or not, at the top and deep inside of terms.
func expectInside(t *testing.T, e impl.Term, term bool) {
	t.Helper()
	for _, whole := range inside(e) {
		expectTerm(t, whole, term)
	}
}

func TestTermConstants(t *testing.T) {
	got := [15]int{
		impl.MaxSize, impl.MaxDepth, impl.TmVar, impl.TmInt, impl.TmBool, impl.TmOp, impl.TmIf, impl.TmLam, impl.TmApp,
		impl.TmLet, impl.TmRec, impl.TmQuote, impl.TmSplice, impl.TmRun, impl.TmLift,
	}
	if want := [15]int{largestTerm, deepestTerm, 1, 2, 3, 4, 5, 6, 7, 8, 9, 10, 11, 12, 13}; got != want {
		t.Errorf("the constants are %v, want %v", got, want)
	}
}

func TestOpArity(t *testing.T) {
	for op, want := range map[string]int{"+": 2, "-": 2, "*": 2, "=": 2, "<": 2, "&": 2, "|": 2, "!": 1} {
		if got := impl.OpArity(op); got != want {
			t.Errorf("OpArity(%q) = %d, want %d", op, got, want)
		}
	}
	for _, op := range otherOperations() {
		if got := impl.OpArity(op); got != 0 {
			t.Errorf("OpArity(%q) = %d, want 0", op, got)
		}
	}
	wordsOver("\x00+-*=<&|!> x", 3, func(op string) {
		if len(op) != 1 && impl.OpArity(op) != 0 {
			t.Errorf("OpArity(%q) = %d, want 0", op, impl.OpArity(op))
		}
	})
	for b := range 256 {
		op := string([]byte{byte(b)})
		if got := impl.OpArity(op); (got != 0) != slices.Contains(operations(), op) {
			t.Errorf("OpArity(%q) = %d", op, got)
		}
	}
}

// otherOperations returns names that are no operations.
func otherOperations() []string {
	return []string{"", "/", "%", ">", "==", "<=", "!=", "&&", "||", "!!", "++", " +", "+ ", "+\x00", "~", "x", "if", "op", "1", "\xff", "\u2212", strings.Repeat("+", 1000)}
}

func TestSizeAndDepthOfTerm(t *testing.T) {
	i, x := intType(), variable("x")
	large := codeType(funType(fullType(4), funType(fullType(3), leaning("rr", boolType()))))
	cases := []struct {
		of          impl.Term
		size, depth int
	}{
		{x, 1, 1},
		{number(5), 1, 1},
		{operation("!", boolean(1)), 2, 2},
		{operation("+", x, number(1)), 3, 2},
		{choice(operation("=", x, number(0)), x, operation("!", operation("!", x))), 8, 4},
		{function("x", i, operation("+", x, number(1))), 4, 3},
		{application(function("x", i, x), number(3)), 4, 3},
		{letTerm("x", liftTerm(x), quoteTerm(spliceTerm(x))), 6, 4},
		{recursive("p", "x", i, i, application(variable("p"), x)), 4, 3},
		{runTerm(quoteTerm(x)), 3, 3},
		{function("x", large, x), 2, 2}, // types do not count
		{recursive("p", "x", large, leaning("rlcrccl", i), x), 2, 2},
		{impl.Term{Kind: impl.TmVar, Name: "x", Type: fullType(8), Res: codesOf(100, i)}, 1, 1},
		{impl.Term{}, 1, 1}, // what follows is no term
		{termOf(0, x, quoteTerm(x)), 4, 3},
		{termOf(-1, x, x, x, x, x), 6, 2},
		{termOf(impl.TmVar, quoteTerm(quoteTerm(x)), x), 5, 4},
		{termOf(impl.TmInt, x), 2, 2},
		{termOf(impl.TmQuote), 1, 1},
		{termOf(math.MaxInt64, operation("?", x, x, x)), 5, 3},
		{nested(liftTerm, 100, x), 101, 101},
	}
	for _, c := range cases {
		if size, depth := impl.SizeOf(c.of), impl.DepthOf(c.of); size != c.size || depth != c.depth {
			t.Errorf("%s has size %d and depth %d, want %d and %d", textOfTerm(c.of), size, depth, c.size, c.depth)
		}
	}
}

// TestSizesOfTermsAreThoseOfTheirParts has terms of terms, of all kinds and of none.
func TestSizesOfTermsAreThoseOfTheirParts(t *testing.T) {
	parts := append(properTerms(), impl.Term{}, termOf(14, variable("x")), nested(quoteTerm, 30, number(1)))
	for kind := -1; kind <= 15; kind++ {
		for k := range parts {
			for count := range 5 {
				args := slices.Concat(parts[k:], parts)[:count]
				size, depth := 1, 1
				for _, arg := range args {
					size += impl.SizeOf(arg)
					depth = max(depth, impl.DepthOf(arg)+1)
				}
				whole := impl.Term{Kind: kind, Name: "x", Type: fullType(3), Args: args}
				if impl.SizeOf(whole) != size || impl.DepthOf(whole) != depth {
					t.Errorf("%s has size %d and depth %d, want %d and %d", textOfTerm(whole), impl.SizeOf(whole), impl.DepthOf(whole), size, depth)
				}
			}
		}
	}
}

func TestTermOfEachKind(t *testing.T) {
	for k, e := range properTerms() {
		if e.Kind != k+1 {
			t.Fatalf("the term for kind %d is of kind %d", k+1, e.Kind)
		}
		expectInside(t, e, true)
	}
}

// fieldFaults returns e with one field after the other, of those not in has, set to something that is not zero.
func fieldFaults(e impl.Term, has string) []impl.Term {
	var faults []impl.Term
	add := func(field string, set func(*impl.Term)) {
		if !strings.Contains(has, field) {
			fault := e
			set(&fault)
			faults = append(faults, fault)
		}
	}
	for _, s := range []string{"x", "q", "abcd", "+", "!", "if", " ", "0", "\x00", "abcdefgh"} {
		add("Name", func(e *impl.Term) { e.Name = s })
		add("Other", func(e *impl.Term) { e.Other = s })
	}
	for _, n := range []int{1, 2, -1, 10006, 10007, 20014, math.MaxInt64, math.MinInt64, 1 << 32} {
		add("Number", func(e *impl.Term) { e.N = n })
	}
	for _, x := range []impl.Type{intType(), boolType(), funType(intType(), intType()), codeType(boolType()), typeOf(5), typeOf(-1), typeOf(0, intType()), typeOf(0, impl.Type{})} {
		add("Type", func(e *impl.Term) { e.Type = x })
		add("Res", func(e *impl.Term) { e.Res = x })
	}
	return faults
}

// termsWithOtherFields returns terms of each kind with one field that this kind does not have.
func termsWithOtherFields() []impl.Term {
	fields := []string{"Name", "Number", "Number", "Name", "", "Name Type", "", "Name", "Name Other Type Res", "", "", "", ""}
	var faults []impl.Term
	for k, e := range properTerms() {
		faults = append(faults, fieldFaults(e, fields[k])...)
	}
	return faults
}

func TestFieldsThatAKindDoesNotHave(t *testing.T) {
	for _, fault := range termsWithOtherFields() {
		expectInside(t, fault, false)
	}
}

// termsOfOtherKinds returns what would be terms if their kinds were others.
func termsOfOtherKinds() []impl.Term {
	var faults []impl.Term
	for _, e := range append(properTerms(), impl.Term{}, operation("!", variable("x"))) {
		for _, kind := range []int{0, 14, 15, 26, -1, -e.Kind, -14, 128, 256 + e.Kind, 1<<32 + e.Kind, math.MaxInt64, math.MinInt64} {
			other := e
			other.Kind = kind
			faults = append(faults, other)
		}
	}
	return faults
}

func TestOtherKindsOfTerms(t *testing.T) {
	for _, fault := range termsOfOtherKinds() {
		expectInside(t, fault, false)
	}
}

func TestNumbersOfArgsOfTerms(t *testing.T) {
	for _, e := range append(properTerms(), operation("!", variable("x"))) {
		for _, part := range []impl.Term{variable("y"), number(0), quoteTerm(number(1))} {
			for count := range 6 {
				other := e
				other.Args = slices.Repeat([]impl.Term{part}, count)
				expectInside(t, other, count == len(e.Args))
			}
		}
	}
}

func TestNumbersAndBooleans(t *testing.T) {
	for n, valid := range map[int]bool{
		-1: false, 0: true, 1: true, 2: true, 10005: true, 10006: true, 10007: false, 10008: false, 20014: false, -10006: false, -10007: false,
		math.MaxInt64: false, math.MinInt64: false, 1 << 32: false, 1<<32 + 1: false,
	} {
		expectInside(t, number(n), valid)
	}
	for _, n := range []int{-1, 2, 3, 10006, 10007, 10008, 256, 257, 1 << 32, 1<<32 + 1, math.MaxInt64, math.MinInt64} {
		expectInside(t, boolean(n), false)
	}
	expectInside(t, boolean(0), true)
	expectInside(t, boolean(1), true)
	for n := -20; n < 10030; n++ {
		if impl.IsTerm(number(n)) != (0 <= n && n <= 10006) || impl.IsTerm(boolean(n)) != (n == 0 || n == 1) {
			t.Errorf("IsTerm of the number or the boolean %d", n)
		}
	}
}

// otherNames returns texts that are no names.
func otherNames() []string {
	return []string{"", "if", "let", "lift", "rec", "run", "abcde", "lifts", "1", "1a", "X", "xY", "x_", "_", " x", "x ", "x y", "x.", "+", "-", "!", "#t", "~x", "\x00", "x\x00", "\xff", "\u00e9", "\u0430", "\u0661", "x\u0661"}
}

func TestNamesInTerms(t *testing.T) {
	i, x := intType(), variable("x")
	withName := func(s string, valid bool) {
		for _, e := range []impl.Term{variable(s), function(s, i, x), letTerm(s, x, x), recursive(s, "q9", i, i, x), recursive("q9", s, i, i, x)} {
			expectInside(t, e, valid)
		}
	}
	for _, s := range []string{"a", "z", "x1", "a000", "abcd", "z999", "fi", "iff", "i", "lets", "le", "runs", "lif", "recs", "v1", "b1"} {
		withName(s, true)
	}
	for _, s := range otherNames() {
		withName(s, false)
	}
}

func TestNamesOfARecursiveFunctionDiffer(t *testing.T) {
	i, x := intType(), variable("x")
	for _, s := range []string{"a", "x", "p1", "abcd", "", "if", "X"} {
		expectInside(t, recursive(s, s, i, i, x), false)
	}
	expectInside(t, recursive("x", "x1", i, i, x), true)
	expectInside(t, recursive("x1", "x", i, i, x), true)
	expectInside(t, recursive("abcd", "abce", i, i, x), true)
}

func TestOperationsInTerms(t *testing.T) {
	x := variable("x")
	for count := range 5 {
		args := slices.Repeat([]impl.Term{x}, count)
		for _, op := range operations() {
			want := 2
			if op == "!" {
				want = 1
			}
			expectInside(t, operation(op, args...), count == want)
		}
		for _, op := range otherOperations() {
			expectInside(t, operation(op, args...), false)
		}
	}
}

// typesOfFunctions hands over types that functions may and may not have.
func typesOfFunctions(see func(x impl.Type, valid bool)) {
	for _, x := range validTypes(5) {
		see(x, true)
	}
	for _, c := range typesNearLimitOfSize() {
		see(c.of, c.size <= largestType)
	}
	for _, depth := range []int{7, 8, 9, 10} {
		sides := strings.Repeat("rlc", 4)[:depth-1]
		see(leaning(sides, boolType()), depth <= deepestType)
		see(codesOf(depth-1, intType()), depth <= deepestType)
	}
	for _, bad := range []impl.Type{{}, typeOf(5), typeOf(-1), typeOf(math.MaxInt64), typeOf(impl.TyInt, intType()), typeOf(impl.TyFun), typeOf(impl.TyFun, intType()), typeOf(impl.TyCode), typeOf(impl.TyCode, intType(), intType())} {
		see(bad, false)
		see(leaning("rlcrl", bad), false)
		see(leaning("ccccc", bad), false)
	}
}

func TestTypesOfFunctions(t *testing.T) {
	i, x := intType(), variable("x")
	typesOfFunctions(func(of impl.Type, valid bool) {
		for _, e := range []impl.Term{function("y", of, x), recursive("p", "n", of, i, x), recursive("p", "n", i, of, x), recursive("p", "n", of, of, x)} {
			for _, whole := range []impl.Term{e, quoteTerm(application(e, number(1))), nested(liftTerm, 4, choice(x, x, e))} {
				expectTerm(t, whole, valid)
			}
		}
	})
	expectInside(t, recursive("p", "n", impl.Type{}, impl.Type{}, x), false)
	empty := impl.Type{Kind: impl.TyBool, Args: []impl.Type{}}
	expectInside(t, recursive("p", "n", empty, empty, x), true)
	expectInside(t, impl.Term{Kind: impl.TmVar, Name: "x", Type: impl.Type{Args: []impl.Type{}}, Res: impl.Type{Args: []impl.Type{}}, Args: []impl.Term{}}, true)
}

// TestFormOfEveryNode has nodes with every combination of some values of their fields.
func TestFormOfEveryNode(t *testing.T) {
	names := []string{"", "x", "y", "+", "!", "if", "X"}
	types := []impl.Type{{}, intType(), funType(boolType(), codeType(intType())), typeOf(5), codesOf(8, intType())}
	args := slices.Repeat([]impl.Term{variable("x")}, 4)
	for kind := -1; kind <= 15; kind++ {
		for _, name := range names {
			for _, other := range names {
				for _, n := range []int{-1, 0, 1, 2, 10007} {
					for _, of := range types {
						for _, to := range types {
							for count := range 5 {
								e := impl.Term{Kind: kind, Name: name, Other: other, N: n, Type: of, Res: to, Args: args[:count]}
								if got := impl.IsTerm(e); got != isTermByForms(e) || impl.IsValidTerm(e) != got {
									t.Fatalf("IsTerm(%s) = %v", textOfTerm(e), got)
								}
							}
						}
					}
				}
			}
		}
	}
}

// termOfSize returns a term of so many nodes that is not deep.
func termOfSize(size int) impl.Term {
	if size == 1 {
		return number(7)
	}
	if size == 2 {
		return liftTerm(number(7))
	}
	left := (size - 1) / 2
	return operation("+", termOfSize(left), termOfSize(size-1-left))
}

// termsOfSize returns terms of so many nodes that are not deep.
func termsOfSize(size int) []impl.Term {
	terms := []impl.Term{termOfSize(size)}
	for _, context := range contexts() {
		around := sizeByParts(context(number(1))) - 1
		terms = append(terms, context(termOfSize(size-around)), nested(context, 5, termOfSize(size-5*around)))
	}
	return terms
}

// termsOfDepth returns terms of this depth that are not large if it is not.
func termsOfDepth(depth int) []impl.Term {
	var terms []impl.Term
	all := contexts()
	for k, context := range all {
		mixed := variable("x")
		for step := range depth - 1 {
			mixed = all[(k+step)%len(all)](mixed)
		}
		terms = append(terms, mixed, nested(context, depth-1, number(0)))
	}
	return terms
}

func TestLimitOfSizeOfTerms(t *testing.T) {
	for _, size := range []int{79, 80, 81, 82, 160, 1000} {
		for _, e := range termsOfSize(size) {
			if impl.SizeOf(e) != size || impl.DepthOf(e) > deepestTerm {
				t.Fatalf("a term has %d nodes and a depth of %d, want %d nodes", impl.SizeOf(e), impl.DepthOf(e), size)
			}
			if got := impl.IsValidTerm(e); got != (size <= 80) || !impl.IsTerm(e) {
				t.Errorf("IsValidTerm of a term of %d nodes = %v", size, got)
			}
			expectTerm(t, e, true)
		}
	}
}

func TestLimitOfDepthOfTerms(t *testing.T) {
	for _, depth := range []int{19, 20, 21, 22, 100} {
		for _, e := range termsOfDepth(depth) {
			if impl.DepthOf(e) != depth || depth <= 22 && impl.SizeOf(e) > largestTerm {
				t.Fatalf("a term has %d nodes and a depth of %d, want a depth of %d", impl.SizeOf(e), impl.DepthOf(e), depth)
			}
			if got := impl.IsValidTerm(e); got != (depth <= 20) || !impl.IsTerm(e) {
				t.Errorf("IsValidTerm of a term of depth %d = %v", depth, got)
			}
			expectTerm(t, e, true)
		}
	}
}

// TestBothLimitsOfTerms has terms whose types are as large and as deep as allowed, and that are so themselves or exceed it by one.
func TestBothLimitsOfTerms(t *testing.T) {
	of := funType(codesOf(6, intType()), funType(fullType(4), codesOf(5, boolType())))
	for _, limits := range [][2]int{{80, 20}, {79, 20}, {80, 19}, {81, 20}, {80, 21}, {81, 21}} {
		size, depth := limits[0], limits[1]
		chain := nested(func(e impl.Term) impl.Term { return function("x", of, e) }, depth-2, recursive("p", "n", of, of, number(1)))
		e := operation("+", chain.Args[0], termOfSize(size-depth))
		if impl.SizeOf(e) != size || impl.DepthOf(e) != depth {
			t.Fatalf("a term has %d nodes and a depth of %d, want %d and %d", impl.SizeOf(e), impl.DepthOf(e), size, depth)
		}
		if got := impl.IsValidTerm(e); got != (size <= 80 && depth <= 20) {
			t.Errorf("IsValidTerm of a term of %d nodes and depth %d = %v", size, depth, got)
		}
		expectTerm(t, e, true)
	}
}

// differentTerms returns terms each of which differs from all the others in one field or part.
func differentTerms() []impl.Term {
	x, pair := variable("x"), funType(intType(), codeType(boolType()))
	full := impl.Term{Kind: 9, Name: "p", Other: "n", N: 5, Type: pair, Res: codeType(pair), Args: []impl.Term{x, number(1)}}
	list := []impl.Term{full, {}}
	add := func(set func(*impl.Term)) {
		other := full
		set(&other)
		list = append(list, other)
	}
	for _, kind := range []int{0, 1, 10, 14, -9, 9 + 256, 9 + 1<<32, math.MaxInt64} {
		add(func(e *impl.Term) { e.Kind = kind })
	}
	for _, s := range []string{"", "q", "p1", "n", "P", "p\x00", "pn"} {
		add(func(e *impl.Term) { e.Name = s })
	}
	for _, s := range []string{"", "q", "n1", "p", "N", "n\x00", "np"} {
		add(func(e *impl.Term) { e.Other = s })
	}
	for _, n := range []int{0, 1, -5, 6, 10012, 5 + 256, 5 + 1<<32, math.MinInt64} {
		add(func(e *impl.Term) { e.N = n })
	}
	for _, of := range differentTypes() {
		add(func(e *impl.Term) { e.Type = of })
		add(func(e *impl.Term) { e.Res = of })
	}
	for _, args := range [][]impl.Term{nil, {x}, {x, x}, {number(1), x}, {x, number(2)}, {x, number(1), x}, {x, quoteTerm(number(1))}, {quoteTerm(x), number(1)}, {x, {}}, {{}, number(1)}} {
		add(func(e *impl.Term) { e.Args = args })
	}
	add(func(e *impl.Term) { e.Name, e.Other = e.Other, e.Name })
	add(func(e *impl.Term) { e.Type, e.Res = e.Res, e.Type })
	return list
}

// differentTypes returns types that differ at the top, deep inside, or in the number of Args alone.
func differentTypes() []impl.Type {
	i, b := intType(), boolType()
	return []impl.Type{
		{}, i, b, typeOf(5), typeOf(-1), funType(i, codeType(i)), funType(b, codeType(b)), funType(codeType(b), i), funType(i, codeType(codeType(b))), codeType(funType(i, codeType(i))),
		leaning("rlcrcc", i), leaning("rlcrcc", b), leaning("rlcrcc", typeOf(0)), leaning("rlcrc", typeOf(impl.TyCode)), leaning("rlcrc", typeOf(impl.TyCode, i, i)), leaning("rlcrc", typeOf(impl.TyFun, i)), leaning("rlcrcl", i),
	}
}

func expectEqualTerms(t *testing.T, a, b impl.Term, want bool) {
	t.Helper()
	if impl.EqualTerm(a, b) != want || impl.EqualTerm(b, a) != want {
		t.Errorf("EqualTerm(%s, %s) is not %v both ways", textOfTerm(a), textOfTerm(b), want)
	}
}

func TestEqualTermOfEachField(t *testing.T) {
	all := differentTerms()
	for j, a := range all {
		for k, b := range all {
			expectEqualTerms(t, a, copyOfTerm(b), j == k)
		}
	}
	for _, b := range all[1:] {
		wholes, others, same := inside(all[0]), inside(b), inside(copyOfTerm(all[0]))
		for k := range wholes {
			expectEqualTerms(t, wholes[k], others[k], false)
			expectEqualTerms(t, wholes[k], same[k], true)
		}
	}
}

func TestEqualTermOfDifferentPlaces(t *testing.T) {
	wholes := inside(variable("v"))
	for j, a := range wholes {
		for k, b := range wholes {
			expectEqualTerms(t, a, b, j == k)
		}
	}
}

func TestEqualTermOfEveryPair(t *testing.T) {
	var terms []impl.Term
	for _, args := range [][]impl.Term{nil, {variable("x")}, {number(0)}, {number(0), variable("x")}, {{}}, {{}, {}}} {
		for _, kind := range []int{0, 1, 9} {
			for _, name := range []string{"", "x"} {
				for _, of := range []impl.Type{{}, intType(), codeType(intType())} {
					terms = append(terms, impl.Term{Kind: kind, Name: name, Type: of, Args: args}, impl.Term{Kind: kind, Other: name, N: kind, Res: of, Args: args})
				}
			}
		}
	}
	for _, a := range terms {
		for _, b := range terms {
			expectEqualTerms(t, a, b, textOfTerm(a) == textOfTerm(b))
		}
	}
}

func TestEqualTermOfNilAndEmptyArgs(t *testing.T) {
	none := impl.Type{Args: []impl.Type{}}
	for _, e := range append(properTerms(), differentTerms()...) {
		if len(e.Args) > 0 {
			e.Args = []impl.Term{variable("x")}
			other := e
			other.Args = []impl.Term{{Kind: impl.TmVar, Name: "x", Type: none, Res: none, Args: []impl.Term{}}}
			expectEqualTerms(t, e, other, true)
		}
		e.Args, e.Type = nil, funType(intType(), boolType())
		other := e
		other.Args, other.Type = []impl.Term{}, funType(impl.Type{Kind: impl.TyInt, Args: []impl.Type{}}, impl.Type{Kind: impl.TyBool, Args: []impl.Type{}})
		wholes, others := inside(e), inside(other)
		for k := range wholes {
			expectEqualTerms(t, wholes[k], others[k], true)
		}
	}
}

// copyOfTerm shares no memory with e.
func copyOfTerm(e impl.Term) impl.Term {
	e.Type, e.Res = copyOfType(e.Type), copyOfType(e.Res)
	e.Args = slices.Clone(e.Args)
	for k := range e.Args {
		e.Args[k] = copyOfTerm(e.Args[k])
	}
	return e
}

func copyOfType(t impl.Type) impl.Type {
	t.Args = slices.Clone(t.Args)
	for k := range t.Args {
		t.Args[k] = copyOfType(t.Args[k])
	}
	return t
}

// termWithCapacity returns a copy of e in which each Args, of types too, has an unused part.
func termWithCapacity(e impl.Term) impl.Term {
	args := make([]impl.Term, 0, len(e.Args)+2)
	for _, arg := range e.Args {
		args = append(args, termWithCapacity(arg))
	}
	for k := range args[len(args):cap(args)] {
		args[:cap(args)][len(args)+k] = number(77)
	}
	e.Args, e.Type, e.Res = args, withCapacity(e.Type), withCapacity(e.Res)
	return e
}

// termTextWithCapacity is the text of e together with what is behind the end of each Args.
func termTextWithCapacity(e impl.Term) string {
	text := strconv.Itoa(e.Kind) + strconv.Quote(e.Name) + strconv.Quote(e.Other) + strconv.Itoa(e.N) + textWithCapacity(e.Type) + textWithCapacity(e.Res) + "{"
	for k, arg := range e.Args[:cap(e.Args)] {
		if k == len(e.Args) {
			text += "|"
		}
		text += termTextWithCapacity(arg)
	}
	return text + "}"
}

func TestTermsAreKept(t *testing.T) {
	for _, part := range slices.Concat(properTerms(), differentTerms(), []impl.Term{termOfSize(81), termOf(impl.TmQuote), operation("!")}) {
		for _, original := range inside(part) {
			e := termWithCapacity(original)
			before := termTextWithCapacity(e)
			expectTerm(t, e, isTermByForms(original))
			other := termWithCapacity(original)
			expectEqualTerms(t, e, other, true)
			expectEqualTerms(t, e, original, true)
			if termTextWithCapacity(e) != before || termTextWithCapacity(other) != before {
				t.Errorf("%s became %s or %s", before, termTextWithCapacity(e), termTextWithCapacity(other))
			}
		}
	}
}

func TestTermsNestedDeeply(t *testing.T) {
	const times = 50000
	for k, context := range contexts() {
		around := sizeByParts(context(number(1))) - 1
		deep, same, other := nested(context, times, variable("x")), nested(context, times, variable("x")), nested(context, times, number(-1))
		withLittleStack(func() {
			if size, depth := impl.SizeOf(deep), impl.DepthOf(deep); size != times*around+1 || depth != times+1 {
				t.Errorf("context %d: a deep term has %d nodes and a depth of %d, want %d and %d", k, size, depth, times*around+1, times+1)
			}
			if !impl.IsTerm(deep) || impl.IsTerm(other) || impl.IsValidTerm(deep) || impl.IsValidTerm(other) {
				t.Errorf("context %d: IsTerm or IsValidTerm of a deep term", k)
			}
			if !impl.EqualTerm(deep, same) || impl.EqualTerm(deep, other) || impl.EqualTerm(context(deep), deep) || impl.EqualTerm(deep, context(deep)) {
				t.Errorf("context %d: a deep term is not equal to itself alone", k)
			}
		})
	}
}

func TestTermsWithDeepTypes(t *testing.T) {
	deep, same, other := codesOf(200000, intType()), codesOf(200000, intType()), codesOf(200000, boolType())
	withLittleStack(func() {
		equals, others := termsWithType(same), termsWithType(other)
		for k, e := range termsWithType(deep) {
			if impl.IsTerm(e) || impl.IsValidTerm(e) || impl.SizeOf(e) != 1+len(e.Args) || impl.DepthOf(e) != 1+len(e.Args) {
				t.Errorf("a term of kind %d with a deep type", e.Kind)
			}
			if !impl.EqualTerm(e, equals[k]) || impl.EqualTerm(e, others[k]) || impl.EqualTerm(others[k], e) {
				t.Errorf("a term of kind %d with a deep type is not equal to itself alone", e.Kind)
			}
		}
	})
}

func TestTermsWithManyArgs(t *testing.T) {
	args := slices.Repeat([]impl.Term{liftTerm(number(1))}, 100000)
	for kind := -1; kind <= 15; kind++ {
		e, shorter := impl.Term{Kind: kind, Name: "+", Args: args}, impl.Term{Kind: kind, Name: "+", Args: args[1:]}
		if impl.SizeOf(e) != 200001 || impl.DepthOf(e) != 3 || impl.IsTerm(e) || impl.IsValidTerm(e) || !impl.EqualTerm(e, e) || impl.EqualTerm(e, shorter) || impl.EqualTerm(shorter, e) {
			t.Errorf("a term of kind %d with many Args", kind)
		}
	}
}

// hugeTerms returns terms with more nodes than can be counted, or that contain themselves.
func hugeTerms() []impl.Term {
	endless, sums := quoteTerm(number(1)), operation("+", number(1), number(1))
	endless.Args[0], sums.Args[0], sums.Args[1] = endless, sums, sums
	huge := number(1)
	for range 200 {
		huge = application(huge, huge)
	}
	return []impl.Term{endless, sums, huge, quoteTerm(huge), operation("+", number(1), endless)}
}

// termsWithType returns values of a few nodes with the type of.
func termsWithType(of impl.Type) []impl.Term {
	return []impl.Term{function("x", of, number(1)), recursive("p", "n", of, intType(), number(1)), recursive("p", "n", intType(), of, number(1)), {Kind: impl.TmInt, Type: of}, {Kind: impl.TmInt, Res: of}}
}

func TestHugeTermsAreRejectedAtOnce(t *testing.T) {
	hugeType := intType()
	for range 200 {
		hugeType = funType(hugeType, hugeType)
	}
	typed := termsWithType(hugeType)
	for _, e := range slices.Concat(typed, hugeTerms()) {
		if impl.IsValidTerm(e) {
			t.Errorf("a huge term of kind %d is valid", e.Kind)
		}
	}
	for _, e := range typed {
		if impl.IsTerm(e) || impl.SizeOf(e) != 1+len(e.Args) || impl.DepthOf(e) != 1+len(e.Args) {
			t.Errorf("a term of kind %d with a huge type", e.Kind)
		}
	}
}
