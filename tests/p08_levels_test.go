package tests

import (
	"math"
	"math/rand"
	"slices"
	"strconv"
	"strings"
	"testing"

	"loop.example/g00589/impl"
)

// Promise 8: generated terms have no splice to the level of what is evaluated.

const highestLevel = 2

// levelsToTry has every level, those next to them, and numbers that are far from all of them.
func levelsToTry() []int {
	return []int{math.MinInt64, math.MinInt64 + 1, -10007, -2, -1, 0, 1, 2, 3, 4, 256, 1 << 32, math.MaxInt64 - 1, math.MaxInt64}
}

// forLevels hands over every node of e with its level.
func forLevels(e impl.Term, n int, see func(node impl.Term, level int)) {
	see(e, n)
	for _, arg := range e.Args {
		switch e.Kind {
		case 10:
			forLevels(arg, n+1, see)
		case 11:
			forLevels(arg, n-1, see)
		default:
			forLevels(arg, n, see)
		}
	}
}

// A leveling is what chapter 8 says of a term. The levels at which something holds are digits of a text.
type leveling struct {
	ok, generated    string
	splices, highest int
	plain            bool
}

func levelingByParts(e impl.Term) leveling {
	want := leveling{highest: -1, plain: isTermByForms(e)}
	for n := 0; n <= highestLevel; n++ {
		least, greatest, leastOfSplices := n, n, 1
		forLevels(e, n, func(node impl.Term, level int) {
			least, greatest = min(least, level), max(greatest, level)
			if node.Kind == 11 {
				leastOfSplices = min(leastOfSplices, level-1)
			}
		})
		if !isTermByForms(e) || least < 0 || greatest > highestLevel {
			continue
		}
		want.ok += strconv.Itoa(n)
		if leastOfSplices > 0 {
			want.generated += strconv.Itoa(n)
		}
		if n == 0 {
			want.highest = greatest
		}
	}
	forLevels(e, 0, func(node impl.Term, level int) {
		if node.Kind == 11 {
			want.splices++
		}
		if node.Kind >= 10 || strings.Contains(textOfType(node.Type)+textOfType(node.Res), "4[") {
			want.plain = false
		}
	})
	return want
}

// expectLeveling checks every function of one term.
func expectLeveling(t *testing.T, e impl.Term, want leveling) {
	t.Helper()
	text := textOfTerm(e)
	expectNamedLeveling(t, text, e, want)
	if got := textOfTerm(e); got != text {
		t.Errorf("%.300s became %.300s", text, got)
	}
}

// expectNamedLeveling is for terms that are too deep for textOfTerm, too.
func expectNamedLeveling(t *testing.T, text string, e impl.Term, want leveling) {
	t.Helper()
	for _, n := range levelsToTry() {
		isOk, isGenerated := false, false
		if 0 <= n && n <= highestLevel {
			isOk, isGenerated = strings.Contains(want.ok, strconv.Itoa(n)), strings.Contains(want.generated, strconv.Itoa(n))
		}
		if got := impl.LevelsOk(e, n); got != isOk {
			t.Errorf("LevelsOk(%.300s, %d) = %v", text, n, got)
		}
		if got := impl.IsGenerated(e, n); got != isGenerated {
			t.Errorf("IsGenerated(%.300s, %d) = %v", text, n, got)
		}
	}
	if got := impl.IsPlain(e); got != want.plain {
		t.Errorf("IsPlain(%.300s) = %v", text, got)
	}
	if got := impl.CountSplices(e); got != want.splices {
		t.Errorf("CountSplices(%.300s) = %d, want %d", text, got, want.splices)
	}
	if got := impl.HighestLevel(e); got != want.highest {
		t.Errorf("HighestLevel(%.300s) = %d, want %d", text, got, want.highest)
	}
}

func expectLevels(t *testing.T, e impl.Term) {
	t.Helper()
	expectLeveling(t, e, levelingByParts(e))
}

type levelCase struct {
	of string
	leveling
}

func expectLevelCases(t *testing.T, cases []levelCase) {
	t.Helper()
	for _, c := range cases {
		e := parsed(t, c.of)
		if own := levelingByParts(e); own != c.leveling {
			t.Fatalf("the test finds %v for %s, and wants %v", own, c.of, c.leveling)
		}
		expectLeveling(t, e, c.leveling)
		for _, whole := range inside(e) {
			expectLevels(t, whole)
		}
	}
}

func TestMaxLevel(t *testing.T) {
	if impl.MaxLevel != highestLevel {
		t.Errorf("MaxLevel = %d", impl.MaxLevel)
	}
}

func TestLevelsOfEachKind(t *testing.T) {
	plain, staged := leveling{"012", "012", 0, 0, true}, leveling{"012", "012", 0, 0, false}
	expectLevelCases(t, []levelCase{
		{"x", plain},
		{"7", plain},
		{"#t", plain},
		{"(!x)", plain},
		{"(x+1)", plain},
		{"(if x y 1)", plain},
		{"(\\x:I.x)", plain},
		{"(\\x:(I>B).x)", plain},
		{"(x y)", plain},
		{"(let x=1 x)", plain},
		{"(rec f x:I>B.x)", plain},
		{"(rec f x:(I>(B>I))>(B>B).x)", plain},
		{"<x>", leveling{"01", "01", 0, 1, false}},
		{"~x", leveling{"12", "2", 1, -1, false}},
		{"(run x)", staged},
		{"(lift x)", staged},
	})
	for _, e := range properTerms() {
		expectLevels(t, e)
	}
}

func TestLevelsOfCodeAndSplices(t *testing.T) {
	expectLevelCases(t, []levelCase{
		{"<<x>>", leveling{"0", "0", 0, 2, false}}, // code within code up to the highest level
		{"<<<x>>>", leveling{"", "", 0, -1, false}},
		{"<<<<x>>>>", leveling{"", "", 0, -1, false}},
		{"~~x", leveling{"2", "", 2, -1, false}}, // splices down to level 0
		{"~~~x", leveling{"", "", 3, -1, false}},
		{"<~x>", leveling{"01", "1", 1, 1, false}},
		{"<~~x>", leveling{"1", "", 2, -1, false}},
		{"<~~~x>", leveling{"", "", 3, -1, false}},
		{"<<~x>>", leveling{"0", "0", 1, 2, false}}, // a splice whose part is of level 1
		{"<<~~x>>", leveling{"0", "", 2, 2, false}}, // and of this one the part, of level 0
		{"<<~~~x>>", leveling{"", "", 3, -1, false}},
		{"~<x>", leveling{"12", "2", 1, -1, false}},
		{"~~<x>", leveling{"2", "", 2, -1, false}},
		{"~<<x>>", leveling{"1", "", 1, -1, false}},
		{"~~<<x>>", leveling{"2", "", 2, -1, false}}, // passed first at the levels 0 and 1, and kept again further down
		{"<<<~x>>>", leveling{"", "", 1, -1, false}},
		{"~<~x>", leveling{"12", "2", 2, -1, false}},
		{"~<~~x>", leveling{"2", "", 3, -1, false}},
		{"<~<x>>", leveling{"01", "1", 1, 1, false}},
		{"<~<~x>>", leveling{"01", "1", 2, 1, false}},
		{"<~<~<~x>>>", leveling{"01", "1", 3, 1, false}},
		{"<~<<x>>>", leveling{"0", "", 1, 2, false}}, // 2 is reached only below a splice
		{"<~<<~x>>>", leveling{"0", "", 2, 2, false}},
		{"<~<<~~x>>>", leveling{"0", "", 3, 2, false}},
		{"<~<<<x>>>>", leveling{"", "", 1, -1, false}},
		{"<<~<x>>>", leveling{"0", "0", 1, 2, false}}, // code within a splice within code
		{"<<~<~<x>>>>", leveling{"0", "0", 2, 2, false}},
		{"<<~~<x>>>", leveling{"0", "", 2, 2, false}},
		{"<<~~<<x>>>>", leveling{"0", "", 2, 2, false}},
		{"<<~<<x>>>>", leveling{"", "", 1, -1, false}},
		{"(run <(lift (run <~x>))>)", leveling{"0", "0", 1, 2, false}},
		{"(lift <(run ~(lift <x>))>)", leveling{"01", "1", 1, 1, false}},
	})
}

func TestLevelsInSeveralParts(t *testing.T) {
	expectLevelCases(t, []levelCase{
		{"(~x+y)", leveling{"12", "2", 1, -1, false}}, // passed in one part, kept in the other
		{"(y+~x)", leveling{"12", "2", 1, -1, false}},
		{"(<<<x>>>+y)", leveling{"", "", 0, -1, false}},
		{"(y+<<<x>>>)", leveling{"", "", 0, -1, false}},
		{"(<<x>>+~y)", leveling{"", "", 1, -1, false}},
		{"(<x>+~y)", leveling{"1", "", 1, -1, false}},
		{"(~y+<x>)", leveling{"1", "", 1, -1, false}},
		{"<(~~x+~y)>", leveling{"1", "", 3, -1, false}},
		{"<(~y+~~x)>", leveling{"1", "", 3, -1, false}},
		{"<(~y+(x*<x>))>", leveling{"0", "", 1, 2, false}},
		{"<((x*<x>)+~y)>", leveling{"0", "", 1, 2, false}},
		{"<((x*<<x>>)+~y)>", leveling{"", "", 1, -1, false}},
		{"<(~y+(x*<<x>>))>", leveling{"", "", 1, -1, false}},
		{"<(~x+~y)>", leveling{"01", "1", 2, 1, false}},
		{"<(~x+<~y>)>", leveling{"0", "", 2, 2, false}}, // splices with parts of level 0 and 1
		{"<(<~x>+~y)>", leveling{"0", "", 2, 2, false}},
		{"<(<~x>+<~y>)>", leveling{"0", "0", 2, 2, false}},
		{"<(<~x>+<~~y>)>", leveling{"0", "", 3, 2, false}},
		{"<(<~~x>+<~y>)>", leveling{"0", "", 3, 2, false}},
		{"(~x+~~y)", leveling{"2", "", 3, -1, false}},
		{"(~x+~y)", leveling{"12", "2", 2, -1, false}},
		{"(<~x>+<y>)", leveling{"01", "1", 1, 1, false}},
		{"(<y>+<~x>)", leveling{"01", "1", 1, 1, false}},
		{"(if <~x> x <<~y>>)", leveling{"0", "", 2, 2, false}},
		{"(if <<~x>> <~y> x)", leveling{"0", "", 2, 2, false}},
		{"(if ~x y z)", leveling{"12", "2", 1, -1, false}},
		{"(if x ~y z)", leveling{"12", "2", 1, -1, false}},
		{"(if x y ~z)", leveling{"12", "2", 1, -1, false}},
		{"(let x=<x> <<x>>)", leveling{"0", "0", 0, 2, false}},
		{"(let x=<<x>> <x>)", leveling{"0", "0", 0, 2, false}},
		{"(let x=<<x>> x)", leveling{"0", "0", 0, 2, false}},
		{"((~x ~y) (~z <~x>))", leveling{"1", "", 4, -1, false}},
		{"((x ~<~y>) <~<y>>)", leveling{"1", "", 3, -1, false}},
		{"<((\\x:<I>.~x) (rec f x:I>I.~(f <x>)))>", leveling{"01", "1", 2, 1, false}},
		{"<(\\x:I.~((rec p n:I><I>.(if (n=0) <1> <(x*~(p (n-1)))>)) 3))>", leveling{"01", "1", 2, 1, false}},
	})
}

// TestIsPlainOfTypes has types in every place that has one.
func TestIsPlainOfTypes(t *testing.T) {
	i, x := intType(), variable("x")
	for _, of := range slices.Concat(validTypes(5), leaningTypes(7), []impl.Type{fullType(4), codesOf(7, i), leaning("rlrlrl", codeType(i)), leaning("lrlrlr", codeType(boolType()))}) {
		plain := plainByText(of)
		for _, e := range []impl.Term{function("x", of, x), recursive("f", "x", of, i, x), recursive("f", "x", i, of, x), recursive("f", "x", of, of, x)} {
			if !impl.IsTerm(e) {
				t.Fatalf("%s is no term", textOfTerm(e))
			}
			if got := impl.IsPlain(e); got != plain {
				t.Errorf("IsPlain(%s) = %v", textOfTerm(e), got)
			}
			expectLevels(t, e)
			expectLevels(t, application(e, function("y", i, x)))
			expectLevels(t, letTerm("z", number(1), choice(x, number(2), function("y", i, e))))
		}
	}
}

// TestIsPlainInEachPlace has each of the forms that are not plain, and a type that is not, once in a term that is plain otherwise.
func TestIsPlainInEachPlace(t *testing.T) {
	i, x := intType(), variable("x")
	all := slices.Concat(contexts()[:6], contexts()[7:12], []func(impl.Term) impl.Term{func(e impl.Term) impl.Term { return function("y", i, e) }})
	faults := []impl.Term{quoteTerm(x), spliceTerm(x), runTerm(x), liftTerm(x), function("x", codeType(i), x), recursive("f", "x", codeType(i), i, x), recursive("f", "x", i, codeType(i), x)}
	for k, context := range all {
		around := func(e impl.Term) impl.Term { return all[(k+3)%len(all)](context(all[(k+1)%len(all)](e))) }
		for _, e := range []impl.Term{x, number(1), function("x", funType(i, i), x), recursive("f", "x", i, i, x)} {
			if whole := around(e); !impl.IsPlain(e) || !impl.IsPlain(context(e)) || !impl.IsPlain(whole) || !impl.IsPlain(nested(context, 30, whole)) {
				t.Errorf("%s is not plain", textOfTerm(whole))
			}
		}
		for _, e := range faults {
			if whole := around(e); impl.IsPlain(e) || impl.IsPlain(context(e)) || impl.IsPlain(whole) || impl.IsPlain(nested(context, 30, whole)) {
				t.Errorf("%s is plain", textOfTerm(whole))
			}
		}
	}
}

func TestLevelsOfEveryTermOfFewNodes(t *testing.T) {
	terms := termsOfFewNodes(4)
	for _, e := range terms {
		expectLevels(t, e)
	}
	if len(terms) < 3000 {
		t.Errorf("%d terms are too few", len(terms))
	}
}

// levelTerms returns every term of up to so many nodes made of code, splices, applications and one variable.
func levelTerms(nodes int) []impl.Term {
	bySize := make([][]impl.Term, nodes+1)
	bySize[1] = []impl.Term{variable("x")}
	for n := 2; n <= nodes; n++ {
		for _, e := range bySize[n-1] {
			bySize[n] = append(bySize[n], quoteTerm(e), spliceTerm(e))
		}
		for left := 1; left < n-1; left++ {
			for _, a := range bySize[left] {
				for _, b := range bySize[n-1-left] {
					bySize[n] = append(bySize[n], application(a, b))
				}
			}
		}
	}
	return slices.Concat(bySize...)
}

func TestLevelsOfEveryTermOfCodeAndSplices(t *testing.T) {
	seen := map[leveling]int{}
	for _, e := range levelTerms(8) {
		want := levelingByParts(e)
		expectLeveling(t, e, want)
		seen[want]++
	}
	if len(seen) < 30 {
		t.Errorf("%d different answers are too few", len(seen))
	}
}

// randomStaged returns a term of so many nodes that mostly keeps to the levels if it stands at level n.
func randomStaged(source *rand.Rand, size, n int) impl.Term {
	if size == 1 {
		return []impl.Term{variable("x"), number(1), boolean(0)}[source.Intn(3)]
	}
	if left := 1 + source.Intn(size); left < size-1 {
		a, b := randomStaged(source, left, n), randomStaged(source, size-1-left, n)
		return []impl.Term{application(a, b), letTerm("x", a, b), operation("<", a, b)}[source.Intn(3)]
	}
	stray := source.Intn(60) == 0
	switch choice := source.Intn(4); {
	case choice == 0 && (n < highestLevel || stray):
		return quoteTerm(randomStaged(source, size-1, n+1))
	case choice == 1 && (n > 0 || stray):
		return spliceTerm(randomStaged(source, size-1, n-1))
	}
	of := randomStaged(source, size-1, n)
	return []impl.Term{function("x", intType(), of), recursive("f", "x", intType(), boolType(), of), operation("!", of), liftTerm(of), runTerm(of)}[source.Intn(5)]
}

func TestLevelsOfRandomTerms(t *testing.T) {
	source := rand.New(rand.NewSource(11))
	ok, generated := 0, 0
	for range 6000 {
		e := randomStaged(source, 1+source.Intn(60), source.Intn(3))
		want := levelingByParts(e)
		expectLeveling(t, e, want)
		ok += len(want.ok)
		generated += len(want.generated)
	}
	if ok < 2000 || generated < 1000 || generated > ok-1000 {
		t.Errorf("of the terms, %d have levels that are ok, and %d are generated", ok, generated)
	}
}

// TestLevelsOfWhatIsNoTerm has values that are no terms, alone, in a part, and among code and splices.
func TestLevelsOfWhatIsNoTerm(t *testing.T) {
	x := variable("x")
	wholes := []func(impl.Term) impl.Term{
		func(e impl.Term) impl.Term { return e },
		func(e impl.Term) impl.Term { return application(quoteTerm(spliceTerm(x)), e) },
		func(e impl.Term) impl.Term { return application(e, quoteTerm(spliceTerm(x))) },
		func(e impl.Term) impl.Term { return quoteTerm(operation("+", spliceTerm(x), spliceTerm(e))) },
		func(e impl.Term) impl.Term { return quoteTerm(quoteTerm(spliceTerm(e))) },
		func(e impl.Term) impl.Term { return function("x", intType(), letTerm("y", e, x)) },
	}
	for _, fault := range faultyTerms() {
		for _, whole := range wholes {
			e := whole(fault)
			if want := levelingByParts(e); want.ok != "" || want.generated != "" || want.plain || want.highest != -1 {
				t.Fatalf("the test takes %s for a term", textOfTerm(e))
			}
			expectLevels(t, e)
		}
	}
}

// TestCountSplicesOfWhatIsNoTerm counts splices with any number of Args, and in the Args of whatever has some.
func TestCountSplicesOfWhatIsNoTerm(t *testing.T) {
	x, s := variable("x"), spliceTerm(variable("x"))
	cases := []struct {
		of   impl.Term
		want int
	}{
		{impl.Term{}, 0},
		{termOf(11), 1},
		{termOf(11, s, x, s), 3},
		{termOf(11, termOf(11), termOf(11)), 3},
		{termOf(-11, s), 1},
		{termOf(11+256, x), 0},
		{termOf(11+1<<32, x), 0},
		{termOf(0, s, s, s), 3},
		{termOf(14, s, quoteTerm(s)), 2},
		{impl.Term{Kind: impl.TmVar, Name: "x", Args: []impl.Term{s, s}}, 2},
		{impl.Term{Kind: impl.TmInt, N: -1, Args: []impl.Term{spliceTerm(s)}}, 2},
		{impl.Term{Kind: impl.TmSplice, Name: "x", N: 7, Args: []impl.Term{x}}, 1},
		{impl.Term{Kind: impl.TmQuote, N: 11}, 0},
		{nested(spliceTerm, 100, termOf(99)), 100},
	}
	for _, c := range cases {
		want := leveling{highest: -1, splices: c.want}
		if own := levelingByParts(c.of); own != want {
			t.Fatalf("the test finds %v for %s, and wants %v", own, textOfTerm(c.of), want)
		}
		expectLeveling(t, c.of, want)
		expectLeveling(t, application(c.of, s), leveling{highest: -1, splices: c.want + 1})
	}
}

func TestLevelsNearTheLimitsOfTerms(t *testing.T) {
	for _, size := range []int{79, 80, 81, 1000} {
		for _, e := range termsOfSize(size) {
			expectLevels(t, e)
			expectLevels(t, quoteTerm(operation("+", spliceTerm(e), quoteTerm(spliceTerm(doubled(e))))))
		}
	}
	for _, depth := range []int{19, 20, 21, 100} {
		for _, e := range termsOfDepth(depth) {
			expectLevels(t, e)
		}
	}
	for _, size := range []int{80, 81} {
		e := quoteTerm(operation("*", spliceTerm(termOfSize((size-3)/2)), termOfSize(size-3-(size-3)/2)))
		if impl.SizeOf(e) != size || impl.IsValidTerm(e) != (size == 80) {
			t.Fatalf("a term has %d nodes, want %d", impl.SizeOf(e), size)
		}
		expectLeveling(t, e, leveling{"01", "1", 1, 1, false})
	}
}

// doubled returns a term that is twice as large.
func doubled(e impl.Term) impl.Term { return operation("+", e, e) }

func TestLevelsOfDeepTerms(t *testing.T) {
	const times = 50000
	for k, context := range contexts() {
		deep, faulty := nested(context, times, variable("x")), nested(context, times, variable("X"))
		want := levelingByParts(nested(context, 3, variable("x")))
		if want.splices > 0 {
			want.splices = times
		}
		withLittleStack(func() {
			name := "deep term of context " + strconv.Itoa(k)
			expectNamedLeveling(t, name, deep, want)
			expectNamedLeveling(t, "faulty "+name, faulty, leveling{splices: want.splices, highest: -1})
		})
	}
}

// TestLevelsOfTermsThatLeadUpAndDown has deep terms that keep to a few levels all the way.
func TestLevelsOfTermsThatLeadUpAndDown(t *testing.T) {
	const times = 50000
	i, x := intType(), variable("x")
	upAndDown := func(e impl.Term) impl.Term {
		return nested(func(e impl.Term) impl.Term { return quoteTerm(function("x", i, spliceTerm(e))) }, times, e)
	}
	downAndUp := func(e impl.Term) impl.Term {
		return nested(func(e impl.Term) impl.Term { return spliceTerm(application(x, quoteTerm(e))) }, times, e)
	}
	cases := []struct {
		of   impl.Term
		want leveling
	}{
		{upAndDown(x), leveling{"01", "1", times, 1, false}},
		{upAndDown(quoteTerm(quoteTerm(x))), leveling{"0", "", times, 2, false}},
		{upAndDown(spliceTerm(x)), leveling{"1", "", times + 1, -1, false}},
		{quoteTerm(upAndDown(spliceTerm(x))), leveling{"0", "", times + 1, 2, false}},
		{upAndDown(quoteTerm(quoteTerm(quoteTerm(x)))), leveling{"", "", times, -1, false}},
		{upAndDown(number(-1)), leveling{"", "", times, -1, false}},
		{downAndUp(x), leveling{"12", "2", times, -1, false}},
		{downAndUp(spliceTerm(x)), leveling{"12", "2", times + 1, -1, false}},
		{downAndUp(spliceTerm(spliceTerm(x))), leveling{"2", "", times + 2, -1, false}},
		{quoteTerm(quoteTerm(downAndUp(x))), leveling{"0", "0", times, 2, false}},
	}
	for k, c := range cases {
		withLittleStack(func() { expectNamedLeveling(t, "deep term of case "+strconv.Itoa(k), c.of, c.want) })
	}
}

func TestLevelsOfWideValues(t *testing.T) {
	const many = 100000
	args := slices.Repeat([]impl.Term{spliceTerm(number(1))}, many)
	for kind := -1; kind <= 15; kind++ {
		want := leveling{splices: many, highest: -1}
		if kind == impl.TmSplice {
			want.splices++
		}
		expectNamedLeveling(t, "wide value of kind "+strconv.Itoa(kind), impl.Term{Kind: kind, Name: "+", Args: args}, want)
	}
}

// TestLevelsOfWideTerms has terms with many splices side by side.
func TestLevelsOfWideTerms(t *testing.T) {
	const times, many = 16, 1 << 16
	splices := nested(doubled, times, spliceTerm(variable("x")))
	last := nested(func(e impl.Term) impl.Term { return operation("+", number(1), e) }, times, spliceTerm(variable("x")))
	first := nested(func(e impl.Term) impl.Term { return operation("+", e, number(1)) }, times, quoteTerm(quoteTerm(number(1))))
	expectNamedLeveling(t, "wide term", splices, leveling{"12", "2", many, -1, false})
	expectNamedLeveling(t, "code of a wide term", quoteTerm(splices), leveling{"01", "1", many, 1, false})
	expectNamedLeveling(t, "wide term with other splices behind", quoteTerm(application(splices, quoteTerm(last))), leveling{"0", "", many + 1, 2, false})
	expectNamedLeveling(t, "wide term with splices of splices behind", quoteTerm(application(splices, spliceTerm(last))), leveling{"1", "", many + 2, -1, false})
	expectNamedLeveling(t, "wide term with code before", application(first, quoteTerm(splices)), leveling{"0", "", many, 2, false})
	expectNamedLeveling(t, "wide term without splices", nested(doubled, times, function("x", intType(), variable("x"))), leveling{"012", "012", 0, 0, true})
}

// TestLevelsOfHugeTerms has values that contain themselves, or whose types do: a level, a fault or a splice ends the search.
func TestLevelsOfHugeTerms(t *testing.T) {
	hugeType := intType()
	for range 200 {
		hugeType = funType(hugeType, codeType(hugeType))
	}
	for _, e := range slices.Concat(termsWithType(hugeType), termsWithType(codesOf(200000, intType()))) {
		withLittleStack(func() {
			if impl.LevelsOk(e, 0) || impl.IsGenerated(e, 1) || impl.IsPlain(e) || impl.CountSplices(e) != 0 || impl.HighestLevel(e) != -1 {
				t.Errorf("a term of kind %d with a huge type", e.Kind)
			}
		})
	}
	code, splice := quoteTerm(number(1)), spliceTerm(number(1))
	code.Args[0], splice.Args[0] = code, splice
	for _, e := range []impl.Term{code, splice, application(number(1), code), quoteTerm(splice)} {
		for _, n := range levelsToTry() {
			if impl.LevelsOk(e, n) || impl.IsGenerated(e, n) {
				t.Errorf("LevelsOk or IsGenerated at level %d of a term that contains itself", n)
			}
		}
		if impl.IsPlain(e) || impl.HighestLevel(e) != -1 {
			t.Error("IsPlain or HighestLevel of a term that contains itself")
		}
	}
	// A splice whose part has level 0 ends the search, too, whatever stands behind it.
	for _, e := range hugeTerms() {
		if impl.IsGenerated(application(spliceTerm(number(1)), e), 1) || impl.IsResult(quoteTerm(application(spliceTerm(number(1)), e))) {
			t.Error("a term with a splice before a huge term is generated")
		}
	}
}

func TestLevelsKeepTerms(t *testing.T) {
	for _, original := range slices.Concat(scopeValues(), differentTerms(), levelTerms(5)) {
		e := termWithCapacity(original)
		before := termTextWithCapacity(e)
		expectLeveling(t, e, levelingByParts(original))
		if got := termTextWithCapacity(e); got != before {
			t.Errorf("%s became %s", before, got)
		}
	}
}
