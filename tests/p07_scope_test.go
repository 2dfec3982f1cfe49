package tests

import (
	"math/rand"
	"slices"
	"strconv"
	"strings"
	"testing"

	"loop.example/g00589/impl"
)

// Promise 7: a substituted variable is not free any more.

// boundInPart returns the names that e binds in Args[k].
func boundInPart(e impl.Term, k int) []string {
	switch [3]int{e.Kind, len(e.Args), k} {
	case [3]int{6, 1, 0}, [3]int{8, 2, 1}:
		return []string{e.Name}
	case [3]int{9, 1, 0}:
		return []string{e.Name, e.Other}
	}
	return nil
}

func freeByParts(e impl.Term) []string {
	if e.Kind == 1 {
		return []string{e.Name}
	}
	var names []string
	for k, arg := range e.Args {
		for _, name := range freeByParts(arg) {
			if !slices.Contains(boundInPart(e, k), name) && !slices.Contains(names, name) {
				names = append(names, name)
			}
		}
	}
	return names
}

func firstNewName(taken ...[]string) string {
	for n := 1; ; n++ {
		if name := "v" + strconv.Itoa(n); !slices.Contains(slices.Concat(taken...), name) {
			return name
		}
	}
}

// substituted does one replacement after the other, as the document says it.
func substituted(e impl.Term, name string, by impl.Term) impl.Term {
	switch {
	case e.Kind == 1 && e.Name == name:
		return by
	case e.Kind == 1:
		return e
	}
	e.Args = slices.Clone(e.Args)
	for k, part := range e.Args {
		bound := boundInPart(e, k)
		if slices.Contains(bound, name) || !slices.Contains(freeByParts(part), name) {
			continue
		}
		for i, old := range bound {
			if slices.Contains(freeByParts(by), old) {
				bound[i] = firstNewName(freeByParts(by), freeByParts(part), []string{name}, bound)
				part = substituted(part, old, variable(bound[i]))
			}
		}
		e.Args[k] = substituted(part, name, by)
		if len(bound) > 0 {
			e.Name = bound[0]
		}
		if len(bound) > 1 {
			e.Other = bound[1]
		}
	}
	return e
}

// textUpToNames is the same for terms that are equal up to bound names. The names in bound come from the forms around.
func textUpToNames(e impl.Term, bound ...string) string {
	node := e
	node.Args = nil
	if e.Kind == 1 {
		for k := len(bound) - 1; k >= 0; k-- {
			if bound[k] == e.Name {
				node.Name = ""
				return "@" + strconv.Itoa(k) + textOfTerm(node)
			}
		}
		return textOfTerm(node)
	}
	text := strconv.Itoa(len(e.Args)) + "["
	for k, arg := range e.Args {
		names := boundInPart(e, k)
		if len(names) > 0 {
			node.Name = ""
		}
		if len(names) > 1 {
			node.Other = ""
		}
		text += textUpToNames(arg, slices.Concat(bound, names)...)
	}
	return textOfTerm(node) + text + "]"
}

func parsed(t *testing.T, s string) impl.Term {
	t.Helper()
	e, ok := impl.ParseTerm(s)
	if !ok {
		t.Fatalf("ParseTerm(%q) returns false", s)
	}
	return e
}

func expectFree(t *testing.T, e impl.Term, want ...string) {
	t.Helper()
	before := textOfTerm(e)
	if got := impl.FreeVars(e); !slices.Equal(got, want) {
		t.Errorf("FreeVars(%.300s) = %q, want %q", before, got, want)
	}
	if got := impl.IsClosed(e); got != (len(want) == 0) {
		t.Errorf("IsClosed(%.300s) = %v", before, got)
	}
	if got := textOfTerm(e); got != before {
		t.Errorf("%.300s became %.300s", before, got)
	}
}

func expectSubstituted(t *testing.T, e impl.Term, name string, by, want impl.Term) {
	t.Helper()
	before, beforeBy := textOfTerm(e), textOfTerm(by)
	got := impl.SubstTerm(e, name, by)
	if textOfTerm(got) != textOfTerm(want) {
		t.Errorf("SubstTerm(%.300s, %q, %.300s) = %.300s, want %.300s", before, name, beforeBy, textOfTerm(got), textOfTerm(want))
	}
	if textOfTerm(e) != before || textOfTerm(by) != beforeBy {
		t.Errorf("%.300s and %.300s became %.300s and %.300s", before, beforeBy, textOfTerm(e), textOfTerm(by))
	}
}

// expectNotFree checks which variables are free once name is replaced.
func expectNotFree(t *testing.T, e impl.Term, name string, by impl.Term) {
	t.Helper()
	before, after, ofBy := impl.FreeVars(e), impl.FreeVars(impl.SubstTerm(e, name, by)), impl.FreeVars(by)
	if slices.Contains(after, name) && !slices.Contains(ofBy, name) {
		t.Errorf("%q is free in %.300s", name, textOfTerm(impl.SubstTerm(e, name, by)))
	}
	want := before
	if slices.Contains(before, name) {
		want = append(impl.WithoutName(before, name), ofBy...)
	}
	if sortedNames(after) != sortedNames(want) {
		t.Errorf("SubstTerm(%.300s, %q, %.300s) has the free variables %q, want %q", textOfTerm(e), name, textOfTerm(by), after, want)
	}
}

func sortedNames(names []string) string {
	names = slices.Clone(names)
	slices.Sort(names)
	return strings.Join(slices.Compact(names), ",")
}

func expectAlpha(t *testing.T, a, b impl.Term, want bool) {
	t.Helper()
	before, beforeB := textOfTerm(a), textOfTerm(b)
	if impl.AlphaEqual(a, b) != want || impl.AlphaEqual(b, a) != want {
		t.Errorf("AlphaEqual(%.300s, %.300s) is not %v both ways", before, beforeB, want)
	}
	if textOfTerm(a) != before || textOfTerm(b) != beforeB {
		t.Errorf("%.300s and %.300s became %.300s and %.300s", before, beforeB, textOfTerm(a), textOfTerm(b))
	}
}

func TestFreeVars(t *testing.T) {
	cases := []struct{ of, want string }{
		{"x", "x"},
		{"7", ""},
		{"#t", ""},
		{"(!x)", "x"},
		{"(x+y)", "x y"},
		{"(y+x)", "y x"},
		{"(x+x)", "x"},
		{"(if z y x)", "z y x"},
		{"(if x y x)", "x y"},
		{"(\\x:I.x)", ""},
		{"(\\x:I.y)", "y"},
		{"(\\x:I.(y+x))", "y"},
		{"(f x)", "f x"},
		{"(let x=y x)", "y"},
		{"(let x=x x)", "x"}, // free in the first part alone
		{"(let x=x y)", "x y"},
		{"(let x=1 (x+y))", "y"},
		{"(let x=(let y=x y) (x y))", "x y"},
		{"(rec f x:I>I.(f x))", ""},
		{"(rec f x:I>I.(g (f (x+y))))", "g y"},
		{"(rec f x:I>I.f)", ""},
		{"(rec f x:I>I.x)", ""},
		{"<x>", "x"},
		{"~x", "x"},
		{"(run x)", "x"},
		{"(lift x)", "x"},
		{"((\\x:I.x) x)", "x"}, // bound, then free
		{"(x (\\x:I.x))", "x"},
		{"((\\x:I.(x+y)) (\\y:I.(x+y)))", "y x"},
		{"((let x=1 x)+x)", "x"},
		{"((rec f x:I>I.(f x)) (f x))", "f x"},
		{"(\\x:I.((\\x:I.x) x))", ""}, // bound by two forms, of which one ends
		{"(\\x:I.((let x=x x)+(x+y)))", "y"},
		{"(rec f x:I>I.((rec x f:I>I.(x f)) (f (x g))))", "g"},
		{"(\\x:I.<x>)", ""},
		{"(\\x:I.<~x>)", ""},
		{"<(\\x:I.~x)>", ""}, // bound in code, used in a splice of it
		{"<(\\x:I.~<x>)>", ""},
		{"<(\\x:I.~(f <(x+y)>))>", "f y"},
		{"<~(\\x:I.<x>)>", ""}, // bound in a splice, used in code of it
		{"~<(let x=~x ~x)>", "x"},
		{"<(rec f x:I>I.~(f <x>))>", ""},
		{"(run <(lift (\\x:I.(x y)))>)", "y"},
		{"(b (a (c (a (b d)))))", "b a c d"},
		{"(if (x<y) (\\z:I.(z w)) (let w=z (w x)))", "x y w z"},
		{"(\\v1:I.(v1 v2))", "v2"},
	}
	for _, c := range cases {
		expectFree(t, parsed(t, c.of), strings.Fields(c.want)...)
	}
}

func TestFreeVarsOfEachPlace(t *testing.T) {
	for k, context := range contexts() {
		around := freeByParts(context(number(1)))
		for _, name := range []string{"x", "y", "z", "f", "k", "here"} {
			e := context(variable(name))
			expectFree(t, e, freeByParts(e)...)
			isBound := slices.Contains([]string{"6y", "10z", "11f", "11k"}, strconv.Itoa(k)+name)
			if slices.Contains(impl.FreeVars(e), name) == (isBound && !slices.Contains(around, name)) {
				t.Errorf("%q is free in %s, or it should be", name, textOfTerm(e))
			}
		}
	}
}

// TestFreeVarsOfWhatIsNoTerm has forms with wrong numbers of Args, which bind nothing, and variables with Args, which are not looked at.
func TestFreeVarsOfWhatIsNoTerm(t *testing.T) {
	i, x, y, z := intType(), variable("x"), variable("y"), variable("z")
	lam := impl.Term{Kind: impl.TmLam, Name: "x", Type: i}
	let := impl.Term{Kind: impl.TmLet, Name: "x"}
	rec := impl.Term{Kind: impl.TmRec, Name: "x", Other: "y", Type: i, Res: i}
	with := func(e impl.Term, args ...impl.Term) impl.Term {
		e.Args = args
		return e
	}
	for _, e := range []impl.Term{lam, let, rec} {
		expectFree(t, with(e))
		expectFree(t, with(e, y, z, x, z), "y", "z", "x")
	}
	expectFree(t, with(lam, x, y), "x", "y")
	expectFree(t, with(lam, y, x), "y", "x")
	expectFree(t, with(let, x), "x")
	expectFree(t, with(let, y, x, x), "y", "x")
	expectFree(t, with(rec, x, y), "x", "y")
	expectFree(t, with(rec, application(y, with(lam, x))))
	expectFree(t, function("x", i, with(let, x, y, x)), "y")
	expectFree(t, with(variable("x"), y, z), "x")
	expectFree(t, function("x", i, with(variable("x"), y)))
	expectFree(t, function("x", i, with(variable("y"), x, x)), "y")
	expectFree(t, impl.Term{Kind: impl.TmVar, Name: "x", Other: "y", N: 5, Type: i, Res: i}, "x")
	expectFree(t, termOf(impl.TmVar), "")
	expectFree(t, function("", i, variable("")))
	expectFree(t, letTerm("", variable(""), variable("")), "")
	expectFree(t, recursive("", "", i, i, application(variable(""), x)), "x")
	expectFree(t, recursive("x", "x", i, i, application(x, y)), "y")
	expectFree(t, application(recursive("x", "x", i, i, x), x), "x")
	expectFree(t, function("no name", i, application(variable("no name"), variable("\xff"))), "\xff")
	expectFree(t, termOf(impl.TmIf, x, y), "x", "y")
	expectFree(t, termOf(impl.TmInt, y, x), "y", "x")
	for _, kind := range []int{0, 14, -1, -6, 6 + 256, 6 + 1<<32} {
		expectFree(t, impl.Term{Kind: kind, Name: "x", Other: "y", Args: []impl.Term{z, x}}, "z", "x")
		expectFree(t, impl.Term{Kind: kind, Name: "x", Args: []impl.Term{x}}, "x")
	}
	for _, kind := range []int{2, 3, 4, 5, 7, 10, 11, 12, 13} {
		expectFree(t, impl.Term{Kind: kind, Name: "x", Other: "y", Args: []impl.Term{y, x}}, "y", "x")
		expectFree(t, impl.Term{Kind: kind, Name: "x", Other: "y", Args: []impl.Term{x}}, "x")
	}
}

func TestSubstTerm(t *testing.T) {
	cases := [][4]string{
		{"x", "x", "(y+1)", "(y+1)"},
		{"y", "x", "1", "y"},
		{"7", "x", "1", "7"},
		{"#f", "x", "1", "#f"},
		{"(!x)", "x", "#t", "(!#t)"},
		{"(x*x)", "x", "y", "(y*y)"},
		{"(x-(y-x))", "x", "(x-y)", "((x-y)-(y-(x-y)))"},
		{"(if x (x y) (!x))", "x", "z", "(if z (z y) (!z))"},
		{"(x y)", "x", "(\\x:I.x)", "((\\x:I.x) y)"},
		{"(run <(lift ~x)>)", "x", "<1>", "(run <(lift ~<1>)>)"},
		{"(\\x:I.y)", "z", "x", "(\\x:I.y)"}, // no occurrence
		{"(\\x:I.x)", "x", "y", "(\\x:I.x)"}, // bound occurrences alone
		{"(\\x:I.x)", "x", "x", "(\\x:I.x)"},
		{"(let x=1 x)", "x", "y", "(let x=1 x)"},
		{"(rec f x:I>I.(f x))", "f", "(f x)", "(rec f x:I>I.(f x))"},
		{"(rec f x:I>I.(f x))", "x", "(f x)", "(rec f x:I>I.(f x))"},
		{"(x (\\x:I.(x (\\y:I.x))))", "x", "y", "(y (\\x:I.(x (\\y:I.x))))"},
		{"((rec f x:I>I.(f x)) (f x))", "f", "x", "((rec f x:I>I.(f x)) (x x))"},
		{"(let x=x x)", "x", "5", "(let x=5 x)"},
		{"(let x=(x+y) (x+y))", "x", "y", "(let x=(y+y) (x+y))"},
		{"(\\x:I.(x+y))", "y", "3", "(\\x:I.(x+3))"}, // closed
		{"(\\x:I.y)", "y", "(\\x:I.x)", "(\\x:I.(\\x:I.x))"},
		{"(let x=y (x+y))", "y", "3", "(let x=3 (x+3))"},
		{"(rec f x:I>I.(f (x+y)))", "y", "3", "(rec f x:I>I.(f (x+3)))"},
		{"(\\x:I.(x+y))", "y", "z", "(\\x:I.(x+z))"}, // not closed, without the bound name
		{"(\\x:I.(x+y))", "y", "x", "(\\v1:I.(v1+x))"},
		{"(\\x:I.y)", "y", "x", "(\\v1:I.x)"},
		{"(\\x:I.(x+y))", "y", "(\\z:I.(x z))", "(\\v1:I.(v1+(\\z:I.(x z))))"},
		{"(let x=1 (x+y))", "y", "x", "(let v1=1 (v1+x))"},
		{"(let x=(x+y) (x+y))", "y", "x", "(let v1=(x+x) (v1+x))"},
		{"(let x=y x)", "y", "x", "(let x=x x)"}, // not in the part in which x is bound
		{"(let x=y (let y=1 (x+y)))", "y", "x", "(let x=x (let y=1 (x+y)))"},
		{"(\\x:I.(\\y:I.(x+y)))", "y", "x", "(\\x:I.(\\y:I.(x+y)))"},
		{"(\\x:I.y)", "y", "(x+y)", "(\\v1:I.(x+y))"}, // with the name itself
		{"(\\x:I.(x+y))", "y", "(y+1)", "(\\x:I.(x+(y+1)))"},
		{"(rec f x:I>I.(f (x+y)))", "y", "f", "(rec v1 x:I>I.(v1 (x+f)))"},
		{"(rec f x:I>I.(f (x+y)))", "y", "x", "(rec f v1:I>I.(f (v1+x)))"},
		{"(rec f x:I>I.(f (x+y)))", "y", "(f x)", "(rec v1 v2:I>I.(v1 (v2+(f x))))"},
		{"(rec f x:I>I.(f (x+y)))", "y", "(x f)", "(rec v1 v2:I>I.(v1 (v2+(x f))))"},
		{"(rec f x:I>I.y)", "y", "(f x)", "(rec v1 v2:I>I.(f x))"},
		{"(rec f x:I>I.(x y))", "y", "f", "(rec v1 x:I>I.(x f))"},
	}
	expectSubstitutions(t, cases)
}

func expectSubstitutions(t *testing.T, cases [][4]string) {
	t.Helper()
	for _, c := range cases {
		e, by, want := parsed(t, c[0]), parsed(t, c[2]), parsed(t, c[3])
		expectSubstituted(t, e, c[1], by, want)
		expectNotFree(t, e, c[1], by)
		if own := substituted(e, c[1], by); textOfTerm(own) != textOfTerm(want) {
			t.Fatalf("the test substitutes to %s, and wants %s", writtenTerm(own), c[3])
		}
	}
}

func TestSubstTermTakesNewNames(t *testing.T) {
	expectSubstitutions(t, [][4]string{
		{"(\\x:I.(v1+(x+y)))", "y", "x", "(\\v2:I.(v1+(v2+x)))"}, // taken in the part
		{"(\\x:I.(x+y))", "y", "(x+v1)", "(\\v2:I.(v2+(x+v1)))"}, // taken in what is put there
		{"(\\x:I.(x+v1))", "v1", "x", "(\\v2:I.(v2+x))"},         // the name itself
		{"(rec x v1:I>I.(x+y))", "y", "x", "(rec v2 v1:I>I.(v2+x))"},
		{"(rec v1 x:I>I.(x+y))", "y", "x", "(rec v1 v2:I>I.(v2+x))"},
		{"(\\x:I.((v1+v3)+(x+y)))", "y", "x", "(\\v2:I.((v1+v3)+(v2+x)))"},
		{"(\\x:I.((v2+v3)+(x+y)))", "y", "(x+v1)", "(\\v4:I.((v2+v3)+(v4+(x+v1))))"},
		{"(\\v1:I.(v1+y))", "y", "v1", "(\\v2:I.(v2+v1))"},
		{"(let x=v1 (x+y))", "y", "x", "(let v1=v1 (v1+x))"}, // v1 is free in another part alone
		{"(v1 (\\x:I.(x+y)))", "y", "x", "(v1 (\\v1:I.(v1+x)))"},
		{"(rec f v1:I>I.(f (v1+y)))", "y", "(f v1)", "(rec v2 v3:I>I.(v2 (v3+(f v1))))"},
		{"(rec v1 f:I>I.(f (v1+y)))", "y", "(f v1)", "(rec v2 v3:I>I.(v3 (v2+(f v1))))"},
		{"(rec v1 v2:I>I.(v1 (v2+y)))", "y", "v1", "(rec v3 v2:I>I.(v3 (v2+v1)))"},
		{"(rec v1 v2:I>I.(v1 (v2+y)))", "y", "v2", "(rec v1 v3:I>I.(v1 (v3+v2)))"},
		{"(rec v2 v1:I>I.(v1 (v2+y)))", "y", "(v1+v2)", "(rec v3 v4:I>I.(v4 (v3+(v1+v2))))"},
		{"(rec f x:I>I.((f v1) (x y)))", "y", "(f x)", "(rec v2 v3:I>I.((v2 v1) (v3 (f x))))"},
		{"(\\x:I.(x+(\\v1:I.(v1+y))))", "y", "x", "(\\v1:I.(v1+(\\v1:I.(v1+x))))"}, // v1 is bound in the part
		{"(\\x:I.(\\v1:I.(x+y)))", "y", "x", "(\\v1:I.(\\v2:I.(v1+x)))"},           // v1 would be bound again
		{"(\\x:I.(\\v1:I.(\\v2:I.(x+y))))", "y", "x", "(\\v1:I.(\\v2:I.(\\v2:I.(v1+x))))"},
		{"(\\x:I.(\\v1:I.(\\v2:I.((x+v1)+y))))", "y", "x", "(\\v1:I.(\\v2:I.(\\v3:I.((v1+v2)+x))))"},
		{"(\\x:I.(\\v2:I.((x+v2)+y)))", "y", "(x+v1)", "(\\v2:I.(\\v3:I.((v2+v3)+(x+v1))))"}, // v2 is replaced by v1, and then by v3
		{"(\\x:I.(rec v2 v3:I>I.((x+v2)+(v3+y))))", "y", "(x+v1)", "(\\v2:I.(rec v4 v3:I>I.((v2+v4)+(v3+(x+v1)))))"},
		{"(\\x:I.(let v1=x (v1+(x+y))))", "y", "x", "(\\v1:I.(let v2=v1 (v2+(v1+x))))"},
		{"(\\x:I.(rec v1 v2:I>I.(v1 (v2+(x+y)))))", "y", "x", "(\\v1:I.(rec v3 v2:I>I.(v3 (v2+(v1+x)))))"},
	})
}

func TestSubstTermInNestedForms(t *testing.T) {
	expectSubstitutions(t, [][4]string{
		{"(\\x:I.(\\x:I.(x+y)))", "y", "x", "(\\v1:I.(\\v1:I.(v1+x)))"},
		{"(\\x:I.(x+(\\x:I.(x+y))))", "y", "x", "(\\v1:I.(v1+(\\v1:I.(v1+x))))"},
		{"(let x=x (let x=x (x+y)))", "y", "x", "(let v1=x (let v1=v1 (v1+x)))"},
		{"(rec f x:I>I.(rec x f:I>I.(x (f y))))", "y", "(f x)", "(rec v1 v2:I>I.(rec v1 v2:I>I.(v1 (v2 (f x)))))"},
		{"(\\x:I.(let z=x (rec f x:I>I.(f (x+(y+z))))))", "y", "(x+z)", "(\\v1:I.(let v1=v1 (rec f v2:I>I.(f (v2+((x+z)+v1))))))"},
		{"(\\x:I.(\\y:I.(x+y)))", "y", "x", "(\\x:I.(\\y:I.(x+y)))"},
		{"(\\x:I.((\\y:I.(x+y)) y))", "y", "x", "(\\v1:I.((\\y:I.(v1+y)) x))"},
		{"(\\x:I.(\\z:I.(\\x:I.((x+y)+z))))", "y", "(x+z)", "(\\v1:I.(\\v1:I.(\\v2:I.((v2+(x+z))+v1))))"},
	})
}

func TestSubstTermAcrossCodeAndSplices(t *testing.T) {
	expectSubstitutions(t, [][4]string{
		{"<x>", "x", "y", "<y>"},
		{"~x", "x", "<y>", "~<y>"},
		{"<(\\y:I.(~z+y))>", "z", "<y>", "<(\\v1:I.(~<y>+v1))>"},
		{"<(\\y:I.~(f <y>))>", "f", "y", "<(\\v1:I.~(y <v1>))>"},
		{"(\\x:I.<(x+~(y x))>)", "y", "x", "(\\v1:I.<(v1+~(x v1))>)"},
		{"(\\x:I.~<(x+y)>)", "x", "1", "(\\x:I.~<(x+y)>)"},
		{"<~(let x=1 <(~x+~y)>)>", "y", "<x>", "<~(let v1=1 <(~v1+~<x>)>)>"},
		{"~<(rec f x:I>I.~(f <(x+y)>))>", "y", "~(f x)", "~<(rec v1 v2:I>I.~(v1 <(v2+~(f x))>))>"},
		{"(let x=<y> (run <(~x+y)>))", "y", "x", "(let v1=<x> (run <(~v1+x)>))"},
		{"(lift (let x=y (run (x y))))", "y", "(lift x)", "(lift (let v1=(lift x) (run (v1 (lift x)))))"},
	})
}

func TestSubstTermInEachPlace(t *testing.T) {
	for _, context := range contexts() {
		for _, name := range []string{"here", "x", "y", "z", "f", "k"} {
			for _, by := range []impl.Term{number(5), variable("y"), variable("here"), application(variable("f"), application(variable("k"), variable("z"))), quoteTerm(function("y", intType(), variable("x")))} {
				for _, e := range []impl.Term{context(variable(name)), context(context(operation("+", variable(name), variable("y"))))} {
					expectSubstituted(t, e, name, by, substituted(e, name, by))
					expectNotFree(t, e, name, by)
				}
			}
		}
	}
}

func TestSubstTermOfWhatIsNoTerm(t *testing.T) {
	i, x, y := intType(), variable("x"), variable("y")
	lam := impl.Term{Kind: impl.TmLam, Name: "x", Type: i}
	let := impl.Term{Kind: impl.TmLet, Name: "x"}
	rec := impl.Term{Kind: impl.TmRec, Name: "x", Other: "z", Type: i, Res: i}
	with := func(e impl.Term, args ...impl.Term) impl.Term {
		e.Args = args
		return e
	}
	for _, form := range []impl.Term{lam, let, rec} {
		expectSubstituted(t, with(form), "x", y, with(form))
		expectSubstituted(t, with(form, x, y, x), "x", y, with(form, y, y, y))
		expectSubstituted(t, with(form, x, y, x), "y", x, with(form, x, x, x))
	}
	expectSubstituted(t, with(lam, x, y), "y", x, with(lam, x, x))
	expectSubstituted(t, with(let, x), "x", y, with(let, y))
	expectSubstituted(t, with(rec, x, y), "x", y, with(rec, y, y))
	withArgs := with(variable("x"), x, y)
	expectSubstituted(t, withArgs, "x", number(1), number(1)) // the Args of a variable are not looked at
	expectSubstituted(t, withArgs, "y", number(1), withArgs)
	expectSubstituted(t, operation("+", withArgs, y), "y", withArgs, operation("+", withArgs, withArgs))
	expectSubstituted(t, function("x", i, application(withArgs, y)), "y", x, function("v1", i, application(variable("v1"), x)))
	expectSubstituted(t, function("y", i, application(withArgs, variable("z"))), "z", y, function("v1", i, application(withArgs, y)))
	expectSubstituted(t, impl.Term{Kind: impl.TmVar, Name: "x", Other: "y", N: 5, Type: i, Res: i}, "x", y, y)
	expectSubstituted(t, recursive("x", "x", i, i, application(x, y)), "x", y, recursive("x", "x", i, i, application(x, y)))
	expectSubstituted(t, recursive("x", "x", i, i, application(x, y)), "y", number(1), recursive("x", "x", i, i, application(x, number(1))))
	expectSubstituted(t, recursive("x", "x", i, i, application(x, y)), "y", x, recursive("v1", "v2", i, i, application(variable("v1"), x)))
	expectSubstituted(t, termOf(impl.TmVar), "", x, x)
	expectSubstituted(t, function("", i, application(variable(""), x)), "x", variable(""), function("v1", i, application(variable("v1"), variable(""))))
	expectSubstituted(t, function("x", i, variable("\xff")), "\xff", x, function("v1", i, x))
	other := impl.Term{Kind: 14, Name: "x", Other: "y", N: -5, Type: typeOf(9, i), Res: typeOf(-1), Args: []impl.Term{x, y, lam}}
	otherAfter := other
	otherAfter.Args = []impl.Term{variable("y"), y, lam}
	expectSubstituted(t, other, "x", y, otherAfter)
	expectSubstituted(t, application(x, x), "x", other, application(other, other))
	expectSubstituted(t, function("y", i, x), "x", other, function("v1", i, other))
}

// scopeLeaves and scopeForms make the terms of scopeTerms.
func scopeLeaves() []impl.Term {
	return []impl.Term{variable("x"), variable("y"), variable("v1"), number(1)}
}

// scopeForms returns forms of one and of two Args, some of which are those of no term.
func scopeForms() (ofOne, ofTwo []impl.Term) {
	i := intType()
	ofOne = []impl.Term{
		function("x", i, impl.Term{}), function("y", i, impl.Term{}), function("v1", i, impl.Term{}),
		recursive("x", "y", i, i, impl.Term{}), recursive("v1", "x", i, i, impl.Term{}), recursive("x", "x", i, i, impl.Term{}),
		quoteTerm(impl.Term{}), spliceTerm(impl.Term{}),
		termOf(impl.TmVar, impl.Term{}), letTerm("x", impl.Term{}, impl.Term{}),
	}
	ofTwo = []impl.Term{application(impl.Term{}, impl.Term{}), letTerm("x", impl.Term{}, impl.Term{}), letTerm("v1", impl.Term{}, impl.Term{}), function("y", i, impl.Term{})}
	return ofOne, ofTwo
}

// scopeTerms returns every term of up to so many nodes, made of scopeLeaves and scopeForms.
func scopeTerms(nodes int) []impl.Term {
	ofOne, ofTwo := scopeForms()
	bySize := make([][]impl.Term, nodes+1)
	bySize[1] = scopeLeaves()
	add := func(n int, form impl.Term, args ...impl.Term) {
		form.Args = args
		bySize[n] = append(bySize[n], form)
	}
	for n := 2; n <= nodes; n++ {
		for _, e := range bySize[n-1] {
			for _, form := range ofOne {
				add(n, form, e)
			}
		}
		for left := 1; left < n-1; left++ {
			for _, a := range bySize[left] {
				for _, b := range bySize[n-1-left] {
					for _, form := range ofTwo {
						add(n, form, a, b)
					}
				}
			}
		}
	}
	return slices.Concat(bySize...)
}

// replacementsToTry returns what the tests put in the place of a variable.
func replacementsToTry() []impl.Term {
	x, y, v1 := variable("x"), variable("y"), variable("v1")
	return []impl.Term{number(1), x, y, v1, application(y, x), application(v1, application(x, variable("v2"))), function("x", intType(), application(x, y))}
}

func TestScopeOfEveryTermOfFewNodes(t *testing.T) {
	terms := scopeTerms(4)
	for _, e := range terms {
		expectFree(t, e, freeByParts(e)...)
		for _, name := range []string{"x", "y", "v1"} {
			for _, by := range replacementsToTry() {
				expectSubstituted(t, e, name, by, substituted(e, name, by))
				expectNotFree(t, e, name, by)
			}
		}
	}
	if len(terms) < 4000 {
		t.Errorf("%d terms are too few", len(terms))
	}
}

func TestAlphaEqualOfEveryPairOfFewNodes(t *testing.T) {
	terms := scopeTerms(3)
	for _, a := range terms {
		text := textUpToNames(a)
		for _, b := range terms {
			if want := text == textUpToNames(b); impl.AlphaEqual(a, b) != want {
				t.Errorf("AlphaEqual(%s, %s) is not %v", textOfTerm(a), textOfTerm(b), want)
			}
		}
	}
	byText := map[string]impl.Term{}
	for _, e := range scopeTerms(4) {
		text := textUpToNames(e)
		first, known := byText[text]
		if !known {
			byText[text] = e
			continue
		}
		expectAlpha(t, first, e, true)
	}
	if len(byText) < 1000 {
		t.Errorf("%d different terms are too few", len(byText))
	}
}

// randomTerm returns a term of so many nodes, with few names so that many are bound more than once.
func randomTerm(source *rand.Rand, size int) impl.Term {
	names := []string{"x", "y", "f", "v1", "v2", "v3"}
	name := func() string { return names[source.Intn(len(names))] }
	source.Shuffle(len(names), func(i, j int) { names[i], names[j] = names[j], names[i] })
	if size == 1 {
		return variable(name())
	}
	if left := 1 + source.Intn(size); left < size-1 {
		a, b := randomTerm(source, left), randomTerm(source, size-1-left)
		return []impl.Term{application(a, b), letTerm(name(), a, b), operation("+", a, b), impl.Term{Kind: 20, Name: "x", Args: []impl.Term{a, b}}}[source.Intn(4)]
	}
	i, of := intType(), randomTerm(source, size-1)
	forms := []impl.Term{function(name(), i, of), function(name(), i, of), recursive(names[0], names[1], i, i, of), recursive(names[0], names[1], codeType(i), i, of), quoteTerm(of), spliceTerm(of)}
	return forms[source.Intn(len(forms))]
}

// renamed returns e with other bound names, that occur nowhere else.
func renamed(e impl.Term, next *int) impl.Term {
	e.Args = slices.Clone(e.Args)
	for k := range e.Args {
		e.Args[k] = renamed(e.Args[k], next)
		for i := len(boundInPart(e, k)) - 1; i >= 0; i-- {
			*next++
			fresh, old := "w"+strconv.Itoa(*next), boundInPart(e, k)[i]
			e.Args[k] = substituted(e.Args[k], old, variable(fresh))
			if i == 0 {
				e.Name = fresh
			} else {
				e.Other = fresh
			}
		}
	}
	return e
}

func TestScopeOfRandomTerms(t *testing.T) {
	source := rand.New(rand.NewSource(7))
	for range 3000 {
		e, by := randomTerm(source, 1+source.Intn(40)), application(randomTerm(source, 1+source.Intn(6)), randomTerm(source, 1))
		expectFree(t, e, freeByParts(e)...)
		for _, name := range []string{"x", "y", "v1", "f"} {
			expectSubstituted(t, e, name, by, substituted(e, name, by))
			expectNotFree(t, e, name, by)
		}
	}
}

func TestAlphaEqualOfRandomTerms(t *testing.T) {
	source := rand.New(rand.NewSource(8))
	for range 3000 {
		e, next := randomTerm(source, 1+source.Intn(40)), 0
		other := renamed(e, &next)
		expectAlpha(t, e, other, true)
		if !slices.Equal(impl.FreeVars(e), impl.FreeVars(other)) {
			t.Errorf("%s and %s have other free variables", textOfTerm(e), textOfTerm(other))
		}
		for _, name := range []string{"x", "v1"} {
			by := randomTerm(source, 3)
			expectAlpha(t, impl.SubstTerm(e, name, by), impl.SubstTerm(other, name, by), true)
			after := impl.SubstTerm(e, name, by)
			expectAlpha(t, e, after, textUpToNames(e) == textUpToNames(after))
		}
	}
}

func TestAlphaEqual(t *testing.T) {
	cases := []struct {
		a, b string
		want bool
	}{
		{"x", "x", true},
		{"x", "y", false},
		{"7", "7", true},
		{"7", "8", false},
		{"1", "#t", false},
		{"#t", "#f", false},
		{"(x+y)", "(x+y)", true},
		{"(x+y)", "(x-y)", false},
		{"(x+y)", "(y+x)", false},
		{"(x+y)", "(x y)", false},
		{"(!x)", "(!x)", true},
		{"(!x)", "(lift x)", false},
		{"<x>", "~x", false},
		{"(if x y z)", "(if x y z)", true},
		{"(if x y z)", "(if x y y)", false},
		{"(\\x:I.x)", "(\\x:I.x)", true},
		{"(\\x:I.x)", "(\\y:I.y)", true},
		{"(\\x:I.x)", "(\\y:B.y)", false},
		{"(\\x:I.x)", "(\\y:<I>.y)", false},
		{"(\\x:I.x)", "(\\y:I.x)", false},
		{"(\\x:I.y)", "(\\y:I.y)", false}, // free in one, bound in the other
		{"(\\x:I.y)", "(\\z:I.y)", true},
		{"(\\x:I.y)", "(\\x:I.z)", false},
		{"(\\x:I.(x y))", "(\\y:I.(y x))", false}, // a bound and a free name exchanged
		{"(\\x:I.(x y))", "(\\z:I.(z y))", true},
		{"(\\x:I.(x y))", "(\\y:I.(y y))", false},
		{"(\\x:I.(\\y:I.x))", "(\\y:I.(\\x:I.y))", true},
		{"(\\x:I.(\\y:I.x))", "(\\x:I.(\\y:I.y))", false},
		{"(\\x:I.(\\y:I.(x y)))", "(\\x:I.(\\y:I.(y x)))", false},
		{"(\\x:I.(\\y:I.(x y)))", "(\\y:I.(\\x:I.(y x)))", true},
		{"(\\x:I.(\\x:I.x))", "(\\x:I.(\\y:I.y))", true},
		{"(\\x:I.(\\x:I.x))", "(\\x:I.(\\y:I.x))", false},
		{"(\\x:I.(\\x:I.x))", "(\\y:I.(\\x:I.y))", false},
		{"(\\x:I.((\\x:I.x) x))", "(\\y:I.((\\z:I.z) y))", true}, // bound again when the inner form ends
		{"(\\x:I.((\\x:I.x) x))", "(\\y:I.((\\z:I.y) y))", false},
		{"((\\x:I.x) x)", "((\\y:I.y) x)", true},
		{"((\\x:I.x) x)", "((\\y:I.y) y)", false},
		{"((\\x:I.x) (\\x:I.x))", "((\\x:I.x) (\\y:I.y))", true},
		{"(let x=1 x)", "(let y=1 y)", true},
		{"(let x=1 x)", "(let y=2 y)", false},
		{"(let x=x x)", "(let y=x y)", true},
		{"(let x=x x)", "(let y=y y)", false},
		{"(let x=y x)", "(let y=y y)", true},
		{"(let x=y y)", "(let y=y y)", false},
		{"(let x=1 (let y=x (x+y)))", "(let a=1 (let b=a (a+b)))", true},
		{"(let x=1 (let y=x (x+y)))", "(let x=1 (let x=x (x+x)))", false},
		{"(rec f x:I>I.(f x))", "(rec f x:I>I.(f x))", true},
		{"(rec f x:I>I.(f x))", "(rec g y:I>I.(g y))", true},
		{"(rec f x:I>I.(f x))", "(rec x f:I>I.(x f))", true}, // both names exchanged, with their variables
		{"(rec f x:I>I.(f x))", "(rec x f:I>I.(f x))", false},
		{"(rec f x:I>I.f)", "(rec f x:I>I.x)", false},
		{"(rec f x:I>I.f)", "(rec x f:I>I.f)", false},
		{"(rec f x:I>I.f)", "(rec x f:I>I.x)", true},
		{"(rec f x:I>I.x)", "(rec f y:I>I.y)", true},
		{"(rec f x:I>I.(f x))", "(rec f x:B>I.(f x))", false},
		{"(rec f x:I>I.(f x))", "(rec f x:I>B.(f x))", false},
		{"(rec f x:I>I.1)", "(\\x:I.1)", false},
		{"(rec f x:I>I.y)", "(rec f y:I>I.y)", false},
		{"(rec f x:I>I.y)", "(rec y x:I>I.y)", false},
		{"<(\\x:I.~<x>)>", "<(\\y:I.~<y>)>", true},
		{"<(\\x:I.~<x>)>", "<(\\y:I.~<x>)>", false},
		{"<~(\\x:I.<x>)>", "<~(\\y:I.<y>)>", true},
		{"<~(\\x:I.<x>)>", "<~(\\y:I.~y)>", false},
		{"(\\x:I.<(x+~x)>)", "(\\y:I.<(y+~y)>)", true},
		{"<(rec f x:I>I.~(f <x>))>", "<(rec a b:I>I.~(a <b>))>", true},
		{"<(rec f x:I>I.~(f <x>))>", "<(rec a b:I>I.~(b <a>))>", false},
		{"(run x)", "(run x)", true},
		{"(run (\\x:I.x))", "(lift (\\x:I.x))", false},
		{"(\\v1:I.(v1 x))", "(\\x:I.(x x))", false},
	}
	for _, c := range cases {
		a, b := parsed(t, c.a), parsed(t, c.b)
		expectAlpha(t, a, b, c.want)
		if (textUpToNames(a) == textUpToNames(b)) != c.want {
			t.Fatalf("the test does not take %s and %s for what the case does", c.a, c.b)
		}
		for k, whole := range inside(a) {
			if impl.AlphaEqual(whole, inside(b)[k]) != (textUpToNames(whole) == textUpToNames(inside(b)[k])) {
				t.Errorf("AlphaEqual(%s, %s)", writtenTerm(whole), writtenTerm(inside(b)[k]))
			}
		}
	}
}

// TestAlphaEqualOfEachField has terms that differ in one field. Only names that are bound may do so.
func TestAlphaEqualOfEachField(t *testing.T) {
	all := slices.Concat(properTerms(), differentTerms(), termsWithOtherFields(), faultyTerms())
	for _, a := range properTerms() {
		for _, b := range all {
			expectAlpha(t, a, b, textUpToNames(a) == textUpToNames(b))
		}
	}
	for _, a := range differentTerms() {
		for _, b := range differentTerms() {
			expectAlpha(t, a, b, textUpToNames(a) == textUpToNames(b))
		}
	}
	for _, e := range all {
		expectAlpha(t, e, copyOfTerm(e), true)
	}
}

func TestAlphaEqualOfWhatIsNoTerm(t *testing.T) {
	i, x, y := intType(), variable("x"), variable("y")
	with := func(e impl.Term, args ...impl.Term) impl.Term {
		e.Args = args
		return e
	}
	for _, kind := range []int{6, 8, 9} {
		for count := range 5 {
			args := slices.Repeat([]impl.Term{number(1)}, count)
			base := impl.Term{Kind: kind, Name: "x", Other: "y", Args: args}
			other, another := base, base
			other.Name, another.Other = "z", "z"
			binds := count == map[int]int{6: 1, 8: 2, 9: 1}[kind]
			expectAlpha(t, base, other, binds) // a form with a wrong number of Args binds nothing
			expectAlpha(t, base, another, binds && kind == 9)
		}
	}
	expectAlpha(t, with(function("x", i, x), x, x), with(function("y", i, x), y, y), false)
	expectAlpha(t, with(letTerm("x", x, x), x), with(letTerm("y", x, x), y), false)
	expectAlpha(t, with(x, number(1)), with(x, number(2), y), true) // the Args of a variable are not looked at
	expectAlpha(t, with(x, number(1)), x, true)
	expectAlpha(t, with(x, number(1)), with(y, number(1)), false)
	expectAlpha(t, function("x", i, with(x, x)), function("y", i, with(y, y, y)), true)
	expectAlpha(t, impl.Term{Kind: impl.TmVar, Name: "x", N: 1}, x, false)
	expectAlpha(t, function("x", i, impl.Term{Kind: impl.TmVar, Name: "x", Other: "a"}), function("x", i, x), false)
	expectAlpha(t, recursive("x", "x", i, i, application(x, y)), recursive("z", "z", i, i, application(variable("z"), y)), true)
	expectAlpha(t, recursive("x", "x", i, i, x), recursive("x", "x", i, i, y), false)
	expectAlpha(t, function("", i, variable("")), function("\xff", i, variable("\xff")), true)
	expectAlpha(t, function("", i, variable("")), function("x", i, variable("")), false)
	expectAlpha(t, variable(""), function("", i, variable("")).Args[0], true)
	for _, kind := range []int{0, 14, -6, 6 + 256} {
		expectAlpha(t, impl.Term{Kind: kind, Name: "x", Args: []impl.Term{x}}, impl.Term{Kind: kind, Name: "y", Args: []impl.Term{y}}, false)
		expectAlpha(t, impl.Term{Kind: kind, Name: "x", Args: []impl.Term{x}}, impl.Term{Kind: kind, Name: "x", Args: []impl.Term{x}}, true)
		expectAlpha(t, termOf(kind, function("x", i, x)), termOf(kind, function("y", i, y)), true)
	}
	for _, e := range []impl.Term{termOf(0), termOf(5), termOf(14), termOf(2)} {
		for count := range 4 {
			expectAlpha(t, with(e, slices.Repeat([]impl.Term{x}, count)...), with(e, x, x), count == 2)
		}
	}
}

func TestScopeNearTheLimitsOfTerms(t *testing.T) {
	var terms []impl.Term
	for _, size := range []int{79, 80, 81, 1000} {
		terms = append(terms, termsOfSize(size)...)
	}
	for _, depth := range []int{19, 20, 21, 100} {
		terms = append(terms, termsOfDepth(depth)...)
	}
	for _, e := range terms {
		expectFree(t, e, freeByParts(e)...)
		expectAlpha(t, e, copyOfTerm(e), true)
		next := 0
		expectAlpha(t, e, renamed(e, &next), true)
		for _, by := range []impl.Term{number(1), variable("y"), application(variable("f"), application(variable("k"), variable("z"))), termOfSize(81)} {
			expectSubstituted(t, e, "x", by, substituted(e, "x", by))
			expectNotFree(t, e, "x", by)
		}
	}
}

func TestScopeOfDeepTerms(t *testing.T) {
	const times = 30000
	here := variable("here")
	for k, context := range contexts() {
		deep, same, other := nested(context, times, here), nested(context, times, here), nested(context, times, variable("a"))
		deepBy := nested(context, times, number(5))
		want := freeByParts(context(here))
		withLittleStack(func() {
			if got := impl.FreeVars(deep); !slices.Equal(got, want) || impl.IsClosed(deep) {
				t.Errorf("context %d: FreeVars of a deep term = %q, want %q", k, got, want)
			}
			if got := impl.IsClosed(deepBy); got != (len(want) == 1) {
				t.Errorf("context %d: IsClosed of a deep term = %v", k, got)
			}
			if !impl.AlphaEqual(deep, same) || impl.AlphaEqual(deep, other) || impl.AlphaEqual(context(deep), deep) || impl.AlphaEqual(deep, context(deep)) {
				t.Errorf("context %d: a deep term is not equal to itself alone", k)
			}
			if !impl.EqualTerm(impl.SubstTerm(deep, "here", number(5)), deepBy) || !impl.EqualTerm(impl.SubstTerm(deep, "none", deep), deep) {
				t.Errorf("context %d: SubstTerm of a deep term", k)
			}
			if !impl.EqualTerm(impl.SubstTerm(application(here, here), "here", deep), application(deep, deep)) {
				t.Errorf("context %d: SubstTerm by a deep term", k)
			}
		})
	}
}

// TestNamesOfDeepTerms has terms in which every form binds a name that is used at the bottom.
func TestNamesOfDeepTerms(t *testing.T) {
	i := intType()
	forms := []struct{ of, renamed func(impl.Term) impl.Term }{
		{func(e impl.Term) impl.Term { return function("x", i, e) }, func(e impl.Term) impl.Term { return function("v1", i, e) }},
		{func(e impl.Term) impl.Term { return letTerm("x", number(1), e) }, func(e impl.Term) impl.Term { return letTerm("v1", number(1), e) }},
		{func(e impl.Term) impl.Term { return recursive("x", "f", i, i, e) }, func(e impl.Term) impl.Term { return recursive("v1", "f", i, i, e) }},
		{func(e impl.Term) impl.Term { return recursive("f", "x", i, i, e) }, func(e impl.Term) impl.Term { return recursive("f", "v1", i, i, e) }},
		{func(e impl.Term) impl.Term { return quoteTerm(function("x", i, spliceTerm(e))) }, func(e impl.Term) impl.Term { return quoteTerm(function("v1", i, spliceTerm(e))) }},
	}
	x, y, v1 := variable("x"), variable("y"), variable("v1")
	for k, form := range forms {
		deep, other := nested(form.of, 50000, application(x, y)), nested(form.renamed, 50000, application(v1, y))
		short, shortAfter := nested(form.of, 1000, application(x, y)), nested(form.renamed, 1000, application(v1, x))
		withLittleStack(func() {
			if got := impl.FreeVars(deep); !slices.Equal(got, []string{"y"}) || impl.IsClosed(deep) {
				t.Errorf("form %d: FreeVars of a deep term = %q", k, got)
			}
			if !impl.AlphaEqual(deep, other) || impl.AlphaEqual(deep, nested(form.of, 50000, application(v1, y))) || impl.AlphaEqual(deep, nested(form.renamed, 50000, application(x, y))) {
				t.Errorf("form %d: a deep term is not equal up to bound names, or to another one", k)
			}
			if !impl.EqualTerm(impl.SubstTerm(deep, "x", y), deep) || !impl.EqualTerm(impl.SubstTerm(deep, "y", number(1)), nested(form.of, 50000, application(x, number(1)))) {
				t.Errorf("form %d: SubstTerm of a deep term", k)
			}
			if !impl.EqualTerm(impl.SubstTerm(short, "y", x), shortAfter) {
				t.Errorf("form %d: SubstTerm with new names of a deep term", k)
			}
		})
	}
}

// TestNewNamesOfDeepTerms has many forms whose names are all used, so that each new name leads to others.
func TestNewNamesOfDeepTerms(t *testing.T) {
	const times = 30
	i, y := intType(), variable("y")
	names := func(before string, from int) []string {
		var list []string
		for k := range times {
			list = append(list, before+strconv.Itoa(from+k))
		}
		return list
	}
	functions := func(names []string, e impl.Term) impl.Term {
		for _, name := range names {
			e = operation("+", variable(name), e)
		}
		for k := range names {
			e = function(names[len(names)-1-k], i, e)
		}
		return e
	}
	first, second, others := names("v", 1), names("v", 2), names("a", 1)
	x, all := variable("x"), y
	for _, name := range others {
		all = application(variable(name), all)
	}
	cases := []struct{ of, by, want impl.Term }{
		{functions(others, y), all, functions(first, all)},
		{functions(append([]string{"x"}, first...), y), x, functions(append([]string{"v1"}, second...), x)},
		{function("x", i, functions(first, y)), x, function("v1", i, functions(first, x))}, // x is used nowhere
	}
	for _, c := range cases {
		expectSubstituted(t, c.of, "y", c.by, c.want)
		if own := substituted(c.of, "y", c.by); textOfTerm(own) != textOfTerm(c.want) {
			t.Fatalf("the test substitutes to %.300s, and wants %.300s", writtenTerm(own), writtenTerm(c.want))
		}
	}
}

func TestScopeOfTermsWithManyArgs(t *testing.T) {
	const many = 100000
	x, y := variable("x"), variable("y")
	for _, kind := range []int{0, 2, 4, 6, 8, 9, 13, 14} {
		e := impl.Term{Kind: kind, Name: "x", Other: "x", Args: slices.Repeat([]impl.Term{x}, many)}
		other := impl.Term{Kind: kind, Name: "x", Other: "x", Args: append(slices.Repeat([]impl.Term{x}, many-1), y)}
		if got := impl.FreeVars(e); !slices.Equal(got, []string{"x"}) || impl.IsClosed(e) {
			t.Errorf("FreeVars of a term of kind %d with many Args = %q", kind, got)
		}
		if !slices.Equal(impl.FreeVars(other), []string{"x", "y"}) || impl.AlphaEqual(e, other) || impl.AlphaEqual(other, e) || !impl.AlphaEqual(other, other) {
			t.Errorf("a term of kind %d with many Args", kind)
		}
		if !impl.EqualTerm(impl.SubstTerm(other, "y", x), e) || !impl.EqualTerm(impl.SubstTerm(e, "y", x), e) {
			t.Errorf("SubstTerm of a term of kind %d with many Args", kind)
		}
	}
	var args []impl.Term
	var names []string
	for k := range many {
		names = append(names, "n"+strconv.Itoa(k))
		args = append(args, variable(names[k]))
	}
	wide := termOf(14, args...)
	if got := impl.FreeVars(wide); !slices.Equal(got, names) {
		t.Errorf("FreeVars of a term with many names has %d names", len(got))
	}
	got := impl.SubstTerm(function("n7", intType(), application(x, variable("n7"))), "x", wide)
	if want := function("v1", intType(), application(wide, variable("v1"))); !impl.EqualTerm(got, want) {
		t.Error("SubstTerm by a term with many names")
	}
	many1 := termOf(14, slices.Repeat([]impl.Term{function("n7", intType(), x)}, 300)...)
	if got := impl.SubstTerm(many1, "x", y); !impl.EqualTerm(got, termOf(14, slices.Repeat([]impl.Term{function("n7", intType(), y)}, 300)...)) {
		t.Error("SubstTerm in many functions")
	}
}

func TestScopeOfTermsWithDeepTypes(t *testing.T) {
	deep, same, other := codesOf(200000, intType()), codesOf(200000, intType()), codesOf(200000, boolType())
	withLittleStack(func() {
		equals, others := termsWithType(same), termsWithType(other)
		for k, e := range termsWithType(deep) {
			if !impl.AlphaEqual(e, equals[k]) || impl.AlphaEqual(e, others[k]) || impl.AlphaEqual(others[k], e) {
				t.Errorf("AlphaEqual of a term of kind %d with a deep type", e.Kind)
			}
			if !impl.EqualTerm(impl.SubstTerm(e, "x", number(1)), e) || !impl.EqualTerm(impl.SubstTerm(variable("x"), "x", e), e) {
				t.Errorf("SubstTerm of a term of kind %d with a deep type", e.Kind)
			}
		}
	})
}

// scopeValues returns terms, and what is none, for the tests of what happens to memory.
func scopeValues() []impl.Term {
	i, pair, x, y := intType(), funType(intType(), codeType(boolType())), variable("x"), variable("y")
	values := []impl.Term{
		recursive("f", "x", pair, codeType(pair), choice(application(x, y), function("x", pair, y), letTerm("x", x, y))),
		function("x", pair, recursive("f", "k", i, pair, application(x, x))),
		{Kind: 14, Name: "x", Other: "y", Type: pair, Res: pair, Args: []impl.Term{x, y, x, y}},
		{Kind: impl.TmVar, Name: "x", Type: pair, Res: pair, Args: []impl.Term{x, y}},
		{Kind: impl.TmVar, Name: "y", Type: pair, Res: pair, Args: []impl.Term{x, y}},
	}
	return slices.Concat(values, properTerms(), differentTerms()[:20], []impl.Term{termOfSize(81)})
}

func TestScopeKeepsTerms(t *testing.T) {
	for _, original := range scopeValues() {
		for _, originalBy := range scopeValues() {
			e, by := termWithCapacity(original), termWithCapacity(originalBy)
			before, beforeBy := termTextWithCapacity(e), termTextWithCapacity(by)
			for _, name := range []string{"x", "y"} {
				expectSubstituted(t, e, name, by, substituted(original, name, originalBy))
			}
			expectFree(t, e, freeByParts(original)...)
			expectAlpha(t, e, by, textUpToNames(original) == textUpToNames(originalBy))
			if termTextWithCapacity(e) != before || termTextWithCapacity(by) != beforeBy {
				t.Errorf("%s and %s became %s and %s", before, beforeBy, termTextWithCapacity(e), termTextWithCapacity(by))
			}
		}
	}
}

func TestSubstitutedTermsShareNoMemory(t *testing.T) {
	for _, original := range scopeValues() {
		for _, originalBy := range scopeValues() {
			for _, name := range []string{"x", "y", "none"} {
				e, by := termWithCapacity(original), termWithCapacity(originalBy)
				before, beforeBy := termTextWithCapacity(e), termTextWithCapacity(by)
				first, second := impl.SubstTerm(e, name, by), impl.SubstTerm(e, name, by)
				want := textOfTerm(second)
				overwriteTerm(&first)
				if termTextWithCapacity(e) != before || termTextWithCapacity(by) != beforeBy || textOfTerm(second) != want {
					t.Errorf("SubstTerm(%s, %q, %s) shares memory", before, name, beforeBy)
				}
			}
		}
	}
	e := application(variable("x"), variable("x"))
	e = impl.SubstTerm(e, "x", e.Args[0])
	e = impl.SubstTerm(e, "x", e)
	overwriteTerm(&e.Args[0].Args[0])
	if got := writtenTerm(e.Args[1]); got != "(x x)" {
		t.Errorf("a part of a result became %s", got)
	}
}

func TestPartsOfSubstitutedTermsShareNothing(t *testing.T) {
	pair := funType(intType(), codeType(boolType()))
	for _, by := range scopeValues() {
		for _, part := range []impl.Term{variable("x"), function("f", pair, variable("x")), function("x", pair, variable("x")), letTerm("z", variable("x"), quoteTerm(variable("x")))} {
			want := textOfTerm(substituted(part, "x", by))
			for side := range 3 {
				whole := impl.SubstTerm(choice(part, part, part), "x", by)
				overwriteTerm(&whole.Args[side])
				for k, other := range whole.Args {
					if k != side && textOfTerm(other) != want {
						t.Errorf("the parts of a result of SubstTerm by %s share memory", textOfTerm(by))
					}
				}
			}
		}
	}
	e := impl.SubstTerm(recursive("f", "k", pair, pair, variable("x")), "x", number(1))
	overwrite(&e.Type)
	if writtenType(e.Res) != "(I><B>)" {
		t.Error("the types of a recursive function share memory")
	}
}

func TestFreeVarsShareNoMemory(t *testing.T) {
	for _, e := range scopeValues() {
		before := textOfTerm(e)
		first, second := impl.FreeVars(e), impl.FreeVars(e)
		want := slices.Clone(second)
		whole := first[:cap(first)]
		for k := range whole {
			whole[k] = "over"
		}
		if !slices.Equal(second, want) || !slices.Equal(impl.FreeVars(e), want) || textOfTerm(e) != before {
			t.Errorf("FreeVars(%s) shares memory", before)
		}
	}
}
