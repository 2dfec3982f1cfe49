package tests

import (
	"math"
	"slices"
	"strconv"
	"strings"
	"testing"

	"loop.example/g00589/impl"
)

// Promise 6: terms are parsed from their representation.

// writtenTerm is the representation of a term, whatever its size and depth.
func writtenTerm(e impl.Term) string {
	var parts []string
	for _, arg := range e.Args {
		parts = append(parts, writtenTerm(arg))
	}
	list := strings.Join(parts, " ")
	switch e.Kind {
	case impl.TmVar:
		return e.Name
	case impl.TmInt:
		return strconv.Itoa(e.N)
	case impl.TmBool:
		return "#" + "ft"[e.N:e.N+1]
	case impl.TmOp:
		if e.Name == "!" {
			return "(!" + list + ")"
		}
		return "(" + strings.Join(parts, e.Name) + ")"
	case impl.TmIf:
		return "(if " + list + ")"
	case impl.TmLam:
		return "(\\" + e.Name + ":" + writtenType(e.Type) + "." + list + ")"
	case impl.TmApp:
		return "(" + list + ")"
	case impl.TmLet:
		return "(let " + e.Name + "=" + list + ")"
	case impl.TmRec:
		return "(rec " + e.Name + " " + e.Other + ":" + writtenType(e.Type) + ">" + writtenType(e.Res) + "." + list + ")"
	case impl.TmQuote:
		return "<" + list + ">"
	case impl.TmSplice:
		return "~" + list
	case impl.TmRun:
		return "(run " + list + ")"
	}
	return "(lift " + list + ")"
}

// reading is what a text represents: a term of this size and depth. The zero reading is that of a text that represents none.
type reading struct{ size, depth int }

// readings finds what texts represent by trying out how they could be put together, and keeps what it has found.
type readings map[string]reading

func (known readings) of(s string) reading {
	found, done := known[s]
	if !done {
		found = known.tryAll(s)
		known[s] = found
	}
	return found
}

func (known readings) tryAll(s string) reading {
	if isWrittenLeaf(s) {
		return reading{1, 1}
	}
	if part, ok := strings.CutPrefix(s, "~"); ok {
		return known.node(part)
	}
	if part, ok := between(s, "<", ">"); ok {
		return known.node(part)
	}
	inner, ok := between(s, "(", ")")
	if !ok {
		return reading{}
	}
	for _, start := range []string{"!", "run ", "lift "} {
		if part, ok := strings.CutPrefix(inner, start); ok {
			return known.node(part)
		}
	}
	if parts, ok := strings.CutPrefix(inner, "if "); ok {
		return known.choice(parts)
	}
	if parts, ok := strings.CutPrefix(inner, "let "); ok {
		name, parts, _ := strings.Cut(parts, "=")
		return when(hasNameForm(name), func() reading { return known.two(parts, " ") })
	}
	if head, body, ok := strings.Cut(inner, "."); ok && isFunctionHead(head) {
		return known.node(body)
	}
	return known.two(inner, "+-*=<&| ")
}

func when(condition bool, get func() reading) reading {
	if !condition {
		return reading{}
	}
	return get()
}

func between(s, first, last string) (string, bool) {
	s, begins := strings.CutPrefix(s, first)
	s, ends := strings.CutSuffix(s, last)
	return s, begins && ends
}

func isWrittenLeaf(s string) bool {
	n, err := strconv.Atoi(s)
	number := err == nil && strconv.Itoa(n) == s && 0 <= n && n < modulus
	return number || s == "#t" || s == "#f" || hasNameForm(s)
}

// isFunctionHead reports whether s stands before "." in a function or a recursive function.
func isFunctionHead(s string) bool {
	names, types, _ := strings.Cut(s, ":")
	if name, ok := strings.CutPrefix(names, "\\"); ok {
		return hasNameForm(name) && isTypeText(types)
	}
	names, ok := strings.CutPrefix(names, "rec ")
	name, other, _ := strings.Cut(names, " ")
	if !ok || !hasNameForm(name) || !hasNameForm(other) || name == other {
		return false
	}
	for k, r := range types {
		if r == '>' && isTypeText(types[:k]) && isTypeText(types[k+1:]) {
			return true
		}
	}
	return false
}

// node is the reading of a node with these parts.
func (known readings) node(parts ...string) reading {
	whole := reading{1, 1}
	for _, part := range parts {
		found := known.of(part)
		if found.size == 0 {
			return reading{}
		}
		whole = reading{whole.size + found.size, max(whole.depth, found.depth+1)}
	}
	return whole
}

// two is the reading of a node with two parts, between which one of signs stands.
func (known readings) two(s, signs string) reading {
	for k := range len(s) {
		if strings.Contains(signs, s[k:k+1]) {
			if found := known.node(s[:k], s[k+1:]); found.size > 0 {
				return found
			}
		}
	}
	return reading{}
}

func (known readings) choice(s string) reading {
	for j := range len(s) {
		for k := j + 1; s[j] == ' ' && k < len(s); k++ {
			if s[k] == ' ' {
				if found := known.node(s[:j], s[j+1:k], s[k+1:]); found.size > 0 {
					return found
				}
			}
		}
	}
	return reading{}
}

// accepts reports whether ParseTerm accepts s.
func (known readings) accepts(s string) bool {
	if strings.Trim(s, "abcdefghijklmnopqrstuvwxyz0123456789#+-*=<>&|!()~\\:. IB") != "" {
		return false
	}
	found := known.of(s)
	return found.size > 0 && found.size <= largestTerm && found.depth <= deepestTerm
}

func expectNoTerm(t *testing.T, s string) {
	t.Helper()
	if e, ok := impl.ParseTerm(s); ok || textOfTerm(e) != textOfTerm(impl.Term{}) {
		t.Errorf("ParseTerm(%.80q) = %.200s, %v, want no term", s, textOfTerm(e), ok)
	}
}

// expectTermParsed checks ParseTerm of one text against what the document says of it.
func (known readings) expectTermParsed(t *testing.T, s string) {
	t.Helper()
	if !known.accepts(s) {
		expectNoTerm(t, s)
		return
	}
	e, ok := impl.ParseTerm(s)
	if !ok || !isTermByForms(e) || writtenTerm(e) != s {
		t.Errorf("ParseTerm(%q) = %s, %v", s, textOfTerm(e), ok)
		return
	}
	if impl.FormatTerm(e) != s || impl.TermText(e) != s {
		t.Errorf("what ParseTerm(%q) returns is formatted to %q and %q", s, impl.FormatTerm(e), impl.TermText(e))
	}
}

// expectTermFormatted checks FormatTerm and TermText of e, whether it is a term or not, and that what they return is parsed to an equal term.
func expectTermFormatted(t *testing.T, e impl.Term) {
	t.Helper()
	text, valid := "", ""
	if isTermByForms(e) {
		text = writtenTerm(e)
		if sizeByParts(e) <= largestTerm && depthByParts(e) <= deepestTerm {
			valid = text
		}
	}
	if got := impl.TermText(e); got != text {
		t.Errorf("TermText(%.200s) = %.200q, want %.200q", textOfTerm(e), got, text)
	}
	if got := impl.FormatTerm(e); got != valid {
		t.Errorf("FormatTerm(%.200s) = %.200q, want %.200q", textOfTerm(e), got, valid)
	}
	if valid == "" {
		expectNoTerm(t, text)
		return
	}
	if back, ok := impl.ParseTerm(text); !ok || !impl.EqualTerm(back, e) || textOfTerm(back) != textOfTerm(e) {
		t.Errorf("ParseTerm(%q) = %s, %v, want %s, true", text, textOfTerm(back), ok, textOfTerm(e))
	}
}

type writtenCase struct {
	text string
	of   impl.Term
}

func expectWritten(t *testing.T, cases []writtenCase) {
	t.Helper()
	known := readings{}
	for _, c := range cases {
		if got := impl.FormatTerm(c.of); got != c.text {
			t.Errorf("FormatTerm(%s) = %q, want %q", textOfTerm(c.of), got, c.text)
		}
		if got := impl.TermText(c.of); got != c.text {
			t.Errorf("TermText(%s) = %q, want %q", textOfTerm(c.of), got, c.text)
		}
		if got, ok := impl.ParseTerm(c.text); !ok || textOfTerm(got) != textOfTerm(c.of) {
			t.Errorf("ParseTerm(%q) = %s, %v, want %s, true", c.text, textOfTerm(got), ok, textOfTerm(c.of))
		}
		if !known.accepts(c.text) {
			t.Errorf("the test takes %q for no term", c.text)
		}
		expectTermFormatted(t, c.of)
		known.expectTermParsed(t, c.text)
	}
}

func TestTermTextOfEachKind(t *testing.T) {
	i, b, x, y, one := intType(), boolType(), variable("x"), variable("y"), number(1)
	expectWritten(t, []writtenCase{
		{"x", x},
		{"abc9", variable("abc9")},
		{"12", number(12)},
		{"#t", boolean(1)},
		{"#f", boolean(0)},
		{"(x+1)", operation("+", x, one)},
		{"(x-1)", operation("-", x, one)},
		{"(x*1)", operation("*", x, one)},
		{"(x=1)", operation("=", x, one)},
		{"(x<1)", operation("<", x, one)},
		{"(x&y)", operation("&", x, y)},
		{"(x|y)", operation("|", x, y)},
		{"(!x)", operation("!", x)},
		{"(!(!#f))", operation("!", operation("!", boolean(0)))},
		{"((!x)&(!y))", operation("&", operation("!", x), operation("!", y))},
		{"(!(x|y))", operation("!", operation("|", x, y))},
		{"((1-x)-(y-1))", operation("-", operation("-", one, x), operation("-", y, one))},
		{"(if #t 1 2)", choice(boolean(1), one, number(2))},
		{"(if (x=y) (if x y 1) (if 1 y x))", choice(operation("=", x, y), choice(x, y, one), choice(one, y, x))},
		{"(\\x:I.x)", function("x", i, x)},
		{"(\\x:B.(\\y:I.(x y)))", function("x", b, function("y", i, application(x, y)))},
		{"((\\x:I.x) 5)", application(function("x", i, x), number(5))},
		{"(x (\\x:I.x))", application(x, function("x", i, x))},
		{"(let x=1 (x+x))", letTerm("x", one, operation("+", x, x))},
		{"(let x=(let y=1 y) (let y=x y))", letTerm("x", letTerm("y", one, y), letTerm("y", x, y))},
		{"(let x=(x=1) (1=x))", letTerm("x", operation("=", x, one), operation("=", one, x))},
		{"(rec f x:I>I.(f x))", recursive("f", "x", i, i, application(variable("f"), x))},
		{"(rec f x:I>B.(rec x f:B>I.1))", recursive("f", "x", i, b, recursive("x", "f", b, i, one))},
		{"<1>", quoteTerm(one)},
		{"~x", spliceTerm(x)},
		{"(run <1>)", runTerm(quoteTerm(one))},
		{"(run (run x))", runTerm(runTerm(x))},
		{"(lift 2)", liftTerm(number(2))},
		{"(lift (lift x))", liftTerm(liftTerm(x))},
	})
	for _, e := range properTerms() {
		for _, whole := range inside(e) {
			expectTermFormatted(t, whole)
		}
	}
}

func TestTermTextOfCodeAndComparisons(t *testing.T) {
	x, y, z, one, two := variable("x"), variable("y"), variable("z"), number(1), number(2)
	less := func(a, b impl.Term) impl.Term { return operation("<", a, b) }
	expectWritten(t, []writtenCase{
		{"(<1> <2>)", application(quoteTerm(one), quoteTerm(two))},
		{"(<1><<2>)", less(quoteTerm(one), quoteTerm(two))},
		{"(<x><y)", less(quoteTerm(x), y)},
		{"(x<<y>)", less(x, quoteTerm(y))},
		{"(x<<<y>>)", less(x, quoteTerm(quoteTerm(y)))},
		{"(<<x>><<<y>>)", less(quoteTerm(quoteTerm(x)), quoteTerm(quoteTerm(y)))},
		{"((x<y)<z)", less(less(x, y), z)},
		{"(x<(y<z))", less(x, less(y, z))},
		{"<(x<y)>", quoteTerm(less(x, y))},
		{"(<(x<y)><<(y<z)>)", less(quoteTerm(less(x, y)), quoteTerm(less(y, z)))},
		{"<<1>>", quoteTerm(quoteTerm(one))},
		{"<(<x><<y>)>", quoteTerm(less(quoteTerm(x), quoteTerm(y)))},
		{"<(<x> <y>)>", quoteTerm(application(quoteTerm(x), quoteTerm(y)))},
		{"(<x> (<y> <z>))", application(quoteTerm(x), application(quoteTerm(y), quoteTerm(z)))},
		{"(<x>=<y>)", operation("=", quoteTerm(x), quoteTerm(y))},
		{"(if (<x><y) <x> (y<<x>))", choice(less(quoteTerm(x), y), quoteTerm(x), less(y, quoteTerm(x)))},
		{"(let x=<y> (<x><<y>))", letTerm("x", quoteTerm(y), less(quoteTerm(x), quoteTerm(y)))},
		{"(\\x:<I>.<(x<y)>)", function("x", codeType(intType()), quoteTerm(less(x, y)))},
		{"(rec f x:I><I>.<1>)", recursive("f", "x", intType(), codeType(intType()), quoteTerm(one))},
	})
}

func TestTermTextOfSplices(t *testing.T) {
	x, y, one := variable("x"), variable("y"), number(1)
	expectWritten(t, []writtenCase{
		{"~~x", spliceTerm(spliceTerm(x))},
		{"~~~1", nested(spliceTerm, 3, one)},
		{"~<x>", spliceTerm(quoteTerm(x))},
		{"<~x>", quoteTerm(spliceTerm(x))},
		{"<~<~x>>", quoteTerm(spliceTerm(quoteTerm(spliceTerm(x))))},
		{"~~<<x>>", spliceTerm(spliceTerm(quoteTerm(quoteTerm(x))))},
		{"~(x y)", spliceTerm(application(x, y))},
		{"(~x y)", application(spliceTerm(x), y)},
		{"(x ~y)", application(x, spliceTerm(y))},
		{"(~x<~y)", operation("<", spliceTerm(x), spliceTerm(y))},
		{"(~<x><~<y>)", operation("<", spliceTerm(quoteTerm(x)), spliceTerm(quoteTerm(y)))},
		{"~(x<y)", spliceTerm(operation("<", x, y))},
		{"(!~x)", operation("!", spliceTerm(x))},
		{"~(!x)", spliceTerm(operation("!", x))},
		{"<(~x+~(lift 1))>", quoteTerm(operation("+", spliceTerm(x), spliceTerm(liftTerm(one))))},
		{"(if ~x ~y ~1)", choice(spliceTerm(x), spliceTerm(y), spliceTerm(one))},
		{"(let x=~y ~x)", letTerm("x", spliceTerm(y), spliceTerm(x))},
		{"(\\x:I.~x)", function("x", intType(), spliceTerm(x))},
		{"(run ~x)", runTerm(spliceTerm(x))},
		{"~#t", spliceTerm(boolean(1))},
	})
}

func TestTermTextOfApplications(t *testing.T) {
	x, y, two := variable("x"), variable("y"), number(2)
	expectWritten(t, []writtenCase{
		{"(x y)", application(x, y)},
		{"(1 2)", application(number(1), two)},
		{"(#t #f)", application(boolean(1), boolean(0))},
		{"((if x y 2) 2)", application(choice(x, y, two), two)},
		{"(<x> 2)", application(quoteTerm(x), two)},
		{"(~x 2)", application(spliceTerm(x), two)},
		{"(~~x ~2)", application(spliceTerm(spliceTerm(x)), spliceTerm(two))},
		{"((x+y) (x y))", application(operation("+", x, y), application(x, y))},
		{"(((x y) 2) x)", application(application(application(x, y), two), x)},
		{"(x (y (2 x)))", application(x, application(y, application(two, x)))},
		{"((!x) 2)", application(operation("!", x), two)},
		{"((let x=1 x) 2)", application(letTerm("x", number(1), x), two)},
		{"((rec f x:I>I.x) 2)", application(recursive("f", "x", intType(), intType(), x), two)},
		{"((run x) (lift y))", application(runTerm(x), liftTerm(y))},
		{"((x y)+(x y))", operation("+", application(x, y), application(x, y))},
	})
}

func TestTermTextOfNamesLikeWords(t *testing.T) {
	x, i := variable("x"), intType()
	var cases []writtenCase
	for _, s := range []string{"i", "f", "iff", "if1", "ifs", "l", "le", "lets", "let1", "lef", "re", "recs", "rec0", "run1", "runs", "ru", "lif", "lit", "lifs", "t", "v1", "tif"} {
		e := variable(s)
		cases = append(cases, writtenCase{s, e},
			writtenCase{"(" + s + " x)", application(e, x)},
			writtenCase{"(x " + s + ")", application(x, e)},
			writtenCase{"(" + s + "<x)", operation("<", e, x)},
			writtenCase{"(" + s + "=x)", operation("=", e, x)},
			writtenCase{"(if " + s + " " + s + " " + s + ")", choice(e, e, e)},
			writtenCase{"(let " + s + "=" + s + " " + s + ")", letTerm(s, e, e)},
			writtenCase{"(\\" + s + ":I." + s + ")", function(s, i, e)},
			writtenCase{"(rec " + s + " x:I>I." + s + ")", recursive(s, "x", i, i, e)},
			writtenCase{"(rec x " + s + ":I>I." + s + ")", recursive("x", s, i, i, e)},
			writtenCase{"(run " + s + ")", runTerm(e)},
			writtenCase{"(lift " + s + ")", liftTerm(e)})
	}
	expectWritten(t, cases)
	for _, s := range []string{"if", "let", "rec", "run", "lift"} {
		for _, text := range []string{s, "~" + s, "<" + s + ">", "(" + s + ")", "(" + s + " x)x", "(x " + s + ")", "(" + s + "<x)", "(" + s + "=x)", "(x+" + s + ")", "(!" + s + ")", "(if x x " + s + ")", "(let " + s + "=1 x)", "(let x=" + s + " x)", "(\\" + s + ":I.x)", "(rec " + s + " x:I>I.x)", "(rec x " + s + ":I>I.x)", "(run " + s + ")", "(lift " + s + ")", "(" + s + " " + s + ")"} {
			expectNoTerm(t, text)
		}
	}
	for _, text := range []string{"(if x)", "(if x y)", "(let x)", "(let x y)", "(rec x)", "(rec x y)", "(lift x y)", "(run x y)", "(if x 1 2 3)", "(let x=1)", "(let x=1 2 3)", "(run)", "(lift)", "(if)", "(let)", "(rec)", "(ifx 1 2)", "(letx=1 2)", "(if(x) 1 2)", "(run<x>y)", "(run~x)", "(lift<x>)", "(if#t 1 2)", "(rec<f> x)"} {
		expectNoTerm(t, text)
	}
}

func TestTermTextOfOtherNames(t *testing.T) {
	for _, s := range otherNames() {
		if s == "1" || s == "#t" || s == "~x" { // terms, but not variables
			continue
		}
		for _, text := range []string{s, "(" + s + "+1)", "(!" + s + ")", "<" + s + ">", "~" + s, "(let y=" + s + " 1)", "(y " + s + ")", "(run " + s + ")"} {
			expectNoTerm(t, text)
		}
	}
	for _, s := range otherNames() {
		for _, text := range []string{"(\\" + s + ":I.1)", "(let " + s + "=1 1)", "(rec " + s + " y:I>I.1)", "(rec y " + s + ":I>I.1)"} {
			expectNoTerm(t, text)
		}
	}
	for _, s := range []string{"f", "x", "abcd"} {
		expectNoTerm(t, "(rec "+s+" "+s+":I>I.1)")
	}
}

func TestTermTextOfTypesOfParameters(t *testing.T) {
	i, b, one := intType(), boolType(), number(1)
	pair, code := funType(i, b), codeType(i)
	expectWritten(t, []writtenCase{
		{"(\\x:(I>B).1)", function("x", pair, one)},
		{"(\\x:<I>.1)", function("x", code, one)},
		{"(\\x:<<I>>.1)", function("x", codeType(code), one)},
		{"(\\x:<(I>B)>.1)", function("x", codeType(pair), one)},
		{"(\\x:(<I>>(I>B)).1)", function("x", funType(code, pair), one)},
		{"(\\x:((I>B)><I>).<1>)", function("x", funType(pair, code), quoteTerm(one))},
		{"(rec f x:(I>B)>I.1)", recursive("f", "x", pair, i, one)},
		{"(rec f x:I>(I>B).1)", recursive("f", "x", i, pair, one)},
		{"(rec f x:(I>B)>(I>B).1)", recursive("f", "x", pair, pair, one)},
		{"(rec f x:<I>>B.1)", recursive("f", "x", code, b, one)},
		{"(rec f x:B><I>.1)", recursive("f", "x", b, code, one)},
		{"(rec f x:<I>><I>.<1>)", recursive("f", "x", code, code, quoteTerm(one))},
		{"(rec f x:<<I>>><(I>B)>.1)", recursive("f", "x", codeType(code), codeType(pair), one)},
		{"(rec f x:(<I>><I>)>(<I>><I>).1)", recursive("f", "x", funType(code, code), funType(code, code), one)},
	})
	typesOfFunctions(func(of impl.Type, valid bool) {
		for _, e := range []impl.Term{function("y", of, one), recursive("p", "n", of, code, one), recursive("p", "n", pair, of, one), recursive("p", "n", of, of, one)} {
			expectTermFormatted(t, e)
			expectTermFormatted(t, application(variable("x"), quoteTerm(e)))
		}
	})
	known := readings{}
	for _, s := range []string{
		"", "i", "b", "Q", "C", "T", "(I)", "(I>I", "I)", "<I", "I>", "<>", "(>I)", "(I>)", "(I>I>I)", "((I>I)>I", "<<I>", "<I>>", "II", " I", "I ", "(I >I)", "1", "x", "<x>", "(I>x)", "I.I", "I:I", ".", "?", "\xc9",
		writtenType(codesOf(8, i)), writtenType(leaning("rlrlrlrl", i)), writtenType(fullType(5)), writtenType(fullType(8)),
	} {
		if isTypeText(s) {
			t.Fatalf("%q is the representation of a type", s)
		}
		for _, text := range []string{"(\\x:" + s + ".1)", "(rec f x:" + s + ">I.1)", "(rec f x:I>" + s + ".1)", "(rec f x:" + s + ".1)", "<(\\x:" + s + ".x)>", "(rec f x:" + s + ">" + s + ".1)"} {
			known.expectTermParsed(t, text)
		}
	}
}

func TestTermTextOfTypesByTheirSigns(t *testing.T) {
	known := readings{}
	wordsOver("IB<>()", 6, func(s string) {
		known.expectTermParsed(t, "(\\x:"+s+".1)")
		known.expectTermParsed(t, "(rec f x:"+s+".1)")
	})
	wordsOver("I<>", 9, func(s string) {
		known.expectTermParsed(t, "(rec f x:"+s+".<1>)")
	})
}

func TestTermTextOfNumbers(t *testing.T) {
	for n := -20; n < 10030; n++ {
		s := strconv.Itoa(n)
		want := 0 <= n && n < modulus
		if e, ok := impl.ParseTerm(s); ok != want || ok && textOfTerm(e) != textOfTerm(number(n)) {
			t.Errorf("ParseTerm(%q) = %s, %v", s, textOfTerm(e), ok)
		}
		expectTermFormatted(t, number(n))
	}
	for _, n := range []int{math.MaxInt64, math.MinInt64, 1 << 32, 1<<32 + 1, 20014, 999999, 1000000} {
		expectTermFormatted(t, number(n))
		expectNoTerm(t, strconv.Itoa(n))
	}
	texts := []string{
		"00", "01", "007", "010006", "000", "-0", "-1", "+0", "+1", "--1", "1-", "10007", "10008", "99999", "999999", "1000000", "20014", "9223372036854775807", "9223372036854775808", "18446744073709551616", "18446744073709551617",
		"100000000000000000000000000000000000000001", strings.Repeat("0", 100), strings.Repeat("9", 100), "0x1", "1e3", "1.0", "1_000", "0b1", "1a", "1x", "#", "#0", "#1", "#T", "#F", "#tt", "#true", "# t", "t#", "##t", "#x",
		"\u0661", "\uff11", "1\u0661", "\u00b2",
	}
	for _, s := range texts {
		for _, text := range []string{s, "(x+" + s + ")", "(" + s + "+x)", "(lift " + s + ")", "<" + s + ">", "~" + s, "(if " + s + " 1 1)", "(" + s + " x)", "(let x=" + s + " 1)", "(\\x:I." + s + ")"} {
			expectNoTerm(t, text)
		}
	}
	expectWritten(t, []writtenCase{
		{"0", number(0)},
		{"10006", number(10006)},
		{"(0-10006)", operation("-", number(0), number(10006))},
		{"(10006<10006)", operation("<", number(10006), number(10006))},
		{"(lift 0)", liftTerm(number(0))},
	})
}

// termsOfFewNodes returns every term of up to so many nodes, made of a few leaves and names.
func termsOfFewNodes(nodes int) []impl.Term {
	bySize := make([][]impl.Term, nodes+1)
	bySize[1] = []impl.Term{variable("x"), variable("iff"), number(0), boolean(1)}
	i, code := intType(), codeType(intType())
	for n := 2; n <= nodes; n++ {
		for _, e := range bySize[n-1] {
			bySize[n] = append(bySize[n], operation("!", e), function("x", code, e), recursive("f", "x", code, i, e), quoteTerm(e), spliceTerm(e), runTerm(e), liftTerm(e))
		}
		for left := 1; left < n-1; left++ {
			for _, a := range bySize[left] {
				for _, b := range bySize[n-1-left] {
					bySize[n] = append(bySize[n], application(a, b), letTerm("x", a, b), operation("<", a, b), operation("=", a, b), operation("-", a, b))
				}
			}
		}
		for first := 1; first < n-2; first++ {
			for second := 1; second < n-1-first; second++ {
				for _, a := range bySize[first] {
					for _, b := range bySize[second] {
						for _, c := range bySize[n-1-first-second] {
							bySize[n] = append(bySize[n], choice(a, b, c))
						}
					}
				}
			}
		}
	}
	return slices.Concat(bySize...)
}

func TestTermTextOfEveryTermOfFewNodes(t *testing.T) {
	known, of := readings{}, map[string]impl.Term{}
	for _, e := range termsOfFewNodes(4) {
		expectTermFormatted(t, e)
		s := impl.FormatTerm(e)
		known.expectTermParsed(t, s)
		if other, taken := of[s]; taken {
			t.Errorf("FormatTerm of %s and of %s is %q", textOfTerm(e), textOfTerm(other), s)
		}
		of[s] = e
	}
	if len(of) < 2000 {
		t.Errorf("%d terms are too few", len(of))
	}
}

func TestTermTextOfOperations(t *testing.T) {
	x, y := variable("x"), variable("y")
	for _, op := range operations() {
		s := "(x" + op + "y)"
		if op == "!" {
			expectNoTerm(t, s)
			expectNoTerm(t, "(!x y)")
			expectNoTerm(t, "(!)")
			expectNoTerm(t, "!x")
			continue
		}
		expectWritten(t, []writtenCase{
			{s, operation(op, x, y)},
			{"(" + s + op + s + ")", operation(op, operation(op, x, y), operation(op, x, y))},
			{"(~x" + op + "<y>)", operation(op, spliceTerm(x), quoteTerm(y))},
		})
		for _, text := range []string{"(x" + op + ")", "(" + op + "y)", "(" + op + ")", "(" + op + "x y)", "x" + op + "y", "(x" + op + op + "y)", "(x" + op + "y" + op + "x)", "(x " + op + " y)", "(x" + op + " y)", "(x " + op + "y)"} {
			expectNoTerm(t, text)
		}
	}
	for b := range 256 {
		sign := string([]byte{byte(b)})
		text := "(x" + sign + "(y))"
		expectNoTerm(t, text)
		e, ok := impl.ParseTerm("(<x>" + sign + "<y>)")
		if ok != strings.Contains("+-*=<&| ", sign) {
			t.Errorf("ParseTerm of two parts with %q between = %s, %v", sign, textOfTerm(e), ok)
		}
	}
	for _, op := range otherOperations() {
		for _, count := range []int{0, 1, 2, 3} {
			e := operation(op, slices.Repeat([]impl.Term{x}, count)...)
			if impl.FormatTerm(e) != "" || impl.TermText(e) != "" {
				t.Errorf("%s is formatted", textOfTerm(e))
			}
		}
	}
	for _, op := range []string{"/", "%", ">", "==", "<=", "!=", "&&", "||", "++", "^", ",", ".", ":", "\\", "?", "_", "@", "\x00", "\xff", "\u2212", "  "} {
		expectNoTerm(t, "(x"+op+"y)")
		expectNoTerm(t, "<((x"+op+"y)<z)>")
	}
}

func TestParseTermRejects(t *testing.T) {
	known := readings{}
	for _, s := range []string{
		"", "(", ")", "<", ">", "~", "~~", "()", "<>", "(<", "<(", ")(", "><", "!", "\\", "#", ".", ":", "=", "+", " ",
		"(x+1", "x+1)", "((x+1)", "(x+1))", "((x+1)))", "<x", "x>", "<<x>", "<x>>", "(<x>", "<x>)", "<(x+1>", "(<x+1>", "(x+<1)", "<x)", "(x+1>", "[x+1]", "{x+1}", "[x]", // brackets
		"(if #t 1 2", "if #t 1 2)", "if #t 1 2", "(\\x:I.x", "\\x:I.x)", "\\x:I.x", "(let x=1 x", "let x=1 x)", "(rec f x:I>I.x", "(run <x>", "(lift x", "(!x", "!x)", "~(x", "(x y", "x y)",
		"(x)", "((x))", "((x+1))", "(<x>)", "(~x)", "(1)", "(#t)", "~()", "~<>", "(!<>)",
		"x y", "1 2", "x+1", "x<y", "f(x)", "(f)(x)", "(f x y)", "(1 2 3)", "(x y)(x y)", "(x+1)x", "x(x+1)", "(x+1)(x+1)", "<x><y>", "<x>y", "x<y>", "xy<", "~x~y", "~x y", "x~", "(x y)~", "#t#f", "#tx", "1#t", "(x+1)1", "<x y>", "<x<y>", // something behind
		"(if #t  1 2)", "(if #t 1  2)", "(if  #t 1 2)", "(if #t 1 2 )", "( if #t 1 2)", "(if #t1 2)", "(if #t 12)", "(if (x)1 2)", "(if<x>1 2)", "(if <x>1 2)", "(if <x> <1><2>)", // blanks
		"(\\ x:I.x)", "(\\x :I.x)", "(\\x: I.x)", "(\\x:I .x)", "(\\x:I. x)", "(\\x:I.x )", "( \\x:I.x)", "(x  y)", "( x y)", "(x y )", " x", "x ", " (x y)", "(x y) ", "\tx", "x\n", "(x\ty)", "(x\ny)",
		"(let  x=1 x)", "(let x =1 x)", "(let x= 1 x)", "(let x=1  x)", "(let x=1 x )", "(let x=1x)", "(let x=<1><x>)", "(let x=(1)x)", "(letx=1 x)", "(let x:1 x)", "(let x 1 x)", "(let x==1 x)", "(let =1 x)", "(let 1=x x)",
		"(rec  f x:I>I.x)", "(rec f  x:I>I.x)", "(rec f x :I>I.x)", "(rec f x: I>I.x)", "(rec f x:I >I.x)", "(rec f x:I> I.x)", "(rec f x:I>I .x)", "(rec f x:I>I. x)", "(rec f x:I>I.x )", "(rec fx:I>I.x)", "(rec f x:I.x)", "(rec f x:(I>I).x)", "(rec f:I>I.x)", "(rec f x y:I>I.x)", "(rec f x>I:I.x)", "(rec f x:I>I>I.x)", "(rec f f:I>I.x)", "(rec f x:I>Ix)", "(rec f x:I>I.)",
		"(run  x)", "(run x )", "(runx )", "( run x)", "(run<x>)", "(lift  x)", "(lift x )", "(lift(x))", "(lift1)", "(lift1 )", "< x>", "<x >", "~ x", "(! x)", "(!x )", "( !x)", "(x +1)", "(x+ 1)", "(x+1 )", "( x+1)",
		"(\\x.x)", "(\\x:.x)", "(\\:I.x)", "(\\x:I)", "(\\x:I.)", "(\\x:Ix)", "(\\xI.x)", "(\\x:I:x)", "(\\x=I.x)", "(\\1:I.x)", "(\\x:I.x.x)", "(\\x y:I.x)", "(/x:I.x)", "(\\\\x:I.x)", "(\u03bbx:I.x)", "(\\x:Q.x)",
		"X", "xY", "(X+1)", "(If #t 1 2)", "(IF #t 1 2)", "(Let x=1 x)", "(LET x=1 x)", "(Rec f x:I>I.x)", "(Run <x>)", "(Lift x)", "#T", "#F", "(\\X:I.x)", "(\\x:i.x)", "(\\x:b.x)", "I", "B", "<I>", "(I>I)",
		"\x00", "x\x00", "\x00x", "\xff", "x\xff", "\xe4", "\u00e4", "x\u00e9", "\u0430", "\uff58", "(x\u2212y)", "(x\u00a0y)", "\ufeffx", "<x\u203a", "\u2039x\u203a", "(x+\xb1)", "(x\xabx)", "~\xff", "(let \u00e4=1 x)", "?", "(?)", "x?", "_", "x_y", "$x", "'x'", "\"x\"", "x,y", "(x,y)", "(x;y)", "abcde", "(abcde+1)", "(\\abcde:I.x)", "lifts",
	} {
		if known.accepts(s) {
			t.Fatalf("%q is the representation of a term", s)
		}
		expectNoTerm(t, s)
		for _, text := range []string{"<" + s + ">", "~" + s, "(run " + s + ")", "(x<" + s + ")", "(" + s + " x)", "(\\x:I." + s + ")"} {
			known.expectTermParsed(t, text)
		}
	}
}

func TestParseTermOfEveryShortText(t *testing.T) {
	known := readings{}
	see := func(s string) { known.expectTermParsed(t, s) }
	wordsOver("x<>()~ ", 6, see)
	wordsOver("x10<>()~+ ", 5, see)
	wordsOver("x#tf(!)<\xff", 5, see)
	wordsOver("ifletrcun (", 4, see)
}

// tokensOver calls see with the texts of up to so many of the tokens, one after the other.
func tokensOver(tokens []string, length int, see func(string)) {
	const letters = "ABCDEFGHIJKLMNOP"
	wordsOver(letters[:len(tokens)], length, func(word string) {
		text := ""
		for _, r := range word {
			text += tokens[r-'A']
		}
		see(text)
	})
}

func TestParseTermOfEveryShortTextOfTokens(t *testing.T) {
	for _, tokens := range []string{
		"(if |if |x|1| |)",
		"(if x|iff| |<x>|)",
		"(run |(lift |(!|x|~|)",
		"(let |x|=|1| |)",
		"(let x=|<1>|1|<| |)",
		"(\\|x|:|I|.x|)",
		"(\\x:|(I|>|<I|.1|)",
		"(rec |f|x| |:I>I.1|)",
		"(rec f x:I|>|<|I|.1|)",
		"(|\\x:<I>.|<|(x<y)|>|)",
	} {
		known := readings{}
		tokensOver(strings.Split(tokens, "|"), 6, func(s string) { known.expectTermParsed(t, s) })
	}
}

func TestParseTermOfChangedTexts(t *testing.T) {
	texts := []string{
		"<(\\x:I.~((rec p n:I><I>.(if (n=0) <1> <(x*~(p (n-1)))>)) 3))>",
		"(let c=<(1+2)> <(~c*~c)>)",
		"((run <(\\x:<(I>B)>.(x+~(lift (2*3))))>) 10006)",
		"(if (<x><<(y<z)>) (!#t) (iff ~~<<lets>>))",
	}
	const signs = "abfilrtunexz0179#+-*=<>&|!()~\\:. IB/A\t\x00\x7f\x80\xc3\xff"
	for _, s := range texts {
		known := readings{}
		if known.expectTermParsed(t, s); !known.accepts(s) {
			t.Fatalf("%q is not the representation of a term", s)
		}
		for k := range len(s) + 1 {
			before, after := s[:k], s[k:]
			changed := []string{before, after, after + before}
			if after != "" {
				changed = append(changed, before+after[1:], before+after[:1]+after, before+strings.ToUpper(after[:1])+after[1:])
			}
			if len(after) > 1 {
				changed = append(changed, before+after[2:], before+after[1:2]+after[:1]+after[2:])
			}
			for i := range len(signs) {
				changed = append(changed, before+signs[i:i+1]+after)
				if after != "" {
					changed = append(changed, before+signs[i:i+1]+after[1:])
				}
			}
			for _, text := range changed {
				known.expectTermParsed(t, text)
			}
		}
		for _, other := range texts {
			expectNoTerm(t, s+other)
			expectNoTerm(t, s+" "+other)
		}
	}
}

// expectTermLimit checks a term of which only the size or the depth may be too great.
func expectTermLimit(t *testing.T, e impl.Term, valid bool) {
	t.Helper()
	s, want := writtenTerm(e), ""
	if valid {
		want = s
	}
	if got := impl.FormatTerm(e); got != want {
		t.Errorf("FormatTerm of a term of %d nodes and depth %d = %q", sizeByParts(e), depthByParts(e), got)
	}
	if got := impl.TermText(e); got != s {
		t.Errorf("TermText of a term of %d nodes and depth %d = %q, want %q", sizeByParts(e), depthByParts(e), got, s)
	}
	if got, ok := impl.ParseTerm(s); ok != valid || ok && textOfTerm(got) != textOfTerm(e) || !ok && textOfTerm(got) != textOfTerm(impl.Term{}) {
		t.Errorf("ParseTerm(%q) = %s, %v", s, textOfTerm(got), ok)
	}
	expectTermFormatted(t, e)
}

func TestTermTextLimitOfSize(t *testing.T) {
	for _, size := range []int{79, 80, 81, 82, 160, 1000} {
		for _, e := range termsOfSize(size) {
			if sizeByParts(e) != size || depthByParts(e) > deepestTerm {
				t.Fatalf("a term has %d nodes and a depth of %d, want %d nodes", sizeByParts(e), depthByParts(e), size)
			}
			expectTermLimit(t, e, size <= 80)
		}
	}
}

func TestTermTextLimitOfDepth(t *testing.T) {
	for _, depth := range []int{19, 20, 21, 22, 100} {
		for _, e := range termsOfDepth(depth) {
			if depthByParts(e) != depth || depth <= 22 && sizeByParts(e) > largestTerm {
				t.Fatalf("a term has %d nodes and a depth of %d, want a depth of %d", sizeByParts(e), depthByParts(e), depth)
			}
			expectTermLimit(t, e, depth <= 20)
		}
	}
}

func TestTermTextLimitOfBoth(t *testing.T) {
	of := funType(codesOf(6, intType()), funType(fullType(4), codesOf(5, boolType()))) // as large and as deep as allowed
	for _, limits := range [][2]int{{80, 20}, {79, 20}, {80, 19}, {81, 20}, {80, 21}, {81, 21}} {
		size, depth := limits[0], limits[1]
		chain := nested(func(e impl.Term) impl.Term { return recursive("p", "n", of, of, e) }, depth-2, number(1))
		e := operation("<", chain, termOfSize(size-depth))
		if sizeByParts(e) != size || depthByParts(e) != depth {
			t.Fatalf("a term has %d nodes and a depth of %d, want %d and %d", sizeByParts(e), depthByParts(e), size, depth)
		}
		expectTermLimit(t, e, size <= 80 && depth <= 20)
	}
}

// faultyTerms returns values that are no terms, each for one field of its topmost node.
func faultyTerms() []impl.Term {
	i, x := intType(), variable("x")
	faults := slices.Concat(termsWithOtherFields(), termsOfOtherKinds(), []impl.Term{{}, recursive("x", "x", i, i, x), recursive("p", "n", impl.Type{}, impl.Type{}, x)})
	for _, e := range append(properTerms(), operation("!", x)) {
		for count := range 6 {
			if count != len(e.Args) {
				fault := e
				fault.Args = slices.Repeat([]impl.Term{x}, count)
				faults = append(faults, fault)
			}
		}
	}
	for _, s := range otherNames() {
		faults = append(faults, variable(s), function(s, i, x), letTerm(s, x, x), recursive(s, "q9", i, i, x), recursive("q9", s, i, i, x))
	}
	for _, op := range otherOperations() {
		faults = append(faults, operation(op, x, x), operation(op, x), operation(op))
	}
	for _, n := range []int{-1, 10007, 10008, 20014, math.MaxInt64, math.MinInt64, 1 << 32} {
		faults = append(faults, number(n), boolean(n), boolean(n-1))
	}
	for _, of := range []impl.Type{{}, typeOf(5), typeOf(-1), typeOf(impl.TyInt, i), typeOf(impl.TyFun), typeOf(impl.TyFun, i), typeOf(impl.TyCode), typeOf(impl.TyCode, i, i), codesOf(8, i), fullType(5), leaning("rlcrl", impl.Type{})} {
		faults = append(faults, function("y", of, x), recursive("p", "n", of, i, x), recursive("p", "n", i, of, x), recursive("p", "n", of, of, x))
	}
	return faults
}

func TestTermTextOfWhatIsNoTerm(t *testing.T) {
	for _, fault := range faultyTerms() {
		if isTermByForms(fault) {
			t.Fatalf("%s is a term", textOfTerm(fault))
		}
		for _, e := range inside(fault) {
			if format, text := impl.FormatTerm(e), impl.TermText(e); format != "" || text != "" {
				t.Errorf("%.200s is formatted to %q and %q", textOfTerm(e), format, text)
			}
		}
		large, deep := operation("+", termOfSize(100), fault), nested(liftTerm, 100, fault)
		if impl.TermText(large) != "" || impl.TermText(deep) != "" || impl.FormatTerm(large) != "" || impl.FormatTerm(deep) != "" {
			t.Errorf("%.200s is formatted inside of a large or a deep term", textOfTerm(fault))
		}
	}
}

func TestParseTermOfVeryLongTexts(t *testing.T) {
	const many = 300000
	var texts []string
	for _, s := range []string{
		"(", "<", "~", "(!", ")", ">", " ", "x", "0", "1", "9", "+", "((", "(<", "<(", "~<", "~(", "(~", "<~", "()", "<>", "(x", "(x ", "(x+", "(x<", "(<x><", "(1-", "(if ", "(if x ", "(if x y ", "(let ", "(let x=", "(let x=1 ", "(lift ", "(run ",
		"(\\", "(\\x", "(\\x:", "(\\x:I", "(\\x:I.", "(\\x:(I>I).", "(rec ", "(rec f ", "(rec f x:", "(rec f x:I>I.", "(rec f x:I><I>.", "#", "#t", "x ", "x+", "(x+1)", "(f x)", "<x>", "if ", "let", "\\", ".", ":", "I", "(I>", "\x00", "\xff", "\u00e4",
	} {
		long := strings.Repeat(s, many)
		texts = append(texts, long, long+"x", "x"+long, "("+long, "(x+"+long, "(x "+long+")", "<"+long+">", "(\\x:"+long, "(\\x:"+long+".x)", "(rec f x:I>"+long+".x)", "(let "+long+"=1 x)", "(let x="+long+" x)", "("+long+" x)", "(lift "+long+")")
	}
	for _, signs := range [][2]string{{"<", ">"}, {"~", ""}, {"(!", ")"}, {"(lift ", ")"}, {"(x+", ")"}, {"(", "+x)"}, {"(", " x)"}, {"(\\x:I.", ")"}, {"(let x=", " x)"}, {"(if x ", " x)"}, {"(if x x ", ")"}, {"(rec f x:I>I.", ")"}} {
		texts = append(texts, strings.Repeat(signs[0], many)+"x"+strings.Repeat(signs[1], many))
	}
	full := "x"
	for range 18 {
		full = "(" + full + "<" + full + ")"
	}
	texts = append(texts, full, "<"+full+">")
	withLittleStack(func() {
		for _, s := range texts {
			expectNoTerm(t, s)
		}
	})
}

func TestTermTextOfDeepTerms(t *testing.T) {
	const times = 50000
	for k, context := range contexts() {
		before, after, _ := strings.Cut(writtenTerm(context(variable("here"))), "here")
		want := strings.Repeat(before, times) + "x" + strings.Repeat(after, times)
		deep, other := nested(context, times, variable("x")), nested(context, times, number(-1))
		withLittleStack(func() {
			if got := impl.TermText(deep); got != want {
				t.Errorf("context %d: TermText of a deep term has %d bytes, want %d: %.80q", k, len(got), len(want), got)
			}
			if impl.FormatTerm(deep) != "" || impl.FormatTerm(other) != "" || impl.TermText(other) != "" {
				t.Errorf("context %d: a deep term is formatted", k)
			}
			expectNoTerm(t, want)
		})
	}
}

func TestTermTextOfLargeTerms(t *testing.T) {
	large := termOfSize(100001)
	if got := impl.TermText(large); got != writtenTerm(large) {
		t.Errorf("TermText of a large term has %d bytes, want %d", len(got), len(writtenTerm(large)))
	}
	for _, e := range append(hugeTerms(), large) {
		if got := impl.FormatTerm(e); got != "" {
			t.Errorf("FormatTerm of a huge term = %.80q", got)
		}
	}
	hugeType := intType()
	for range 200 {
		hugeType = funType(hugeType, hugeType)
	}
	wide := slices.Repeat([]impl.Term{number(1)}, 100000)
	faults := []impl.Term{termOf(impl.TmIf, wide...), termOf(impl.TmInt, wide...), operation("+", wide...)}
	for _, of := range []impl.Type{hugeType, codesOf(200000, intType()), typeOf(impl.TyFun, slices.Repeat([]impl.Type{intType()}, 100000)...)} {
		faults = append(faults, termsWithType(of)...)
	}
	for _, e := range faults {
		if impl.FormatTerm(e) != "" || impl.TermText(e) != "" {
			t.Errorf("a term of kind %d with a huge type or many Args is formatted", e.Kind)
		}
	}
}

func TestTermTextOfNilAndEmptyArgs(t *testing.T) {
	none := impl.Type{Args: []impl.Type{}}
	x := impl.Term{Kind: impl.TmVar, Name: "x", Type: none, Res: none, Args: []impl.Term{}}
	e := recursive("f", "y", impl.Type{Kind: impl.TyInt, Args: []impl.Type{}}, codeType(impl.Type{Kind: impl.TyBool, Args: []impl.Type{}}), quoteTerm(operation("<", x, x)))
	e.Args[0].Type = none
	const want = "(rec f y:I><B>.<(x<x)>)"
	if format, text := impl.FormatTerm(e), impl.TermText(e); format != want || text != want {
		t.Errorf("a term with empty Args is formatted to %q and %q, want %q", format, text, want)
	}
	if back, ok := impl.ParseTerm(want); !ok || !impl.EqualTerm(back, e) {
		t.Errorf("ParseTerm(%q) = %s, %v", want, textOfTerm(back), ok)
	}
}

func TestTermTextKeepsTerms(t *testing.T) {
	for _, part := range slices.Concat(properTerms(), differentTerms(), []impl.Term{termOfSize(80), termOfSize(81), termOf(impl.TmQuote), operation("!")}) {
		for _, original := range inside(part) {
			e := termWithCapacity(original)
			before := termTextWithCapacity(e)
			if impl.FormatTerm(e) != impl.FormatTerm(original) || impl.TermText(e) != impl.TermText(original) {
				t.Errorf("%s is formatted to %q and %q", before, impl.FormatTerm(e), impl.TermText(e))
			}
			if got := termTextWithCapacity(e); got != before {
				t.Errorf("%s became %s", before, got)
			}
		}
	}
}

// overwriteTerm changes every node of e and of its types, and what is behind the ends of Args.
func overwriteTerm(e *impl.Term) {
	e.Kind, e.Name, e.Other, e.N = 77, "over", "over", 77
	overwrite(&e.Type)
	overwrite(&e.Res)
	whole := e.Args[:cap(e.Args)]
	for k := range whole {
		overwriteTerm(&whole[k])
	}
	e.Args = nil
}

func TestParsedTermsShareNoMemory(t *testing.T) {
	texts := []string{"(rec f x:(I>B)>(I>B).(if x (\\x:<I>.~x) (let x=1 (run <(lift x)>))))"}
	for _, e := range termsOfFewNodes(3) {
		texts = append(texts, writtenTerm(e))
	}
	for _, s := range texts {
		first, _ := impl.ParseTerm(s)
		second, _ := impl.ParseTerm(s)
		before := textOfTerm(second)
		overwriteTerm(&first)
		third, _ := impl.ParseTerm(s)
		if textOfTerm(second) != before || textOfTerm(third) != before {
			t.Errorf("two results of ParseTerm(%q) share memory", s)
		}
	}
}

func TestPartsOfParsedTermsShareNothing(t *testing.T) {
	for _, part := range []string{"(x+y)", "(!#t)", "<x>", "~(x y)", "(lift (run x))", "(\\x:(I>B).x)", "(rec f x:(I>B)>(I>B).(f x))", "(if x y z)", "(let x=y x)"} {
		s := "(if " + part + " " + part + " " + part + ")"
		for side := range 3 {
			e, ok := impl.ParseTerm(s)
			if !ok {
				t.Fatalf("ParseTerm(%q) returns false", s)
			}
			overwriteTerm(&e.Args[side])
			for k, other := range e.Args {
				if k != side && writtenTerm(other) != part {
					t.Errorf("ParseTerm(%q) has parts that share memory", s)
				}
			}
		}
	}
	e, _ := impl.ParseTerm("(rec f x:(I>B)>(I>B).1)")
	overwrite(&e.Type)
	if writtenType(e.Res) != "(I>B)" {
		t.Error("the types of a recursive function share memory")
	}
}
