package tests

import (
	"slices"
	"strings"
	"testing"

	"loop.example/g00589/impl"
)

// Promise 4: types are parsed from their representation.

// writtenType is the representation of a type with the proper numbers of Args, whatever its size and depth.
func writtenType(t impl.Type) string {
	switch t.Kind {
	case impl.TyInt:
		return "I"
	case impl.TyBool:
		return "B"
	case impl.TyFun:
		return "(" + writtenType(t.Args[0]) + ">" + writtenType(t.Args[1]) + ")"
	}
	return "<" + writtenType(t.Args[0]) + ">"
}

var (
	baseTypes   = strings.NewReplacer("I", "T", "B", "T")
	typesOfType = strings.NewReplacer("(T>T)", "T", "<T>", "T")
)

// isWrittenType reports whether s is the representation of a type, whatever its size and depth.
// It puts "T" in the place of one part after the other, the innermost ones first.
func isWrittenType(s string) bool {
	if strings.Contains(s, "T") {
		return false
	}
	s = baseTypes.Replace(s)
	for {
		shorter := typesOfType.Replace(s)
		if shorter == s {
			return s == "T"
		}
		s = shorter
	}
}

func sizeOfWritten(s string) int {
	return strings.Count(s, "I") + strings.Count(s, "B") + strings.Count(s, "(") + strings.Count(s, "<")
}

// depthOfWritten is the depth of the type with this representation: ">" either ends code or stands in the middle of a function.
func depthOfWritten(s string) int {
	var open []rune
	greatest := 1
	for _, r := range s {
		switch {
		case r == '(' || r == '<':
			open = append(open, r)
		case r == ')' || r == '>' && open[len(open)-1] == '<':
			open = open[:len(open)-1]
		}
		greatest = max(greatest, len(open)+1)
	}
	return greatest
}

func isTypeText(s string) bool {
	return isWrittenType(s) && sizeOfWritten(s) <= largestType && depthOfWritten(s) <= deepestType
}

func expectNoType(t *testing.T, s string) {
	t.Helper()
	if x, ok := impl.ParseType(s); ok || textOfType(x) != "0[]" {
		t.Errorf("ParseType(%.80q) = %.80s, %v, want no type", s, textOfType(x), ok)
	}
}

// expectParsed checks ParseType of one text against what the document says of it.
func expectParsed(t *testing.T, s string) {
	t.Helper()
	if !isTypeText(s) {
		expectNoType(t, s)
		return
	}
	x, ok := impl.ParseType(s)
	if !ok || !validByText(x) || writtenType(x) != s {
		t.Errorf("ParseType(%q) = %s, %v", s, textOfType(x), ok)
		return
	}
	if got := impl.FormatType(x); got != s {
		t.Errorf("FormatType of ParseType(%q) = %q", s, got)
	}
}

// expectFormatted checks FormatType of one type, and that what it returns is parsed to an equal type.
func expectFormatted(t *testing.T, x impl.Type) {
	t.Helper()
	if !validByText(x) {
		if got := impl.FormatType(x); got != "" {
			t.Errorf("FormatType(%.80s) = %.80q, want %q", textOfType(x), got, "")
		}
		return
	}
	s := impl.FormatType(x)
	if s != writtenType(x) {
		t.Errorf("FormatType(%s) = %q, want %q", textOfType(x), s, writtenType(x))
	}
	if back, ok := impl.ParseType(s); !ok || !impl.EqualType(back, x) || textOfType(back) != textOfType(x) {
		t.Errorf("ParseType(%q) = %s, %v, want %s, true", s, textOfType(back), ok, textOfType(x))
	}
}

func TestTypeText(t *testing.T) {
	i, b := intType(), boolType()
	cases := []struct {
		text string
		of   impl.Type
	}{
		{"I", i},
		{"B", b},
		{"<I>", codeType(i)},
		{"<B>", codeType(b)},
		{"<<I>>", codeType(codeType(i))},
		{"<<<<<<<B>>>>>>>", codesOf(7, b)},
		{"(I>I)", funType(i, i)},
		{"(I>B)", funType(i, b)},
		{"(B>I)", funType(b, i)},
		{"((I>I)>B)", funType(funType(i, i), b)},
		{"(B>(I>I))", funType(b, funType(i, i))},
		{"((I>B)>(B>I))", funType(funType(i, b), funType(b, i))},
		{"<(I>B)>", codeType(funType(i, b))},
		{"<<(B>I)>>", codeType(codeType(funType(b, i)))},
		{"(<I>>B)", funType(codeType(i), b)},
		{"(I><B>)", funType(i, codeType(b))},
		{"(<I>><B>)", funType(codeType(i), codeType(b))},
		{"(<<I>>><<B>>)", funType(codesOf(2, i), codesOf(2, b))},
		{"<(<I>><B>)>", codeType(funType(codeType(i), codeType(b)))},
		{"((I>I)><I>)", funType(funType(i, i), codeType(i))},
		{"(<(I>B)>>(I>B))", funType(codeType(funType(i, b)), funType(i, b))},
		{"(I>(<B>>(<<I>>>(B>I))))", funType(i, funType(codeType(b), funType(codesOf(2, i), funType(b, i))))},
	}
	for _, c := range cases {
		if got := impl.FormatType(c.of); got != c.text {
			t.Errorf("FormatType(%s) = %q, want %q", textOfType(c.of), got, c.text)
		}
		if got, ok := impl.ParseType(c.text); !ok || textOfType(got) != textOfType(c.of) {
			t.Errorf("ParseType(%q) = %s, %v, want %s, true", c.text, textOfType(got), ok, textOfType(c.of))
		}
		expectFormatted(t, c.of)
		expectParsed(t, c.text)
	}
}

func TestTypeTextOfEveryTypeOfFewNodes(t *testing.T) {
	of := map[string]string{}
	for _, x := range validTypes(8) {
		expectFormatted(t, x)
		s := impl.FormatType(x)
		if other, taken := of[s]; taken {
			t.Errorf("FormatType of %s and of %s is %q", textOfType(x), other, s)
		}
		of[s] = textOfType(x)
	}
	for _, x := range typesUpTo([]int{0, 1, 3, 4, 5}, 4) {
		expectFormatted(t, x)
	}
}

func TestFormatTypeOfOtherKinds(t *testing.T) {
	for _, x := range typesOfOtherKinds() {
		if got := impl.FormatType(x); got != "" {
			t.Errorf("FormatType(%s) = %q", textOfType(x), got)
		}
	}
}

func TestFormatTypeOfNumbersOfArgs(t *testing.T) {
	forNumbersOfArgs(func(x impl.Type, proper bool) {
		if got := impl.FormatType(x); (got != "") != proper {
			t.Errorf("FormatType(%s) = %q", textOfType(x), got)
		}
		expectFormatted(t, x)
	})
}

func TestTypeTextLimitOfSize(t *testing.T) {
	for _, c := range typesNearLimitOfSize() {
		s := writtenType(c.of)
		if sizeOfWritten(s) != c.size || depthOfWritten(s) > deepestType {
			t.Fatalf("%s has %d nodes and a depth of %d", s, sizeOfWritten(s), depthOfWritten(s))
		}
		expectLimit(t, c.of, s, c.size <= largestType)
	}
}

func expectLimit(t *testing.T, x impl.Type, s string, valid bool) {
	t.Helper()
	want := ""
	if valid {
		want = s
	}
	if got := impl.FormatType(x); got != want {
		t.Errorf("FormatType(%s) = %q, want %q", textOfType(x), got, want)
	}
	if _, ok := impl.ParseType(s); ok != valid {
		t.Errorf("ParseType(%q) returns %v", s, ok)
	}
	expectFormatted(t, x)
	expectParsed(t, s)
}

func TestTypeTextLimitOfDepth(t *testing.T) {
	for _, depth := range []int{7, 8, 9, 10} {
		for _, x := range leaningTypes(depth) {
			s := writtenType(x)
			if depthOfWritten(s) != depth || sizeOfWritten(s) > largestType {
				t.Fatalf("%s has a depth of %d, want %d", s, depthOfWritten(s), depth)
			}
			expectLimit(t, x, s, depth <= deepestType)
		}
	}
}

func TestParseTypeRejects(t *testing.T) {
	for _, s := range []string{
		"", ">", ")", "(", "<", "<>", "()", "(>)", "><", ")(",
		"<I", "<<I>", "I>", "<I>>", "<<I>>>", "(I>I", "((I>I)>I", "(I>(I>I)", "I)", "(I>I))", "(I>I)>", "<(I>I)", "(<I>I)", // one too few, or one too many
		"<I)", "(I>I>", "<(I>I>>", "(<I)>I)", "(<I)>I", "<(I>I>)", "{I>I}", "[I>I]", "[I]", "\u2039I\u203a", // another one
		"(I)", "(II)", "(I>)", "(>I)", "(I>>I)", "(I>I>I)", "(I>I>I>I)", "((I)>I)", "(I<I)", "(I-I)", "(I->I)", "(I,I)", "<I><I>", "<II>", "<I>I>", "I>I", "((I>I)I)",
		"II", "IB", "I(I>I)", "(I>I)I", "(I>I)(I>I)", "<I>B", "I<B>", "(I>I)<", "(I>I)(", "<I>)", // something behind
		" ", " I", "I ", "< I>", "<I >", "(I >I)", "(I> I)", "( I>I)", "(I>I )", "(I>I) ", " (I>I)", "\tI", "I\n", "I\r\n", "I\x00", "\x00I", "\x00", "<I>\n",
		"i", "b", "<i>", "(i>b)", "(I>b)", "Int", "Bool", "C", "F", "T", "?", "0", "1", "3",
		"\xc9", "\xc2", "<\xc9>", "(I\xbeI)", "\xbcI\xbe", "I\xff", "\xffI", "\u0149", "\u0142", "<\u0149>", "\uff29", "\u0406", "(I\u2192I)", "\ufeffI", "I\u00a0",
	} {
		if isTypeText(s) {
			t.Fatalf("%q is the representation of a type", s)
		}
		expectNoType(t, s)
	}
}

func TestParseTypeOfEveryShortText(t *testing.T) {
	wordsOver("IB(><)", 7, func(s string) { expectParsed(t, s) })
	wordsOver("I(><) ib\xc9", 5, func(s string) { expectParsed(t, s) })
}

func TestParseTypeOfChangedTexts(t *testing.T) {
	texts := []string{"((I>B)>(<I>><(B>I)>))", "<((I><<B>>)>(<(I>B)>>I))>", "(((I>I)>I)>(I>(I>(I>I))))", "<<<<<<<I>>>>>>>"}
	for _, x := range validTypes(4) {
		texts = append(texts, writtenType(x))
	}
	for _, s := range texts {
		expectParsed(t, s)
		for k := range len(s) + 1 {
			before, after := s[:k], s[k:]
			expectParsed(t, before)
			expectParsed(t, after)
			for b := range 256 {
				inserted := string([]byte{byte(b)})
				expectParsed(t, before+inserted+after)
				if after != "" {
					expectParsed(t, before+inserted+after[1:])
				}
			}
			if after != "" {
				expectParsed(t, before+after[1:])
				expectParsed(t, before+strings.ToLower(after[:1])+after[1:])
			}
		}
		for _, other := range texts {
			expectParsed(t, s+other)
		}
	}
}

func TestParseTypeOfVeryLongTexts(t *testing.T) {
	const many = 1000000
	repeated := func(s string) string { return strings.Repeat(s, many) }
	texts := []string{
		repeated("<"), repeated("("), repeated("(<"), repeated(">"), repeated(")"), repeated("I"), repeated(" "), repeated("<>"), repeated("(I>"), repeated("(I>I)"), repeated("\xff"),
		repeated("<") + "I", repeated("<") + "I" + repeated(">"), repeated("(") + "I" + repeated(">I)"), repeated("(I>") + "I" + repeated(")"),
		"I" + repeated(">"), "I" + repeated(" "), repeated(" ") + "I", "<I" + repeated(">"), "(I" + repeated(">I") + ")", "(I>I" + repeated(")"), "<" + repeated("I") + ">", "<I>" + repeated("<I>"),
		strings.Repeat("<", 7) + repeated("I") + strings.Repeat(">", 7),
	}
	withLittleStack(func() {
		for _, s := range texts {
			expectNoType(t, s)
		}
	})
	for depth := 9; depth <= 17; depth++ {
		expectNoType(t, writtenType(fullType(depth)))
	}
}

func TestFormatTypeOfHugeTypes(t *testing.T) {
	endless := codeType(intType())
	endless.Args[0] = endless
	functions := funType(intType(), intType())
	functions.Args[0], functions.Args[1] = functions, functions
	huge, codes, left, right := intType(), intType(), intType(), intType()
	for range 200 {
		huge = funType(huge, huge)
	}
	for range 200000 {
		codes, left, right = codeType(codes), funType(left, intType()), funType(intType(), right)
	}
	wide := slices.Repeat([]impl.Type{intType()}, 100000)
	withLittleStack(func() {
		for _, x := range []impl.Type{endless, functions, huge, codes, left, right, typeOf(impl.TyFun, wide...), typeOf(impl.TyCode, wide...), codeType(huge), funType(intType(), endless)} {
			if got := impl.FormatType(x); got != "" {
				t.Errorf("FormatType of a huge type = %.80q", got)
			}
		}
	})
}

func TestFormatTypeKeepsTypes(t *testing.T) {
	for _, original := range append(typesUpTo([]int{0, 1, 3, 4}, 4), leaning("rlcrccl", intType()), leaning("rlcrccl", typeOf(impl.TyFun)), fullType(5)) {
		x := withCapacity(original)
		before := textWithCapacity(x)
		if got, want := impl.FormatType(x), impl.FormatType(original); got != want {
			t.Errorf("FormatType(%s) = %q, want %q", before, got, want)
		}
		if got := textWithCapacity(x); got != before {
			t.Errorf("%s became %s", before, got)
		}
	}
}

func TestParsedTypesShareNoMemory(t *testing.T) {
	for _, x := range validTypes(6) {
		s := writtenType(x)
		first, _ := impl.ParseType(s)
		second, _ := impl.ParseType(s)
		overwrite(&first)
		third, _ := impl.ParseType(s)
		for _, got := range []impl.Type{second, third} {
			if textOfType(got) != textOfType(x) {
				t.Errorf("two results of ParseType(%q) share memory", s)
			}
		}
	}
}

func TestPartsOfParsedTypesShareNothing(t *testing.T) {
	pair := funType(intType(), boolType())
	for _, part := range []impl.Type{pair, codeType(intType()), codeType(pair), funType(pair, codeType(pair))} {
		s := writtenType(funType(part, part))
		for side := range 2 {
			x, ok := impl.ParseType(s)
			if !ok {
				t.Fatalf("ParseType(%q) returns false", s)
			}
			overwrite(&x.Args[side])
			if other := x.Args[1-side]; textOfType(other) != textOfType(part) {
				t.Errorf("ParseType(%q) has parts that share memory", s)
			}
		}
	}
}
