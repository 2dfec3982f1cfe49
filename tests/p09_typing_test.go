package tests

import (
	"math"
	"math/rand"
	"slices"
	"strconv"
	"strings"
	"testing"

	"loop.example/g00589/impl"
)

// Promise 9: a program is closed.

const largestCtx = 12

// A written is a typing whose type is given by its representation.
type written struct {
	name, of string
	level    int
}

// writtenCtx returns a context with representations of types, or with other texts for what is not valid.
func writtenCtx(ctx []impl.Typing) []written {
	var list []written
	for _, typing := range ctx {
		of := textOfType(typing.Type)
		if validByText(typing.Type) {
			of = writtenType(typing.Type)
		}
		list = append(list, written{typing.Name, of, typing.Level})
	}
	return list
}

// typingsOf is the opposite of writtenCtx.
func typingsOf(list []written) []impl.Typing {
	var ctx []impl.Typing
	for _, w := range list {
		ctx = append(ctx, impl.Typing{Name: w.name, Type: typeFrom(w.of), Level: w.level})
	}
	return ctx
}

func typeFrom(s string) impl.Type {
	of, ok := impl.ParseType(s)
	if !ok {
		panic("no type: " + s)
	}
	return of
}

// typings reads a context: "x:I@0 c:<I>@1".
func typings(s string) []impl.Typing {
	var list []written
	for _, word := range strings.Fields(s) {
		name, rest, _ := strings.Cut(word, ":")
		of, digits, _ := strings.Cut(rest, "@")
		level, err := strconv.Atoi(digits)
		if err != nil {
			panic(err)
		}
		list = append(list, written{name, of, level})
	}
	return typingsOf(list)
}

func isCtxByText(ctx []impl.Typing) bool {
	for _, typing := range ctx {
		if !hasNameForm(typing.Name) || !validByText(typing.Type) || typing.Level < 0 || typing.Level > highestLevel {
			return false
		}
	}
	return len(ctx) <= largestCtx
}

func safeByText(ctx []written, n int) []written {
	var safe []written
	for k, w := range ctx {
		followed := slices.ContainsFunc(ctx[k+1:], func(other written) bool { return other.name == w.name })
		if !followed && (w.of == "I" || w.of == "B") && w.level <= n {
			safe = append(safe, w)
		}
	}
	return safe
}

// signatures has, by operations, the types that they take and the one that they give.
func signatures() map[string]string {
	return map[string]string{"+": "I I I", "-": "I I I", "*": "I I I", "=": "I I B", "<": "I I B", "&": "B B B", "|": "B B B", "!": "B B"}
}

// typeByRules returns the representation of the type of a term that keeps to its levels, "" if there is none.
func typeByRules(ctx []written, e impl.Term, n int) string {
	of := typeByRule(ctx, e, n)
	if !isTypeText(of) {
		return ""
	}
	return of
}

func typeByRule(ctx []written, e impl.Term, n int) string {
	part := func(k, level int, more ...written) string {
		return typeByRules(slices.Concat(ctx, more), e.Args[k], level)
	}
	from, to := "", ""
	if e.Kind == 6 || e.Kind == 9 {
		from = writtenType(e.Type)
	}
	switch e.Kind {
	case 1:
		named := slices.DeleteFunc(slices.Clone(ctx), func(w written) bool { return w.name != e.Name })
		if len(named) > 0 && named[len(named)-1].level == n {
			to = named[len(named)-1].of
		}
	case 2:
		to = "I"
	case 3:
		to = "B"
	case 4:
		taken := ""
		for k := range e.Args {
			taken += part(k, n) + " "
		}
		to = inner(signatures()[e.Name], taken, "")
	case 5:
		if a, b := part(1, n), part(2, n); a == b && part(0, n) == "B" {
			to = a
		}
	case 6:
		to = "(" + from + ">" + part(0, n, written{e.Name, from, n}) + ")"
	case 7:
		to = inner(part(0, n), "("+part(1, n)+">", ")")
	case 8:
		if of := part(0, n); of != "" {
			to = part(1, n, written{e.Name, of, n})
		}
	case 9:
		whole := "(" + from + ">" + writtenType(e.Res) + ")"
		if part(0, n, written{e.Name, whole, n}, written{e.Other, from, n}) == writtenType(e.Res) {
			to = whole
		}
	case 10:
		to = "<" + part(0, n+1) + ">"
	case 11:
		to = inner(part(0, n-1), "<", ">")
	case 12:
		to = inner(typeByRules(safeByText(ctx, n), e.Args[0], n), "<", ">")
	case 13:
		if of := part(0, n); of == "I" || of == "B" {
			to = "<" + of + ">"
		}
	}
	return to
}

// inner returns what is between the first and the last part of s, "" if s does not begin and end so.
func inner(s, first, last string) string {
	rest, ok := between(s, first, last)
	if !ok {
		return ""
	}
	return rest
}

// typesByLevel returns, for each level, the representation of the type of what need not be a term in what need not be a context.
func typesByLevel(ctx []impl.Typing, e impl.Term) [highestLevel + 1]string {
	var types [highestLevel + 1]string
	if !isCtxByText(ctx) {
		return types
	}
	for _, digit := range levelingByParts(e).ok {
		n := int(digit - '0')
		types[n] = typeByRules(writtenCtx(ctx), e, n)
	}
	return types
}

func textOfCtx(ctx []impl.Typing) string {
	text := "["
	for _, w := range writtenCtx(ctx) {
		text += strconv.Quote(w.name) + ":" + w.of + "@" + strconv.Itoa(w.level) + " "
	}
	return text + "]"
}

// expectTypeOf checks the type of a term. The text names the term, which may be too deep for a text of its own.
func expectTypeOf(t *testing.T, ctx []impl.Typing, e impl.Term, n int, text, want string) {
	t.Helper()
	got, ok := impl.TypeOf(ctx, e, n)
	if !ok && want == "" && textOfType(got) == "0[]" {
		return
	}
	if !ok || !validByText(got) || writtenType(got) != want {
		t.Errorf("TypeOf(%.300s, %.300s, %d) = %s, %v, want %q", textOfCtx(ctx), text, n, textOfType(got), ok, want)
	}
}

// expectTyped checks one term in one context, at every level, and returns how many types it has there.
func expectTyped(t *testing.T, ctx []impl.Typing, e impl.Term) int {
	t.Helper()
	text, ctxText, types, count := textOfTerm(e), textOfCtx(ctx), typesByLevel(ctx, e), 0
	for n, want := range types {
		expectTypeOf(t, ctx, e, n, text, want)
		if want != "" {
			count++
		}
	}
	expectTypeOf(t, ctx, e, -1, text, "")
	expectTypeOf(t, ctx, e, len(types), text, "")
	if textOfTerm(e) != text || textOfCtx(ctx) != ctxText {
		t.Errorf("%s and %.300s became %s and %.300s", ctxText, text, textOfCtx(ctx), textOfTerm(e))
	}
	return count
}

// expectProgram checks that a term is a program exactly if it should be one, and that it is closed then.
func expectProgram(t *testing.T, e impl.Term, want bool) {
	t.Helper()
	text := textOfTerm(e)
	if got := impl.IsProgram(e); got != want {
		t.Errorf("IsProgram(%.300s) = %v", text, got)
	}
	if want && (!impl.IsClosed(e) || len(freeByParts(e)) > 0) {
		t.Errorf("a program has free variables: %.300s", text)
	}
	if textOfTerm(e) != text {
		t.Errorf("%.300s became %.300s", text, textOfTerm(e))
	}
}

func isProgramByRules(e impl.Term) bool {
	return sizeByParts(e) <= largestTerm && depthByParts(e) <= deepestTerm && typesByLevel(nil, e)[0] != ""
}

type typingCase struct {
	ctx, of string
	n       int
	want    string
}

func expectTypings(t *testing.T, cases []typingCase) {
	t.Helper()
	for _, c := range cases {
		ctx, e := typings(c.ctx), parsed(t, c.of)
		if own := typesByLevel(ctx, e)[c.n]; own != c.want {
			t.Fatalf("the test finds the type %q for %s in %s at level %d, and wants %q", own, c.of, c.ctx, c.n, c.want)
		}
		expectTypeOf(t, ctx, e, c.n, c.of, c.want)
		expectTyped(t, ctx, e)
		expectTyped(t, nil, e)
		expectProgram(t, e, isProgramByRules(e))
		for _, whole := range inside(e) {
			expectTyped(t, ctx, whole)
			expectProgram(t, whole, isProgramByRules(whole))
		}
	}
}

func TestMaxCtx(t *testing.T) {
	if impl.MaxCtx != largestCtx {
		t.Errorf("MaxCtx = %d", impl.MaxCtx)
	}
}

// fullCtx has so many typings of different names, types and levels.
func fullCtx(count int) []impl.Typing {
	types := validTypes(4)
	var ctx []impl.Typing
	for k := range count {
		ctx = append(ctx, impl.Typing{Name: "n" + strconv.Itoa(k%100), Type: types[k%len(types)], Level: k % 3})
	}
	return ctx
}

// expectCtx checks a context, or what is none, also by what TypeOf does with it.
func expectCtx(t *testing.T, ctx []impl.Typing, want bool) {
	t.Helper()
	before := textOfCtx(ctx)
	if isCtxByText(ctx) != want {
		t.Fatalf("the test takes %.300s for a context: %v", before, !want)
	}
	if got := impl.IsCtx(ctx); got != want {
		t.Errorf("IsCtx(%.300s) = %v", before, got)
	}
	for n := -1; n <= highestLevel+1; n++ {
		of := ""
		if want && 0 <= n && n <= highestLevel {
			of = "(I>I)"
		}
		expectTypeOf(t, ctx, function("x", intType(), variable("x")), n, "a function", of)
	}
	if after := textOfCtx(ctx); after != before {
		t.Errorf("%.300s became %.300s", before, after)
	}
}

func TestIsCtxOfHowManyTypings(t *testing.T) {
	expectCtx(t, nil, true)
	expectCtx(t, []impl.Typing{}, true)
	for count := range 30 {
		expectCtx(t, fullCtx(count), count <= 12)
		expectCtx(t, slices.Repeat(typings("x:I@0"), count), count <= 12) // all with one name
	}
	if impl.IsCtx(fullCtx(300000)) || impl.IsCtx(slices.Repeat(typings("x:I@0"), 300000)) {
		t.Error("IsCtx of very many typings")
	}
	for _, s := range []string{"x:I@0 x:I@0", "x:I@0 x:B@0 x:<I>@0", "x:I@0 x:I@1 x:I@2", "x:I@2 y:I@2 x:B@0 y:B@0"} {
		expectCtx(t, typings(s), true)
	}
}

// expectTypingInCtx puts a typing in each place of contexts of some lengths.
func expectTypingInCtx(t *testing.T, typing impl.Typing, want bool) {
	t.Helper()
	for _, count := range []int{1, 2, 12} {
		for k := range count {
			ctx := fullCtx(count)
			ctx[k] = typing
			expectCtx(t, ctx, want)
		}
	}
	expectCtx(t, append(fullCtx(12), typing), false)
}

func TestIsCtxOfNames(t *testing.T) {
	for _, s := range []string{"a", "z", "x1", "a000", "abcd", "z999", "fi", "iff", "i", "lets", "le", "runs", "lif", "recs", "v1"} {
		expectTypingInCtx(t, impl.Typing{Name: s, Type: intType()}, true)
	}
	for _, s := range otherNames() {
		expectTypingInCtx(t, impl.Typing{Name: s, Type: intType()}, false)
	}
}

func TestIsCtxOfTypes(t *testing.T) {
	typesOfFunctions(func(x impl.Type, valid bool) {
		if depthByText(x) < 20 {
			expectTypingInCtx(t, impl.Typing{Name: "x", Type: x, Level: 1}, valid)
		}
	})
}

func TestIsCtxOfLevels(t *testing.T) {
	for _, n := range levelsToTry() {
		expectTypingInCtx(t, impl.Typing{Name: "x", Type: boolType(), Level: n}, 0 <= n && n <= 2)
	}
}

func TestIsCtxOfHugeTypes(t *testing.T) {
	endless, huge := codeType(intType()), intType()
	endless.Args[0] = endless
	for range 200 {
		huge = funType(huge, huge)
	}
	for _, of := range []impl.Type{endless, huge, codesOf(200000, intType()), typeOf(impl.TyInt, slices.Repeat([]impl.Type{intType()}, 100000)...)} {
		ctx := []impl.Typing{{Name: "x", Type: intType()}, {Name: "y", Type: of}}
		withLittleStack(func() {
			if _, ok := impl.TypeOf(ctx, number(1), 0); ok || impl.IsCtx(ctx) {
				t.Error("IsCtx with a huge type")
			}
			if got := impl.SafeCtx(ctx, 0); len(got) != 1 || got[0].Name != "x" {
				t.Error("SafeCtx with a huge type")
			}
		})
	}
}

func expectSafe(t *testing.T, ctx []impl.Typing, n int) {
	t.Helper()
	before := textOfCtx(ctx)
	got := writtenCtx(impl.SafeCtx(ctx, n))
	if want := safeByText(writtenCtx(ctx), n); !slices.Equal(got, want) {
		t.Errorf("SafeCtx(%.300s, %d) = %v, want %v", before, n, got, want)
	}
	if after := textOfCtx(ctx); after != before {
		t.Errorf("%.300s became %.300s", before, after)
	}
}

func TestSafeCtx(t *testing.T) {
	cases := []struct {
		ctx  string
		n    int
		want string
	}{
		{"", 0, ""},
		{"x:I@0", 0, "x:I@0"},
		{"x:B@0", 0, "x:B@0"},
		{"x:I@0 y:B@0", 0, "x:I@0 y:B@0"}, // in order
		{"y:B@0 x:I@0", 0, "y:B@0 x:I@0"},
		{"x:<I>@0", 0, ""},
		{"x:(I>I)@0", 2, ""},
		{"x:<<B>>@1 y:I@1 z:(I><I>)@1", 1, "y:I@1"},
		{"x:I@0 y:I@1 z:I@2", -1, ""},
		{"x:I@0 y:I@1 z:I@2", 0, "x:I@0"}, // levels up to n
		{"x:I@0 y:I@1 z:I@2", 1, "x:I@0 y:I@1"},
		{"x:I@0 y:I@1 z:I@2", 2, "x:I@0 y:I@1 z:I@2"},
		{"x:I@0 y:I@1 z:I@2", 3, "x:I@0 y:I@1 z:I@2"},
		{"x:I@0 x:I@0", 0, "x:I@0"}, // the last one with a name counts
		{"x:I@0 x:B@0", 0, "x:B@0"},
		{"x:I@0 y:I@0 x:B@0", 0, "y:I@0 x:B@0"},
		{"x:I@0 x:<I>@0", 0, ""}, // and hides the others, whether it is safe or not
		{"x:<I>@0 x:I@0", 0, "x:I@0"},
		{"x:I@0 x:I@1", 0, ""},
		{"x:I@0 x:I@1", 1, "x:I@1"},
		{"x:I@1 x:I@0", 0, "x:I@0"},
		{"x:I@0 x:(I>I)@2", 1, ""},
		{"x:I@0 x:B@2", 2, "x:B@2"},
		{"x:I@0 x:B@2 x:I@1", 1, "x:I@1"},
		{"x:I@0 y:<I>@0 z:B@1 y:I@0 z:<I>@1", 1, "x:I@0 y:I@0"},
	}
	for _, c := range cases {
		ctx := typings(c.ctx)
		if got := textOfCtx(impl.SafeCtx(ctx, c.n)); got != textOfCtx(typings(c.want)) {
			t.Errorf("SafeCtx(%s, %d) = %s, want %s", c.ctx, c.n, got, c.want)
		}
		for _, n := range levelsToTry() {
			expectSafe(t, ctx, n)
		}
	}
}

// forContexts hands over every context of up to so many typings of two names.
func forContexts(types []string, count int, see func(ctx []impl.Typing)) {
	var all []impl.Typing
	for _, of := range types {
		for level := 0; level <= highestLevel; level++ {
			all = append(all, impl.Typing{Name: "x", Type: typeFrom(of), Level: level}, impl.Typing{Name: "y", Type: typeFrom(of), Level: level})
		}
	}
	lists := [][]impl.Typing{nil}
	for range count + 1 {
		var longer [][]impl.Typing
		for _, list := range lists {
			see(list)
			for _, typing := range all {
				longer = append(longer, append(slices.Clone(list), typing))
			}
		}
		lists = longer
	}
}

func TestSafeCtxOfEveryShortContext(t *testing.T) {
	forContexts([]string{"I", "B", "<I>", "(I>I)"}, 3, func(ctx []impl.Typing) {
		for n := -1; n <= 3; n++ {
			expectSafe(t, ctx, n)
		}
	})
}

// TestSafeCtxOfWhatIsNoContext has names that are none, types that are not valid, other levels, and too many typings.
func TestSafeCtxOfWhatIsNoContext(t *testing.T) {
	var all []impl.Typing
	for k, s := range otherNames() {
		all = append(all, impl.Typing{Name: s, Type: intType()}, impl.Typing{Name: s, Type: boolType(), Level: k % 3})
	}
	for _, of := range slices.Concat(typesOfOtherKinds(), []impl.Type{{}, typeOf(impl.TyInt, intType()), typeOf(impl.TyBool, boolType()), fullType(6), codesOf(20, intType())}) {
		all = append(all, impl.Typing{Name: "x", Type: of}, impl.Typing{Name: "y", Type: intType()})
	}
	for _, n := range levelsToTry() {
		all = append(all, impl.Typing{Name: "x", Type: intType(), Level: n}, impl.Typing{Name: "y", Type: boolType(), Level: n})
	}
	for _, n := range []int{math.MinInt64, -1, 0, 1, 2, 3, math.MaxInt64} {
		for k := range all {
			expectSafe(t, all[k:k+1], n)
			expectSafe(t, all[k/2:k/2+k%6], n)
		}
		expectSafe(t, all, n)
		expectSafe(t, fullCtx(300), n)
	}
}

func TestSafeCtxOfManyTypings(t *testing.T) {
	const many = 200000
	same := slices.Repeat(typings("x:I@0 y:B@1 x:<I>@0"), many)
	if got := textOfCtx(impl.SafeCtx(same, 1)); got != textOfCtx(typings("y:B@1")) {
		t.Errorf("SafeCtx of many typings of two names = %.300s", got)
	}
	var different []impl.Typing
	for k := range many {
		different = append(different, impl.Typing{Name: "name" + strconv.Itoa(k), Type: intType(), Level: k % 2})
	}
	got := impl.SafeCtx(different, 0)
	if len(got) != many/2 || got[0].Name != "name0" || got[many/2-1].Name != "name"+strconv.Itoa(many-2) {
		t.Errorf("SafeCtx of many typings has %d of them", len(got))
	}
}

func TestTypesOfVariables(t *testing.T) {
	expectTypings(t, []typingCase{
		{"", "x", 0, ""},
		{"y:I@0", "x", 0, ""},
		{"x1:I@0", "x", 0, ""},
		{"x:I@0", "x", 0, "I"},
		{"x:(<I>>(B>I))@0", "x", 0, "(<I>>(B>I))"},
		{"x:I@0 y:B@0", "x", 0, "I"},
		{"y:B@0 x:I@0", "x", 0, "I"},
		{"x:I@0", "x", 1, ""}, // the level is not another one
		{"x:I@0", "x", 2, ""},
		{"x:I@1", "x", 0, ""},
		{"x:I@1", "x", 1, "I"},
		{"x:I@1", "x", 2, ""},
		{"x:I@2", "x", 1, ""},
		{"x:I@2", "x", 2, "I"},
		{"x:I@0 x:B@0", "x", 0, "B"}, // the last typing counts
		{"x:I@0 x:B@0 x:<I>@0", "x", 0, "<I>"},
		{"x:I@0 x:B@0 y:<I>@0", "x", 0, "B"},
		{"x:I@0 x:B@1", "x", 0, ""}, // even if its level is wrong and that of an earlier one is right
		{"x:I@0 x:B@1", "x", 1, "B"},
		{"x:I@1 x:B@0", "x", 1, ""},
		{"x:I@0 x:I@2", "x", 0, ""},
		{"x:I@1 x:I@0 x:I@2", "x", 1, ""},
		{"x:I@0", "7", 0, "I"},
		{"", "10006", 0, "I"},
		{"", "0", 2, "I"},
		{"", "#f", 0, "B"},
		{"", "#t", 1, "B"},
	})
}

func TestTypesOfOperationsAndChoices(t *testing.T) {
	expectTypings(t, []typingCase{
		{"", "(1+2)", 0, "I"},
		{"", "(1-2)", 1, "I"},
		{"", "(1*2)", 2, "I"},
		{"", "(1=2)", 0, "B"},
		{"", "(1<2)", 0, "B"},
		{"", "(#t&#f)", 0, "B"},
		{"", "(#t|#f)", 0, "B"},
		{"", "(!#f)", 0, "B"},
		{"", "(1+#t)", 0, ""},
		{"", "(#t+1)", 0, ""},
		{"", "(#t=#t)", 0, ""}, // numbers alone are compared
		{"", "(#t<#t)", 0, ""},
		{"", "(1&1)", 0, ""},
		{"", "(1|#t)", 0, ""},
		{"", "(!1)", 0, ""},
		{"", "(<1>+<2>)", 0, ""},
		{"", "((1=2)&(1<2))", 0, "B"},
		{"", "((1=2)=(1<2))", 0, ""},
		{"x:I@0", "(x+(x*x))", 0, "I"},
		{"", "(if #t 1 2)", 0, "I"},
		{"", "(if #t #f #t)", 2, "B"},
		{"", "(if #t <1> <2>)", 0, "<I>"},
		{"", "(if #t (\\x:I.x) (\\y:I.1))", 0, "(I>I)"},
		{"", "(if 1 2 3)", 0, ""},
		{"", "(if <#t> 1 2)", 0, ""},
		{"", "(if #t 1 #t)", 0, ""}, // two types that are not equal
		{"", "(if #t #t 1)", 0, ""},
		{"", "(if #t <1> <#t>)", 0, ""},
		{"", "(if #t 1 <1>)", 0, ""},
		{"", "(if #t <1> 1)", 0, ""},
		{"", "(if #t (\\x:I.x) (\\x:B.1))", 0, ""},
		{"", "(if #t (\\x:I.x) (\\x:I.#t))", 0, ""},
		{"", "(if #t y y)", 0, ""},
	})
}

func TestTypesOfFunctionsAndApplications(t *testing.T) {
	expectTypings(t, []typingCase{
		{"", "(\\x:I.x)", 0, "(I>I)"},
		{"", "(\\x:B.1)", 1, "(B>I)"},
		{"", "(\\x:I.#t)", 2, "(I>B)"},
		{"", "(\\x:I.y)", 0, ""},
		{"", "(\\x:I.(!x))", 0, ""},
		{"", "(\\x:I.(\\x:B.x))", 0, "(I>(B>B))"},
		{"", "(\\x:I.(\\y:B.x))", 0, "(I>(B>I))"},
		{"", "(\\x:(I>B).(x 1))", 0, "((I>B)>B)"},
		{"", "(\\x:<I>.<~x>)", 0, "(<I>><I>)"},
		{"", "(\\x:I.<~(lift x)>)", 0, "(I><I>)"},
		{"x:B@0", "(\\x:I.x)", 0, "(I>I)"}, // a name is hidden in the body alone
		{"x:B@0", "((\\x:I.x) x)", 0, ""},
		{"x:I@0", "((\\x:I.x) x)", 0, "I"},
		{"x:B@0", "(((\\x:I.x) 1)+x)", 0, ""},
		{"x:B@0", "(if x ((\\x:I.x) 1) (if x 2 3))", 0, "I"},
		{"x:B@1", "(\\x:I.x)", 0, "(I>I)"},
		{"x:B@1", "<((\\x:I.#t) x)>", 0, ""},
		{"x:B@1", "(\\y:I.<x>)", 0, "(I><B>)"},
		{"x:B@1", "(\\x:I.<x>)", 0, ""}, // also at a level at which another typing would be right
		{"", "(\\x:I.<(\\x:B.~(lift x))>)", 0, ""},
		{"", "(\\x:I.<(\\y:B.~(lift x))>)", 0, "(I><(B>I)>)"},
		{"", "((\\x:I.x) 1)", 0, "I"},
		{"", "((\\x:I.x) #t)", 0, ""},
		{"", "((\\x:I.x) <1>)", 0, ""},
		{"", "((\\x:<I>.x) 1)", 0, ""},
		{"", "((\\x:<I>.x) <1>)", 0, "<I>"},
		{"", "(1 2)", 0, ""}, // no function
		{"", "(#t 1)", 0, ""},
		{"", "(<1> 1)", 0, ""},
		{"", "(<(\\x:I.x)> 1)", 0, ""},
		{"", "((\\x:(I>B).(x 1)) (\\y:I.#t))", 0, "B"},
		{"", "((\\x:(I>B).(x 1)) (\\y:I.1))", 0, ""},
		{"", "((\\x:(I>B).(x 1)) (\\y:B.#t))", 0, ""},
		{"", "(((\\x:I.(\\y:B.x)) 1) #t)", 0, "I"},
		{"", "(((\\x:I.(\\y:B.x)) #t) 1)", 0, ""},
		{"f:(I>(I>B))@1", "((f 1) 2)", 1, "B"},
		{"f:(I>(I>B))@1", "(f 1)", 1, "(I>B)"},
		{"f:((I>I)>B)@1", "(f 1)", 1, ""},
		{"f:(I>B)@0 x:I@1", "(f x)", 0, ""},
		{"f:(I>B)@0 x:I@1", "(f x)", 1, ""},
	})
}

func TestTypesOfLet(t *testing.T) {
	expectTypings(t, []typingCase{
		{"", "(let x=1 x)", 0, "I"},
		{"", "(let x=1 #t)", 1, "B"},
		{"", "(let x=#t (x+1))", 0, ""},
		{"", "(let x=x 1)", 0, ""}, // Name stands for nothing in Args[0]
		{"x:B@0", "(let x=x x)", 0, "B"},
		{"x:B@0", "(let x=1 x)", 0, "I"}, // hides a name
		{"x:B@0", "(if (let x=1 (x=1)) (!x) x)", 0, "B"},
		{"x:B@0", "((let x=1 x)+x)", 0, ""},
		{"", "(let x=(1+#t) 1)", 0, ""},
		{"", "(let x=1 (2+#t))", 0, ""},
		{"", "(let f=(\\x:I.x) (f (f 1)))", 0, "I"},
		{"", "(let x=1 (let x=#t x))", 0, "B"},
		{"", "(let x=1 (let x=(x=1) (if x 2 3)))", 0, "I"},
		{"", "(let x=1 <x>)", 0, ""}, // at the level of the form
		{"", "<(let x=1 x)>", 0, "<I>"},
		{"", "<(let x=1 ~<x>)>", 0, "<I>"},
		{"", "<(let x=<1> ~x)>", 0, ""},
		{"", "(let x=<1> <~x>)", 0, "<I>"},
		{"", "<~(let x=<1> x)>", 0, "<I>"},
		{"", "<~(let x=<1> <x>)>", 0, ""},
		{"x:I@1", "(let x=<1> <(~x+2)>)", 0, "<I>"},
		{"x:I@1", "(let x=<1> <(x+2)>)", 0, ""},
		{"x:I@1", "(let y=<1> <(x+2)>)", 0, "<I>"},
	})
}

func TestTypesOfRecursiveFunctions(t *testing.T) {
	expectTypings(t, []typingCase{
		{"", "(rec f x:I>I.x)", 0, "(I>I)"},
		{"", "(rec f x:I>B.#t)", 1, "(I>B)"},
		{"", "(rec f x:B>I.1)", 2, "(B>I)"},
		{"", "(rec f x:I>B.x)", 0, ""}, // the body has another type than Res
		{"", "(rec f x:B>I.x)", 0, ""},
		{"", "(rec f x:I>I.f)", 0, ""},
		{"", "(rec f x:I>(I>I).f)", 0, ""},
		{"", "(rec f x:I>(I>I).(f x))", 0, "(I>(I>I))"},
		{"", "(rec f x:I>I.(f x))", 0, "(I>I)"},
		{"", "(rec f x:I>I.(f (f x)))", 0, "(I>I)"},
		{"", "(rec f x:I>B.(f x))", 0, "(I>B)"},
		{"", "(rec f x:I>B.(f (f x)))", 0, ""},
		{"", "(rec f x:I>I.(x f))", 0, ""},
		{"", "(rec f x:I>I.(x 1))", 0, ""},
		{"", "(rec f x:(I>I)>I.(x (f x)))", 0, "((I>I)>I)"},
		{"", "(rec f x:(I>I)>I.(x f))", 0, ""},
		{"", "(rec f x:I>I.(if (x<1) 0 (f (x-1))))", 0, "(I>I)"},
		{"", "((rec f x:I>B.(f x)) 1)", 0, "B"},
		{"", "((rec f x:I>B.(f x)) #t)", 0, ""},
		{"f:B@0 x:B@0", "(rec f x:I>I.(f x))", 0, "(I>I)"}, // hides names
		{"f:B@0 x:B@0", "(if f (!x) ((rec f x:I>B.(f x)) 1))", 0, "B"},
		{"f:(I>I)@0", "((rec f x:I>B.#t) (f 1))", 0, "B"},
		{"", "((rec f x:I>B.#t) (f 1))", 0, ""},
		{"", "(rec f x:I>I.(let f=x f))", 0, "(I>I)"},
		{"", "(rec f x:I>I.(let x=f (x 1)))", 0, "(I>I)"},
		{"", "(rec f x:I>(B>B).(\\f:B.f))", 0, "(I>(B>B))"},
		{"", "<(rec f x:I>I.~<(f x)>)>", 0, "<(I>I)>"}, // at the level of the form, both of them
		{"", "<(rec f x:I>I.~(f <x>))>", 0, ""},
		{"", "<(rec f x:<I>>I.~x)>", 0, ""},
		{"", "(rec f x:I><I>.<x>)", 0, ""},
		{"", "(rec f x:I><(I>I)>.<f>)", 0, ""},
		{"", "(rec f x:<I>><I>.<~(f x)>)", 0, "(<I>><I>)"},
		{"x:I@1 f:(I>I)@1", "(rec f y:I><I>.<x>)", 0, "(I><I>)"},
		{"x:I@1 f:(I>I)@1", "(rec g x:I><I>.<(f 1)>)", 0, "(I><I>)"},
		{"x:I@1 f:(I>I)@1", "(rec g x:I><I>.<x>)", 0, ""},
		{"x:I@1 f:(I>I)@1", "(rec f y:I><I>.<(f 1)>)", 0, ""},
	})
}

func TestTypesOfCodeAndSplices(t *testing.T) {
	expectTypings(t, []typingCase{
		{"", "<1>", 0, "<I>"},
		{"", "<1>", 1, "<I>"},
		{"", "<1>", 2, ""}, // the part of code at MaxLevel
		{"", "<<#t>>", 0, "<<B>>"},
		{"", "<<1>>", 1, ""},
		{"", "<<<1>>>", 0, ""},
		{"", "<(1+#t)>", 0, ""},
		{"x:I@1", "<x>", 0, "<I>"},
		{"x:I@0", "<x>", 0, ""},
		{"x:I@2", "<x>", 1, "<I>"},
		{"x:I@2", "<x>", 0, ""},
		{"x:I@2", "<<x>>", 0, "<<I>>"},
		{"x:I@1", "<<x>>", 0, ""},
		{"", "~<1>", 0, ""}, // a splice at level 0
		{"", "~<1>", 1, "I"},
		{"", "~<1>", 2, "I"},
		{"", "~1", 1, ""}, // of what is no code
		{"", "~(\\x:I.x)", 1, ""},
		{"x:<I>@0", "~x", 0, ""},
		{"x:<I>@0", "~x", 1, "I"},
		{"x:<I>@0", "~x", 2, ""},
		{"x:<I>@1", "~x", 1, ""},
		{"x:<I>@1", "~x", 2, "I"},
		{"x:<<I>>@0", "~~x", 2, "I"},
		{"x:<I>@0", "~~x", 2, ""},
		{"x:<<I>>@0", "~x", 1, "<I>"},
		{"x:<<I>>@0", "<~x>", 0, "<<I>>"},
		{"x:<I>@0", "<(~x+1)>", 0, "<I>"},
		{"x:<B>@0", "<(~x+1)>", 0, ""},
		{"x:I@0", "<~x>", 0, ""},
		{"", "<~<1>>", 0, "<I>"},
		{"", "<<~<1>>>", 0, "<<I>>"},
		{"", "<<~<(1+#t)>>>", 0, ""},
		{"x:<<I>>@0", "<<~~x>>", 0, "<<I>>"},
		{"x:<I>@0", "<<~~x>>", 0, ""},
		{"", "<(\\x:I.~x)>", 0, ""},
		{"", "<(\\x:<I>.~x)>", 0, ""},
		{"", "<(\\x:I.~<x>)>", 0, "<(I>I)>"},
		{"", "(\\x:I.<x>)", 0, ""},
		{"", "<~(\\x:I.x)>", 0, ""},
		{"", "<(\\x:I.~((\\x:<I>.x) <x>))>", 0, "<(I>I)>"},
		{"", "<(\\x:I.~(let x=<1> <x>))>", 0, ""},
		{"", "<(\\x:I.~((rec p n:I><I>.(if (n=0) <1> <(x*~(p (n-1)))>)) 3))>", 0, "<(I>I)>"},
		{"", "(lift 1)", 0, "<I>"},
		{"", "(lift #t)", 1, "<B>"},
		{"", "(lift 1)", 2, "<I>"},
		{"", "(lift <1>)", 0, ""},
		{"", "(lift (\\x:I.x))", 0, ""},
		{"", "(lift (lift 1))", 0, ""},
		{"x:B@2", "(lift x)", 2, "<B>"},
		{"x:B@1", "(lift x)", 0, ""}, // the part has the level of the form
		{"", "<(lift ~(lift 1))>", 0, "<<I>>"},
	})
}

func TestTypesOfRun(t *testing.T) {
	expectTypings(t, []typingCase{
		{"", "(run <1>)", 0, "I"},
		{"", "(run <1>)", 1, "I"},
		{"", "(run <1>)", 2, ""},
		{"", "(run (lift #t))", 2, "B"},
		{"", "(run 1)", 0, ""},
		{"", "(run (\\x:I.x))", 0, ""},
		{"", "(run <<1>>)", 0, "<I>"},
		{"", "(run <(1+#t)>)", 0, ""},
		{"x:I@0", "(run (lift x))", 0, "I"}, // a base type at the same level
		{"x:B@0", "(run <~(if x <1> <2>)>)", 0, "I"},
		{"x:I@1", "(run (lift x))", 1, "I"},
		{"x:I@2", "(run (lift x))", 2, "I"},
		{"x:I@0", "(run ~<(lift ~(lift x))>)", 1, "I"}, // at a lower one
		{"x:I@0 y:I@1", "(run ~<(lift (y+~(lift x)))>)", 1, "I"},
		{"x:I@1", "(run <x>)", 0, ""}, // at a higher one
		{"x:I@2", "(run <x>)", 1, ""},
		{"x:I@2", "(run <<x>>)", 0, ""},
		{"x:<I>@0", "(run x)", 0, ""}, // a code type
		{"x:<I>@0", "(run <~x>)", 0, ""},
		{"x:<I>@0", "(run <(~x+~x)>)", 0, ""},
		{"x:<I>@1", "(run x)", 1, ""},
		{"x:<I>@0", "(run ~<(lift ~x)>)", 1, ""},
		{"x:<<I>>@0", "(run ~x)", 1, ""},
		{"x:<I>@1", "(run <~~<x>>)", 1, ""},
		{"f:(I><I>)@0", "(run (f 1))", 0, ""}, // a function type
		{"f:(I>I)@0", "(run (lift (f 1)))", 0, ""},
		{"f:(I>I)@1", "(run <(f 1)>)", 0, ""},
		{"f:(I>I)@1", "(run (lift (f 1)))", 1, ""},
		{"x:I@0 f:(I>I)@0", "(run (lift (x+(f 1))))", 0, ""},
		{"x:I@0 f:(I>I)@0", "(run (lift (x+1)))", 0, "I"},
		{"x:I@0 x:<I>@0", "(run (lift x))", 0, ""}, // what is hidden does not come back
		{"x:I@0 x:I@1", "(run (lift x))", 0, ""},
		{"x:I@0 x:<I>@1", "(run (lift x))", 0, ""},
		{"x:<I>@0 x:I@0", "(run (lift x))", 0, "I"},
		{"x:<I>@0", "(if (run <#t>) x <1>)", 0, "<I>"}, // outside of "run", nothing is taken away
		{"f:(I>I)@0", "((run <1>)+(f 1))", 0, "I"},
		{"f:(I>I)@0", "((f 1)+(run <1>))", 0, "I"},
		{"f:(I>I)@0", "((run <1>)+(run (lift (f 1))))", 0, ""},
		{"", "(let c=<1> (run c))", 0, ""},
		{"", "(\\c:<I>.(run c))", 0, ""},
		{"", "(let n=1 (run <~(lift n)>))", 0, "I"},
		{"", "<(\\x:I.~(run <x>))>", 0, ""},
		{"", "<(\\x:I.~(run <<x>>))>", 0, ""},
		{"", "<(\\x:I.~(lift (run <x>)))>", 0, ""},
		{"", "<(\\x:I.~(lift (run <1>)))>", 0, "<(I>I)>"},
	})
}

// TestTypesOfRunOfWhatBindsItsVariables has variables of any type that are bound by what is run, or between two "run".
func TestTypesOfRunOfWhatBindsItsVariables(t *testing.T) {
	expectTypings(t, []typingCase{
		{"", "(run <(\\x:<I>.x)>)", 0, "(<I>><I>)"},
		{"", "(run <(\\x:(I>I).(x 1))>)", 0, "((I>I)>I)"},
		{"", "(run <(\\x:I.~<x>)>)", 0, "(I>I)"},
		{"", "(run (let x=<1> x))", 0, "I"},
		{"", "(run (let x=<1> <(~x+~x)>))", 0, "I"},
		{"", "(run ((\\x:<I>.x) <1>))", 0, "I"},
		{"", "(run ((rec f x:I><I>.(if (x=0) <1> (f (x-1)))) 3))", 0, "I"},
		{"", "(run <((rec f x:I>I.(f x)) 3)>)", 0, "I"},
		{"x:<I>@0", "(run (let x=<1> x))", 0, "I"},
		{"x:<I>@0", "(run (let x=x <1>))", 0, ""},
		{"x:<I>@0", "(run ((\\x:<I>.<2>) x))", 0, ""},
		{"x:I@1", "(run <(let x=#t x)>)", 0, "B"},
		{"x:I@1", "(run <(let x=x 1)>)", 0, ""},
		{"x:I@1", "(run <((let x=1 x)+x)>)", 0, ""}, // bound in one part alone
		{"", "(run (run <<1>>))", 0, "I"},           // "run" within "run"
		{"", "(run <(run <1>)>)", 0, "I"},
		{"", "(run (run <1>))", 0, ""},
		{"", "(run (let x=<1> (run x)))", 0, ""},
		{"", "(run (let x=<<1>> (run x)))", 0, ""},
		{"", "(run (let x=<1> (let y=(run <2>) x)))", 0, "I"},
		{"", "(run (let x=1 (run <(lift ~(lift x))>)))", 0, "I"},
		{"x:I@0", "(run (run <(lift ~(lift x))>))", 0, "I"},
		{"x:<I>@0", "(run (run <(lift ~x)>))", 0, ""},
		{"x:<I>@0", "(run (let x=1 (run (lift (lift x)))))", 0, ""},
		{"x:<I>@0", "(run (let x=1 (lift (run (lift x)))))", 0, "I"},
		{"", "(run <(let x=1 (run (lift x)))>)", 0, "I"}, // at a higher level
		{"", "(run <(let f=(\\x:I.x) (run (lift (f 1))))>)", 0, ""},
		{"", "(run <(let f=(\\x:I.x) (f (run (lift 1))))>)", 0, "I"},
		{"", "<(let y=<1> (run y))>", 0, ""},
		{"", "<(let y=<1> (run <~y>))>", 0, ""},
		{"", "<(run (let y=<1> <~y>))>", 0, "<I>"},
		{"", "(let x=1 <(run ~<(lift ~(lift x))>)>)", 0, "<I>"}, // with parts of a lower one
		{"", "(let c=<1> <(run ~<(lift ~c)>)>)", 0, ""},
		{"", "<(run ~(let c=<1> <(lift ~c)>))>", 0, "<I>"},
		{"", "<(run ~(let c=<1> <(lift ~(run <<1>>))>))>", 0, "<I>"},
		{"", "<(run ~(let c=<1> <(lift ~(lift (run <1>)))>))>", 0, "<I>"},
		{"", "<(run ~(let c=<1> <(lift ~(lift (run c)))>))>", 0, ""},
		{"", "<(\\x:I.~(let y=1 <(run (lift (x+~(lift y))))>))>", 0, "<(I>I)>"},
		{"", "<(\\x:I.~(let y=1 (run <(run (lift (x+~(lift y))))>)))>", 0, ""},
		{"", "<(\\x:I.(run (lift (x+~(lift (run <1>))))))>", 0, "<(I>I)>"},
		{"", "<(\\x:I.(run ~(run <<<1>>>)))>", 0, ""},
		{"", "<(\\x:I.(run ~(let c=<x> <(lift ~c)>)))>", 0, "<(I>I)>"}, // x by a variable between
		{"", "<(\\x:I.(run ~(let c=<x> (run <(lift ~c)>))))>", 0, ""},
	})
}

// codes writes the code of code .. of numbers, with a type of this depth.
func codes(depth int) string {
	return strings.Repeat("<", depth-1) + "I" + strings.Repeat(">", depth-1)
}

// TestTypesThatAreTooDeep has parts, or terms, of types of MaxTypeDepth and one more.
func TestTypesThatAreTooDeep(t *testing.T) {
	d6, d7, d8 := codes(6), codes(7), codes(8)
	of7, of8 := "(I>"+d6+")", "(I>"+d7+")"
	expectTypings(t, []typingCase{
		{"x:" + d8 + "@0", "x", 0, d8},
		{"x:" + d7 + "@1", "<x>", 0, d8},
		{"x:" + d8 + "@1", "<x>", 0, ""}, // the part is valid, the term is not
		{"x:" + d6 + "@2", "<<x>>", 0, d8},
		{"x:" + d7 + "@2", "<<x>>", 0, ""},
		{"x:" + d8 + "@0", "~x", 1, d7},
		{"x:" + of7 + "@1", "<x>", 0, "<" + of7 + ">"},
		{"x:" + of8 + "@1", "<x>", 0, ""},
		{"x:" + d7 + "@0", "(\\y:I.x)", 0, of8},
		{"x:" + d8 + "@0", "(\\y:I.x)", 0, ""},
		{"", "(\\y:" + d7 + ".1)", 0, "(" + d7 + ">I)"},
		{"", "(\\y:" + d8 + ".1)", 0, ""},
		{"", "(rec f y:" + d7 + ">I.1)", 0, "(" + d7 + ">I)"},
		{"", "(rec f y:" + d8 + ">I.1)", 0, ""},
		{"x:" + d7 + "@0", "(rec f y:I>" + d7 + ".x)", 0, of8},
		{"x:" + d8 + "@0", "(rec f y:I>" + d8 + ".x)", 0, ""},
		{"", "(rec f y:I>" + d8 + ".(f y))", 0, ""},
		{"x:" + d7 + "@0", "((\\y:" + d7 + ".1) x)", 0, "I"},
		{"x:" + d8 + "@0", "((\\y:" + d8 + ".1) x)", 0, ""}, // the term is valid, the part is not
		{"x:" + d8 + "@0", "((rec f y:" + d8 + ">I.1) x)", 0, ""},
		{"x:" + d8 + "@0", "(let y=x 1)", 0, "I"},
		{"x:" + d8 + "@0", "(let y=x (let z=y z))", 0, d8},
		{"x:" + d7 + "@1", "(let y=<x> 1)", 0, "I"},
		{"x:" + d8 + "@1", "(let y=<x> 1)", 0, ""},
		{"x:" + d8 + "@1", "<~<x>>", 0, ""},
		{"x:" + d8 + "@2", "~<x>", 2, ""},
		{"x:" + d7 + "@2", "~<x>", 2, d7},
		{"", "(run <(\\x:" + d6 + ".x)>)", 0, "(" + d6 + ">" + d6 + ")"},
		{"", "(run <(\\x:" + d7 + ".x)>)", 0, ""}, // valid functions, whose code is not
		{"x:" + d8 + "@0", "(if #t 1 (let y=(\\z:I.x) 2))", 0, ""},
		{"x:" + d8 + "@0", "(if #t x x)", 0, d8},
		{"x:" + d8 + "@0", "(if ((\\y:" + d8 + ".#t) x) 1 2)", 0, ""},
	})
}

// TestTypesThatAreTooLarge has types of MaxTypeSize and one more.
func TestTypesThatAreTooLarge(t *testing.T) {
	of27 := funType(fullType(4), funType(fullType(3), funType(boolType(), intType())))
	s28, s29 := writtenType(codeType(of27)), writtenType(codeType(codeType(of27)))
	s30 := writtenType(codesOf(3, of27))
	for k, s := range []string{s28, s29, s30} {
		if sizeOfWritten(s) != 28+k || !isTypeText(s) {
			t.Fatalf("a type has %d nodes, want %d", sizeOfWritten(s), 28+k)
		}
	}
	expectTypings(t, []typingCase{
		{"x:" + s30 + "@0", "x", 0, s30},
		{"x:" + s29 + "@1", "<x>", 0, "<" + s29 + ">"},
		{"x:" + s30 + "@1", "<x>", 0, ""},
		{"x:" + s28 + "@2", "<<x>>", 0, "<<" + s28 + ">>"},
		{"x:" + s29 + "@2", "<<x>>", 0, ""},
		{"", "(\\y:" + s28 + ".1)", 0, "(" + s28 + ">I)"},
		{"", "(\\y:" + s29 + ".1)", 0, ""},
		{"x:" + s28 + "@0", "(\\y:B.x)", 0, "(B>" + s28 + ")"},
		{"x:" + s29 + "@0", "(\\y:B.x)", 0, ""},
		{"", "(rec f y:" + s28 + ">I.(f y))", 0, "(" + s28 + ">I)"},
		{"", "(rec f y:" + s29 + ">I.(f y))", 0, ""},
		{"", "(rec f y:I>" + s29 + ".(f y))", 0, ""},
		{"x:" + s28 + "@0", "((\\y:" + s28 + ".1) x)", 0, "I"},
		{"x:" + s29 + "@0", "((\\y:" + s29 + ".1) x)", 0, ""},
		{"x:" + s30 + "@0", "(let y=x 1)", 0, "I"},
		{"x:" + s30 + "@1", "(let y=<x> 1)", 0, ""},
		{"x:" + s30 + "@0", "(run <(if #t 1 2)>)", 0, "I"},
	})
}

// TestTypesInEachPart has each form with parts of each of some types, and counts how often there is a type.
func TestTypesInEachPart(t *testing.T) {
	types := []string{"I", "B", "(I>I)", "(B>I)", "<I>", "<B>", "<<I>>", "<(I>I)>"}
	for n := 0; n <= highestLevel; n++ {
		for level := 0; level <= highestLevel; level++ {
			var ctx []impl.Typing
			var parts []impl.Term
			for k, of := range types {
				name := "v" + strconv.Itoa(k)
				ctx = append(ctx, impl.Typing{Name: name, Type: typeFrom(of), Level: level})
				parts = append(parts, variable(name))
			}
			for form, terms := range formsOfParts(types, parts) {
				count := 0
				for _, e := range terms {
					want := typesByLevel(ctx, e)[n]
					expectTypeOf(t, ctx, e, n, writtenTerm(e), want)
					if want != "" {
						count++
					}
				}
				if want := countOfTyped(form, n, level); count != want {
					t.Errorf("%d terms of the form %q at level %d have a type, want %d", count, form, n, want)
				}
			}
		}
	}
}

// formsOfParts returns terms by what stands for their form.
func formsOfParts(types []string, parts []impl.Term) map[string][]impl.Term {
	forms := map[string][]impl.Term{"x": parts}
	add := func(form string, e impl.Term) { forms[form] = append(forms[form], e) }
	for _, a := range parts {
		for form, e := range map[string]impl.Term{"!": operation("!", a), "code": quoteTerm(a), "splice": spliceTerm(a), "run": runTerm(a), "lift": liftTerm(a)} {
			add(form, e)
		}
		for _, of := range types {
			add("function", function("x", typeFrom(of), a))
			for _, to := range types {
				add("recursive", recursive("f", "x", typeFrom(of), typeFrom(to), a))
			}
		}
		for _, b := range parts {
			for _, op := range operations()[:7] {
				add(op, operation(op, a, b))
			}
			add("application", application(a, b))
			add("let", letTerm("x", a, b))
			for _, c := range parts {
				add("choice", choice(a, b, c))
			}
		}
	}
	return forms
}

// countOfTyped is for terms at level n with parts that are variables of a level, of the types of TestTypesInEachPart.
func countOfTyped(form string, n, level int) int {
	switch {
	case form == "code" && level == n+1:
		return 8
	case form == "splice" && level == n-1:
		return 4
	case form == "code" || form == "splice" || form == "run" || level != n:
		return 0
	case slices.Contains(operations(), form):
		return 1
	}
	return map[string]int{"x": 8, "choice": 8, "function": 64, "application": 2, "let": 64, "recursive": 64, "lift": 2}[form]
}

// expectAllTyped checks every term in every context, and returns how many types and programs there are.
func expectAllTyped(t *testing.T, terms []impl.Term, contexts []string) (typed, programs int) {
	t.Helper()
	for _, e := range terms {
		program := isProgramByRules(e)
		expectProgram(t, e, program)
		if program {
			programs++
		}
		for _, ctx := range contexts {
			typed += expectTyped(t, typings(ctx), e)
		}
	}
	return typed, programs
}

// ctxTexts are contexts for the terms of few nodes.
func ctxTexts() []string {
	return []string{"", "x:I@0", "x:B@0 iff:I@0", "x:<I>@0 iff:B@0", "x:(<I>>I)@0 iff:<I>@0", "x:I@1", "x:<I>@1 iff:I@0", "x:<<B>>@0 x:I@2", "x:(I>I)@0 iff:I@1"}
}

func TestTypesOfEveryTermOfFewNodes(t *testing.T) {
	typed, programs := expectAllTyped(t, termsOfFewNodes(4), ctxTexts())
	if typed < 1000 || programs < 100 {
		t.Errorf("%d types and %d programs are too few", typed, programs)
	}
}

// chainsOfStages returns every term of up to so many nodes in a row, made of functions, "let" and what belongs to stages.
func chainsOfStages(nodes int) []impl.Term {
	forms := []func(impl.Term) impl.Term{
		quoteTerm, spliceTerm, runTerm, liftTerm,
		func(e impl.Term) impl.Term { return function("x", intType(), e) },
		func(e impl.Term) impl.Term { return letTerm("x", quoteTerm(number(1)), e) },
	}
	last := []impl.Term{variable("x"), number(1)}
	all := slices.Clone(last)
	for range nodes - 1 {
		var longer []impl.Term
		for _, e := range last {
			for _, form := range forms {
				longer = append(longer, form(e))
			}
		}
		last = longer
		all = append(all, last...)
	}
	return all
}

func TestTypesOfEveryChainOfStages(t *testing.T) {
	typed, programs := expectAllTyped(t, chainsOfStages(6), []string{"", "x:I@0", "x:I@1", "x:<I>@0"})
	if typed < 1000 || programs < 300 {
		t.Errorf("%d types and %d programs are too few", typed, programs)
	}
}

// lets binds so many names, each to the one before, and the first one to e; names yields the name with a number.
func lets(count int, name func(k int) string, e, body impl.Term) impl.Term {
	for k := count - 1; k >= 0; k-- {
		to := e
		if k > 0 {
			to = variable(name(k - 1))
		}
		body = letTerm(name(k), to, body)
	}
	return body
}

// TestTypesInFullContexts has contexts of MaxCtx typings, and terms that bind more names.
func TestTypesInFullContexts(t *testing.T) {
	ctx := fullCtx(12)
	newName := func(k int) string { return "m" + strconv.Itoa(k) }
	sameName := func(k int) string { return "n" + strconv.Itoa(k%12) }
	for k, typing := range ctx {
		n, of := typing.Level, writtenType(typing.Type)
		for _, count := range []int{0, 1, 2, 12, 13, 100} {
			expectTypeOf(t, ctx, lets(count, newName, number(1), variable(typing.Name)), n, "new names", of)
			expectTypeOf(t, ctx, lets(count+1, newName, variable(typing.Name), variable(newName(count))), n, "new names for a name", of)
		}
		hidden := lets(k+1, sameName, variable(typing.Name), variable(typing.Name))
		expectTypeOf(t, ctx, hidden, n, "the same names", of)
		expectTypeOf(t, ctx, lets(100, sameName, boolean(1), hidden), n, "the same names twice", "B")
		expectTyped(t, ctx, hidden)
		expectTyped(t, ctx[:k], variable(typing.Name))
		expectTyped(t, append(fullCtx(12), typing), variable(typing.Name)) // one typing more
	}
	functions := nested(func(e impl.Term) impl.Term { return application(function("m", intType(), e), number(1)) }, 20, operation("+", variable("m"), variable("n0")))
	expectTypeOf(t, ctx, functions, 0, "functions", "I")
	expectTypeOf(t, append(ctx, ctx[0]), functions, 0, "functions", "")
}

// typedOfSize returns a term of the type of numbers with so many nodes that is not deep. With two nodes, there is none.
func typedOfSize(size int) impl.Term {
	if size == 1 {
		return number(7)
	}
	if size%2 == 0 {
		return choice(boolean(1), number(7), typedOfSize(size-3))
	}
	left := (size-1)/4*2 + 1
	return operation("*", typedOfSize(left), typedOfSize(size-1-left))
}

func TestProgramsOfEachSize(t *testing.T) {
	for _, size := range []int{1, 3, 4, 40, 41, 78, 79, 80, 81, 82, 83, 160, 161, 1000, 1001} {
		e := typedOfSize(size)
		if impl.SizeOf(e) != size || impl.DepthOf(e) > 18 {
			t.Fatalf("a term has %d nodes and a depth of %d, want %d nodes", impl.SizeOf(e), impl.DepthOf(e), size)
		}
		expectTyped(t, nil, e)
		expectTypeOf(t, nil, e, 0, "a term of "+strconv.Itoa(size)+" nodes", "I")
		expectProgram(t, e, size <= 80)
		expectProgram(t, operation("+", e, number(1)), size <= 78)
		expectProgram(t, operation("+", e, variable("x")), false)
		expectProgram(t, operation("+", e, boolean(1)), false)
	}
}

func TestProgramsOfEachDepth(t *testing.T) {
	for _, depth := range []int{1, 2, 19, 20, 21, 22, 30, 100} {
		for k, form := range formsOfNumbers() {
			e := number(1)
			for depthByParts(form.around(e)) <= depth {
				e = form.around(e)
			}
			for depthByParts(e) < depth {
				e = operation("+", e, number(1))
			}
			if strings.Contains(form.levels, "0") {
				expectTypeOf(t, nil, e, 0, "a term of depth "+strconv.Itoa(depth)+" and form "+strconv.Itoa(k), "I")
				expectProgram(t, e, depth <= 20 && sizeByParts(e) <= 80)
				expectProgram(t, application(function("x", intType(), variable("x")), e), depth <= 19 && sizeByParts(e) <= 77)
			}
		}
	}
}

// A formOfNumbers takes a part of the type of numbers to a term of this type, at the same level, if that is one of levels.
type formOfNumbers struct {
	levels string
	around func(impl.Term) impl.Term
}

func formsOfNumbers() []formOfNumbers {
	i, x, one, two := intType(), variable("y"), number(1), number(2)
	fun := funType(i, i)
	return []formOfNumbers{
		{"012", func(e impl.Term) impl.Term { return operation("+", e, one) }},
		{"012", func(e impl.Term) impl.Term { return operation("-", one, e) }},
		{"012", func(e impl.Term) impl.Term { return choice(operation("<", e, one), one, two) }},
		{"012", func(e impl.Term) impl.Term { return choice(operation("!", operation("=", two, e)), one, two) }},
		{"012", func(e impl.Term) impl.Term { return choice(boolean(0), e, one) }},
		{"012", func(e impl.Term) impl.Term { return choice(boolean(0), one, e) }},
		{"012", func(e impl.Term) impl.Term { return application(function("y", i, x), e) }},
		{"012", func(e impl.Term) impl.Term { return application(function("y", i, e), one) }},
		{"012", func(e impl.Term) impl.Term { return application(function("y", fun, e), function("x", i, one)) }},
		{"012", func(e impl.Term) impl.Term { return letTerm("y", e, x) }},
		{"012", func(e impl.Term) impl.Term { return letTerm("y", one, e) }},
		{"012", func(e impl.Term) impl.Term { return application(recursive("f", "y", i, i, e), one) }},
		{"012", func(e impl.Term) impl.Term {
			return application(recursive("f", "y", i, i, application(variable("f"), x)), e)
		}},
		{"012", func(e impl.Term) impl.Term { return runTerm(liftTerm(e)) }},
		{"01", func(e impl.Term) impl.Term { return runTerm(quoteTerm(spliceTerm(liftTerm(e)))) }},
		{"12", func(e impl.Term) impl.Term { return spliceTerm(quoteTerm(e)) }},
		{"01", func(e impl.Term) impl.Term {
			return letTerm("c", quoteTerm(one), runTerm(quoteTerm(application(function("y", i, x), spliceTerm(liftTerm(e))))))
		}},
	}
}

func TestWhatIsNoProgram(t *testing.T) {
	for _, s := range []string{
		"x", "(\\x:I.y)", "(let x=x 1)", "<x>", "(run <x>)", "((\\x:I.x) x)", "<(\\x:I.~y)>", "(rec f x:I>I.g)", // free variables
		"(1+#t)", "(1 2)", "(lift <1>)", "(if 1 2 3)", "(\\x:I.<x>)", "<(\\x:I.~x)>", "(let c=<1> (run c))", "(rec f x:I>B.1)", // closed
		"~<1>", "<<<1>>>", // other levels
	} {
		e := parsed(t, s)
		if !impl.IsValidTerm(e) {
			t.Fatalf("%s is not valid", s)
		}
		expectProgram(t, e, false)
		expectTypeOf(t, nil, e, 0, s, "")
	}
	for _, n := range []int{-1, 10007, math.MaxInt64, math.MinInt64} {
		expectProgram(t, number(n), false)
		expectProgram(t, letTerm("x", number(n), number(1)), false)
		expectTypeOf(t, nil, number(n), 0, "no number", "")
		expectTypeOf(t, nil, letTerm("x", number(1), quoteTerm(number(n))), 0, "no number in code", "")
	}
	for _, s := range otherNames() {
		expectProgram(t, function(s, intType(), number(1)), false)
		expectProgram(t, letTerm(s, number(1), variable(s)), false)
		expectProgram(t, recursive("f", s, intType(), intType(), number(1)), false)
		expectTypeOf(t, nil, letTerm(s, number(1), variable(s)), 0, "no name", "")
	}
	for _, s := range []string{"f", "x", "abcd"} {
		expectProgram(t, recursive(s, s, intType(), intType(), variable(s)), false)
		expectTypeOf(t, nil, recursive(s, s, intType(), intType(), variable(s)), 0, "one name twice", "")
	}
}

// TestTypesOfWhatIsNoTerm has values that are no terms, alone and in a part, even in one that is not used.
func TestTypesOfWhatIsNoTerm(t *testing.T) {
	x, i := variable("x"), intType()
	wholes := []func(impl.Term) impl.Term{
		func(e impl.Term) impl.Term { return e },
		func(e impl.Term) impl.Term { return operation("+", e, number(1)) },
		func(e impl.Term) impl.Term { return choice(boolean(1), number(1), e) },
		func(e impl.Term) impl.Term { return letTerm("y", function("x", i, e), number(1)) },
		func(e impl.Term) impl.Term { return quoteTerm(spliceTerm(letTerm("y", e, quoteTerm(number(1))))) },
		func(e impl.Term) impl.Term { return runTerm(letTerm("y", e, quoteTerm(x))) },
	}
	for _, fault := range faultyTerms() {
		for _, whole := range wholes {
			e := whole(fault)
			if isTermByForms(e) {
				t.Fatalf("the test takes %s for a term", textOfTerm(e))
			}
			expectTyped(t, nil, e)
			expectTyped(t, typings("x:I@0 y:<I>@0"), e)
			expectTyped(t, typings("x:I@1"), e)
			expectProgram(t, e, false)
		}
	}
}

// TestTypesOfTermsWithEmptySlices has empty slices in the place of nil ones.
func TestTypesOfTermsWithEmptySlices(t *testing.T) {
	i := impl.Type{Kind: impl.TyInt, Args: []impl.Type{}}
	none := impl.Type{Args: []impl.Type{}}
	x := impl.Term{Kind: impl.TmVar, Name: "x", Type: none, Res: none, Args: []impl.Term{}}
	ctx := []impl.Typing{{Name: "x", Type: i}}
	expectCtx(t, ctx, true)
	expectSafe(t, ctx, 0)
	expectTypeOf(t, ctx, operation("+", x, number(1)), 0, "a sum", "I")
	expectTypeOf(t, ctx, runTerm(liftTerm(x)), 0, "what is run", "I")
	expectTypeOf(t, []impl.Typing{}, application(function("x", i, x), number(1)), 0, "an application", "I")
	expectTypeOf(t, nil, application(function("x", intType(), x), letTerm("x", number(1), x)), 0, "an application", "I")
	expectTypeOf(t, nil, recursive("f", "x", i, intType(), x), 0, "a recursive function", "(I>I)")
	expectProgram(t, choice(boolean(1), function("x", i, x), function("x", intType(), x)), true)
}

// A maker makes random terms that have a type.
type maker struct{ *rand.Rand }

func (m maker) oneOf(list ...string) string { return list[m.Intn(len(list))] }

func (m maker) name() string { return m.oneOf("x", "y", "z", "f", "c") }

func (m maker) typeText() string {
	return m.oneOf("I", "I", "B", "<I>", "<I>", "<B>", "(I>I)", "(I>B)", "(<I>><I>)", "<<I>>", "<(I>I)>")
}

// term returns a term of the type at level n in the context, with about so many nodes.
func (m maker) term(ctx []written, of string, n, size int) impl.Term {
	ways := append(m.leaves(ctx, of, n), m.introductions(ctx, of, n, size-1)...)
	if size > 1 && depthOfWritten(of) <= 4 {
		ways = append(ways, m.operations(ctx, of, n, size-1)...)
		ways = append(ways, m.eliminations(ctx, of, n, size-1)...)
	}
	if len(ways) == 0 {
		// A function that calls itself can have any result.
		return application(recursive("f", "x", intType(), typeFrom(of), application(variable("f"), variable("x"))), number(1))
	}
	return ways[m.Intn(len(ways))]()
}

func (m maker) leaves(ctx []written, of string, n int) []func() impl.Term {
	var ways []func() impl.Term
	for k, w := range ctx {
		hidden := slices.ContainsFunc(ctx[k+1:], func(other written) bool { return other.name == w.name })
		if !hidden && w.of == of && w.level == n {
			ways = append(ways, func() impl.Term { return variable(w.name) }, func() impl.Term { return variable(w.name) })
		}
	}
	switch of {
	case "I":
		ways = append(ways, func() impl.Term { return number(m.Intn(10007)) })
	case "B":
		ways = append(ways, func() impl.Term { return boolean(m.Intn(2)) })
	}
	return ways
}

// introductions are the forms of functions and of code.
func (m maker) introductions(ctx []written, of string, n, size int) []func() impl.Term {
	var ways []func() impl.Term
	t := typeFrom(of)
	switch t.Kind {
	case impl.TyFun:
		from, to := writtenType(t.Args[0]), writtenType(t.Args[1])
		ways = append(ways, func() impl.Term {
			name := m.name()
			return function(name, t.Args[0], m.term(append(slices.Clone(ctx), written{name, from, n}), to, n, size))
		}, func() impl.Term {
			name, other := m.oneOf("f", "g"), m.oneOf("x", "y", "c")
			inner := append(slices.Clone(ctx), written{name, of, n}, written{other, from, n})
			return recursive(name, other, t.Args[0], t.Args[1], m.term(inner, to, n, size))
		})
	case impl.TyCode:
		part := writtenType(t.Args[0])
		if n < highestLevel {
			ways = append(ways, func() impl.Term { return quoteTerm(m.term(ctx, part, n+1, size)) })
		}
		if part == "I" || part == "B" {
			ways = append(ways, func() impl.Term { return liftTerm(m.term(ctx, part, n, size)) })
		}
	}
	return ways
}

func (m maker) operations(ctx []written, of string, n, size int) []func() impl.Term {
	var ways []func() impl.Term
	for _, op := range operations() {
		parts := strings.Fields(signatures()[op])
		taken := parts[:len(parts)-1]
		if parts[len(taken)] == of {
			ways = append(ways, func() impl.Term {
				var args []impl.Term
				for _, part := range taken {
					args = append(args, m.term(ctx, part, n, size/len(taken)))
				}
				return operation(op, args...)
			})
		}
	}
	return ways
}

// eliminations are the forms that any type can have.
func (m maker) eliminations(ctx []written, of string, n, size int) []func() impl.Term {
	ways := []func() impl.Term{
		func() impl.Term {
			return choice(m.term(ctx, "B", n, size/3), m.term(ctx, of, n, size/3), m.term(ctx, of, n, size/3))
		},
		func() impl.Term {
			from := m.typeText()
			return application(m.term(ctx, "("+from+">"+of+")", n, size/2), m.term(ctx, from, n, size/2))
		},
		func() impl.Term {
			name, to := m.name(), m.typeText()
			return letTerm(name, m.term(ctx, to, n, size/2), m.term(append(slices.Clone(ctx), written{name, to, n}), of, n, size/2))
		},
		func() impl.Term { return runTerm(m.term(safeByText(ctx, n), "<"+of+">", n, size)) },
	}
	if n > 0 {
		splice := func() impl.Term { return spliceTerm(m.term(ctx, "<"+of+">", n-1, size)) }
		ways = append(ways, splice, splice)
	}
	return ways
}

// changed returns e with a change somewhere, after which it may or may not have a type.
func (m maker) changed(e impl.Term) impl.Term {
	if len(e.Args) > 0 && m.Intn(4) > 0 {
		k := m.Intn(len(e.Args))
		e.Args = slices.Clone(e.Args)
		e.Args[k] = m.changed(e.Args[k])
		return e
	}
	changes := []impl.Term{variable(m.name()), number(3), boolean(1), runTerm(e), liftTerm(e), quoteTerm(e), spliceTerm(e), runTerm(quoteTerm(e)), runTerm(liftTerm(e)), letTerm(m.name(), number(1), e), letTerm(m.name(), e, variable(m.name()))}
	if len(e.Args) > 0 {
		changes = append(changes, e.Args[m.Intn(len(e.Args))])
	}
	if e.Kind == impl.TmLam || e.Kind == impl.TmRec || e.Kind == impl.TmLet {
		renamed := e
		renamed.Name = m.oneOf("x", "y", "z", "f", "c")
		changes = append(changes, renamed)
	}
	if e.Kind == impl.TmLam || e.Kind == impl.TmRec {
		other := e
		other.Type = typeFrom(m.typeText())
		changes = append(changes, other)
	}
	return changes[m.Intn(len(changes))]
}

func (m maker) context() []written {
	var ctx []written
	for range m.Intn(6) {
		ctx = append(ctx, written{m.name(), m.typeText(), m.Intn(3)})
	}
	return ctx
}

func TestTypesOfRandomTerms(t *testing.T) {
	m := maker{rand.New(rand.NewSource(9))}
	kinds, programs := map[int]int{}, 0
	for round := range 6000 {
		ctx, of, n := m.context(), m.typeText(), m.Intn(3)
		if round%3 == 0 {
			ctx, n = nil, 0
		}
		e := m.term(ctx, of, n, 1+m.Intn(40))
		expectTypeOf(t, typingsOf(ctx), e, n, writtenTerm(e), of)
		expectTyped(t, typingsOf(ctx), e)
		program := isProgramByRules(e)
		expectProgram(t, e, program)
		if program {
			programs++
		}
		forLevels(e, n, func(node impl.Term, level int) { kinds[node.Kind+100*level]++ })
	}
	if programs < 1500 {
		t.Errorf("%d programs are too few", programs)
	}
	for kind := 1; kind <= 13; kind++ {
		for level := range 3 {
			if possible := (kind != 10 || level < 2) && (kind != 11 || level > 0); possible && kinds[kind+100*level] < 100 {
				t.Errorf("%d terms of kind %d at level %d are too few", kinds[kind+100*level], kind, level)
			}
		}
	}
}

// TestTypesOfChangedTerms has terms that mostly have no type, for one reason alone.
func TestTypesOfChangedTerms(t *testing.T) {
	m := maker{rand.New(rand.NewSource(10))}
	typed, programs, others := 0, 0, 0
	for range 12000 {
		ctx, n := m.context(), m.Intn(3)
		e := m.term(ctx, m.typeText(), n, 1+m.Intn(20))
		for range 1 + m.Intn(2) {
			e = m.changed(e)
		}
		program := isProgramByRules(e)
		expectProgram(t, e, program)
		if program {
			programs++
		}
		if expectTyped(t, typingsOf(ctx), e) > 0 {
			typed++
		} else {
			others++
		}
	}
	if typed < 3000 || others < 3000 || programs < 300 {
		t.Errorf("%d terms with a type, %d without and %d programs are too few", typed, others, programs)
	}
}

func TestTypesOfDeepTerms(t *testing.T) {
	const times = 50000
	for k, form := range formsOfNumbers() {
		name := "deep term of form " + strconv.Itoa(k)
		deep := nested(form.around, times, operation("+", variable("x"), number(1)))
		withLittleStack(func() {
			for n := 0; n <= highestLevel; n++ {
				of := ""
				if strings.Contains(form.levels, strconv.Itoa(n)) {
					of = "I"
				}
				expectTypeOf(t, []impl.Typing{{Name: "x", Type: intType(), Level: n}}, deep, n, name, of)
				expectTypeOf(t, []impl.Typing{{Name: "x", Type: boolType(), Level: n}}, deep, n, name, "")
			}
			expectTypeOf(t, typings("x:I@2"), deep, 1, name, "")
			expectTypeOf(t, nil, deep, 1, name, "")
			if impl.IsProgram(deep) {
				t.Errorf("a %s is a program", name)
			}
		})
	}
	for k, context := range contexts() {
		deep := nested(context, times, variable("x"))
		withLittleStack(func() {
			want := typesByLevel(typings("x:I@1"), nested(context, 10, variable("x")))[1]
			expectTypeOf(t, typings("x:I@1"), deep, 1, "deep term of context "+strconv.Itoa(k), want)
		})
	}
}

// shortName returns names of up to four letters and digits, all of them different.
func shortName(k int) string { return "n" + strconv.FormatInt(int64(k), 36) }

// TestTypesOfTermsThatBindManyNames has many names around "run", which may use some of them.
func TestTypesOfTermsThatBindManyNames(t *testing.T) {
	const many = 40000
	types := map[string]impl.Term{"I": number(1), "B": boolean(1), "<I>": quoteTerm(number(1)), "(I>I)": function("x", intType(), variable("x"))}
	for of, e := range types {
		last := variable(shortName(many - 1))
		expectTypeOf(t, nil, lets(many, shortName, e, last), 0, "many names", of)
		safe := map[string]string{"I": "I", "B": "B"}[of]
		expectTypeOf(t, nil, lets(many, shortName, e, runTerm(quoteTerm(spliceTerm(liftTerm(last))))), 0, "many names around run", safe)
		expectTypeOf(t, nil, lets(many, shortName, e, runTerm(letTerm("y", last, quoteTerm(number(1))))), 0, "many names around run", map[string]string{"I": "I", "B": "I"}[of])
	}
	// Between two "run", one name is bound, and below all of them the first or the last name is used.
	for _, of := range []string{"I", "<I>"} {
		for _, used := range []int{0, many / 2, many - 1} {
			body := letTerm("y", variable(shortName(used)), number(1))
			for k := many - 1; k >= 0; k-- {
				body = runTerm(letTerm(shortName(k), types[of], liftTerm(body)))
			}
			want := "I"
			if of == "<I>" && used < many-1 {
				want = ""
			}
			expectTypeOf(t, nil, body, 0, "a name around many run", want)
		}
	}
}

func TestTypesOfWideTerms(t *testing.T) {
	const times = 16
	ctx := typings("x:I@0 c:<I>@0 y:I@1")
	sums := nested(doubled, times, variable("x"))
	expectTypeOf(t, ctx, sums, 0, "a wide sum", "I")
	expectTypeOf(t, ctx, sums, 1, "a wide sum", "")
	expectTypeOf(t, ctx, operation("+", sums, boolean(1)), 0, "a wide sum and a boolean", "")
	expectTypeOf(t, ctx, quoteTerm(nested(doubled, times, spliceTerm(variable("c")))), 0, "many splices", "<I>")
	expectTypeOf(t, ctx, quoteTerm(operation("+", nested(doubled, times, variable("y")), spliceTerm(variable("x")))), 0, "a wide sum and a splice", "")
	expectTypeOf(t, ctx, nested(doubled, times, runTerm(liftTerm(variable("x")))), 0, "many run", "I")
	expectTypeOf(t, ctx, operation("+", nested(doubled, times, runTerm(liftTerm(variable("x")))), runTerm(variable("c"))), 0, "many run", "")
	expectTypeOf(t, ctx, nested(doubled, times, letTerm("x", boolean(1), choice(variable("x"), number(1), number(2)))), 0, "many names", "I")
	if impl.IsProgram(nested(doubled, times, number(1))) {
		t.Error("a wide sum is a program")
	}
	for kind := -1; kind <= 15; kind++ {
		wide := impl.Term{Kind: kind, Name: "+", Args: slices.Repeat([]impl.Term{number(1)}, 100000)}
		expectTypeOf(t, ctx, wide, 0, "a wide value of kind "+strconv.Itoa(kind), "")
		if impl.IsProgram(wide) {
			t.Errorf("a wide value of kind %d is a program", kind)
		}
	}
}

func TestHugeTermsAreNoPrograms(t *testing.T) {
	for k, e := range hugeTerms() {
		if impl.IsProgram(e) {
			t.Errorf("huge term %d is a program", k)
		}
	}
	hugeType := intType()
	for range 200 {
		hugeType = funType(hugeType, codeType(hugeType))
	}
	for _, e := range slices.Concat(termsWithType(hugeType), termsWithType(codesOf(200000, intType()))) {
		withLittleStack(func() {
			expectTypeOf(t, nil, e, 0, "a term with a huge type", "")
			if impl.IsProgram(e) {
				t.Errorf("a term of kind %d with a huge type is a program", e.Kind)
			}
		})
	}
	code := quoteTerm(number(1))
	code.Args[0] = code
	expectTypeOf(t, nil, code, 0, "code that contains itself", "")
}

// ctxWithCapacity returns a copy of ctx in which it, and the Args of types, have an unused part.
func ctxWithCapacity(ctx []impl.Typing) []impl.Typing {
	list := make([]impl.Typing, 0, len(ctx)+2)
	for _, typing := range ctx {
		typing.Type = withCapacity(typing.Type)
		list = append(list, typing)
	}
	for k := range list[len(list):cap(list)] {
		list[:cap(list)][len(list)+k] = impl.Typing{Name: "x", Type: withCapacity(boolType()), Level: 1}
	}
	return list
}

func ctxTextWithCapacity(ctx []impl.Typing) string {
	text := ""
	for k, typing := range ctx[:cap(ctx)] {
		if k == len(ctx) {
			text += "|"
		}
		text += strconv.Quote(typing.Name) + textWithCapacity(typing.Type) + strconv.Itoa(typing.Level)
	}
	return text
}

// memoryCases are terms whose types come from the context, from themselves, or from both.
func memoryCases() []typingCase {
	ctx := "x:(<I>>(B>I))@0 c:<<I>>@0 x:(I><B>)@0 y:I@1 n:I@0 k:B@0"
	return []typingCase{
		{ctx, "x", 0, "(I><B>)"},
		{ctx, "n", 0, "I"},
		{ctx, "(\\y:(I><B>).x)", 0, "((I><B>)>(I><B>))"},
		{ctx, "(\\y:(I><B>).y)", 0, "((I><B>)>(I><B>))"},
		{ctx, "(\\y:I.(\\z:I.x))", 0, "(I>(I>(I><B>)))"},
		{ctx, "(rec f y:<I>>(I><B>).x)", 0, "(<I>>(I><B>))"},
		{ctx, "(rec f y:(I>I)>(I>I).y)", 0, "((I>I)>(I>I))"},
		{ctx, "(if #t x x)", 0, "(I><B>)"},
		{ctx, "(let y=x y)", 0, "(I><B>)"},
		{ctx, "(let y=(\\z:(I><B>).x) (y x))", 0, "(I><B>)"},
		{ctx, "<(~~<c>+y)>", 0, ""},
		{ctx, "~c", 1, "<I>"},
		{ctx, "<~c>", 0, "<<I>>"},
		{ctx, "<<~~c>>", 0, "<<I>>"},
		{ctx, "(run <(\\y:(I>I).(\\z:(I>I).y))>)", 0, "((I>I)>((I>I)>(I>I)))"},
		{ctx, "(run (lift (n+1)))", 0, "I"},
		{ctx, "(lift n)", 0, "<I>"},
		{ctx, "(1+#t)", 0, ""},
	}
}

func TestTypingKeepsContextsAndTerms(t *testing.T) {
	for _, c := range memoryCases() {
		ctx, e := ctxWithCapacity(typings(c.ctx)), termWithCapacity(parsed(t, c.of))
		before, beforeTerm := ctxTextWithCapacity(ctx), termTextWithCapacity(e)
		expectTypeOf(t, ctx, e, c.n, c.of, c.want)
		expectTyped(t, ctx, e)
		expectProgram(t, e, isProgramByRules(e))
		expectCtx(t, ctx, true)
		for n := -1; n <= 3; n++ {
			expectSafe(t, ctx, n)
		}
		if got := ctxTextWithCapacity(ctx); got != before {
			t.Errorf("%s became %s", before, got)
		}
		if got := termTextWithCapacity(e); got != beforeTerm {
			t.Errorf("%s became %s", beforeTerm, got)
		}
	}
}

func TestTypesShareNoMemory(t *testing.T) {
	for _, c := range memoryCases() {
		ctx, e := ctxWithCapacity(typings(c.ctx)), termWithCapacity(parsed(t, c.of))
		before, beforeTerm := ctxTextWithCapacity(ctx), termTextWithCapacity(e)
		first, _ := impl.TypeOf(ctx, e, c.n)
		second, _ := impl.TypeOf(ctx, e, c.n)
		want := textOfType(second)
		overwrite(&first)
		if ctxTextWithCapacity(ctx) != before || termTextWithCapacity(e) != beforeTerm {
			t.Errorf("TypeOf of %s shares memory with its arguments", c.of)
		}
		for k := range ctx {
			overwrite(&ctx[k].Type)
		}
		overwriteTerm(&e)
		if textOfType(second) != want {
			t.Errorf("TypeOf of %s shares memory with its arguments or with another result", c.of)
		}
	}
}

func TestPartsOfTypesShareNothing(t *testing.T) {
	for _, c := range memoryCases() {
		for side := range 2 {
			of, _ := impl.TypeOf(typings(c.ctx), parsed(t, c.of), c.n)
			if len(of.Args) < 2 {
				continue
			}
			want := textOfType(of.Args[1-side])
			overwrite(&of.Args[side])
			if textOfType(of.Args[1-side]) != want {
				t.Errorf("the parts of the type of %s share memory", c.of)
			}
		}
	}
}

func TestSafeContextsShareNoMemory(t *testing.T) {
	for _, s := range []string{"x:I@0 y:B@0 z:I@1 c:<I>@0 x:B@1", "x:I@0", "x:<I>@0", ""} {
		ctx := ctxWithCapacity(typings(s))
		before := ctxTextWithCapacity(ctx)
		first, second := impl.SafeCtx(ctx, 1), impl.SafeCtx(ctx, 1)
		want := textOfCtx(second)
		overwriteCtx(first)
		if ctxTextWithCapacity(ctx) != before {
			t.Errorf("SafeCtx(%s, 1) shares memory with its argument", s)
		}
		overwriteCtx(ctx)
		if textOfCtx(second) != want {
			t.Errorf("SafeCtx(%s, 1) shares memory with its argument or with another result", s)
		}
	}
}

// overwriteCtx changes every typing, and what is behind the end.
func overwriteCtx(ctx []impl.Typing) {
	whole := ctx[:cap(ctx)]
	for k := range whole {
		overwrite(&whole[k].Type)
		whole[k].Name, whole[k].Level = "over", 77
	}
}
