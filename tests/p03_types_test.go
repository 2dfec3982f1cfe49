package tests

import (
	"math"
	"runtime/debug"
	"slices"
	"strconv"
	"strings"
	"testing"

	"loop.example/g00589/impl"
)

// Promise 3: erased types are plain.

const (
	largestType = 30
	deepestType = 8
)

func typeOf(kind int, args ...impl.Type) impl.Type { return impl.Type{Kind: kind, Args: args} }

func intType() impl.Type  { return impl.Type{Kind: impl.TyInt} }
func boolType() impl.Type { return impl.Type{Kind: impl.TyBool} }

func funType(from, to impl.Type) impl.Type { return typeOf(impl.TyFun, from, to) }
func codeType(of impl.Type) impl.Type      { return typeOf(impl.TyCode, of) }

// codesOf returns the code of code .. of t.
func codesOf(count int, t impl.Type) impl.Type {
	for range count {
		t = codeType(t)
	}
	return t
}

// fullType has functions in all but its last level.
func fullType(depth int) impl.Type {
	if depth == 1 {
		return intType()
	}
	return funType(fullType(depth-1), fullType(depth-1))
}

// textOfType differs for types that differ in any field, whether they are valid or not.
func textOfType(t impl.Type) string {
	text := strconv.Itoa(t.Kind) + "["
	for _, arg := range t.Args {
		text += textOfType(arg)
	}
	return text + "]"
}

// erasedText is the text of the type that the document says EraseType returns.
func erasedText(t impl.Type) string {
	text := ""
	for _, arg := range t.Args {
		text += erasedText(arg)
	}
	if t.Kind == impl.TyCode && len(t.Args) == 1 {
		return text
	}
	return strconv.Itoa(t.Kind) + "[" + text + "]"
}

func sizeByText(t impl.Type) int { return strings.Count(textOfType(t), "[") }

func depthByText(t impl.Type) int {
	open, greatest := 0, 0
	for _, r := range textOfType(t) {
		if r == '[' {
			open++
		}
		if r == ']' {
			open--
		}
		greatest = max(greatest, open)
	}
	return greatest
}

// wellFormed reports what IsValidType does, but for the limits.
func wellFormed(t impl.Type) bool {
	counts := map[int]int{1: 0, 2: 0, 3: 2, 4: 1}
	count, known := counts[t.Kind]
	return known && count == len(t.Args) && !slices.ContainsFunc(t.Args, func(arg impl.Type) bool { return !wellFormed(arg) })
}

func validByText(t impl.Type) bool {
	return wellFormed(t) && sizeByText(t) <= largestType && depthByText(t) <= deepestType
}

func plainByText(t impl.Type) bool {
	return validByText(t) && !strings.Contains(textOfType(t), "4[")
}

// expectType checks every function of one type against what the document says of it.
func expectType(t *testing.T, x impl.Type) {
	t.Helper()
	text := textOfType(x)
	if got := impl.SizeOfType(x); got != sizeByText(x) {
		t.Errorf("SizeOfType(%.80s) = %d, want %d", text, got, sizeByText(x))
	}
	if got := impl.DepthOfType(x); got != depthByText(x) {
		t.Errorf("DepthOfType(%.80s) = %d, want %d", text, got, depthByText(x))
	}
	if got := impl.IsValidType(x); got != validByText(x) {
		t.Errorf("IsValidType(%.80s) = %v", text, got)
	}
	if got := impl.IsBase(x); got != (text == "1[]" || text == "2[]") {
		t.Errorf("IsBase(%.80s) = %v", text, got)
	}
	if got := impl.IsPlainType(x); got != plainByText(x) {
		t.Errorf("IsPlainType(%.80s) = %v", text, got)
	}
	if !impl.EqualType(x, x) {
		t.Errorf("EqualType(%.80s) of it and itself = false", text)
	}
	expectErased(t, x)
	if textOfType(x) != text {
		t.Errorf("%.80s became %.80s", text, textOfType(x))
	}
}

func expectErased(t *testing.T, x impl.Type) {
	t.Helper()
	erased := impl.EraseType(x)
	if got := textOfType(erased); got != erasedText(x) {
		t.Errorf("EraseType(%.80s) = %.80s, want %.80s", textOfType(x), got, erasedText(x))
	}
	if impl.IsValidType(x) && !impl.IsPlainType(erased) {
		t.Errorf("EraseType(%.80s) = %.80s is not plain", textOfType(x), textOfType(erased))
	}
	if impl.IsPlainType(x) && !impl.EqualType(erased, x) {
		t.Errorf("EraseType(%.80s) = %.80s is another type", textOfType(x), textOfType(erased))
	}
	if !impl.EqualType(impl.EraseType(erased), erased) {
		t.Errorf("EraseType(%.80s) is not erased again to itself", textOfType(x))
	}
}

// listsOfTypes returns every list of up to three types of the given kinds, with so many nodes together.
func listsOfTypes(kinds []int, nodes, length int) [][]impl.Type {
	if nodes == 0 {
		return [][]impl.Type{nil}
	}
	var lists [][]impl.Type
	if length > 0 {
		for size := 1; size <= nodes; size++ {
			for _, first := range typesOf(kinds, size) {
				for _, rest := range listsOfTypes(kinds, nodes-size, length-1) {
					lists = append(lists, append([]impl.Type{first}, rest...))
				}
			}
		}
	}
	return lists
}

// typesOf returns every type of so many nodes, of the given kinds, and with up to three Args each.
func typesOf(kinds []int, nodes int) []impl.Type {
	var types []impl.Type
	for _, args := range listsOfTypes(kinds, nodes-1, 3) {
		for _, kind := range kinds {
			types = append(types, typeOf(kind, args...))
		}
	}
	return types
}

func typesUpTo(kinds []int, nodes int) []impl.Type {
	var types []impl.Type
	for n := 1; n <= nodes; n++ {
		types = append(types, typesOf(kinds, n)...)
	}
	return types
}

// validTypes returns every valid type of up to so many nodes (of which no limit is reached).
func validTypes(nodes int) []impl.Type {
	bySize := make([][]impl.Type, nodes+1)
	var all []impl.Type
	for n := 1; n <= nodes; n++ {
		if n == 1 {
			bySize[n] = []impl.Type{intType(), boolType()}
		}
		for _, of := range bySize[n-1] {
			bySize[n] = append(bySize[n], codeType(of))
		}
		for left := 1; left < n-1; left++ {
			for _, from := range bySize[left] {
				for _, to := range bySize[n-1-left] {
					bySize[n] = append(bySize[n], funType(from, to))
				}
			}
		}
		all = append(all, bySize[n]...)
	}
	return all
}

// around returns t inside functions and code, down to the given depth.
func around(t impl.Type) []impl.Type {
	list := []impl.Type{t}
	for i := 0; i < len(list) && len(list) < 40; i++ {
		list = append(list, codeType(list[i]), funType(list[i], boolType()), funType(intType(), list[i]))
	}
	return list
}

func TestTypeConstants(t *testing.T) {
	got := [6]int{impl.MaxTypeSize, impl.MaxTypeDepth, impl.TyInt, impl.TyBool, impl.TyFun, impl.TyCode}
	if want := [6]int{largestType, deepestType, 1, 2, 3, 4}; got != want {
		t.Errorf("the constants are %v, want %v", got, want)
	}
}

func TestSizeAndDepthOfType(t *testing.T) {
	i, b := intType(), boolType()
	cases := []struct {
		of          impl.Type
		size, depth int
	}{
		{i, 1, 1},
		{b, 1, 1},
		{impl.Type{}, 1, 1},
		{codeType(i), 2, 2},
		{codeType(codeType(i)), 3, 3},
		{funType(i, b), 3, 2},
		{funType(funType(i, b), b), 5, 3},
		{funType(i, funType(i, b)), 5, 3},
		{funType(codeType(codeType(i)), codeType(b)), 6, 4},
		{codeType(funType(i, funType(codeType(i), b))), 7, 5},
		{typeOf(impl.TyInt, i), 2, 2}, // not valid, but with nodes
		{typeOf(impl.TyFun), 1, 1},
		{typeOf(impl.TyCode, i, codeType(i), b), 5, 3},
		{typeOf(-1, codeType(i), i, i, i, i), 7, 3},
		{fullType(5), 31, 5},
		{codesOf(100, i), 101, 101},
	}
	for _, c := range cases {
		if size, depth := impl.SizeOfType(c.of), impl.DepthOfType(c.of); size != c.size || depth != c.depth {
			t.Errorf("%s has size %d and depth %d, want %d and %d", textOfType(c.of), size, depth, c.size, c.depth)
		}
	}
}

func TestEveryTypeOfFewNodes(t *testing.T) {
	for _, x := range typesUpTo([]int{0, 1, 2, 3, 4, 5}, 4) {
		expectType(t, x)
	}
	for _, x := range typesUpTo([]int{1, 3, 4}, 6) {
		expectType(t, x)
	}
	for _, x := range validTypes(8) {
		expectType(t, x)
	}
}

// typesOfOtherKinds returns types of none of the four kinds, and such types inside others.
func typesOfOtherKinds() []impl.Type {
	i := intType()
	var types []impl.Type
	for _, kind := range []int{0, 5, 6, 7, -1, -2, -3, -4, math.MaxInt64, math.MinInt64, math.MinInt64 + 1, 1 << 32, 1<<32 + 1, 257, 260} {
		for _, args := range [][]impl.Type{nil, {i}, {i, i}, {i, i, i}, {codeType(i)}, {codeType(i), codeType(i)}} {
			types = append(types, around(typeOf(kind, args...))...)
		}
	}
	return types
}

func TestOtherKinds(t *testing.T) {
	for _, x := range typesOfOtherKinds() {
		if impl.IsValidType(x) || impl.IsPlainType(x) || impl.IsBase(x) {
			t.Errorf("%s is valid, plain or base", textOfType(x))
		}
		expectType(t, x)
	}
}

// forNumbersOfArgs hands over types of the four kinds with proper and with other numbers of Args, and such types inside others.
func forNumbersOfArgs(see func(x impl.Type, proper bool)) {
	proper := map[int]int{impl.TyInt: 0, impl.TyBool: 0, impl.TyFun: 2, impl.TyCode: 1}
	for kind := 1; kind <= 4; kind++ {
		for count := range 5 {
			for _, part := range []impl.Type{intType(), boolType(), codeType(intType()), funType(intType(), intType())} {
				inner := typeOf(kind, slices.Repeat([]impl.Type{part}, count)...)
				for _, x := range append(around(inner), leaning("rlcrl", inner), leaning("ccccc", inner)) {
					see(x, count == proper[kind])
				}
			}
		}
	}
}

func TestNumbersOfArgs(t *testing.T) {
	forNumbersOfArgs(func(x impl.Type, proper bool) {
		if got := impl.IsValidType(x); got != proper {
			t.Errorf("IsValidType(%s) = %v", textOfType(x), got)
		}
		expectType(t, x)
	})
}

// leaning returns a type of the given depth whose functions, from the top, are nested at the sides named by sides ('l', 'r' or 'c' for code).
func leaning(sides string, leaf impl.Type) impl.Type {
	t := leaf
	for i := len(sides) - 1; i >= 0; i-- {
		switch sides[i] {
		case 'l':
			t = funType(t, boolType())
		case 'r':
			t = funType(intType(), t)
		default:
			t = codeType(t)
		}
	}
	return t
}

type sizedType struct {
	of    impl.Type
	size  int
	plain bool
}

// typesNearLimitOfSize returns types that are not too deep, with the numbers of their nodes.
func typesNearLimitOfSize() []sizedType {
	of13 := funType(fullType(3), leaning("rr", boolType()))
	return []sizedType{
		{funType(fullType(4), of13), 29, true},
		{codeType(funType(fullType(4), of13)), 30, false},
		{funType(fullType(4), codeType(of13)), 30, false},
		{funType(codeType(of13), fullType(4)), 30, false},
		{funType(codesOf(6, intType()), funType(fullType(4), codesOf(5, boolType()))), 30, false}, // as deep as allowed, too
		{fullType(5), 31, true},
		{funType(of13, funType(fullType(4), boolType())), 31, true},
		{codeType(funType(codeType(of13), fullType(4))), 31, false},
		{codeType(codeType(funType(fullType(4), of13))), 31, false},
		{funType(codesOf(6, intType()), funType(fullType(4), fullType(3))), 31, false},
		{codeType(fullType(5)), 32, false},
		{fullType(6), 63, true},
		{fullType(7), 127, true},
		{fullType(8), 255, true},
	}
}

func TestLimitOfSize(t *testing.T) {
	for _, c := range typesNearLimitOfSize() {
		valid := c.size <= largestType
		if impl.SizeOfType(c.of) != c.size || impl.DepthOfType(c.of) > deepestType {
			t.Fatalf("%s has %d nodes and a depth of %d", textOfType(c.of), impl.SizeOfType(c.of), impl.DepthOfType(c.of))
		}
		if got := impl.IsValidType(c.of); got != valid {
			t.Errorf("IsValidType of a type of %d nodes = %v", c.size, got)
		}
		if got := impl.IsPlainType(c.of); got != (valid && c.plain) {
			t.Errorf("IsPlainType of a type of %d nodes = %v", c.size, got)
		}
		expectType(t, c.of)
	}
}

// leaningTypes returns every type of the given depth that leaning makes.
func leaningTypes(depth int) []impl.Type {
	var types []impl.Type
	wordsOver("lrc", depth-1, func(sides string) {
		if len(sides) == depth-1 {
			types = append(types, leaning(sides, intType()))
		}
	})
	return types
}

func TestLimitOfDepth(t *testing.T) {
	for _, depth := range []int{7, 8, 9, 10} {
		for _, x := range leaningTypes(depth) {
			if impl.DepthOfType(x) != depth {
				t.Fatalf("%s has a depth of %d, want %d", textOfType(x), impl.DepthOfType(x), depth)
			}
			if got := impl.IsValidType(x); got != (depth <= deepestType) {
				t.Errorf("IsValidType(%s) = %v", textOfType(x), got)
			}
			expectType(t, x)
		}
	}
}

func TestEqualType(t *testing.T) {
	i, b := intType(), boolType()
	deep := leaning("rlcrc", i)
	cases := []struct {
		a, b impl.Type
		want bool
	}{
		{i, i, true},
		{i, b, false},
		{impl.Type{}, impl.Type{}, true},
		{impl.Type{}, i, false},
		{typeOf(math.MaxInt64), typeOf(math.MaxInt64), true},
		{typeOf(math.MaxInt64), typeOf(-1), false},
		{funType(i, b), funType(i, b), true},
		{funType(i, b), funType(b, i), false},
		{funType(i, b), funType(i, i), false},
		{funType(i, b), funType(b, b), false},
		{codeType(i), codeType(i), true},
		{codeType(i), codeType(b), false},
		{codeType(i), i, false},
		{codeType(codeType(i)), codeType(i), false},
		{funType(i, funType(i, i)), funType(funType(i, i), i), false},
		{deep, leaning("rlcrc", i), true},
		{deep, leaning("rlcrc", b), false},
		{deep, leaning("rlcrl", i), false},
		{deep, leaning("rlcrcc", i), false},
		{deep, leaning("lrcrc", i), false},
		{i, impl.Type{Kind: impl.TyInt, Args: []impl.Type{}}, true}, // nil and empty
		{impl.Type{Kind: 9, Args: []impl.Type{}}, typeOf(9), true},
		{funType(i, impl.Type{Kind: impl.TyBool, Args: []impl.Type{}}), funType(impl.Type{Kind: impl.TyInt, Args: []impl.Type{}}, b), true},
		{leaning("rlcrc", impl.Type{Kind: impl.TyInt, Args: []impl.Type{}}), deep, true},
		{i, typeOf(impl.TyInt, i), false}, // one Arg more
		{typeOf(impl.TyFun, i), funType(i, i), false},
		{funType(i, i), typeOf(impl.TyFun, i, i, i), false},
		{codeType(i), typeOf(impl.TyCode), false},
		{codeType(i), typeOf(impl.TyCode, i, i), false},
		{typeOf(impl.TyCode, i, i), typeOf(impl.TyFun, i, i), false},
		{leaning("rlcr", codeType(i)), leaning("rlcr", typeOf(impl.TyCode, i, i)), false},
		{leaning("rlcr", typeOf(0, i)), leaning("rlcr", typeOf(0)), false},
		{leaning("rlcr", typeOf(0, i)), leaning("rlcr", typeOf(0, i)), true},
	}
	for _, c := range cases {
		if impl.EqualType(c.a, c.b) != c.want || impl.EqualType(c.b, c.a) != c.want {
			t.Errorf("EqualType(%s, %s) is not %v both ways", textOfType(c.a), textOfType(c.b), c.want)
		}
	}
}

func TestEqualTypeOfEveryPair(t *testing.T) {
	types := append(typesUpTo([]int{0, 1, 2, 3, 4}, 3), typesOf([]int{3, 4}, 5)...)
	texts := make([]string, len(types))
	for k, x := range types {
		texts[k] = textOfType(x)
	}
	for j, a := range types {
		for k, b := range types {
			if got := impl.EqualType(a, b); got != (texts[j] == texts[k]) {
				t.Errorf("EqualType(%s, %s) = %v", texts[j], texts[k], got)
			}
		}
	}
}

func TestEraseType(t *testing.T) {
	i, b := intType(), boolType()
	cases := []struct{ of, want impl.Type }{
		{i, i},
		{b, b},
		{codeType(i), i},
		{codeType(codeType(b)), b},
		{codesOf(7, b), b},
		{funType(i, b), funType(i, b)},
		{funType(codeType(i), b), funType(i, b)},
		{funType(i, codeType(b)), funType(i, b)},
		{funType(codeType(codeType(i)), codesOf(3, b)), funType(i, b)},
		{codeType(funType(i, codeType(b))), funType(i, b)},
		{codeType(funType(codeType(funType(codeType(i), b)), codeType(codeType(funType(b, codeType(i)))))), funType(funType(i, b), funType(b, i))},
		{leaning("rlcrccl", i), leaning("rlrl", i)},
		{impl.Type{}, impl.Type{}}, // what follows is not valid
		{typeOf(impl.TyCode), typeOf(impl.TyCode)},
		{typeOf(impl.TyCode, i, b), typeOf(impl.TyCode, i, b)},
		{typeOf(impl.TyCode, codeType(i), codeType(b)), typeOf(impl.TyCode, i, b)},
		{typeOf(impl.TyCode, i, codeType(b), i), typeOf(impl.TyCode, i, b, i)},
		{codeType(typeOf(impl.TyCode)), typeOf(impl.TyCode)},
		{codeType(codeType(typeOf(impl.TyCode, codeType(i), b))), typeOf(impl.TyCode, i, b)},
		{funType(typeOf(impl.TyCode), codeType(typeOf(impl.TyCode, b, codeType(i)))), funType(typeOf(impl.TyCode), typeOf(impl.TyCode, b, i))},
		{typeOf(impl.TyInt, codeType(i)), typeOf(impl.TyInt, i)},
		{typeOf(impl.TyBool, codeType(b), i), typeOf(impl.TyBool, b, i)},
		{typeOf(impl.TyFun, codeType(i)), typeOf(impl.TyFun, i)},
		{typeOf(impl.TyFun, i, i, codeType(b)), typeOf(impl.TyFun, i, i, b)},
		{typeOf(5, codeType(i)), typeOf(5, i)},
		{typeOf(-4, codeType(i)), typeOf(-4, i)},
		{typeOf(math.MaxInt64, codeType(i), codeType(codeType(b))), typeOf(math.MaxInt64, i, b)},
		{codesOf(50, fullType(6)), fullType(6)},
	}
	for _, c := range cases {
		if got := textOfType(impl.EraseType(c.of)); got != textOfType(c.want) {
			t.Errorf("EraseType(%s) = %s, want %s", textOfType(c.of), got, textOfType(c.want))
		}
		expectType(t, c.of)
	}
}

// overwrite changes every node of t, and what is behind the end of its Args.
func overwrite(t *impl.Type) {
	t.Kind = 77
	whole := t.Args[:cap(t.Args)]
	for k := range whole {
		overwrite(&whole[k])
	}
	t.Args = nil
}

// withCapacity returns a copy of t in which each Args has an unused part.
func withCapacity(t impl.Type) impl.Type {
	args := make([]impl.Type, 0, len(t.Args)+2)
	for _, arg := range t.Args {
		args = append(args, withCapacity(arg))
	}
	for k := range args[len(args):cap(args)] {
		args[:cap(args)][len(args)+k] = typeOf(impl.TyCode, boolType())
	}
	return impl.Type{Kind: t.Kind, Args: args}
}

// textWithCapacity is the text of t together with what is behind the end of each Args.
func textWithCapacity(t impl.Type) string {
	text := strconv.Itoa(t.Kind) + "["
	for k, arg := range t.Args[:cap(t.Args)] {
		if k == len(t.Args) {
			text += "|"
		}
		text += textWithCapacity(arg)
	}
	return text + "]"
}

func TestTypesAreKept(t *testing.T) {
	pair := funType(intType(), boolType())
	types := append(typesUpTo([]int{0, 1, 3, 4}, 4),
		leaning("rlcrccl", intType()), codeType(pair), funType(codeType(pair), codeType(codeType(pair))), typeOf(4, pair, codeType(pair)), fullType(5))
	for _, original := range types {
		x := withCapacity(original)
		before := textWithCapacity(x)
		expectType(t, x)
		if !impl.EqualType(x, original) {
			t.Errorf("EqualType(%s) of it and a copy = false", before)
		}
		first, second := impl.EraseType(x), impl.EraseType(x)
		if got := textWithCapacity(x); got != before {
			t.Errorf("%s became %s", before, got)
		}
		want := textOfType(second)
		overwrite(&first)
		if got := textWithCapacity(x); got != before {
			t.Errorf("EraseType(%s) shares memory with its argument", before)
		}
		if got := textOfType(second); got != want {
			t.Errorf("two results of EraseType(%s) share memory", before)
		}
		overwrite(&x)
		if got := textOfType(second); got != want {
			t.Errorf("EraseType(%s) shares memory with its argument", before)
		}
	}
}

// TestPartsOfErasedTypesShareNothing erases types that have one slice of Args at many places.
func TestPartsOfErasedTypesShareNothing(t *testing.T) {
	pair := funType(intType(), boolType())
	for _, x := range []impl.Type{funType(pair, pair), funType(codeType(pair), pair), typeOf(5, pair, codeType(pair), pair)} {
		erased := impl.EraseType(x)
		overwrite(&erased.Args[0])
		for _, other := range erased.Args[1:] {
			if !impl.EqualType(other, pair) {
				t.Errorf("EraseType(%s) has parts that share memory", textOfType(x))
			}
		}
	}
}

// withLittleStack runs f so that calls nested as deeply as a large value end the test.
func withLittleStack(f func()) {
	defer debug.SetMaxStack(debug.SetMaxStack(8 << 20))
	f()
}

func TestTypesNestedDeeply(t *testing.T) {
	const nested = 200000
	for _, kind := range []int{0, impl.TyInt, impl.TyFun, impl.TyCode} {
		for _, left := range []bool{false, true} {
			deep, size, other := intType(), 2*nested+1, boolType()
			if kind == impl.TyCode {
				size = nested + 1
			}
			for range nested {
				args := []impl.Type{other, deep}
				if kind == impl.TyCode {
					args = args[1:]
				} else if left {
					args[0], args[1] = deep, other
				}
				deep = typeOf(kind, args...)
			}
			withLittleStack(func() { expectDeep(t, deep, size, nested+1) })
		}
	}
}

func expectDeep(t *testing.T, deep impl.Type, size, depth int) {
	t.Helper()
	if impl.SizeOfType(deep) != size || impl.DepthOfType(deep) != depth {
		t.Errorf("a type of kind %d has %d nodes and a depth of %d, want %d and %d", deep.Kind, impl.SizeOfType(deep), impl.DepthOfType(deep), size, depth)
	}
	if impl.IsValidType(deep) || impl.IsPlainType(deep) || impl.IsBase(deep) {
		t.Errorf("a type of kind %d and depth %d is valid, plain or base", deep.Kind, depth)
	}
	if !impl.EqualType(deep, deep) || impl.EqualType(deep, codeType(deep)) {
		t.Errorf("a type of kind %d and depth %d is not equal to itself alone", deep.Kind, depth)
	}
	want := deep
	if deep.Kind == impl.TyCode {
		want = intType()
	}
	if !impl.EqualType(impl.EraseType(deep), want) {
		t.Errorf("a type of kind %d and depth %d is erased to another one", deep.Kind, depth)
	}
}

func TestTypesWithManyArgs(t *testing.T) {
	args := slices.Repeat([]impl.Type{codeType(intType())}, 100000)
	for kind := range 6 {
		x := typeOf(kind, args...)
		if impl.SizeOfType(x) != 200001 || impl.DepthOfType(x) != 3 || impl.IsValidType(x) || impl.IsPlainType(x) || impl.IsBase(x) || !impl.EqualType(x, x) {
			t.Errorf("a type of kind %d with many Args", kind)
		}
		want := typeOf(kind, slices.Repeat([]impl.Type{intType()}, len(args))...)
		if !impl.EqualType(impl.EraseType(x), want) {
			t.Errorf("a type of kind %d with many Args is erased to another one", kind)
		}
	}
}

// TestHugeTypesAreRejectedAtOnce has types with more nodes than can be counted, or that contain themselves.
func TestHugeTypesAreRejectedAtOnce(t *testing.T) {
	endless := codeType(intType())
	endless.Args[0] = endless
	functions := funType(intType(), intType())
	functions.Args[0], functions.Args[1] = functions, functions
	huge := intType()
	for range 200 {
		huge = funType(huge, huge)
	}
	for _, x := range []impl.Type{endless, functions, huge, codeType(huge), funType(intType(), endless)} {
		if impl.IsValidType(x) || impl.IsPlainType(x) || impl.IsBase(x) {
			t.Error("a huge type is valid, plain or base")
		}
	}
}
