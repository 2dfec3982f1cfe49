package tests

import (
	"math"
	"math/big"
	"regexp"
	"slices"
	"strings"
	"testing"

	"loop.example/g00589/impl"
)

// Promise 2: operations have results among the numbers of the language.

const (
	longestName = 4
	modulus     = 10007
)

func operations() []string { return []string{"+", "-", "*", "=", "<", "&", "|", "!"} }

func TestNameLimits(t *testing.T) {
	if impl.MaxName != longestName || impl.Modulus != modulus {
		t.Errorf("MaxName = %d and Modulus = %d, want %d and %d", impl.MaxName, impl.Modulus, longestName, modulus)
	}
}

func TestIsName(t *testing.T) {
	names := []string{
		"a", "z", "x1", "m0", "b9", "zz", "abcd", "a000", "z999", "x1y2", "v1", "v10",
		"i", "f", "iff", "aif", "if1", "le", "lets", "let1", "lef", "lif", "lit", "alet", "re", "rec1", "recs", "ru", "runs", "rum", "run1", "nur",
	}
	others := []string{
		"", "abcde", "a0000", "lifts", "if", "let", "lift", "rec", "run",
		"1", "0", "9", "1x", "0abc", "12", "1234",
		"A", "Z", "aB", "If", "LET", "Rec", "rUn", "abcD",
		" ", " a", "a ", "a b", "\ta", "a\n", "a_b", "_a", "a-b", "a.b", "a'", "$a", "+",
		"`", "{", "a`", "a{", "a/", "a:", "a@", "a[", // neighbours of the letters and digits
		"\x00", "a\x00", "\x00a", "\x80", "a\x80", "\xffa", "a\xff", "\xe1",
		"\u00e9", "a\u00e9", "a\u00e9b", "\u0430", "\u0661", "a\u0661", "\uff41", "a\uff11", "\u017f", "\ufffd", "a\ufffd", "\u212a",
		strings.Repeat("a", 100000), strings.Repeat("\xff", 100000),
	}
	for _, s := range names {
		if !impl.IsName(s) {
			t.Errorf("IsName(%q) = false", s)
		}
	}
	for _, s := range others {
		if impl.IsName(s) {
			t.Errorf("IsName(%.40q) = true", s)
		}
	}
}

var nameForm = regexp.MustCompile(`^[a-z][a-z0-9]{0,3}$`)

func hasNameForm(s string) bool {
	return nameForm.MatchString(s) && !slices.Contains([]string{"if", "let", "lift", "rec", "run"}, s)
}

func TestIsNameOfEveryByte(t *testing.T) {
	for b := range 256 {
		for _, around := range [][2]string{{"", ""}, {"a", ""}, {"", "a"}, {"abc", ""}, {"a", "b"}, {"9", "a"}} {
			s := around[0] + string([]byte{byte(b)}) + around[1]
			if got := impl.IsName(s); got != hasNameForm(s) {
				t.Errorf("IsName(%q) = %v", s, got)
			}
		}
	}
}

func TestIsNameOfEveryShortText(t *testing.T) {
	wordsOver("iftlerunc1A\xff", 5, func(s string) {
		if got := impl.IsName(s); got != hasNameForm(s) {
			t.Errorf("IsName(%q) = %v", s, got)
		}
	})
}

func TestIndexOf(t *testing.T) {
	cases := []struct {
		list []string
		s    string
		want int
	}{
		{nil, "", -1},
		{nil, "a", -1},
		{[]string{}, "a", -1},
		{[]string{"a"}, "a", 0},
		{[]string{"a"}, "b", -1},
		{[]string{"a"}, "", -1},
		{[]string{"a"}, "aa", -1},
		{[]string{"aa"}, "a", -1},
		{[]string{""}, "", 0},
		{[]string{"a", ""}, "", 1},
		{[]string{"a", "b"}, "b", 1},
		{[]string{"a", "b", "a", "b"}, "b", 1},
		{[]string{"a", "b", "b", "a"}, "a", 0},
		{[]string{"a", "b", "c", "b"}, "c", 2},
		{[]string{"A", "a"}, "a", 1},
		{[]string{"\xff", "\xfe"}, "\xfe", 1},
	}
	for _, c := range cases {
		if got := impl.IndexOf(c.list, c.s); got != c.want {
			t.Errorf("IndexOf(%q, %q) = %d, want %d", c.list, c.s, got, c.want)
		}
	}
}

func TestUniteNames(t *testing.T) {
	cases := []struct {
		a, b, want []string
	}{
		{nil, nil, nil},
		{[]string{}, nil, nil},
		{[]string{"a"}, nil, []string{"a"}},
		{nil, []string{"a"}, []string{"a"}},
		{[]string{}, []string{"b", "a"}, []string{"b", "a"}},
		{[]string{"a"}, []string{"a"}, []string{"a"}},
		{[]string{"a", "a"}, nil, []string{"a"}},
		{nil, []string{"b", "a", "b"}, []string{"b", "a"}},
		{[]string{"a", "a"}, []string{"b", "a"}, []string{"a", "b"}},
		{[]string{"c", "a", "c"}, []string{"b", "a", "d", "b"}, []string{"c", "a", "b", "d"}},
		{[]string{"b"}, []string{"a", "b"}, []string{"b", "a"}},
		{[]string{""}, []string{"", "x y"}, []string{"", "x y"}},
		{[]string{"A", "\xff"}, []string{"a", "\xff"}, []string{"A", "\xff", "a"}},
	}
	for _, c := range cases {
		if got := impl.UniteNames(c.a, c.b); !slices.Equal(got, c.want) {
			t.Errorf("UniteNames(%q, %q) = %q, want %q", c.a, c.b, got, c.want)
		}
	}
}

func TestWithoutName(t *testing.T) {
	cases := []struct {
		list []string
		s    string
		want []string
	}{
		{nil, "a", nil},
		{[]string{}, "", nil},
		{[]string{"a"}, "a", nil},
		{[]string{"a"}, "b", []string{"a"}},
		{[]string{"a"}, "", []string{"a"}},
		{[]string{"a", "a", "a"}, "a", nil},
		{[]string{"a", "b", "a"}, "a", []string{"b"}},
		{[]string{"a", "b", "a"}, "b", []string{"a", "a"}},
		{[]string{"a", "b", "c", "b"}, "b", []string{"a", "c"}},
		{[]string{"b", "b", "a", "b", "c", "b"}, "b", []string{"a", "c"}},
		{[]string{"c", "a", "c"}, "d", []string{"c", "a", "c"}},
		{[]string{"", "a", ""}, "", []string{"a"}},
		{[]string{"A", "a", "aa"}, "a", []string{"A", "aa"}},
	}
	for _, c := range cases {
		if got := impl.WithoutName(c.list, c.s); !slices.Equal(got, c.want) {
			t.Errorf("WithoutName(%q, %q) = %q, want %q", c.list, c.s, got, c.want)
		}
	}
}

func TestFreshName(t *testing.T) {
	cases := []struct {
		list []string
		want string
	}{
		{nil, "v1"},
		{[]string{}, "v1"},
		{[]string{"a", "b"}, "v1"},
		{[]string{"v1"}, "v2"},
		{[]string{"v2"}, "v1"},
		{[]string{"v1", "v3"}, "v2"},
		{[]string{"v3", "v1", "v1"}, "v2"},
		{[]string{"v3", "v2", "v1"}, "v4"},
		{[]string{"v1", "x", "v2", "v4", "v5"}, "v3"},
		{[]string{"v9", "v8", "v7", "v6", "v5", "v4", "v3", "v2", "v1"}, "v10"},
		{[]string{"v01", "v", "V1", "v1 ", " v1", "v+1", "vv1", "1", "v001", "v11", ""}, "v1"},
		{[]string{"v1", "v02", "v0", "v-2"}, "v2"},
	}
	for _, c := range cases {
		if got := impl.FreshName(c.list); got != c.want {
			t.Errorf("FreshName(%q) = %q, want %q", c.list, got, c.want)
		}
	}
}

func TestFreshNameOfManyNames(t *testing.T) {
	var list []string
	for n := 1; n <= 1200; n++ {
		name := "v" + impl.FormatInt(n)
		if got := impl.FreshName(list); got != name {
			t.Fatalf("FreshName of the first %d names = %q, want %q", n-1, got, name)
		}
		list = append(list, name)
	}
	for n := 1; n <= 1200; n++ {
		name := "v" + impl.FormatInt(n)
		if got := impl.FreshName(impl.WithoutName(list, name)); got != name {
			t.Errorf("FreshName of all names but %q = %q", name, got)
		}
	}
}

// TestListsOfEveryShortList compares the list functions with what the document says of their results.
func TestListsOfEveryShortList(t *testing.T) {
	var lists [][]string
	wordsOver("abc", 4, func(s string) { lists = append(lists, strings.Split(s, "")) })
	for _, a := range lists {
		for _, s := range []string{"a", "b", "c", "d", ""} {
			if got := impl.IndexOf(a, s); got != slices.Index(a, s) {
				t.Errorf("IndexOf(%q, %q) = %d", a, s, got)
			}
			want := slices.DeleteFunc(slices.Clone(a), func(element string) bool { return element == s })
			if got := impl.WithoutName(a, s); !slices.Equal(got, want) {
				t.Errorf("WithoutName(%q, %q) = %q, want %q", a, s, got, want)
			}
		}
		for _, b := range lists {
			var want []string
			for _, s := range slices.Concat(a, b) {
				if !slices.Contains(want, s) {
					want = append(want, s)
				}
			}
			if got := impl.UniteNames(a, b); !slices.Equal(got, want) {
				t.Errorf("UniteNames(%q, %q) = %q, want %q", a, b, got, want)
			}
		}
	}
}

func TestReduce(t *testing.T) {
	cases := []struct{ n, want int }{
		{0, 0}, {1, 1}, {10006, 10006}, {10007, 0}, {10008, 1}, {20013, 10006}, {20014, 0}, {20015, 1},
		{-1, 10006}, {-2, 10005}, {-10006, 1}, {-10007, 0}, {-10008, 10006}, {-20013, 1}, {-20014, 0}, {-20015, 10006},
		{100120036, 1}, // the square of 10006
	}
	for _, c := range cases {
		if got := impl.Reduce(c.n); got != c.want {
			t.Errorf("Reduce(%d) = %d, want %d", c.n, got, c.want)
		}
	}
}

func expectReduced(t *testing.T, n int) {
	t.Helper()
	// Mod of package big is never negative, and has no limits to overflow at.
	want := int(new(big.Int).Mod(big.NewInt(int64(n)), big.NewInt(modulus)).Int64())
	if got := impl.Reduce(n); got != want {
		t.Errorf("Reduce(%d) = %d, want %d", n, got, want)
	}
}

func TestReduceOfEveryKindOfInteger(t *testing.T) {
	for n := -3 * modulus; n <= 3*modulus; n++ {
		expectReduced(t, n)
	}
	for _, n := range integersToTry() {
		expectReduced(t, n)
	}
	for k := range 2 * modulus {
		expectReduced(t, math.MinInt64+k)
		expectReduced(t, math.MaxInt64-k)
	}
	for k := math.MinInt64 / modulus; k < math.MaxInt64/modulus-1000000000000; k += 1000000000000 {
		for near := -1; near <= 1; near++ {
			expectReduced(t, k*modulus+near)
		}
	}
}

func TestApplyOp(t *testing.T) {
	cases := []struct {
		op         string
		a, b, want int
	}{
		{"+", 0, 0, 0}, {"+", 2, 3, 5}, {"+", 10006, 0, 10006}, {"+", 10006, 1, 0}, {"+", 10006, 2, 1}, {"+", 10006, 10006, 10005}, {"+", 5003, 5004, 0},
		{"-", 0, 0, 0}, {"-", 5, 3, 2}, {"-", 3, 5, 10005}, {"-", 0, 1, 10006}, {"-", 0, 10006, 1}, {"-", 10006, 10006, 0}, {"-", 10006, 0, 10006},
		{"*", 0, 10006, 0}, {"*", 6, 7, 42}, {"*", 1, 10006, 10006}, {"*", 10006, 10006, 1}, {"*", 10006, 2, 10005}, {"*", 101, 100, 93},
		{"=", 3, 3, 1}, {"=", 3, 4, 0}, {"=", 0, 0, 1}, {"=", 10006, 10006, 1}, {"=", 0, 10006, 0},
		{"<", 3, 3, 0}, {"<", 3, 4, 1}, {"<", 4, 3, 0}, {"<", 0, 10006, 1}, {"<", 10006, 0, 0},
		{"&", 1, 1, 1}, {"&", 0, 1, 0}, {"&", 1, 0, 0}, {"&", 0, 0, 0}, {"&", 2, 2, 0}, {"&", 1, 2, 0}, {"&", 3, 1, 0}, {"&", 10006, 10006, 0}, {"&", 5, 5, 0},
		{"|", 1, 1, 1}, {"|", 0, 1, 1}, {"|", 1, 0, 1}, {"|", 0, 0, 0}, {"|", 2, 2, 0}, {"|", 2, 1, 1}, {"|", 1, 10006, 1}, {"|", 0, 5, 0}, {"|", 10006, 10006, 0},
		{"!", 0, 0, 1}, {"!", 1, 0, 0}, {"!", 5, 0, 0}, {"!", 10006, 0, 0}, {"!", 0, 1, 1}, {"!", 0, 10006, 1}, {"!", 1, 10006, 0}, {"!", 2, 1, 0},
	}
	for _, c := range cases {
		if got, ok := impl.ApplyOp(c.op, c.a, c.b); got != c.want || !ok {
			t.Errorf("ApplyOp(%q, %d, %d) = %d, %v, want %d, true", c.op, c.a, c.b, got, ok, c.want)
		}
	}
}

func TestApplyOpRejects(t *testing.T) {
	expectNone := func(op string, a, b int) {
		if got, ok := impl.ApplyOp(op, a, b); got != 0 || ok {
			t.Errorf("ApplyOp(%q, %d, %d) = %d, %v, want 0, false", op, a, b, got, ok)
		}
	}
	outside := []int{-1, -2, modulus, modulus + 1, 2 * modulus, -modulus, -modulus + 1, math.MinInt64, math.MaxInt64}
	for _, op := range operations() {
		for _, far := range outside {
			for _, near := range []int{0, 1, 2, modulus - 1} {
				expectNone(op, far, near)
				expectNone(op, near, far)
			}
			expectNone(op, far, far)
		}
	}
	for _, op := range []string{"", "/", "%", ">", "<=", ">=", "==", "!=", "&&", "||", "!!", "++", "+ ", " +", "+-", "add", "x", "\u2212", "\u00d7", "\xff", "\x00", "~", "^"} {
		for _, n := range []int{-1, 0, 1, modulus - 1, modulus} {
			expectNone(op, n, 1)
			expectNone(op, 1, n)
		}
	}
}

// resultOf computes an operation with integers that have no limits.
func resultOf(op string, a, b int) int {
	x, y, z := big.NewInt(int64(a)), big.NewInt(int64(b)), new(big.Int)
	switch op {
	case "+":
		z.Add(x, y)
	case "-":
		z.Sub(x, y)
	case "*":
		z.Mul(x, y)
	default:
		holds := map[string]bool{"=": a == b, "<": a < b, "&": a == 1 && b == 1, "|": a == 1 || b == 1, "!": a == 0}
		if holds[op] {
			return 1
		}
		return 0
	}
	return int(z.Mod(z, big.NewInt(modulus)).Int64())
}

func TestOperationsHaveResultsAmongTheNumbers(t *testing.T) {
	numbers := []int{0, 1, 2, 3, 100, 5003, 5004, modulus - 3, modulus - 2, modulus - 1}
	for n := 97; n < modulus; n += 97 {
		numbers = append(numbers, n)
	}
	for _, op := range operations() {
		for _, a := range numbers {
			for _, b := range numbers {
				got, ok := impl.ApplyOp(op, a, b)
				if !ok || got < 0 || got >= modulus || got != resultOf(op, a, b) {
					t.Errorf("ApplyOp(%q, %d, %d) = %d, %v, want %d, true", op, a, b, got, ok, resultOf(op, a, b))
				}
			}
		}
	}
}

func TestEveryNumberIsAnOperand(t *testing.T) {
	for _, op := range operations() {
		for n := range modulus {
			for _, other := range []int{0, 1, modulus - 1} {
				for _, pair := range [][2]int{{n, other}, {other, n}} {
					got, ok := impl.ApplyOp(op, pair[0], pair[1])
					if !ok || got != resultOf(op, pair[0], pair[1]) {
						t.Errorf("ApplyOp(%q, %d, %d) = %d, %v", op, pair[0], pair[1], got, ok)
					}
				}
			}
		}
	}
}

// TestListsAreKept gives every list function slices with unused capacity, and then overwrites the result up to its capacity.
func TestListsAreKept(t *testing.T) {
	for _, length := range []int{0, 1, 2, 3, 5} {
		a := []string{"a", "b", "c", "v1", "a", "unused"}
		b := []string{"d", "e", "a", "f", "d", "capacity"}
		keptA, keptB := slices.Clone(a), slices.Clone(b)
		results := [][]string{
			impl.UniteNames(a[:length], b[:length]),
			impl.UniteNames(a[:length], nil),
			impl.UniteNames(nil, b[:length]),
			impl.UniteNames(a[:length], a[:length]),
			impl.WithoutName(a[:length], "a"),
			impl.WithoutName(a[:length], "v1"),
			impl.WithoutName(a[:length], "absent"),
		}
		impl.IndexOf(a[:length], "c")
		impl.FreshName(a[:length])
		for i, list := range results {
			kept := make([][]string, len(results))
			for j := range results {
				kept[j] = slices.Clone(results[j])
			}
			whole := list[:cap(list)]
			for k := range whole {
				whole[k] = "overwritten"
			}
			for j := range results {
				if j != i && !slices.Equal(results[j], kept[j]) {
					t.Errorf("results %d and %d share memory", i, j)
				}
			}
		}
		if !slices.Equal(a, keptA) || !slices.Equal(b, keptB) {
			t.Errorf("the arguments became %q and %q", a, b)
		}
	}
}

func TestListsOfManyNames(t *testing.T) {
	var many []string
	for n := range 200000 {
		many = append(many, "v"+impl.FormatInt(n%100000))
	}
	if got := impl.FreshName(many); got != "v100000" {
		t.Errorf("FreshName of many names = %q", got)
	}
	if got := impl.UniteNames(many, many); !slices.Equal(got, many[:100000]) {
		t.Errorf("UniteNames of many names has %d elements", len(got))
	}
	if got := impl.WithoutName(many, "v7"); len(got) != len(many)-2 {
		t.Errorf("WithoutName of many names has %d elements", len(got))
	}
	if got := impl.IndexOf(many, "v99999"); got != 99999 {
		t.Errorf("IndexOf of many names = %d", got)
	}
}
