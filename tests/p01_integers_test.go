package tests

import (
	"bytes"
	"math"
	"regexp"
	"slices"
	"strings"
	"testing"

	"loop.example/g00589/impl"
)

// Promise 1: integers are parsed from their decimal representation, and
// splitting and joining are inverse.

const (
	greatestNumber  = 999999
	greatestInteger = 999999999999
)

func TestFormatInt(t *testing.T) {
	cases := []struct {
		n    int
		want string
	}{
		{0, "0"},
		{7, "7"},
		{-5, "-5"},
		{10, "10"},
		{-100, "-100"},
		{1234567890, "1234567890"},
		{math.MaxInt64, "9223372036854775807"},
		{-math.MaxInt64, "-9223372036854775807"},
		{math.MinInt64, "-9223372036854775808"},
	}
	for _, c := range cases {
		if got := impl.FormatInt(c.n); got != c.want {
			t.Errorf("FormatInt(%d) = %q, want %q", c.n, got, c.want)
		}
	}
}

// integersToTry has every power of ten and of two with its neighbours, of both signs.
func integersToTry() []int {
	list := []int{0, math.MaxInt64, math.MinInt64, math.MinInt64 + 1}
	for _, base := range []int{2, 10} {
		for p := 1; p > 0 && p <= math.MaxInt64/base; p *= base {
			list = append(list, p-1, p, p+1, 1-p, -p, -p-1)
		}
	}
	return list
}

func TestFormatIntHasDecimalForm(t *testing.T) {
	form := regexp.MustCompile(`^(0|-?[1-9][0-9]*)$`)
	for _, n := range integersToTry() {
		s := impl.FormatInt(n)
		if !form.MatchString(s) {
			t.Errorf("FormatInt(%d) = %q", n, s)
		}
		// Digits are added up with their sign, as the smallest integer has no opposite.
		sum, sign := 0, 1
		for _, r := range s {
			if r == '-' {
				sign = -1
			} else {
				sum = 10*sum + sign*int(r-'0')
			}
		}
		if sum != n {
			t.Errorf("FormatInt(%d) = %q, which is %d", n, s, sum)
		}
	}
}

type parser struct {
	name      string
	parse     func(string) (int, bool)
	low, high int
}

func parsers() []parser {
	return []parser{
		{"ParseNumber", impl.ParseNumber, 0, greatestNumber},
		{"ParseInt", impl.ParseInt, -greatestInteger, greatestInteger},
	}
}

func (p parser) expect(t *testing.T, s string, want int, wantOk bool) {
	t.Helper()
	if n, ok := p.parse(s); n != want || ok != wantOk {
		t.Errorf("%s(%.40q) = %d, %v, want %d, %v", p.name, s, n, ok, want, wantOk)
	}
}

func (p parser) expectFormatted(t *testing.T, n int) {
	t.Helper()
	if p.low <= n && n <= p.high {
		p.expect(t, impl.FormatInt(n), n, true)
	} else {
		p.expect(t, impl.FormatInt(n), 0, false)
	}
}

func TestParseLimits(t *testing.T) {
	number, integer := parsers()[0], parsers()[1]
	number.expect(t, "0", 0, true)
	number.expect(t, "-1", 0, false)
	number.expect(t, "999999", 999999, true)
	number.expect(t, "1000000", 0, false)
	integer.expect(t, "-999999999999", -999999999999, true)
	integer.expect(t, "-1000000000000", 0, false)
	integer.expect(t, "999999999999", 999999999999, true)
	integer.expect(t, "1000000000000", 0, false)
}

func TestParseNumberOfEveryNumber(t *testing.T) {
	p := parsers()[0]
	for n := 0; n <= greatestNumber; n++ {
		p.expectFormatted(t, n)
	}
}

func TestParseOfFormattedIntegers(t *testing.T) {
	for _, p := range parsers() {
		for _, n := range integersToTry() {
			p.expectFormatted(t, n)
		}
		for n := -greatestInteger; n <= greatestInteger; n += 98765431 {
			p.expectFormatted(t, n)
		}
	}
}

func TestParseRejectsOtherTexts(t *testing.T) {
	texts := []string{
		"", "-", "+", "--1", "-0", "+0", "+1", "-+1", "1-", "00", "01", "007", "-01", "-007",
		" ", " 1", "1 ", "\t1", "1\n", "1 2", "- 1", "a", "1a", "a1", "1_000", "1,000", "1.0", ".5", "1e3", "0x10", "0b1", "0o7",
		"\u0661", "\uff11", "1\u0662", "\u22121", "\u00b2", // digits and a minus outside ASCII
		"\x00", "1\x00", "\x001", "\xff", "1\xff", "/", ":", "1/", "1:",
		"nil", "NaN", "Inf", "true", "9223372036854775807", "-9223372036854775808", "9223372036854775808",
		"18446744073709551616", "18446744073709551617", // 0 and 1 after wraparound
		"-18446744073709551615", "340282366920938463463374607431768211457",
	}
	for _, count := range []int{20, 1000, 1000000} {
		for _, digit := range []string{"0", "1", "9"} {
			many := strings.Repeat(digit, count)
			texts = append(texts, many, "-"+many, many+"x")
		}
		texts = append(texts, strings.Repeat("0", count)+"1", strings.Repeat("-", count)+"1")
	}
	for _, p := range parsers() {
		for _, s := range texts {
			p.expect(t, s, 0, false)
		}
	}
}

// wordsOver calls see with every string of up to length bytes from alphabet.
func wordsOver(alphabet string, length int, see func(string)) {
	see("")
	if length == 0 {
		return
	}
	for i := range len(alphabet) {
		wordsOver(alphabet, length-1, func(rest string) {
			see(alphabet[i:i+1] + rest)
		})
	}
}

func TestParseOfEveryShortText(t *testing.T) {
	forms := []*regexp.Regexp{regexp.MustCompile(`^(0|[1-9][0-9]*)$`), regexp.MustCompile(`^(0|-?[1-9][0-9]*)$`)}
	wordsOver("-+019 a/:\xff", 4, func(s string) {
		for i, p := range parsers() {
			n, ok := p.parse(s)
			if ok != forms[i].MatchString(s) {
				t.Errorf("%s(%q) = %d, %v", p.name, s, n, ok)
			}
			if ok && impl.FormatInt(n) != s || !ok && n != 0 {
				t.Errorf("%s(%q) = %d, %v", p.name, s, n, ok)
			}
		}
	})
}

func TestSplitByte(t *testing.T) {
	cases := []struct {
		s    string
		by   byte
		want []string
	}{
		{"", ',', []string{""}},
		{"", 0, []string{""}},
		{"abc", ',', []string{"abc"}},
		{",", ',', []string{"", ""}},
		{",a", ',', []string{"", "a"}},
		{"a,", ',', []string{"a", ""}},
		{"a,b", ',', []string{"a", "b"}},
		{"a,,b", ',', []string{"a", "", "b"}},
		{",,,", ',', []string{"", "", "", ""}},
		{",a,,bc,", ',', []string{"", "a", "", "bc", ""}},
		{"prog 1 2", ' ', []string{"prog", "1", "2"}},
		{"a\nb\n", '\n', []string{"a", "b", ""}},
		{"\x00a\x00", 0, []string{"", "a", ""}},
		{"\xff\xfe\xff", 0xff, []string{"", "\xfe", ""}},
		{"a\u00e9b", 0xe9, []string{"a\u00e9b"}},             // the character, not the byte
		{"a\u00e9b", 0xc3, []string{"a", "\xa9b"}},           // the first byte of the character
		{"\u20ac,\u20ac", ',', []string{"\u20ac", "\u20ac"}}, // beside others outside ASCII
	}
	for _, c := range cases {
		if got := impl.SplitByte(c.s, c.by); !slices.Equal(got, c.want) {
			t.Errorf("SplitByte(%q, %q) = %q, want %q", c.s, c.by, got, c.want)
		}
	}
}

func TestJoin(t *testing.T) {
	cases := []struct {
		list []string
		by   string
		want string
	}{
		{nil, ",", ""},
		{[]string{}, ",", ""},
		{[]string{""}, ",", ""},
		{[]string{"a"}, ",", "a"},
		{[]string{"", ""}, ",", ","},
		{[]string{"a", "b"}, ",", "a,b"},
		{[]string{"a", "b", "c"}, "", "abc"},
		{[]string{"", "a", "", ""}, "-", "-a--"},
		{[]string{"a", "b", "c"}, ", ", "a, b, c"},
		{[]string{"a,b", "c"}, ",", "a,b,c"},
		{[]string{"\xff", "\x00"}, "\xfe", "\xff\xfe\x00"},
	}
	for _, c := range cases {
		if got := impl.Join(c.list, c.by); got != c.want {
			t.Errorf("Join(%q, %q) = %q, want %q", c.list, c.by, got, c.want)
		}
	}
}

// expectRestored checks all that the document says of SplitByte(s, by).
func expectRestored(t *testing.T, s string, by byte) {
	t.Helper()
	list := impl.SplitByte(s, by)
	if len(list) != bytes.Count([]byte(s), []byte{by})+1 {
		t.Errorf("SplitByte(%q, %q) has %d elements", s, by, len(list))
	}
	for _, part := range list {
		if strings.IndexByte(part, by) >= 0 {
			t.Errorf("SplitByte(%q, %q) has the element %q", s, by, part)
		}
	}
	if got := impl.Join(list, string([]byte{by})); got != s {
		t.Errorf("joined after SplitByte(%q, %q): %q", s, by, got)
	}
}

func TestJoinAfterSplitByte(t *testing.T) {
	wordsOver(",a\xff\x00", 5, func(s string) {
		for _, by := range []byte{',', 'a', 0xff, 0, 'z'} {
			expectRestored(t, s, by)
		}
	})
	var all []byte
	for b := range 256 {
		all = append(all, byte(b))
	}
	s := string(all) + string(all)
	for b := range 256 {
		expectRestored(t, s, byte(b))
	}
	expectRestored(t, strings.Repeat("ab,", 100000), ',')
}

func TestSplitByteAfterJoin(t *testing.T) {
	var parts []string
	wordsOver("a\xff", 2, func(s string) { parts = append(parts, s) })
	for _, a := range parts {
		for _, b := range parts {
			for _, list := range [][]string{{a}, {a, b}, {a, b, a}} {
				for _, by := range []byte{',', 0, 0x80, 0xfe} {
					joined := impl.Join(list, string([]byte{by}))
					if got := impl.SplitByte(joined, by); !slices.Equal(got, list) {
						t.Errorf("SplitByte(%q, %q) = %q, want %q", joined, by, got, list)
					}
				}
			}
		}
	}
}

func TestStringsKeepArguments(t *testing.T) {
	whole := []string{"a", "b", "unused", "capacity"}
	before := slices.Clone(whole)
	impl.Join(whole[:2], ",")
	if !slices.Equal(whole, before) {
		t.Errorf("Join changed its argument to %q", whole)
	}
	first := impl.SplitByte("a,b", ',')
	clear(first)
	_ = append(first[:0], "x", "y")
	if got := impl.SplitByte("a,b", ','); !slices.Equal(got, []string{"a", "b"}) {
		t.Errorf("SplitByte(%q, ',') = %q after its first result was changed", "a,b", got)
	}
}
