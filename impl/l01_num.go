package impl

import (
	"strconv"
	"strings"
)

const (
	maxNumber  = 999999
	maxInteger = 999999999999
)

func FormatInt(n int) string { return strconv.Itoa(n) }

func ParseNumber(s string) (n int, ok bool) {
	defer func() {
		if recover() != nil {
			n, ok = 0, false
		}
	}()
	return mustParse(s, 0, maxNumber), true
}

func ParseInt(s string) (n int, ok bool) {
	defer func() {
		if recover() != nil {
			n, ok = 0, false
		}
	}()
	return mustParse(s, -maxInteger, maxInteger), true
}

// mustParse panics if s is not the FormatInt of an integer from low to high.
func mustParse(s string, low, high int) int {
	n, err := strconv.Atoi(s)
	// Atoi also reads "+1", "-0" and "007", which FormatInt never writes.
	if err != nil || n < low || n > high || FormatInt(n) != s {
		panic("malformed integer")
	}
	return n
}

func SplitByte(s string, by byte) []string {
	// string(by) would be the UTF-8 form of a character: two bytes from 0x80 on.
	return strings.Split(s, string([]byte{by}))
}

func Join(list []string, by string) string { return strings.Join(list, by) }
