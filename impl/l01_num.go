package impl

import (
	"strconv"
	"strings"
)

const maxNumber = 999999

// FormatInt returns the decimal representation of n.
func FormatInt(n int) string {
	return strconv.Itoa(n)
}

// ParseNumber returns the integer from 0 to 999999 whose FormatInt is s, and true; 0 and false if there is none.
func ParseNumber(s string) (int, bool) {
	// The results are unnamed: after a recovered panic they are 0 and false.
	defer func() { _ = recover() }()
	return readInt(s, 0, maxNumber), true
}

// ParseInt returns the integer from -MaxInt to MaxInt whose FormatInt is s, and true; 0 and false if there is none.
func ParseInt(s string) (int, bool) {
	// As in ParseNumber, a recovered panic leaves 0 and false.
	defer func() { _ = recover() }()
	return readInt(s, -MaxInt, MaxInt), true
}

// readInt panics if s is not the representation of an integer from low to high.
func readInt(s string, low, high int) int {
	n, err := strconv.Atoi(s)
	if err != nil || n < low || n > high {
		panic("no integer of the range")
	}
	// Atoi also accepts a plus sign, leading zeros and "-0".
	if FormatInt(n) != s {
		panic("not the representation of an integer")
	}
	return n
}

// SplitByte returns the substrings of s between the occurrences of by.
func SplitByte(s string, by byte) []string {
	// string(by) would encode a byte above 127 as two bytes.
	separator := string([]byte{by})
	return strings.Split(s, separator)
}

// Join concatenates the elements of list with by between adjacent elements.
func Join(list []string, by string) string {
	return strings.Join(list, by)
}
