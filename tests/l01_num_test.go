package tests

import (
	"fmt"
	"math"
	"regexp"
	"slices"
	"strings"
	"testing"

	"loop.example/g00519/impl"
)

const (
	numberLimit = 999999
	intLimit    = 999999999999
)

func TestFormatIntOfKnownIntegers(t *testing.T) {
	cases := []struct {
		n    int
		want string
	}{
		{0, "0"}, {1, "1"}, {-1, "-1"}, {-5, "-5"}, {9, "9"}, {10, "10"}, {-10, "-10"},
		{100200, "100200"}, {-70, "-70"}, {intLimit, "999999999999"}, {-intLimit, "-999999999999"},
		{math.MaxInt64, "9223372036854775807"},
		{math.MinInt64, "-9223372036854775808"},
		{math.MinInt64 + 1, "-9223372036854775807"},
	}
	for _, c := range cases {
		if got := impl.FormatInt(c.n); got != c.want {
			t.Errorf("FormatInt(%d) = %q, want %q", c.n, got, c.want)
		}
	}
}

func TestFormatIntOfEveryMagnitude(t *testing.T) {
	for shift := range 64 {
		for delta := -3; delta <= 3; delta++ {
			n := 1<<shift + delta
			for _, m := range []int{n, -n} {
				if got := impl.FormatInt(m); got != fmt.Sprint(m) {
					t.Errorf("FormatInt(%d) = %q", m, got)
				}
			}
		}
	}
}

func wantNumber(t *testing.T, s string, n int, ok bool) {
	t.Helper()
	if got, gotOk := impl.ParseNumber(s); got != n || gotOk != ok {
		t.Errorf("ParseNumber(%q) = %d, %v, want %d, %v", s, got, gotOk, n, ok)
	}
}

func wantInt(t *testing.T, s string, n int, ok bool) {
	t.Helper()
	if got, gotOk := impl.ParseInt(s); got != n || gotOk != ok {
		t.Errorf("ParseInt(%q) = %d, %v, want %d, %v", s, got, gotOk, n, ok)
	}
}

func TestParseNumberReadsBackEveryNumber(t *testing.T) {
	for n := 0; n <= numberLimit; n++ {
		s := impl.FormatInt(n)
		if got, ok := impl.ParseNumber(s); !ok || got != n {
			t.Fatalf("ParseNumber(%q) = %d, %v", s, got, ok)
		}
	}
}

func TestParseNumberLimits(t *testing.T) {
	wantNumber(t, "0", 0, true)
	wantNumber(t, "999999", 999999, true)
	wantNumber(t, "1000000", 0, false)
	wantNumber(t, "1000001", 0, false)
	wantNumber(t, "-1", 0, false)
	wantNumber(t, "-999999", 0, false)
}

func TestParseIntReadsBackIntegersOfBothSigns(t *testing.T) {
	for n := 1; n <= intLimit; n = n*3 + 1 {
		for _, m := range []int{n, -n, n - 1, 1 - n} {
			wantInt(t, impl.FormatInt(m), m, true)
		}
	}
}

func TestParseIntLimits(t *testing.T) {
	wantInt(t, "999999999998", 999999999998, true)
	wantInt(t, "999999999999", 999999999999, true)
	wantInt(t, "1000000000000", 0, false)
	wantInt(t, "-999999999998", -999999999998, true)
	wantInt(t, "-999999999999", -999999999999, true)
	wantInt(t, "-1000000000000", 0, false)
	wantInt(t, "9223372036854775807", 0, false)
	wantInt(t, "-9223372036854775808", 0, false)
}

// Both functions reject a string that represents no integer at all.
func TestParseRejectsMalformedIntegers(t *testing.T) {
	list := []string{
		"", "-", "+", "--1", "-+1", "+1", "+0", "-0", "-00", "00", "01", "007", "-007", "000000000000000001",
		" ", " 1", "1 ", "1 2", "- 1", "\t1", "1\n", "\x001", "1\x00",
		"a", "1a", "a1", "0x1", "0b1", "0o7", "1e3", "1.0", "1,000", "1_000", "12-", "1-2", "/", ":",
		"\xff", "1\x80", "\x801", "\xb1", "é", "−1", "１", "٣", "1\u00a0",
	}
	for _, s := range list {
		wantNumber(t, s, 0, false)
		wantInt(t, s, 0, false)
	}
}

// Long strings of digits must be rejected for their value, also where it is a small integer modulo 2 to the power of 64.
func TestParseRejectsVeryManyDigits(t *testing.T) {
	list := []string{
		"18446744073709551616", "18446744073709551617", "-18446744073709551617", "9223372036854775808",
		"-9223372036854775809", "340282366920938463463374607431768211457",
		strings.Repeat("9", 1000), "-" + strings.Repeat("9", 1000),
		strings.Repeat("0", 1000) + "1", "1" + strings.Repeat("0", 100000),
	}
	for _, s := range list {
		wantNumber(t, s, 0, false)
		wantInt(t, s, 0, false)
	}
}

// eachString calls visit with every string of at most size bytes of the alphabet.
func eachString(alphabet string, size int, visit func(s string)) {
	var extend func(prefix string)
	extend = func(prefix string) {
		visit(prefix)
		if len(prefix) == size {
			return
		}
		for i := range len(alphabet) {
			extend(prefix + alphabet[i:i+1])
		}
	}
	extend("")
}

func TestParseDecidesAllShortStrings(t *testing.T) {
	decimal := regexp.MustCompile(`^(0|-?[1-9][0-9]*)$`)
	eachString("-+0129 a_.\x80", 4, func(s string) {
		n, ok := 0, decimal.MatchString(s)
		if ok {
			fmt.Sscan(s, &n)
		}
		wantInt(t, s, n, ok)
		if n < 0 {
			n, ok = 0, false
		}
		wantNumber(t, s, n, ok)
	})
}

func TestSplitByteOfKnownStrings(t *testing.T) {
	cases := []struct {
		s    string
		by   byte
		want []string
	}{
		{"", ',', []string{""}},
		{"", 0, []string{""}},
		{"abc", ',', []string{"abc"}},
		{"a,b", ',', []string{"a", "b"}},
		{",a", ',', []string{"", "a"}},
		{"a,", ',', []string{"a", ""}},
		{"a,,b", ',', []string{"a", "", "b"}},
		{",", ',', []string{"", ""}},
		{",,", ',', []string{"", "", ""}},
		{"line\nline\n", '\n', []string{"line", "line", ""}},
		{"a b c", ' ', []string{"a", "b", "c"}},
		{"a\x00b", 0, []string{"a", "b"}},
		{"a\xffb\xff", 0xff, []string{"a", "b", ""}},
		{"\u00e9", 0xc3, []string{"", "\xa9"}},
		{"\u00e9", 0xe9, []string{"\u00e9"}},
		{"\xe9x", 0xe9, []string{"", "x"}},
	}
	for _, c := range cases {
		if got := impl.SplitByte(c.s, c.by); !slices.Equal(got, c.want) {
			t.Errorf("SplitByte(%q, %d) = %q, want %q", c.s, c.by, got, c.want)
		}
	}
}

func TestJoinOfKnownLists(t *testing.T) {
	cases := []struct {
		list []string
		by   string
		want string
	}{
		{nil, ",", ""},
		{[]string{}, ",", ""},
		{[]string{""}, ",", ""},
		{[]string{"a"}, ",", "a"},
		{[]string{"a", "b"}, "-", "a-b"},
		{[]string{"a", "b", "c"}, "", "abc"},
		{[]string{"", ""}, ",", ","},
		{[]string{"", "a", ""}, " | ", " | a | "},
		{[]string{"\xff", "\x00"}, "\x80", "\xff\x80\x00"},
	}
	for _, c := range cases {
		if got := impl.Join(c.list, c.by); got != c.want {
			t.Errorf("Join(%q, %q) = %q, want %q", c.list, c.by, got, c.want)
		}
	}
}

func TestJoinInvertsSplitByte(t *testing.T) {
	for _, by := range []byte{',', 'a', 0, 0x80, 0xff} {
		separator := string([]byte{by})
		eachString("ab,\x00\x80\xff", 4, func(s string) {
			parts := impl.SplitByte(s, by)
			if len(parts) != strings.Count(s, separator)+1 {
				t.Errorf("SplitByte(%q, %d) has %d parts", s, by, len(parts))
			}
			for _, p := range parts {
				if strings.Contains(p, separator) {
					t.Errorf("SplitByte(%q, %d) has the part %q", s, by, p)
				}
			}
			if got := impl.Join(parts, separator); got != s {
				t.Errorf("Join of SplitByte(%q, %d) = %q", s, by, got)
			}
		})
	}
}

func TestSplitByteInvertsJoin(t *testing.T) {
	words := []string{"", "a", "bc", "\xff"}
	eachString("0123", 4, func(digits string) {
		var list []string
		for i := range len(digits) {
			list = append(list, words[digits[i]-'0'])
		}
		if len(list) == 0 {
			return
		}
		if got := impl.SplitByte(impl.Join(list, ";"), ';'); !slices.Equal(got, list) {
			t.Errorf("SplitByte of Join(%q) = %q", list, got)
		}
	})
}

func TestJoinKeepsItsArgument(t *testing.T) {
	whole := []string{"a", "b", "c", "d"}
	impl.Join(whole[:2], ",")
	if !slices.Equal(whole, []string{"a", "b", "c", "d"}) {
		t.Errorf("Join changed its argument: %q", whole)
	}
}

func TestSplitByteReturnsNewMemory(t *testing.T) {
	first := impl.SplitByte("a,b", ',')
	first[0] = "changed"
	if got := impl.SplitByte("a,b", ','); got[0] != "a" {
		t.Errorf("SplitByte returned shared memory: %q", got)
	}
}
