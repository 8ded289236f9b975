package tests

import (
	"regexp"
	"slices"
	"strings"
	"testing"

	"loop.example/g00519/impl"
)

var reservedWords = []string{"type", "match", "case", "if", "int", "text"}

// wantNames checks IsName and IsConName of one string.
func wantNames(t *testing.T, s string, name, conName bool) {
	t.Helper()
	if got := impl.IsName(s); got != name {
		t.Errorf("IsName(%q) = %v, want %v", s, got, name)
	}
	if got := impl.IsConName(s); got != conName {
		t.Errorf("IsConName(%q) = %v, want %v", s, got, conName)
	}
}

// wantList checks a returned list, of which nil and empty are the same.
func wantList(t *testing.T, call string, got, want []string) {
	t.Helper()
	if !slices.Equal(got, want) {
		t.Errorf("%s = %q, want %q", call, got, want)
	}
}

// eachList calls visit with every list of at most size of the words.
func eachList(words []string, size int, visit func(list []string)) {
	digits := "0123456789"[:len(words)]
	eachString(digits, size, func(s string) {
		list := []string{}
		for i := range len(s) {
			list = append(list, words[s[i]-'0'])
		}
		visit(list)
	})
}

func TestMaxName(t *testing.T) {
	if impl.MaxName != 8 {
		t.Errorf("MaxName = %d, want 8", impl.MaxName)
	}
}

func TestReservedWordsAreNoNames(t *testing.T) {
	for _, s := range reservedWords {
		if !impl.IsReserved(s) {
			t.Errorf("IsReserved(%q) = false", s)
		}
		wantNames(t, s, false, false)
	}
}

func TestWordsNearReservedOnes(t *testing.T) {
	for _, s := range reservedWords {
		shorter, upper := s[:len(s)-1], strings.ToUpper(s[:1])+s[1:]
		for _, name := range []string{s + "x", s + "1", "x" + s, shorter} {
			wantNames(t, name, true, false)
		}
		wantNames(t, upper, false, true)
		others := []string{s + " ", " " + s, s + "\n", s + "\x00", s + "\xff", strings.ToUpper(s)}
		for _, no := range others {
			wantNames(t, no, false, false)
		}
		for _, no := range append(others, s+"x", s+"1", "x"+s, shorter, upper, s+s) {
			if impl.IsReserved(no) {
				t.Errorf("IsReserved(%q) = true", no)
			}
		}
	}
}

func TestOtherWordsAreNotReserved(t *testing.T) {
	list := []string{"", " ", "else", "then", "fail", "arm", "list", "string", "bool", "true", "var", "func", "x", "T"}
	for _, s := range list {
		if impl.IsReserved(s) {
			t.Errorf("IsReserved(%q) = true", s)
		}
	}
}

func TestOrdinaryNames(t *testing.T) {
	for _, s := range []string{"a", "z", "x", "x1", "list", "hue", "a0", "z9", "t2t", "integer", "texts"} {
		wantNames(t, s, true, false)
	}
	for _, s := range []string{"A", "Z", "X", "X1", "Nil", "Cons", "Cons2", "A0", "Z9", "T2t", "Int", "Text"} {
		wantNames(t, s, false, true)
	}
}

func TestInvalidNames(t *testing.T) {
	list := []string{
		"", " ", "_", "-", "0", "1", "9", "1a", "1A", "12345678", "0x",
		"aB", "AB", "ABc", "abC", "AbC", "aZ9", "camelC",
		"a b", "A b", " a", " A", "a ", "A ", "a\n", "A\n", "\na", "a\t", "a\x00", "\x00", "\x00a",
		"a_b", "A_b", "_a", "_A", "a_", "A_", "a-b", "a.b", "a'", "a@", "a|b", "A(b)", "\"a\"", "a,b",
		"\x80", "\xff", "a\x80", "A\x80", "\xe1", "a\xe1", "A\xf1", "\xc1", "a\xc1", "\xb0", "a\xb0b",
		"é", "É", "aé", "Aé", "éa", "ß", "а", "А", "ａ", "Ａ", "a１", "a٣", "日本", "a\u0301", "\ufeffa",
	}
	for _, s := range list {
		wantNames(t, s, false, false)
	}
}

func TestEveryByteAtEveryPosition(t *testing.T) {
	lower, upper := "abcdefghijklmnopqrstuvwxyz", "ABCDEFGHIJKLMNOPQRSTUVWXYZ"
	inner := lower + "0123456789"
	for size := 1; size <= impl.MaxName; size++ {
		for b := range 256 {
			first := string([]byte{byte(b)})
			rest := strings.Repeat("q", size-1)
			wantNames(t, first+rest, strings.Contains(lower, first), strings.Contains(upper, first))
			for at := 1; at < size; at++ {
				tail := rest[:at-1] + first + rest[at:]
				ok := strings.Contains(inner, first)
				wantNames(t, "q"+tail, ok, false)
				wantNames(t, "Q"+tail, false, ok)
			}
		}
	}
}

func TestNamesOfEveryLength(t *testing.T) {
	for size := 1; size <= 40; size++ {
		ok := size <= 8
		for _, rest := range []string{"a", "z", "0", "9", "type"} {
			tail := strings.Repeat(rest, size)[:size-1]
			wantNames(t, "x"+tail, ok, false)
			wantNames(t, "X"+tail, false, ok)
		}
	}
	wantNames(t, "abcdefgh", true, false)
	wantNames(t, "abcdefghi", false, false)
	wantNames(t, "Abcdefgh", false, true)
	wantNames(t, "Abcdefghi", false, false)
	wantNames(t, "x1234567", true, false)
	wantNames(t, "x12345678", false, false)
	wantNames(t, strings.Repeat("a", 100000), false, false)
	wantNames(t, "A"+strings.Repeat("a", 256), false, false)
}

// The limit counts bytes, so characters of several bytes must not make more room.
func TestNamesAreMeasuredInBytes(t *testing.T) {
	wantNames(t, "aaaaaaaé", false, false)
	wantNames(t, "aaaaaaé", false, false)
	wantNames(t, "Aaaaaaaé", false, false)
}

func TestNamesOfAllShortStrings(t *testing.T) {
	name := regexp.MustCompile(`^[a-z][a-z0-9]{0,7}$`)
	conName := regexp.MustCompile(`^[A-Z][a-z0-9]{0,7}$`)
	eachString("aifntAI1_ \n\x80", 4, func(s string) {
		reserved := slices.Contains(reservedWords, s)
		if impl.IsReserved(s) != reserved {
			t.Errorf("IsReserved(%q) = %v", s, !reserved)
		}
		wantNames(t, s, name.MatchString(s) && !reserved, conName.MatchString(s))
	})
}

func TestIndexOf(t *testing.T) {
	cases := []struct {
		list []string
		s    string
		want int
	}{
		{nil, "a", -1},
		{nil, "", -1},
		{[]string{}, "", -1},
		{[]string{""}, "", 0},
		{[]string{"a", ""}, "", 1},
		{[]string{"a"}, "a", 0},
		{[]string{"a", "b", "c"}, "a", 0},
		{[]string{"a", "b", "c"}, "c", 2},
		{[]string{"c", "b", "a"}, "a", 2},
		{[]string{"a", "b", "a", "b"}, "b", 1},
		{[]string{"b", "b", "b"}, "b", 0},
		{[]string{"a", "b"}, "c", -1},
		{[]string{"a", "b"}, "", -1},
		{[]string{"ab", "abc"}, "abc", 1},
		{[]string{"ab", "abc"}, "a", -1},
		{[]string{"A"}, "a", -1},
		{[]string{"\xff", "\xfe"}, "\xfe", 1},
		{[]string{"a\x00", "a"}, "a", 1},
	}
	for _, c := range cases {
		if got := impl.IndexOf(c.list, c.s); got != c.want {
			t.Errorf("IndexOf(%q, %q) = %d, want %d", c.list, c.s, got, c.want)
		}
	}
}

func TestAllDistinct(t *testing.T) {
	cases := []struct {
		list []string
		want bool
	}{
		{nil, true},
		{[]string{}, true},
		{[]string{""}, true},
		{[]string{"a"}, true},
		{[]string{"a", "a"}, false},
		{[]string{"", ""}, false},
		{[]string{"a", ""}, true},
		{[]string{"b", "a"}, true},
		{[]string{"a", "b", "a"}, false},
		{[]string{"a", "b", "b"}, false},
		{[]string{"a", "a", "b"}, false},
		{[]string{"a", "b", "c", "d", "a"}, false},
		{[]string{"a", "ab", "abc"}, true},
		{[]string{"a", "A"}, true},
		{[]string{"\xff", "\xfe"}, true},
		{[]string{"a", "a\x00"}, true},
	}
	for _, c := range cases {
		if got := impl.AllDistinct(c.list); got != c.want {
			t.Errorf("AllDistinct(%q) = %v, want %v", c.list, got, c.want)
		}
	}
}

func TestSortNames(t *testing.T) {
	cases := []struct{ list, want []string }{
		{nil, nil},
		{[]string{}, nil},
		{[]string{""}, []string{""}},
		{[]string{"", "", ""}, []string{""}},
		{[]string{"a"}, []string{"a"}},
		{[]string{"y", "x", "y"}, []string{"x", "y"}},
		{[]string{"b", "a"}, []string{"a", "b"}},
		{[]string{"a", "b", "c"}, []string{"a", "b", "c"}},
		{[]string{"c", "b", "a", "c", "b", "a"}, []string{"a", "b", "c"}},
		{[]string{"a", "a", "a"}, []string{"a"}},
		{[]string{"abc", "ab", "a", "", "abcd"}, []string{"", "a", "ab", "abc", "abcd"}},
		{[]string{"b", "ab", "a", "aa"}, []string{"a", "aa", "ab", "b"}},
		{[]string{"x10", "x2", "x1"}, []string{"x1", "x10", "x2"}},
		{[]string{"a", "Z", "0", "_", "A", "z"}, []string{"0", "A", "Z", "_", "a", "z"}},
		{[]string{"a\x00", "a", "a\x00\x00", "\x00"}, []string{"\x00", "a", "a\x00", "a\x00\x00"}},
		{[]string{"\xff", "\x80", "z", "\x7f", "é"}, []string{"z", "\x7f", "\x80", "é", "\xff"}},
		{[]string{"\U00010000", "\uffff"}, []string{"\uffff", "\U00010000"}},
	}
	for _, c := range cases {
		wantList(t, "SortNames", impl.SortNames(c.list), c.want)
	}
}

func TestWithout(t *testing.T) {
	cases := []struct{ list, remove, want []string }{
		{nil, nil, nil},
		{nil, []string{"a"}, nil},
		{[]string{}, []string{}, nil},
		{[]string{"a"}, nil, []string{"a"}},
		{[]string{"b", "a", "b"}, nil, []string{"b", "a", "b"}},
		{[]string{"b", "a", "b"}, []string{}, []string{"b", "a", "b"}},
		{[]string{"a", "b", "a", "c"}, []string{"a"}, []string{"b", "c"}},
		{[]string{"a", "b", "a", "c"}, []string{"b"}, []string{"a", "a", "c"}},
		{[]string{"c", "a", "b", "c"}, []string{"a", "a"}, []string{"c", "b", "c"}},
		{[]string{"a", "b"}, []string{"b", "a"}, nil},
		{[]string{"a", "a"}, []string{"a", "a", "a"}, nil},
		{[]string{"a", "b"}, []string{"x", "y"}, []string{"a", "b"}},
		{[]string{"a", "b"}, []string{""}, []string{"a", "b"}},
		{[]string{"", "b", ""}, []string{""}, []string{"b"}},
		{[]string{"a", "ab", "abc"}, []string{"ab"}, []string{"a", "abc"}},
		{[]string{"a", "A"}, []string{"A"}, []string{"a"}},
		{[]string{"\xff", "\xfe"}, []string{"\xff"}, []string{"\xfe"}},
	}
	for _, c := range cases {
		wantList(t, "Without", impl.Without(c.list, c.remove), c.want)
	}
}

func TestSortNamesOfAllShortLists(t *testing.T) {
	words := []string{"", "a", "ab", "b", "B", "a1", "\xff"}
	eachList(words, 4, func(list []string) {
		sorted := impl.SortNames(list)
		for i := 1; i < len(sorted); i++ {
			if sorted[i-1] >= sorted[i] {
				t.Errorf("SortNames(%q) = %q is not ascending", list, sorted)
			}
		}
		for _, w := range words {
			if slices.Contains(list, w) != slices.Contains(sorted, w) {
				t.Errorf("SortNames(%q) = %q has other elements", list, sorted)
			}
		}
		if impl.AllDistinct(list) != (len(sorted) == len(list)) {
			t.Errorf("AllDistinct(%q) = %v", list, impl.AllDistinct(list))
		}
		wantList(t, "SortNames of a sorted list", impl.SortNames(sorted), sorted)
	})
}

func TestIndexOfInAllShortLists(t *testing.T) {
	words := []string{"", "a", "ab", "b"}
	eachList(words, 4, func(list []string) {
		for _, w := range words {
			want := -1
			for i := len(list) - 1; i >= 0; i-- {
				if list[i] == w {
					want = i
				}
			}
			if got := impl.IndexOf(list, w); got != want {
				t.Errorf("IndexOf(%q, %q) = %d, want %d", list, w, got, want)
			}
		}
	})
}

func TestWithoutOfAllShortLists(t *testing.T) {
	words := []string{"", "a", "ab"}
	eachList(words, 4, func(list []string) {
		eachList(words, 3, func(remove []string) {
			want := slices.DeleteFunc(slices.Clone(list), func(s string) bool { return slices.Contains(remove, s) })
			wantList(t, "Without", impl.Without(list, remove), want)
		})
	})
}

func TestLongLists(t *testing.T) {
	const size = 50000
	var list, want []string
	for i := range size {
		want = append(want, "n"+string([]byte{'a' + byte(i/26/26/26%26), 'a' + byte(i/26/26%26), 'a' + byte(i/26%26), 'a' + byte(i%26)}))
	}
	for i := range 2 * size {
		list = append(list, want[i*7919%size])
	}
	wantList(t, "SortNames of a long list", impl.SortNames(list), want)
	if impl.AllDistinct(list) || !impl.AllDistinct(list[:size]) || impl.AllDistinct(list[:size+1]) {
		t.Error("AllDistinct of a long list: wrong result")
	}
	wantList(t, "Without of a long list", impl.Without(list, want[1:]), []string{want[0], want[0]})
	if got := impl.IndexOf(want, want[size-1]); got != size-1 {
		t.Errorf("IndexOf in a long list = %d", got)
	}
}

// The functions get parts of longer lists here, so that a write behind their end is seen, too.
func TestNameFunctionsKeepTheirArguments(t *testing.T) {
	list := []string{"c", "a", "c", "b", "spare", "room"}
	remove := []string{"b", "a", "a", "spare", "room"}
	listBefore, removeBefore := slices.Clone(list), slices.Clone(remove)
	for size := range len(list) + 1 {
		part := list[:size]
		impl.IndexOf(part, "b")
		impl.AllDistinct(part)
		impl.SortNames(part)
		for removed := range len(remove) + 1 {
			impl.Without(part, remove[:removed])
		}
	}
	wantList(t, "the list afterwards", list, listBefore)
	wantList(t, "the list of removed names afterwards", remove, removeBefore)
}

// overwrite changes every element of a list and of its unused capacity.
func overwrite(list []string) {
	list = list[:cap(list)]
	for i := range list {
		list[i] = "changed"
	}
}

func TestListsOfNamesAreNewMemory(t *testing.T) {
	whole := []string{"a", "b", "c", "spare", "room"}
	before := slices.Clone(whole)
	for size := range len(whole) + 1 {
		overwrite(impl.SortNames(whole[:size]))
		overwrite(impl.Without(whole[:size], nil))
		overwrite(impl.Without(whole[:size], whole[:1]))
		overwrite(impl.Without(whole[:size], []string{"x"}))
		wantList(t, "the list after its results were overwritten", whole, before)
	}
	wantList(t, "SortNames again", impl.SortNames(whole[:3]), whole[:3])
	wantList(t, "Without again", impl.Without(whole[:3], nil), whole[:3])
}
