package tests

import (
	"fmt"
	"math"
	"math/rand"
	"slices"
	"strings"
	"testing"

	"loop.example/g00519/impl"
)

func wantPart(t *testing.T, v impl.Value, o []int, want impl.Value) {
	t.Helper()
	if got, ok := impl.ValueAt(v, o); !ok || !sameValue(got, want) {
		t.Errorf("ValueAt(%s, %.300v) = %s, %v, want %s, true", brief(v), o, brief(got), ok, brief(want))
	}
}

func wantNoPart(t *testing.T, v impl.Value, o []int) {
	t.Helper()
	if got, ok := impl.ValueAt(v, o); ok || !sameValue(got, impl.Value{}) {
		t.Errorf("ValueAt(%s, %.300v) = %s, %v, want the zero Value, false", brief(v), o, brief(got), ok)
	}
}

func wantOccurrence(t *testing.T, o []int, want string) {
	t.Helper()
	if got := impl.FormatOccurrence(o); got != want {
		t.Errorf("FormatOccurrence(%.300v) = %.300q, want %.300q", o, got, want)
	}
}

// wantOrder checks both directions.
func wantOrder(t *testing.T, a, b []int, want int) {
	t.Helper()
	if got := impl.CompareOccurrences(a, b); got != want {
		t.Errorf("CompareOccurrences(%.300v, %.300v) = %d, want %d", a, b, got, want)
	}
	if got := impl.CompareOccurrences(b, a); got != -want {
		t.Errorf("CompareOccurrences(%.300v, %.300v) = %d, want %d", b, a, got, -want)
	}
}

func wantKey(t *testing.T, v impl.Value, want impl.Key) {
	t.Helper()
	if got := impl.KeyOf(v); got != want {
		t.Errorf("KeyOf(%s) = %+v, want %+v", brief(v), got, want)
	}
}

func wantKeyText(t *testing.T, k impl.Key, want string) {
	t.Helper()
	if got := impl.FormatKey(k); got != want {
		t.Errorf("FormatKey(%+v) = %q, want %q", k, got, want)
	}
}

func wantIndex(t *testing.T, list []impl.Key, k impl.Key, want int) {
	t.Helper()
	if got := impl.FindKey(list, k); got != want {
		t.Errorf("FindKey(%.300v, %+v) = %d, want %d", list, k, got, want)
	}
}

func TestKeyConstants(t *testing.T) {
	if impl.KeyInt != 1 || impl.KeyText != 2 || impl.KeyCon != 3 {
		t.Error("the kinds of keys are wrong")
	}
}

// document returns a value with constructors, integers and strings at several depths.
func document() impl.Value {
	list := conOf("Cons", intOf(5), conOf("Cons", intOf(-1), conOf("Nil")))
	return conOf("Doc", textOf("t"), list, conOf("Mix", conOf("Red"), conOf("Mix", conOf("Blue"), textOf(""))))
}

// Each index belongs to the level that its place in the list says.
func TestPartsOfAKnownValue(t *testing.T) {
	parts := []struct {
		at   []int
		part string
	}{
		{nil, `Doc("t", Cons(5, Cons(-1, Nil)), Mix(Red, Mix(Blue, "")))`},
		{[]int{0}, `"t"`},
		{[]int{1}, "Cons(5, Cons(-1, Nil))"},
		{[]int{1, 0}, "5"},
		{[]int{1, 1}, "Cons(-1, Nil)"},
		{[]int{1, 1, 0}, "-1"},
		{[]int{1, 1, 1}, "Nil"},
		{[]int{2}, `Mix(Red, Mix(Blue, ""))`},
		{[]int{2, 0}, "Red"},
		{[]int{2, 1}, `Mix(Blue, "")`},
		{[]int{2, 1, 0}, "Blue"},
		{[]int{2, 1, 1}, `""`},
	}
	for _, p := range parts {
		want, ok := impl.ParseValue(p.part)
		if !ok {
			t.Fatalf("ParseValue(%q) fails", p.part)
		}
		wantPart(t, document(), p.at, want)
	}
}

// An occurrence that goes both ways distinguishes the outermost index from the innermost one.
func TestIndicesStartAtTheOutermostConstructor(t *testing.T) {
	v := conOf("A", conOf("B", intOf(1), intOf(2)), intOf(3))
	wantPart(t, v, []int{0, 1}, intOf(2))
	wantNoPart(t, v, []int{1, 0})
}

// eachPart visits the parts of a value with their occurrences, the whole value first.
func eachPart(v impl.Value, visit func(o []int, part impl.Value)) {
	visit([]int{}, v)
	for i, arg := range v.Args {
		eachPart(arg, func(o []int, part impl.Value) {
			visit(append([]int{i}, o...), part)
		})
	}
}

func TestPartsOfManyValues(t *testing.T) {
	random := rand.New(rand.NewSource(5))
	for range 500 {
		v := anyValue(random, 1+random.Intn(6))
		eachPart(v, func(o []int, part impl.Value) {
			wantPart(t, v, o, part)
			for _, i := range []int{-1, len(part.Args), len(part.Args) + 1, math.MinInt64, math.MaxInt64} {
				missing := append(slices.Clone(o), i)
				wantNoPart(t, v, missing)
				wantNoPart(t, v, append(missing, 0))
			}
		})
	}
}

// The part at the rest of an occurrence, in the part at its start, is the part at the whole of it.
func TestAPartOfAPartIsAtTheLongerOccurrence(t *testing.T) {
	random := rand.New(rand.NewSource(55))
	for range 300 {
		v := anyValue(random, 6)
		eachPart(v, func(o []int, part impl.Value) {
			for size := range len(o) + 1 {
				outer, ok := impl.ValueAt(v, o[:size])
				if !ok {
					t.Fatalf("ValueAt(%s, %v) = false", brief(v), o[:size])
				}
				wantPart(t, outer, o[size:], part)
				wantNoPart(t, outer, append(slices.Clone(o[size:]), len(part.Args)))
			}
			eachPart(part, func(below []int, inner impl.Value) {
				wantPart(t, v, slices.Concat(o, below), inner)
			})
		})
	}
}

func TestTheWholeValue(t *testing.T) {
	values := append(differentValues(), document(), chainOf(20), fanOf(50))
	for _, v := range values {
		wantPart(t, v, nil, v)
		wantPart(t, v, []int{}, v)
		wantPart(t, v, []int{7, 7}[:0], v)
	}
	wantOccurrence(t, nil, "v")
	wantOccurrence(t, []int{}, "v")
	wantOccurrence(t, []int{7, 7}[:0], "v")
}

func TestFirstAndLastIndices(t *testing.T) {
	for _, size := range []int{1, 2, 3, 9, 10, 11, 100, 101, 1234} {
		var args []impl.Value
		for i := range size {
			args = append(args, intOf(1000+i))
		}
		v := conOf("Fan", args...)
		for _, i := range []int{0, size / 2, size - 1} {
			wantPart(t, v, []int{i}, intOf(1000+i))
			wantPart(t, conOf("A", intOf(0), v), []int{1, i}, intOf(1000+i))
		}
		for _, i := range []int{-size, -1, size, size + 1, 10 * size, math.MaxInt64, math.MinInt64} {
			wantNoPart(t, v, []int{i})
			wantNoPart(t, conOf("A", intOf(0), v), []int{1, i})
		}
	}
}

func TestOccurrencesThatDoNotExist(t *testing.T) {
	missing := [][]int{
		{3}, {4}, {-1}, {-3}, {math.MaxInt64}, {math.MinInt64}, {1 << 32}, {1<<32 + 1}, {-1 << 32},
		{3, 0}, {-1, 0}, {4, 1, 1}, {0, 0}, {0, 1}, {0, -1}, {0, 0, 0},
		{1, 2}, {1, -1}, {1, 0, 0}, {1, 0, 1}, {1, 1, 2}, {1, 1, -1}, {1, 1, 0, 0}, {1, 1, 1, 0}, {1, 1, 1, -1}, {1, 1, 1, 1},
		{2, 0, 0}, {2, 0, -1}, {2, 2}, {2, 1, 1, 0}, {2, 1, 0, 0}, {2, 1, 2}, {1, math.MaxInt64}, {1, math.MinInt64, 0},
		// No later element makes up for one that does not exist.
		{-1, 1}, {3, 2, 1}, {1, 2, 0}, {1, -1, 1, 0},
	}
	for _, o := range missing {
		wantNoPart(t, document(), o)
		wantNoPart(t, conOf("Doc", document(), document()), append([]int{1}, o...))
	}
}

func TestNothingIsBelowAValueWithoutArgs(t *testing.T) {
	values := []impl.Value{
		intOf(0), intOf(1), intOf(-1), intOf(math.MaxInt64), textOf(""), textOf("ab"), textOf("0"), conOf("Nil"), conOf(""), {},
		{Kind: impl.ViCon, Text: "Nil", Args: []impl.Value{}}, {Kind: 4}, {Kind: -1, N: 2, Text: "Cons"},
		// The unused capacity of Args is no part.
		{Kind: impl.ViCon, Text: "Nil", Args: []impl.Value{intOf(1), intOf(2)}[:0]},
	}
	for _, v := range values {
		for _, i := range []int{0, 1, -1, 2, math.MaxInt64, math.MinInt64} {
			wantNoPart(t, v, []int{i})
			wantNoPart(t, v, []int{i, 0})
			wantNoPart(t, conOf("A", v), []int{0, i})
			wantNoPart(t, conOf("A", intOf(1), conOf("B", v)), []int{1, 0, i})
		}
		wantPart(t, conOf("A", intOf(1), conOf("B", v)), []int{1, 0}, v)
	}
	v := conOf("A", []impl.Value{intOf(1), intOf(2), intOf(3)}[:2]...)
	wantPart(t, v, []int{1}, intOf(2))
	wantNoPart(t, v, []int{2})
}

// All fields of a part are returned; parts are counted by Args alone, as CountValue does.
func TestPartsOfInvalidValues(t *testing.T) {
	for _, kind := range []int{0, impl.ViInt, impl.ViText, impl.ViCon, 4, -1, math.MinInt64} {
		inner := impl.Value{Kind: kind, N: 6, Text: "x\xff\"", Args: []impl.Value{{}, {Kind: kind, N: -1, Text: "y"}}}
		v := impl.Value{Kind: kind, N: 5, Text: "z", Args: []impl.Value{intOf(1), inner}}
		parts := 0
		eachPart(v, func(o []int, part impl.Value) {
			parts++
			wantPart(t, v, o, part)
		})
		if parts != 5 || impl.CountValue(v) != 5 {
			t.Errorf("%d parts, CountValue = %d", parts, impl.CountValue(v))
		}
		for _, o := range [][]int{{2}, {-1}, {0, 0}, {1, 2}, {1, 0, 0}, {1, 1, 0}} {
			wantNoPart(t, v, o)
		}
	}
}

func TestPartsFarBeyondTheLimits(t *testing.T) {
	const depth = 30000
	v, o := chainOf(depth), make([]int, depth)
	wantNoPart(t, v, o)
	for _, size := range []int{0, 1, depth / 2, depth - 1} {
		wantPart(t, v, o[:size], chainOf(depth-size))
	}
	o[depth/2] = 1
	wantNoPart(t, v, o[:depth-1])
	wantPart(t, conOf("A", intOf(1), fanOf(depth)), []int{1}, fanOf(depth))
	wantPart(t, conOf("A", intOf(1), fanOf(depth)), []int{1, depth - 1}, intOf(1))
	wantNoPart(t, conOf("A", intOf(1), fanOf(depth)), []int{1, depth})
}

func TestFormatOfKnownOccurrences(t *testing.T) {
	wantOccurrence(t, []int{0}, "v.0")
	wantOccurrence(t, []int{1}, "v.1")
	wantOccurrence(t, []int{1, 0}, "v.1.0")
	wantOccurrence(t, []int{0, 1}, "v.0.1")
	wantOccurrence(t, []int{2, 0, 1}, "v.2.0.1")
	wantOccurrence(t, []int{0, 0, 0, 0}, "v.0.0.0.0")
	wantOccurrence(t, []int{10}, "v.10")
	wantOccurrence(t, []int{12, 345, 6}, "v.12.345.6")
	wantOccurrence(t, []int{999999, 1000000, 0, 1234567890123}, "v.999999.1000000.0.1234567890123")
	wantOccurrence(t, []int{-1}, "v.-1")
	wantOccurrence(t, []int{-10, 0, -7}, "v.-10.0.-7")
	wantOccurrence(t, []int{math.MaxInt64, math.MinInt64}, "v.9223372036854775807.-9223372036854775808")
	wantOccurrence(t, make([]int, 30000), "v"+strings.Repeat(".0", 30000))
}

// anyOccurrence returns a list of at most this many indices, negative ones among them.
func anyOccurrence(random *rand.Rand, size int) []int {
	indices := []int{0, 1, 2, 9, 10, 11, 123, -1, -2, -10, math.MaxInt64, math.MinInt64}
	o := make([]int, random.Intn(size+1))
	for i := range o {
		o[i] = indices[random.Intn(len(indices))]
	}
	return o
}

func TestFormatOfManyOccurrences(t *testing.T) {
	random := rand.New(rand.NewSource(5))
	for range 2000 {
		o := anyOccurrence(random, 8)
		want := "v"
		for _, i := range o {
			want += fmt.Sprintf(".%d", i)
		}
		wantOccurrence(t, o, want)
	}
}

func TestOrderOfKnownOccurrences(t *testing.T) {
	// Each list precedes all that follow it.
	ascending := [][]int{
		{}, {math.MinInt64}, {math.MinInt64, math.MaxInt64}, {-10}, {-9}, {-1}, {-1, 5}, {0}, {0, math.MinInt64}, {0, -1}, {0, 0}, {0, 0, 0}, {0, 0, 1},
		{0, 1}, {0, 1, 0}, {0, 2}, {0, 10}, {0, math.MaxInt64}, {1}, {1, 0}, {1, 0, 9, 9}, {1, 1}, {2}, {9}, {9, 9}, {10}, {11}, {99}, {100}, {100, 0},
		{math.MaxInt64 - 1, math.MaxInt64}, {math.MaxInt64}, {math.MaxInt64, math.MinInt64}, {math.MaxInt64, math.MaxInt64},
	}
	for i, a := range ascending {
		for k, b := range ascending {
			switch {
			case i < k:
				wantOrder(t, a, b, -1)
			case i == k:
				wantOrder(t, a, slices.Clone(b), 0)
			}
		}
	}
}

func TestOrderOfEmptyOccurrences(t *testing.T) {
	none := [][]int{nil, {}, []int{7, 7}[:0]}
	for _, a := range none {
		for _, b := range none {
			wantOrder(t, a, b, 0)
		}
		for _, b := range [][]int{{0}, {-1}, {math.MinInt64}, {1, 2}} {
			wantOrder(t, a, b, -1)
		}
	}
}

func TestAProperPrefixPrecedesTheLongerOccurrence(t *testing.T) {
	random := rand.New(rand.NewSource(5))
	for range 2000 {
		longer := anyOccurrence(random, 8)
		for size := range longer {
			wantOrder(t, longer[:size], longer, -1)
		}
	}
	long := make([]int, 30000)
	wantOrder(t, long[:29999], long, -1)
	wantOrder(t, long, make([]int, 30000), 0)
	wantOrder(t, long, append(make([]int, 29999), 1), -1)
	wantOrder(t, long, append(make([]int, 29999), -1), 1)
}

// The first element that differs decides, whatever follows it and however long the lists are.
func TestTheFirstDifferenceDecides(t *testing.T) {
	random := rand.New(rand.NewSource(5))
	for range 5000 {
		same := anyOccurrence(random, 4)
		x, y := anyOccurrence(random, 4), anyOccurrence(random, 4)
		if len(x) == 0 || len(y) == 0 || x[0] == y[0] {
			continue
		}
		want := 1
		if x[0] < y[0] {
			want = -1
		}
		wantOrder(t, slices.Concat(same, x), slices.Concat(same, y), want)
	}
}

// shortOccurrences returns all lists of at most three of the indices.
func shortOccurrences(indices []int) [][]int {
	lists := [][]int{{}}
	for from, size := 0, 1; size <= 3; size++ {
		to := len(lists)
		for _, shorter := range lists[from:to] {
			for _, i := range indices {
				lists = append(lists, append(slices.Clone(shorter), i))
			}
		}
		from = to
	}
	return lists
}

func TestCompareOccurrencesIsAnOrder(t *testing.T) {
	lists := shortOccurrences([]int{math.MinInt64, 0, 1, math.MaxInt64})
	if len(lists) != 1+4+16+64 {
		t.Fatalf("%d lists", len(lists))
	}
	results := make([][]int, len(lists))
	for i, a := range lists {
		for k, b := range lists {
			got := impl.CompareOccurrences(a, b)
			if got < -1 || got > 1 || (got == 0) != (i == k) || got != -impl.CompareOccurrences(b, a) {
				t.Errorf("CompareOccurrences(%v, %v) = %d", a, b, got)
			}
			results[i] = append(results[i], got)
		}
	}
	for i := range lists {
		for k := range lists {
			for m := range lists {
				if results[i][k] < 0 && results[k][m] < 0 && results[i][m] >= 0 {
					t.Errorf("%v precedes %v, and this %v, but the first does not precede the last", lists[i], lists[k], lists[m])
				}
			}
		}
	}
}

// A part is inside the parts at the prefixes of its occurrence, which therefore come first when parts are visited.
func TestOccurrencesOfAValueAreVisitedInOrder(t *testing.T) {
	var before []int
	eachPart(document(), func(o []int, _ impl.Value) {
		if len(o) > 0 {
			wantOrder(t, before, o, -1)
		}
		before = o
	})
}

func TestKeysOfKnownValues(t *testing.T) {
	for _, n := range []int{0, 1, -1, 42, impl.MaxInt, -impl.MaxInt, math.MaxInt64, math.MinInt64} {
		wantKey(t, intOf(n), impl.Key{Kind: 1, N: n})
		wantKeyText(t, impl.KeyOf(intOf(n)), fmt.Sprint(n))
	}
	for _, s := range []string{"", "a", " ", "Nil", "0", "a b", "12345678", "a\"\n\x00\xff much too long"} {
		wantKey(t, textOf(s), impl.Key{Kind: 2, Text: s})
		wantKeyText(t, impl.KeyOf(textOf(s)), `"`+s+`"`)
	}
	for _, s := range []string{"Nil", "Cons", "A", "Abcdefgh", "", "type", "a\"b c\xff"} {
		wantKey(t, conOf(s), impl.Key{Kind: 3, Text: s})
		wantKeyText(t, impl.KeyOf(conOf(s)), s)
	}
}

func TestKeysDoNotDependOnArgs(t *testing.T) {
	for _, v := range []impl.Value{
		conOf("Cons"), conOf("Cons", intOf(1)), conOf("Cons", intOf(2), conOf("Nil")), conOf("Cons", conOf("Cons"), textOf("x"), intOf(0), intOf(0)),
		conOf("Cons", impl.Value{}), {Kind: impl.ViCon, Text: "Cons", Args: []impl.Value{}}, conOf("Cons", chainOf(1000)),
	} {
		wantKey(t, v, impl.Key{Kind: 3, Text: "Cons"})
	}
}

// A key has the fields of its kind alone.
func TestKeysOfValuesWithOtherFields(t *testing.T) {
	args := []impl.Value{intOf(1)}
	wantKey(t, impl.Value{Kind: impl.ViInt, N: 5, Text: "x", Args: args}, impl.Key{Kind: 1, N: 5})
	wantKey(t, impl.Value{Kind: impl.ViInt, Text: "x"}, impl.Key{Kind: 1})
	wantKey(t, impl.Value{Kind: impl.ViText, N: 5, Text: "x", Args: args}, impl.Key{Kind: 2, Text: "x"})
	wantKey(t, impl.Value{Kind: impl.ViText, N: 5}, impl.Key{Kind: 2})
	wantKey(t, impl.Value{Kind: impl.ViCon, N: 5, Text: "X", Args: args}, impl.Key{Kind: 3, Text: "X"})
	wantKey(t, impl.Value{Kind: impl.ViCon, N: -5}, impl.Key{Kind: 3})
}

func TestKeysOfOtherKinds(t *testing.T) {
	for _, kind := range []int{0, 4, 5, -1, -2, -3, 7, 1 << 32, 1<<32 + 1, math.MaxInt64, math.MinInt64} {
		wantKey(t, impl.Value{Kind: kind}, impl.Key{})
		wantKey(t, impl.Value{Kind: kind, N: 3, Text: "X", Args: []impl.Value{intOf(1)}}, impl.Key{})
		wantKeyText(t, impl.Key{Kind: kind}, "?")
		wantKeyText(t, impl.Key{Kind: kind, N: 3, Text: "X"}, "?")
	}
	wantKeyText(t, impl.KeyOf(impl.Value{}), "?")
}

// Representations do not show the fields that a kind does not have.
func TestFormatOfKeysWithOtherFields(t *testing.T) {
	wantKeyText(t, impl.Key{Kind: impl.KeyInt, N: -5, Text: "x"}, "-5")
	wantKeyText(t, impl.Key{Kind: impl.KeyInt, Text: "x"}, "0")
	wantKeyText(t, impl.Key{Kind: impl.KeyText, N: 5, Text: "x"}, `"x"`)
	wantKeyText(t, impl.Key{Kind: impl.KeyText, N: 5}, `""`)
	wantKeyText(t, impl.Key{Kind: impl.KeyCon, N: 5, Text: "X"}, "X")
	wantKeyText(t, impl.Key{Kind: impl.KeyCon, N: 5}, "")
}

// A key distinguishes values as their representations without Args do.
func TestKeysOfManyValues(t *testing.T) {
	random := rand.New(rand.NewSource(5))
	for range 2000 {
		v := anyValue(random, 4)
		head := impl.Value{Kind: v.Kind, N: v.N, Text: v.Text}
		wantKey(t, v, impl.Key{Kind: v.Kind, N: v.N, Text: v.Text})
		wantKeyText(t, impl.KeyOf(v), impl.FormatValue(head))
	}
}

// differentKeys lists keys that differ from one another, some in one field only.
func differentKeys() []impl.Key {
	keys := []impl.Key{}
	for _, kind := range []int{1, 2, 3, 0, 4, -1, math.MinInt64} {
		for _, n := range []int{0, 1, -1, math.MaxInt64, math.MinInt64} {
			for _, text := range []string{"", "a", "A", "Nil", "a ", "a\x00"} {
				keys = append(keys, impl.Key{Kind: kind, N: n, Text: text})
			}
		}
	}
	return keys
}

func TestFindKeyComparesAllFields(t *testing.T) {
	keys := differentKeys()
	for i, k := range keys {
		wantIndex(t, keys, k, i)
		wantIndex(t, keys[:i], k, -1)
		wantIndex(t, keys[i:], k, 0)
		wantIndex(t, keys[i+1:], k, -1)
		wantIndex(t, keys[:i+1], k, i)
	}
	for i, k := range keys {
		for m, other := range keys {
			if i != m {
				wantIndex(t, []impl.Key{other}, k, -1)
			}
		}
	}
}

func TestFindKeyOfKnownLists(t *testing.T) {
	one, nilKey, text := impl.KeyOf(intOf(1)), impl.KeyOf(conOf("Nil")), impl.KeyOf(textOf("Nil"))
	list := []impl.Key{nilKey, one, text, one, nilKey, one}
	wantIndex(t, list, nilKey, 0)
	wantIndex(t, list, one, 1)
	wantIndex(t, list, text, 2)
	wantIndex(t, list, impl.KeyOf(intOf(2)), -1)
	wantIndex(t, list, impl.KeyOf(textOf("1")), -1)
	wantIndex(t, list, impl.KeyOf(textOf("")), -1)
	wantIndex(t, list, impl.Key{}, -1)
	wantIndex(t, append(list, impl.Key{}, impl.Key{}), impl.Key{}, 6)
	wantIndex(t, []impl.Key{one, one, one}, one, 0)
	for _, k := range []impl.Key{{}, one, nilKey, text} {
		wantIndex(t, nil, k, -1)
		wantIndex(t, []impl.Key{}, k, -1)
		// The unused capacity does not belong to the list.
		wantIndex(t, []impl.Key{k, k}[:0], k, -1)
		wantIndex(t, []impl.Key{{Kind: 9}, k}[:1], k, -1)
	}
	long := slices.Repeat([]impl.Key{one}, 30000)
	wantIndex(t, long, nilKey, -1)
	wantIndex(t, append(long, nilKey), nilKey, 30000)
}

func TestOccurrenceFunctionsKeepTheirArguments(t *testing.T) {
	v, lists := roomyValue()
	o, other := []int{1, 1, 8, 9}, []int{1, 0, 8}
	keys := []impl.Key{{Kind: 3, Text: "B"}, {Kind: 3, Text: "A"}, {Kind: 1, N: 2}, {Kind: 2, Text: "spare"}}
	for size := range len(o) + 1 {
		impl.ValueAt(v, o[:size])
		impl.FormatOccurrence(o[:size])
		impl.CompareOccurrences(o[:size], other[:min(size, 2)])
		impl.CompareOccurrences(other[:min(size, 2)], o[:size])
		impl.FindKey(keys[:size], keys[1])
		impl.FindKey(keys[:size], impl.Key{})
	}
	eachPart(v, func(_ []int, part impl.Value) { impl.KeyOf(part) })
	_, before := roomyValue()
	for i, list := range before {
		if !slices.EqualFunc(lists[i], list, sameValue) {
			t.Errorf("the Args afterwards are %v, not %v", lists[i], list)
		}
	}
	if !slices.Equal(o, []int{1, 1, 8, 9}) || !slices.Equal(other, []int{1, 0, 8}) {
		t.Errorf("the occurrences afterwards are %v and %v", o, other)
	}
	if !slices.Equal(keys, []impl.Key{{Kind: 3, Text: "B"}, {Kind: 3, Text: "A"}, {Kind: 1, N: 2}, {Kind: 2, Text: "spare"}}) {
		t.Errorf("the keys afterwards are %v", keys)
	}
}

// Neither the value nor its unused capacity is in a part, nor is a list of Args in it twice, even if it is so in the value.
func TestPartsAreNewMemory(t *testing.T) {
	build := func() (impl.Value, [][]impl.Value) {
		one := conOf("One", intOf(1))
		inner := conOf("C", one, one)
		b := conOf("B", thrice(inner)...)
		a := conOf("A", thrice(b)...)
		v, lists := roomyValue()
		v.Args[1].Args[1] = a
		return conOf("D", v, a, a), append(lists, one.Args, inner.Args, b.Args, a.Args)
	}
	v, lists := build()
	want, before := build()
	results := [][]impl.Value{}
	for range 2 {
		for _, o := range [][]int{{}, {0}, {0, 1}, {0, 1, 1}, {1}, {2}, {2, 0}, {1, 2}, {1, 2, 1}, {1, 2, 1, 0}} {
			part, ok := impl.ValueAt(v, o)
			if !ok {
				t.Fatalf("ValueAt(%s, %v) = false", brief(v), o)
			}
			results = append(results, argLists(part)...)
		}
	}
	wantSeparate(t, results, valueNumber)
	if !sameValue(v, want) {
		t.Errorf("the value after its parts were overwritten is %s", brief(v))
	}
	for i, list := range before {
		if !slices.EqualFunc(lists[i], list, sameValue) {
			t.Errorf("the Args afterwards are %v, not %v", lists[i], list)
		}
	}
}

// A part stays as it is when the value is changed.
func TestPartsDoNotFollowTheValue(t *testing.T) {
	v := document()
	whole, _ := impl.ValueAt(v, nil)
	list, _ := impl.ValueAt(v, []int{1})
	for _, args := range argLists(v) {
		for i := range args {
			args[i] = impl.Value{Kind: 9}
		}
	}
	if !sameValue(whole, document()) || !sameValue(list, document().Args[1]) {
		t.Errorf("the parts are %s and %s after the value was changed", brief(whole), brief(list))
	}
}
