package tests

import (
	"fmt"
	"math"
	"math/rand"
	"slices"
	"strings"
	"testing"

	"loop.example/g00519/impl"
)

func intOf(n int) impl.Value { return impl.Value{Kind: impl.ViInt, N: n} }

func textOf(s string) impl.Value { return impl.Value{Kind: impl.ViText, Text: s} }

func conOf(name string, args ...impl.Value) impl.Value {
	return impl.Value{Kind: impl.ViCon, Text: name, Args: args}
}

func sameValue(a, b impl.Value) bool {
	return a.Kind == b.Kind && a.N == b.N && a.Text == b.Text && slices.EqualFunc(a.Args, b.Args, sameValue)
}

// measure returns the number of nodes and the depth of a value.
func measure(v impl.Value) (int, int) {
	nodes, below := 1, 0
	for _, arg := range v.Args {
		argNodes, argDepth := measure(arg)
		nodes += argNodes
		below = max(below, argDepth)
	}
	return nodes, 1 + below
}

// chainOf returns a value of this depth, with one constructor at each; so does chainText its representation.
func chainOf(depth int) impl.Value {
	v := conOf("Leaf")
	for range depth - 1 {
		v = conOf("Wrap", v)
	}
	return v
}

func chainText(depth int) string {
	return strings.Repeat("Wrap(", depth-1) + "Leaf" + strings.Repeat(")", depth-1)
}

// fanOf returns a value with this number of integers as Args; so does fanText its representation.
func fanOf(args int) impl.Value {
	return conOf("Fan", slices.Repeat([]impl.Value{intOf(1)}, args)...)
}

func fanText(args int) string {
	return "Fan(" + strings.Repeat("1, ", args-1) + "1)"
}

// treeOf returns a flat value with this number of nodes of the type tree of forest.
func treeOf(nodes int) impl.Value {
	switch nodes {
	case 1:
		return conOf("Leaf")
	case 2:
		return conOf("Wrap", conOf("Leaf"))
	}
	left := (nodes - 1) / 2
	return conOf("Node", treeOf(left), treeOf(nodes-1-left))
}

func forest() impl.Signature {
	return declared("tree = Leaf | Wrap tree | Node tree tree", "fan = Fan int")
}

// brief returns what is enough to recognize a value or a pattern in a message.
func brief(v any) string {
	s := fmt.Sprint(v)
	return s[:min(len(s), 300)]
}

func wantCount(t *testing.T, v impl.Value, nodes, depth int) {
	t.Helper()
	if got := impl.CountValue(v); got != nodes {
		t.Errorf("CountValue = %d, want %d", got, nodes)
	}
	if got := impl.DepthOfValue(v); got != depth {
		t.Errorf("DepthOfValue = %d, want %d", got, depth)
	}
}

func wantValueOf(t *testing.T, s impl.Signature, v impl.Value, name string, want bool) {
	t.Helper()
	if got := impl.IsValueOf(s, v, name); got != want {
		t.Errorf("IsValueOf(%q, %s, %q) = %v, want %v", s, brief(v), name, got, want)
	}
}

func wantFormat(t *testing.T, v impl.Value, want string) {
	t.Helper()
	if got := impl.FormatValue(v); got != want {
		t.Errorf("FormatValue(%s) = %.300q, want %.300q", brief(v), got, want)
	}
}

func wantParse(t *testing.T, s string, want impl.Value) {
	t.Helper()
	if got, ok := impl.ParseValue(s); !ok || !sameValue(got, want) {
		t.Errorf("ParseValue(%.300q) = %s, %v, want %s, true", s, brief(got), ok, brief(want))
	}
}

func wantNoValue(t *testing.T, s string) {
	t.Helper()
	if got, ok := impl.ParseValue(s); ok || !sameValue(got, impl.Value{}) {
		t.Errorf("ParseValue(%.300q) = %s, %v, want the zero Value, false", s, brief(got), ok)
	}
}

func wantDefault(t *testing.T, s impl.Signature, name string, want impl.Value) {
	t.Helper()
	if got := impl.DefaultValue(s, name); !sameValue(got, want) {
		t.Errorf("DefaultValue(%q, %q) = %s, want %s", s, name, brief(got), brief(want))
	}
}

func TestValueConstants(t *testing.T) {
	if impl.MaxText != 8 || impl.MaxValueNodes != 40 || impl.MaxValueDepth != 12 || impl.MaxInt != 999999999999 {
		t.Error("the limits of values are wrong")
	}
	if impl.ViInt != 1 || impl.ViText != 2 || impl.ViCon != 3 {
		t.Error("the kinds of values are wrong")
	}
}

// written lists values with their representations.
func written() map[string]impl.Value {
	nilList := conOf("Nil")
	return map[string]impl.Value{
		"0": intOf(0), "5": intOf(5), "-5": intOf(-5), "120": intOf(120), "-999999999999": intOf(-impl.MaxInt),
		`""`: textOf(""), `" "`: textOf(" "), `"ab c"`: textOf("ab c"), `"(1, ~)"`: textOf("(1, ~)"), `"0"`: textOf("0"), `"Nil"`: textOf("Nil"),
		"Nil": nilList, "N": conOf("N"), "N0": conOf("N0"), "Abcdefgh": conOf("Abcdefgh"),
		"Cons(1, Nil)":             conOf("Cons", intOf(1), nilList),
		"Cons(-3, Cons(0, Nil))":   conOf("Cons", intOf(-3), conOf("Cons", intOf(0), nilList)),
		`Doc("", Nil, Red)`:        conOf("Doc", textOf(""), nilList, conOf("Red")),
		`Doc("),(", Nil, Mix(1))`:  conOf("Doc", textOf("),("), nilList, conOf("Mix", intOf(1))),
		"Mix(Mix(Red, Blue), Red)": conOf("Mix", conOf("Mix", conOf("Red"), conOf("Blue")), conOf("Red")),
		"A(A(A(A)), 7, B(8), 9)":   conOf("A", conOf("A", conOf("A", conOf("A"))), intOf(7), conOf("B", intOf(8)), intOf(9)),
		`A("a", "b", "", 1, "c")`:  conOf("A", textOf("a"), textOf("b"), textOf(""), intOf(1), textOf("c")),
	}
}

func TestFormatAndParseOfKnownValues(t *testing.T) {
	for s, v := range written() {
		wantFormat(t, v, s)
		wantParse(t, s, v)
	}
}

// Representations do not show the fields that a kind does not have, and are not checked.
func TestFormatOfInvalidValues(t *testing.T) {
	wantFormat(t, intOf(math.MaxInt64), "9223372036854775807")
	wantFormat(t, intOf(math.MinInt64), "-9223372036854775808")
	wantFormat(t, textOf("a\"\\\n\x00\xff long text"), "\"a\"\\\n\x00\xff long text\"")
	wantFormat(t, conOf(""), "")
	wantFormat(t, conOf("", conOf(""), intOf(1)), "(, 1)")
	wantFormat(t, conOf("a b?\xff", conOf("type")), "a b?\xff(type)")
	wantFormat(t, impl.Value{Kind: impl.ViInt, N: 5, Text: "x", Args: []impl.Value{intOf(1)}}, "5")
	wantFormat(t, impl.Value{Kind: impl.ViText, N: 5, Text: "x", Args: []impl.Value{intOf(1)}}, `"x"`)
	wantFormat(t, impl.Value{Kind: impl.ViCon, N: 5, Text: "X", Args: []impl.Value{intOf(1)}}, "X(1)")
	wantFormat(t, impl.Value{Kind: impl.ViCon, Text: "X", Args: []impl.Value{}}, "X")
	hidden := impl.Value{Kind: impl.ViText, Args: []impl.Value{conOf("A", intOf(1))}}
	wantFormat(t, conOf("A", hidden, conOf("B", hidden)), `A("", B(""))`)
}

func TestFormatOfOtherKinds(t *testing.T) {
	for _, kind := range []int{0, 4, -1, -7, 7, math.MaxInt64, math.MinInt64} {
		v := impl.Value{Kind: kind}
		full := impl.Value{Kind: kind, N: 3, Text: "X", Args: []impl.Value{intOf(1), intOf(2)}}
		wantFormat(t, v, "?")
		wantFormat(t, full, "?")
		wantFormat(t, conOf("A", v), "A(?)")
		wantFormat(t, conOf("A", intOf(1), full, conOf("B", v, full), v), "A(1, ?, B(?, ?), ?)")
	}
}

func TestFormatFarBeyondTheLimits(t *testing.T) {
	wantFormat(t, chainOf(30000), chainText(30000))
	wantFormat(t, fanOf(30000), fanText(30000))
	wantFormat(t, conOf("A", chainOf(30000), intOf(1)), "A("+chainText(30000)+", 1)")
}

func TestCountAndDepthOfKnownValues(t *testing.T) {
	wantCount(t, intOf(7), 1, 1)
	wantCount(t, textOf("abc"), 1, 1)
	wantCount(t, conOf("Nil"), 1, 1)
	wantCount(t, impl.Value{Kind: impl.ViCon, Args: []impl.Value{}}, 1, 1)
	wantCount(t, conOf("Cons", intOf(1), conOf("Nil")), 3, 2)
	wantCount(t, conOf("Cons", intOf(-3), conOf("Cons", intOf(0), conOf("Nil"))), 5, 3)
	deep := conOf("A", conOf("B", intOf(1)))
	wantCount(t, conOf("A", deep, intOf(1), intOf(2)), 6, 4)
	wantCount(t, conOf("A", intOf(1), deep, intOf(2)), 6, 4)
	wantCount(t, conOf("A", intOf(1), intOf(2), deep), 6, 4)
	wantCount(t, conOf("A", deep, deep, conOf("C")), 8, 4)
}

// Kinds do not count, only Args do.
func TestCountAndDepthOfInvalidValues(t *testing.T) {
	wantCount(t, impl.Value{}, 1, 1)
	for _, kind := range []int{0, impl.ViInt, impl.ViText, 4, -1} {
		v := impl.Value{Kind: kind, Args: []impl.Value{intOf(1), {Kind: kind, Args: []impl.Value{{}}}}}
		wantCount(t, v, 4, 3)
	}
}

func TestCountAndDepthFarBeyondTheLimits(t *testing.T) {
	for _, n := range []int{impl.MaxValueDepth, impl.MaxValueNodes, 1000, 200000} {
		for _, size := range []int{n, n + 1} {
			wantCount(t, chainOf(size), size, size)
			wantCount(t, fanOf(size), size+1, 2)
			wantCount(t, conOf("A", chainOf(size), fanOf(size)), 2*size+2, max(size, 2)+1)
		}
	}
	v := conOf("Leaf")
	for depth := 2; depth <= 18; depth++ {
		// Both Args are one value in memory, and count as two.
		v = conOf("Node", v, v)
		wantCount(t, v, 1<<depth-1, depth)
	}
}

// anyValue returns a value of the three kinds with at most this depth; nearly all are within the limits.
func anyValue(random *rand.Rand, depth int) impl.Value {
	switch random.Intn(5) {
	case 0:
		ints := []int{0, 1, -1, 10, -305, 123456, impl.MaxInt, -impl.MaxInt, impl.MaxInt - 1}
		return intOf(ints[random.Intn(len(ints))])
	case 1:
		texts := []string{"", "a", " ", "12345678", "~~~~", "a, b", "(", ")", ",", "\\n", "Nil", "-1", "'"}
		return textOf(texts[random.Intn(len(texts))])
	}
	names := []string{"A", "B1", "Nil", "Abcdefgh", "Z0000000", "Int"}
	v := conOf(names[random.Intn(len(names))])
	if depth > 1 {
		for range random.Intn(4) {
			v.Args = append(v.Args, anyValue(random, depth-1))
		}
	}
	return v
}

func TestCountAndDepthOfManyValues(t *testing.T) {
	random := rand.New(rand.NewSource(4))
	for range 3000 {
		v := anyValue(random, 1+random.Intn(6))
		nodes, depth := measure(v)
		wantCount(t, v, nodes, depth)
	}
}

func TestValidTexts(t *testing.T) {
	for _, s := range []string{"", "a", " ", "~", "a b", "12345678", "        ", "~~~~~~~~", "\\", "'", "!", "#", "(),", "A1?z"} {
		if !impl.IsValidText(s) {
			t.Errorf("IsValidText(%q) = false", s)
		}
	}
	for _, s := range []string{"123456789", "         ", "\"", "a\"", "\"\"", "\x1f", "\x7f", "\n", "\t", "\x00", "\x80", "\xff", "é", "日本", "\u0085"} {
		if impl.IsValidText(s) {
			t.Errorf("IsValidText(%q) = true", s)
		}
	}
}

func TestTextsOfEveryLength(t *testing.T) {
	for _, size := range []int{0, 1, 7, 8, 9, 10, 16, 255, 256, 264, 100000} {
		s := strings.Repeat("x", size)
		if got := impl.IsValidText(s); got != (size <= 8) {
			t.Errorf("IsValidText of %d bytes = %v", size, got)
		}
		wantValueOf(t, impl.Signature{}, textOf(s), "text", size <= 8)
		if size <= 8 {
			wantParse(t, `"`+s+`"`, textOf(s))
		} else {
			wantNoValue(t, `"`+s+`"`)
		}
	}
}

func TestEveryByteInTexts(t *testing.T) {
	for b := range 256 {
		valid := b >= 32 && b <= 126 && b != '"'
		for size := 1; size <= 8; size++ {
			for at := range size {
				bytes := []byte(strings.Repeat("x", size))
				bytes[at] = byte(b)
				s := string(bytes)
				if got := impl.IsValidText(s); got != valid {
					t.Errorf("IsValidText(%q) = %v", s, got)
				}
				wantValueOf(t, impl.Signature{}, textOf(s), "text", valid)
				if valid {
					wantParse(t, `"`+s+`"`, textOf(s))
				} else {
					wantNoValue(t, `"`+s+`"`)
				}
			}
		}
	}
}

// valuesByType lists values of the types of listAndHue.
func valuesByType() map[string][]impl.Value {
	empty, red := conOf("Nil"), conOf("Red")
	list := conOf("Cons", intOf(-3), conOf("Cons", intOf(0), empty))
	mix := conOf("Mix", conOf("Mix", red, conOf("Blue")), red)
	return map[string][]impl.Value{
		"int":  {intOf(0), intOf(1), intOf(-1), intOf(12345)},
		"text": {textOf(""), textOf("a"), textOf("Nil"), textOf("0"), textOf("a (b), c")},
		"list": {empty, list, conOf("Cons", intOf(9), list)},
		"hue":  {red, conOf("Blue"), mix, conOf("Mix", mix, mix)},
		"doc":  {conOf("Doc", textOf(""), empty, red), conOf("Doc", textOf("a"), list, mix)},
		"one":  {conOf("One")},
	}
}

func TestValuesHaveOneType(t *testing.T) {
	s := listAndHue()
	names := []string{"int", "text", "list", "hue", "doc", "one", "", "zz", "Nil", "Cons", "Int", "List", "lis", "list ", "?"}
	for in, values := range valuesByType() {
		for _, v := range values {
			for _, name := range names {
				wantValueOf(t, s, v, name, name == in)
			}
		}
	}
}

// A constructor has a type only where it is declared.
func TestValuesOfOtherSignatures(t *testing.T) {
	for in, values := range valuesByType() {
		for _, v := range values {
			basic := in == "int" || in == "text"
			wantValueOf(t, impl.Signature{}, v, in, basic)
			wantValueOf(t, declared(in+" = Other"), v, in, false)
			wantValueOf(t, declared("list = Red", "hue = Nil", "one = Mix list"), v, in, basic)
		}
	}
	wantValueOf(t, impl.Signature{}, conOf("Int"), "int", false)
	wantValueOf(t, impl.Signature{}, conOf("int"), "int", false)
	wantValueOf(t, impl.Signature{}, conOf("text"), "text", false)
	for _, name := range []string{"", "Zz", "list", "int"} {
		// No type is declared with the constructor, and none has an empty name.
		wantValueOf(t, listAndHue(), conOf(name), "", false)
		wantValueOf(t, listAndHue(), conOf(name), "list", false)
	}
	wantValueOf(t, listAndHue(), conOf("nil"), "list", false)
	wantValueOf(t, listAndHue(), conOf("Nil "), "list", false)
}

func TestIntegersAtTheLimits(t *testing.T) {
	s := declared("a = A int")
	for _, n := range []int{0, 1, 999999, 1000000, 999999999998, 999999999999} {
		for _, n := range []int{n, -n} {
			wantValueOf(t, s, intOf(n), "int", true)
			wantValueOf(t, s, conOf("A", intOf(n)), "a", true)
			wantParse(t, fmt.Sprint(n), intOf(n))
			wantParse(t, fmt.Sprintf("A(%d)", n), conOf("A", intOf(n)))
		}
	}
	for _, n := range []int{1000000000000, -1000000000000, 9999999999999, math.MaxInt64, math.MinInt64} {
		wantValueOf(t, s, intOf(n), "int", false)
		wantValueOf(t, s, conOf("A", intOf(n)), "a", false)
		wantNoValue(t, fmt.Sprint(n))
		wantNoValue(t, fmt.Sprintf("A(%d)", n))
	}
}

// The Args must be as many as declared.
func TestNumbersOfArgs(t *testing.T) {
	args := []string{"int", "int", "int"}
	for declaredArgs := range 4 {
		cons := []impl.Con{{Name: "A", Args: args[:declaredArgs]}, {Name: "B"}}
		s := impl.Signature{Types: []impl.TypeDecl{{Name: "a", Cons: cons}, {Name: "c", Cons: []impl.Con{{Name: "C", Args: []string{"a"}}}}}}
		for n := range 6 {
			v := conOf("A", slices.Repeat([]impl.Value{intOf(4)}, n)...)
			wantValueOf(t, s, v, "a", n == declaredArgs)
			wantValueOf(t, s, conOf("C", v), "c", n == declaredArgs)
		}
	}
}

// One of the Args alone has another type than declared, at any depth.
func TestTypesOfArgs(t *testing.T) {
	s := declared("a = A int text b | Z", "b = B | C a b")
	good := []impl.Value{intOf(1), textOf("t"), conOf("B")}
	bad := [][]impl.Value{
		{textOf("1"), textOf(""), conOf("A"), conOf("B"), conOf("Z"), {}},
		{intOf(1), intOf(0), conOf("B"), conOf("T"), textOf("\""), {}},
		{conOf("Z"), intOf(1), textOf("B"), conOf("C"), conOf("B", intOf(1)), conOf("C", conOf("B"), conOf("B")), conOf("D"), {}},
	}
	wantValueOf(t, s, conOf("A", good...), "a", true)
	wantValueOf(t, s, conOf("C", conOf("A", good...), conOf("B")), "b", true)
	for at := range bad {
		for _, v := range bad[at] {
			args := slices.Clone(good)
			args[at] = v
			wantValueOf(t, s, conOf("A", args...), "a", false)
			wantValueOf(t, s, conOf("C", conOf("A", args...), conOf("B")), "b", false)
			wantValueOf(t, s, conOf("C", conOf("Z"), conOf("C", conOf("A", args...), conOf("B"))), "b", false)
		}
	}
	wantValueOf(t, s, conOf("A", textOf("t"), intOf(1), conOf("B")), "a", false)
}

func TestValuesAtTheLimits(t *testing.T) {
	s := forest()
	for depth := 1; depth <= 60; depth++ {
		wantValueOf(t, s, chainOf(depth), "tree", depth <= 12)
	}
	for nodes := 1; nodes <= 90; nodes++ {
		v := treeOf(nodes)
		if got, depth := measure(v); got != nodes || depth > 8 {
			t.Fatalf("treeOf(%d) has %d nodes and depth %d", nodes, got, depth)
		}
		wantValueOf(t, s, v, "tree", nodes <= 40)
	}
	wantValueOf(t, s, conOf("Node", chainOf(11), treeOf(28)), "tree", true)
	wantValueOf(t, s, conOf("Node", treeOf(28), chainOf(11)), "tree", true)
	wantValueOf(t, s, conOf("Node", chainOf(11), treeOf(29)), "tree", false)
	wantValueOf(t, s, conOf("Node", treeOf(29), chainOf(11)), "tree", false)
	wantValueOf(t, s, conOf("Node", chainOf(12), treeOf(1)), "tree", false)
	wantValueOf(t, s, conOf("Node", treeOf(1), chainOf(12)), "tree", false)
}

func TestValuesFarBeyondTheLimits(t *testing.T) {
	s := forest()
	wantFalse := func(v impl.Value, name string) {
		t.Helper()
		if impl.IsValueOf(s, v, name) {
			t.Errorf("IsValueOf = true for a value far beyond the limits")
		}
	}
	wantFalse(chainOf(200000), "tree")
	wantFalse(fanOf(200000), "fan")
	v := conOf("Leaf")
	// Far too many nodes to look at each.
	for range 200 {
		v = conOf("Node", v, v)
	}
	wantFalse(v, "tree")
	wantFalse(conOf("Node", conOf("Leaf"), v), "tree")
}

func TestValuesOfOtherKinds(t *testing.T) {
	s := listAndHue()
	for _, kind := range []int{0, 4, -1, -7, 7, math.MaxInt64, math.MinInt64} {
		for _, v := range []impl.Value{{Kind: kind}, {Kind: kind, N: 1}, {Kind: kind, Text: "Nil"}, {Kind: kind, Text: "a"}} {
			for _, name := range []string{"int", "text", "list", "hue", "", "zz"} {
				wantValueOf(t, s, v, name, false)
			}
			wantValueOf(t, s, conOf("Cons", v, conOf("Nil")), "list", false)
			wantValueOf(t, s, conOf("Cons", intOf(1), v), "list", false)
			wantValueOf(t, s, conOf("Doc", v, conOf("Nil"), conOf("Red")), "doc", false)
		}
	}
}

func TestFieldsThatAKindDoesNotHave(t *testing.T) {
	s := listAndHue()
	args := []impl.Value{intOf(1)}
	bad := map[string][]impl.Value{
		"int":  {{Kind: impl.ViInt, Text: "x"}, {Kind: impl.ViInt, N: 1, Text: "1"}, {Kind: impl.ViInt, Args: args}, {Kind: impl.ViInt, Args: []impl.Value{{}}}},
		"text": {{Kind: impl.ViText, N: 1}, {Kind: impl.ViText, N: -1, Text: "a"}, {Kind: impl.ViText, Text: "a", Args: args}},
		"list": {{Kind: impl.ViCon, Text: "Nil", N: 1}, {Kind: impl.ViCon, Text: "Nil", N: math.MinInt64}, {Kind: impl.ViCon, Text: "Cons", N: 2, Args: []impl.Value{intOf(1), conOf("Nil")}}},
	}
	for name, values := range bad {
		for _, v := range values {
			wantValueOf(t, s, v, name, false)
		}
	}
	for i := range bad["int"] {
		wantValueOf(t, s, conOf("Cons", bad["int"][i], conOf("Nil")), "list", false)
	}
	for i := range bad["text"] {
		wantValueOf(t, s, conOf("Doc", bad["text"][i], conOf("Nil"), conOf("Red")), "doc", false)
	}
	for i := range bad["list"] {
		wantValueOf(t, s, conOf("Cons", intOf(1), bad["list"][i]), "list", false)
	}
	// An empty slice is not different from none.
	wantValueOf(t, s, impl.Value{Kind: impl.ViInt, Args: []impl.Value{}}, "int", true)
	wantValueOf(t, s, impl.Value{Kind: impl.ViText, Args: []impl.Value{}}, "text", true)
	wantValueOf(t, s, impl.Value{Kind: impl.ViCon, Text: "Nil", Args: []impl.Value{}}, "list", true)
}

func invalidSignatures() []impl.Signature {
	return []impl.Signature{
		declared("a = A", "a = B"), declared("a = A", "b = B b"), declared("a = A | A"), declared("a = A", "b ="),
		declared("a = A", "B = C"), declared("a = A", "b = c"), declared("a = A", "b = B zz"), declared("a = A", "int = B"),
		declared("a = A", "b = B", "c = C", "d = D", "e = E"), declared("a = A | B int int int int"),
		declared("a = A | B | C | D | E | F"), declared("a = A", "averylong = B"), declared("a = A", "b = A"),
	}
}

func TestInvalidSignaturesHaveNoValues(t *testing.T) {
	for _, s := range invalidSignatures() {
		wantValueOf(t, s, intOf(1), "int", false)
		wantValueOf(t, s, textOf(""), "text", false)
		wantValueOf(t, s, conOf("A"), "a", false)
		wantValueOf(t, s, impl.Value{}, "", false)
		for _, name := range []string{"int", "text", "a", "b", "zz", ""} {
			wantDefault(t, s, name, impl.Value{})
		}
	}
	wantValueOf(t, declared("a = A"), conOf("A"), "a", true)
	wantDefault(t, declared("a = A"), "a", conOf("A"))
}

// differentValues lists values that differ from the others in one field or more.
func differentValues() []impl.Value {
	x, y := []impl.Value{intOf(1)}, []impl.Value{intOf(2)}
	full := impl.Value{Kind: impl.ViCon, N: 1, Text: "A", Args: x}
	return []impl.Value{
		{}, {Kind: 1}, {Kind: 2}, {Kind: 3}, {Kind: 4}, {Kind: -1}, {N: 1}, {N: -1}, {Text: "a"}, {Text: "A"}, {Args: x}, {Args: y},
		full, {Kind: impl.ViText, N: 1, Text: "A", Args: x}, {Kind: impl.ViCon, N: 2, Text: "A", Args: x},
		{Kind: impl.ViCon, N: 1, Text: "B", Args: x}, {Kind: impl.ViCon, N: 1, Text: "A", Args: y}, {Kind: impl.ViCon, N: 1, Text: "A"},
		conOf("A", intOf(1)), conOf("A", intOf(1), intOf(1)), conOf("A", intOf(1), intOf(2)), conOf("A", intOf(2), intOf(1)),
		conOf("A", conOf("A", intOf(1))), conOf("A", conOf("A"), intOf(1)), conOf("A", conOf("A", intOf(1)), intOf(1)),
		conOf("A", intOf(1), conOf("A", intOf(1))), conOf("A", conOf("A"), conOf("A", intOf(1))), conOf("A", conOf("A", conOf("A"))),
		conOf("A", impl.Value{}), conOf("A", impl.Value{}, impl.Value{}), intOf(math.MinInt64), textOf("a\x00"), textOf("a "),
	}
}

func TestEqualValue(t *testing.T) {
	left, right := differentValues(), differentValues()
	for i, a := range left {
		for k, b := range right {
			if got := impl.EqualValue(a, b); got != (i == k) {
				t.Errorf("EqualValue(%v, %v) = %v", a, b, got)
			}
			if impl.EqualValue(conOf("B", conOf("C", a), a), conOf("B", conOf("C", b), a)) != (i == k) {
				t.Errorf("EqualValue with %v and %v in Args = %v", a, b, i != k)
			}
		}
	}
	none := impl.Value{Kind: impl.ViCon, Text: "Nil", Args: []impl.Value{}}
	if !impl.EqualValue(none, conOf("Nil")) || !impl.EqualValue(conOf("Nil"), none) || !impl.EqualValue(conOf("A", none), conOf("A", conOf("Nil"))) {
		t.Error("an empty slice and nil differ")
	}
}

func TestEqualValueFarBeyondTheLimits(t *testing.T) {
	for _, build := range []func(int) impl.Value{chainOf, fanOf} {
		a, b, c := build(30000), build(30000), build(30001)
		if !impl.EqualValue(a, b) || impl.EqualValue(a, c) || impl.EqualValue(c, a) {
			t.Error("EqualValue is wrong far beyond the limits")
		}
	}
}

func TestParseRejectsMalformedValues(t *testing.T) {
	for _, s := range []string{
		"", " ", "x", "nil", "?", "(", ")", "()", ",", ", ", "\"", "\"\"\"", "-", "--1", "+", "(1)", "(Nil)",
		" 1", "1 ", "01", "00", "-0", "-01", "+1", "+0", "1.0", "1e3", "0x1", "1_000", "1 2", "1, 2", "1,", "1)", "1(", "1()", "1(2)", "1Nil",
		"\"a", "a\"", "\"a\" ", " \"a\"", "\"a\"b", "\"a\"\"b\"", "\"a\"1", "\"a\"(1)", "'a'", "\"a\\\"\"",
		" Nil", "Nil ", "Nil,", "Nil, Nil", "Nil)", "Nil(", "Nil()", "Nil( )", "Nil(,)", "Nil(, )", "Nil\n", "Nil\x00", "Nil Nil", "NIL", "NiL", "N_", "Abcdefghi",
		"Cons (1, Nil)", "Cons( 1, Nil)", "Cons(1 , Nil)", "Cons(1,Nil)", "Cons(1,  Nil)", "Cons(1, Nil )", "Cons(1, Nil) ", " Cons(1, Nil)",
		"Cons(1, Nil", "Cons(1, ", "Cons(1,", "Cons(1", "Cons(", "Cons(1, Nil))", "Cons((1, Nil)", "Cons(1, (Nil))", "Cons)1, Nil(", "Cons1, Nil)",
		"Cons(1 Nil)", "Cons(1; Nil)", "Cons(1, Nil,)", "Cons(1, Nil, )", "Cons(, 1, Nil)", "Cons(1, , Nil)", "Cons(,)", "Cons(1, Nil)x", "Cons(1, Nil)1", "Cons(1, Nil)(1)",
		"Cons(1, Nil), 2", "Cons(1, Nil()", "Cons(1, Nil())", "Cons(01, Nil)", "Cons(+1, Nil)", "Cons(-0, Nil)", "Cons(1, nil)", "cons(1, Nil)", "Cons(?, Nil)", "(1, Nil)",
		"A(\"a)", "A(a\")", "A(\"a\"\"b\")", "A(\"a\",\"b\")", "A(\"a\", \"b)", "A(\"a\" , \"b\")", "type", "int", "Int(int)", "A[1]", "A{1}", "Ä", "A(é)", "\xff", "A(\xff)",
	} {
		wantNoValue(t, s)
	}
}

func TestNamesInParsedValues(t *testing.T) {
	for _, name := range []string{"A", "Z", "A0", "Z9", "Ab", "Abcdefg", "Abcdefgh", "A1234567", "Int", "Type"} {
		wantParse(t, name, conOf(name))
		wantParse(t, "B("+name+", "+name+"(1))", conOf("B", conOf(name), conOf(name, intOf(1))))
	}
	for _, name := range []string{"a", "z0", "AB", "Abcdefghi", "A12345678", "A b", "A-", "A.b", "1A", "_A", "A\"", "A\"a\"", "\xc0", "A\xff", "@", "["} {
		wantNoValue(t, name)
		wantNoValue(t, name+"(1)")
		wantNoValue(t, "B("+name+", 1)")
		wantNoValue(t, "B(1, "+name+"(1))")
	}
}

func TestParsedValuesAtTheLimits(t *testing.T) {
	for depth := 1; depth <= 40; depth++ {
		wantParseWithin(t, chainText(depth), chainOf(depth), depth <= 12)
		inner := conOf("A", intOf(1), chainOf(depth), textOf(""))
		wantParseWithin(t, "A(1, "+chainText(depth)+", \"\")", inner, depth <= 11)
	}
	for args := 1; args <= 90; args++ {
		wantParseWithin(t, fanText(args), fanOf(args), args <= 39)
	}
	for nodes := 1; nodes <= 90; nodes++ {
		v := treeOf(nodes)
		wantParseWithin(t, impl.FormatValue(v), v, nodes <= 40)
	}
	// The last or the deepest node is an integer or a string, too.
	wantParseWithin(t, "A("+fanText(37)+", 1)", conOf("A", fanOf(37), intOf(1)), true)
	wantParseWithin(t, "A("+fanText(38)+", \"\")", conOf("A", fanOf(38), textOf("")), false)
	for _, last := range []impl.Value{intOf(1), textOf("a")} {
		s := impl.FormatValue(last)
		wantParseWithin(t, strings.Repeat("A(", 11)+s+strings.Repeat(")", 11), nested(11, last), true)
		wantParseWithin(t, strings.Repeat("A(", 12)+s+strings.Repeat(")", 12), nested(12, last), false)
	}
}

func wantParseWithin(t *testing.T, s string, v impl.Value, within bool) {
	t.Helper()
	if within {
		wantParse(t, s, v)
	} else {
		wantNoValue(t, s)
	}
}

// nested returns v inside so many constructors.
func nested(depth int, v impl.Value) impl.Value {
	for range depth {
		v = conOf("A", v)
	}
	return v
}

func TestParseFarBeyondTheLimits(t *testing.T) {
	const size = 1000000
	wantNoValue(t, chainText(size))
	wantNoValue(t, fanText(size))
	wantNoValue(t, strings.Repeat("A(", size))
	wantNoValue(t, strings.Repeat("A(1, ", size))
	wantNoValue(t, strings.Repeat("1", size))
	wantNoValue(t, "A"+strings.Repeat("a", size))
	wantNoValue(t, "\""+strings.Repeat("a", size)+"\"")
	wantNoValue(t, "\""+strings.Repeat("a", size))
	wantNoValue(t, "Nil"+strings.Repeat(")", size))
	wantNoValue(t, strings.Repeat(" ", size))
}

// isWithinLimits reports whether v is what ParseValue may return.
func isWithinLimits(v impl.Value) bool {
	nodes, depth := measure(v)
	return nodes <= impl.MaxValueNodes && depth <= impl.MaxValueDepth && isWellFormed(v)
}

func isWellFormed(v impl.Value) bool {
	switch v.Kind {
	case impl.ViInt:
		return v.Text == "" && len(v.Args) == 0 && max(v.N, -v.N) <= 999999999999
	case impl.ViText:
		return v.N == 0 && len(v.Args) == 0 && impl.IsValidText(v.Text)
	case impl.ViCon:
		bad := func(arg impl.Value) bool { return !isWellFormed(arg) }
		return v.N == 0 && impl.IsConName(v.Text) && !slices.ContainsFunc(v.Args, bad)
	}
	return false
}

func TestParseReadsBackManyValues(t *testing.T) {
	random := rand.New(rand.NewSource(4))
	within, beyond := 0, 0
	for range 5000 {
		v := anyValue(random, 1+random.Intn(14))
		s := impl.FormatValue(v)
		if isWithinLimits(v) {
			wantParse(t, s, v)
			within++
		} else {
			wantNoValue(t, s)
			beyond++
		}
	}
	if within < 1000 || beyond < 100 {
		t.Errorf("%d values within the limits and %d beyond are no fair share", within, beyond)
	}
}

// wantSound checks that ParseValue returns a value within the limits with the representation s, or none.
func wantSound(t *testing.T, s string) bool {
	t.Helper()
	v, ok := impl.ParseValue(s)
	if ok && (impl.FormatValue(v) != s || !isWithinLimits(v)) {
		t.Errorf("ParseValue(%q) = %v, true, which is %q", s, v, impl.FormatValue(v))
	}
	if !ok && !sameValue(v, impl.Value{}) {
		t.Errorf("ParseValue(%q) = %v, false", s, v)
	}
	return ok
}

func TestParseOfAllShortStrings(t *testing.T) {
	accepted := 0
	eachString("A1, ()", 7, func(s string) {
		if wantSound(t, s) {
			accepted++
		}
	})
	if accepted != countShort(7) {
		t.Errorf("%d short strings are values, want %d", accepted, countShort(7))
	}
	eachString("Aa0-\"(", 6, func(s string) { wantSound(t, s) })
}

// countShort returns how many values have a representation of at most size bytes, all of them A, 1, comma, space and
// parentheses.
func countShort(size int) int {
	exactly := make([]int, size+1)
	sum := 0
	for n := 1; n <= size; n++ {
		// An integer 1...1, a name A1...1, and names with a list of arguments in parentheses.
		exactly[n] = 2
		for name := 1; name <= n-3; name++ {
			exactly[n] += countLists(exactly, n-name-2)
		}
		sum += exactly[n]
	}
	return sum
}

// countLists returns how many lists of one or more values, separated by commas, have a representation of size bytes.
func countLists(exactly []int, size int) int {
	if size <= 0 {
		return 0
	}
	lists := exactly[size]
	for first := 1; first < size; first++ {
		lists += exactly[first] * countLists(exactly, size-first-2)
	}
	return lists
}

// Each representation with one byte removed, added or replaced.
func TestParseOfChangedRepresentations(t *testing.T) {
	for s := range written() {
		for at := range len(s) + 1 {
			for _, b := range "A1a0 -,()\"?\n\xff" {
				wantSound(t, s[:at]+string([]byte{byte(b)})+s[at:])
				if at < len(s) {
					wantSound(t, s[:at]+string([]byte{byte(b)})+s[at+1:])
				}
			}
			if at < len(s) {
				wantSound(t, s[:at]+s[at+1:])
			}
		}
	}
}

func TestDefaultsOfKnownTypes(t *testing.T) {
	for _, s := range []impl.Signature{{}, listAndHue(), declared("a = A int text")} {
		wantDefault(t, s, "int", intOf(0))
		wantDefault(t, s, "text", textOf(""))
		for _, name := range []string{"", "zz", "A", "Nil", "Int", "integer", "lis", "list ", "List", "?", "type"} {
			wantDefault(t, s, name, impl.Value{})
		}
	}
	s := listAndHue()
	wantDefault(t, s, "list", conOf("Nil"))
	wantDefault(t, s, "hue", conOf("Red"))
	wantDefault(t, s, "doc", conOf("Doc", textOf(""), conOf("Nil"), conOf("Red")))
	wantDefault(t, s, "one", conOf("One"))
	wantDefault(t, declared("a = A int text a | B int text int"), "a", conOf("B", intOf(0), textOf(""), intOf(0)))
}

// wantDefaultText checks the default value of a in the signature with these declarations.
func wantDefaultText(t *testing.T, want string, lines ...string) {
	t.Helper()
	if got := impl.FormatValue(impl.DefaultValue(declared(lines...), "a")); got != want {
		t.Errorf("DefaultValue(%q, a) = %s, want %s", lines, got, want)
	}
}

func TestDefaultsHaveLeastDepth(t *testing.T) {
	wantDefaultText(t, "B", "a = A int | B")
	wantDefaultText(t, "D", "a = A a | B a a | C text | D | E")
	wantDefaultText(t, "B(0)", "a = A b | B int", "b = C int")
	wantDefaultText(t, "B(0)", "a = A a | B int")
	wantDefaultText(t, "B(C)", "a = A a | B b", "b = D a | C")
	wantDefaultText(t, "C(F(0))", "a = A b | C c", "b = D c", "c = E a | F int")
	wantDefaultText(t, "B(0, 0, 0)", "a = A b | B int int int", "b = C text")
	wantDefaultText(t, "B(0, \"\")", "a = A int b | B int text", "b = C text")
	wantDefaultText(t, "B(C)", "a = A int b c | B b", "b = C", "c = D int")
	wantDefaultText(t, "B(C)", "a = A c int b | B b", "b = C", "c = D int")
}

// The numbers of Args and of nodes do not count.
func TestFirstOfEqualDepthIsTheDefault(t *testing.T) {
	wantDefaultText(t, "A", "a = A | B")
	wantDefaultText(t, "B", "a = B | A")
	wantDefaultText(t, "A(0)", "a = A int | B text")
	wantDefaultText(t, "B(\"\")", "a = B text | A int")
	wantDefaultText(t, "A(0, 0, 0)", "a = A int int int | B int")
	wantDefaultText(t, "A(C)", "a = A b | B int", "b = C")
	wantDefaultText(t, "B(0)", "a = B int | A b", "b = C")
	wantDefaultText(t, "B(0, C(0), D)", "a = A a | B int b c | E c b int", "b = C int | F c", "c = D")
	wantDefaultText(t, "B(C, C)", "a = A a | B b b | D c", "b = C", "c = E")
}

// A part is the default value of its own type even where a deeper one would not make the whole deeper.
func TestPartsOfDefaultsAreDefaults(t *testing.T) {
	wantDefaultText(t, "A(C, D(0))", "a = A b c", "b = B int | C", "c = D int")
	wantDefaultText(t, "A(D(0), C)", "a = A c b", "b = B int | C", "c = D int")
	wantDefaultText(t, "A(C(0), E(D(0)))", "a = A b c", "b = B d | C int", "c = E d", "d = D int | G a")
	wantDefaultText(t, "A(E(D(0)), C(0), 0)", "a = A c b int", "b = B d | C int | F c", "c = F0 c | E d", "d = D int | G a")
}

// The order of the declarations does not matter, that of the constructors does.
func TestDefaultsThatNeedOtherTypes(t *testing.T) {
	lines := []string{"a = A b", "b = B c | X a", "c = C d | Y b", "d = D int | Z c"}
	eachOrder(lines, func(order []string) {
		wantDefaultText(t, "A(B(C(D(0))))", order...)
	})
	lines = []string{"a = A b b", "b = B a | C d", "c = D", "d = E c | F a b"}
	eachOrder(lines, func(order []string) {
		wantDefaultText(t, "A(C(E(D)), C(E(D)))", order...)
	})
	lines = []string{"a = A b | B c", "b = C", "c = D"}
	eachOrder(lines, func(order []string) {
		wantDefaultText(t, "A(C)", order...)
	})
	lines = []string{"a = A b | B", "b = C", "c = D b a | E a b"}
	eachOrder(lines, func(order []string) {
		wantDefaultText(t, "B", order...)
	})
}

// eachOrder visits the permutations of a list.
func eachOrder(list []string, visit func(order []string)) {
	if len(list) == 0 {
		visit(nil)
	}
	for i := range list {
		rest := slices.Delete(slices.Clone(list), i, i+1)
		eachOrder(rest, func(order []string) { visit(append([]string{list[i]}, order...)) })
	}
}

func thrice(v impl.Value) []impl.Value { return []impl.Value{v, v, v} }

// A default value may have more nodes than other values.
func TestLargeDefaults(t *testing.T) {
	s := declared("a = A b b b", "b = B c c c", "c = C d d d", "d = D int text int | E d")
	d := conOf("D", intOf(0), textOf(""), intOf(0))
	c := conOf("C", thrice(d)...)
	b := conOf("B", thrice(c)...)
	a := conOf("A", thrice(b)...)
	for name, want := range map[string]impl.Value{"a": a, "b": b, "c": c, "d": d} {
		wantDefault(t, s, name, want)
		wantValueOf(t, s, impl.DefaultValue(s, name), name, name != "a")
	}
	wantCount(t, impl.DefaultValue(s, "a"), 121, 5)
	wantCount(t, impl.DefaultValue(s, "b"), 40, 4)
	wantNoValue(t, impl.FormatValue(impl.DefaultValue(s, "a")))
	s = declared("a = A b b b", "b = B c c c", "c = C d d d", "d = D")
	wantCount(t, impl.DefaultValue(s, "a"), 40, 4)
	wantValueOf(t, s, impl.DefaultValue(s, "a"), "a", true)
}

// leastDepth returns the least depth of the values of a type that has some.
func leastDepth(s impl.Signature, name string) int {
	depth := 1
	for !hasValue(s, name, depth) {
		depth++
	}
	return depth
}

// wantLeast checks by the definition that v is the default value of a type.
func wantLeast(t *testing.T, s impl.Signature, name string, v impl.Value) {
	t.Helper()
	if name == "int" || name == "text" {
		wantDefault(t, impl.Signature{}, name, v)
		return
	}
	below := func(c impl.Con) int {
		deepest := 0
		for _, arg := range c.Args {
			deepest = max(deepest, leastDepth(s, arg))
		}
		return deepest
	}
	at := slices.IndexFunc(s.Types, func(d impl.TypeDecl) bool { return d.Name == name })
	var best impl.Con
	for _, c := range s.Types[at].Cons {
		if best.Name == "" || below(c) < below(best) {
			best = c
		}
	}
	if v.Kind != impl.ViCon || v.N != 0 || v.Text != best.Name || len(v.Args) != len(best.Args) {
		t.Fatalf("DefaultValue(%q, %q) = %v, want the constructor %q", s, name, v, best)
	}
	for i, arg := range best.Args {
		wantLeast(t, s, arg, v.Args[i])
	}
}

func TestDefaultsOfManySignatures(t *testing.T) {
	random := rand.New(rand.NewSource(4))
	valid := 0
	for range 10000 {
		s := anySignature(random)
		if len(withValues(s)) < len(s.Types) {
			wantDefault(t, s, "int", impl.Value{})
			continue
		}
		for _, d := range s.Types {
			v := impl.DefaultValue(s, d.Name)
			wantLeast(t, s, d.Name, v)
			nodes, depth := measure(v)
			if depth != leastDepth(s, d.Name) {
				t.Errorf("DefaultValue(%q, %q) = %v has depth %d", s, d.Name, v, depth)
			}
			wantValueOf(t, s, v, d.Name, nodes <= impl.MaxValueNodes)
			valid++
		}
	}
	if valid < 2000 {
		t.Errorf("%d default values are not many", valid)
	}
}

// roomyValue returns a value with unused capacity behind its Args, and all these lists with what stands behind them.
func roomyValue() (impl.Value, [][]impl.Value) {
	inner := []impl.Value{intOf(5), conOf("Nil"), textOf("spare"), conOf("Spare")}
	outer := []impl.Value{textOf("t"), conOf("Cons", inner[:2]...), conOf("Red"), conOf("Spare", intOf(1)), {}}
	return conOf("Doc", outer[:3]...), [][]impl.Value{inner, outer}
}

func TestValueFunctionsKeepTheirArguments(t *testing.T) {
	v, lists := roomyValue()
	other, otherLists := roomyValue()
	other.Args[1].Args[1].Text = "Cons"
	for _, name := range []string{"doc", "list", "int", "zz"} {
		wantValueOf(t, listAndHue(), v, name, name == "doc")
	}
	impl.CountValue(v)
	impl.DepthOfValue(v)
	impl.EqualValue(v, other)
	impl.EqualValue(other, v)
	wantFormat(t, v, "Doc(\"t\", Cons(5, Nil), Red)")
	_, before := roomyValue()
	otherLists[0][1].Text = "Nil"
	for i, list := range before {
		if !slices.EqualFunc(lists[i], list, sameValue) || !slices.EqualFunc(otherLists[i], list, sameValue) {
			t.Errorf("the Args afterwards are %v and %v, not %v", lists[i], otherLists[i], list)
		}
	}
}

func TestValueFunctionsKeepTheSignature(t *testing.T) {
	s, args, cons, types := roomy()
	for _, name := range []string{"a", "b", "int", "text", "zz", ""} {
		impl.DefaultValue(s, name)
		impl.IsValueOf(s, conOf("A", intOf(1), conOf("B")), name)
		impl.IsValueOf(s, conOf("C", conOf("D")), name)
	}
	_, argsBefore, consBefore, typesBefore := roomy()
	if !slices.EqualFunc(args, argsBefore, slices.Equal) || !slices.EqualFunc(cons, consBefore, sameCon) || !slices.EqualFunc(types, typesBefore, sameType) {
		t.Errorf("the signature afterwards is %q, with %q behind it", s, types)
	}
}

// argLists returns all lists of Args in v, with their unused capacity.
func argLists(v impl.Value) [][]impl.Value {
	lists := [][]impl.Value{v.Args[:cap(v.Args)]}
	for _, arg := range v.Args {
		lists = append(lists, argLists(arg)...)
	}
	return lists
}

func valueNumber(v *impl.Value) *int { return &v.N }

// wantSeparate checks that no two lists share memory: each is filled with a number of its own.
func wantSeparate[T any](t *testing.T, lists [][]T, number func(*T) *int) {
	t.Helper()
	wantMarked(t, lists, number, func(i int) int { return i })
}

// wantMarked checks that no two lists share memory: a field of the elements is set to the mark of their list.
func wantMarked[T any, M comparable](t *testing.T, lists [][]T, field func(*T) *M, mark func(i int) M) {
	t.Helper()
	for i, list := range lists {
		for k := range list {
			*field(&list[k]) = mark(i)
		}
	}
	for i, list := range lists {
		for k := range list {
			if *field(&list[k]) != mark(i) {
				t.Errorf("list %d shares memory with another one", i)
			}
		}
	}
}

func TestValuesAreNewMemory(t *testing.T) {
	s := declared("a = A b b c", "b = B c c c", "c = C int int")
	var lists [][]impl.Value
	for range 2 {
		for _, name := range []string{"a", "b", "c"} {
			lists = append(lists, argLists(impl.DefaultValue(s, name))...)
		}
		for _, text := range []string{"A(B(1, 1), B(1, 1), B(B(1)))", "A(B(1, 1), B(1, 1), B(B(1)))", "A(A(A), A(A))"} {
			v, _ := impl.ParseValue(text)
			lists = append(lists, argLists(v)...)
		}
	}
	wantSeparate(t, lists, valueNumber)
	c := conOf("C", intOf(0), intOf(0))
	b := conOf("B", thrice(c)...)
	wantDefault(t, s, "a", conOf("A", b, b, c))
	wantParse(t, "A(A(A), A(A))", conOf("A", conOf("A", conOf("A")), conOf("A", conOf("A"))))
}
