package tests

import (
	"fmt"
	"math"
	"math/rand"
	"regexp"
	"slices"
	"strings"
	"testing"

	"loop.example/g00519/impl"
)

func anyPart() impl.Pat { return impl.Pat{Kind: impl.PtAny} }

func varPat(name string) impl.Pat { return impl.Pat{Kind: impl.PtVar, Name: name} }

func intPat(n int) impl.Pat { return impl.Pat{Kind: impl.PtInt, N: n} }

func textPat(s string) impl.Pat { return impl.Pat{Kind: impl.PtText, Name: s} }

func conPat(name string, args ...impl.Pat) impl.Pat {
	return impl.Pat{Kind: impl.PtCon, Name: name, Args: args}
}

func orPat(args ...impl.Pat) impl.Pat { return impl.Pat{Kind: impl.PtOr, Args: args} }

func asPat(name string, args ...impl.Pat) impl.Pat {
	return impl.Pat{Kind: impl.PtAs, Name: name, Args: args}
}

func samePat(a, b impl.Pat) bool {
	return a.Kind == b.Kind && a.N == b.N && a.Name == b.Name && slices.EqualFunc(a.Args, b.Args, samePat)
}

// eachPat visits the nodes of a pattern with their depths.
func eachPat(p impl.Pat, depth int, visit func(depth int, p impl.Pat)) {
	visit(depth, p)
	for _, arg := range p.Args {
		eachPat(arg, depth+1, visit)
	}
}

// measurePat returns the number of nodes and the depth of a pattern.
func measurePat(p impl.Pat) (int, int) {
	nodes, deepest := 0, 0
	eachPat(p, 1, func(depth int, _ impl.Pat) {
		nodes++
		deepest = max(deepest, depth)
	})
	return nodes, deepest
}

var (
	namePattern    = regexp.MustCompile(`\A[a-z][a-z0-9]{0,7}\z`)
	conNamePattern = regexp.MustCompile(`\A[A-Z][a-z0-9]{0,7}\z`)
	textPattern    = regexp.MustCompile(`\A[ !#-~]{0,8}\z`)
)

// hasForm reports whether a node has one of the seven forms.
func hasForm(p impl.Pat) bool {
	isName := namePattern.MatchString(p.Name) && !slices.Contains(reservedWords, p.Name)
	switch p.Kind {
	case 1:
		return samePat(p, anyPart())
	case 2:
		return isName && samePat(p, varPat(p.Name))
	case 3:
		return p.N >= -999999999999 && p.N <= 999999999999 && samePat(p, intPat(p.N))
	case 4:
		return textPattern.MatchString(p.Name) && samePat(p, textPat(p.Name))
	case 5:
		return conNamePattern.MatchString(p.Name) && p.N == 0
	case 6:
		return p.Name == "" && p.N == 0 && len(p.Args) == 2
	}
	return p.Kind == 7 && isName && p.N == 0 && len(p.Args) == 1
}

// isSound reports by the definition whether p is valid.
func isSound(p impl.Pat) bool {
	nodes, depth := measurePat(p)
	sound := nodes <= 24 && depth <= 8
	eachPat(p, 1, func(_ int, part impl.Pat) { sound = sound && hasForm(part) })
	return sound
}

// patText returns the representation of a pattern of the seven kinds, within the limits or beyond.
func patText(p impl.Pat) string {
	var args []string
	for _, arg := range p.Args {
		args = append(args, patText(arg))
	}
	list := strings.Join(args, ", ")
	switch {
	case p.Kind == impl.PtAny:
		return "_"
	case p.Kind == impl.PtInt:
		return fmt.Sprint(p.N)
	case p.Kind == impl.PtText:
		return `"` + p.Name + `"`
	case p.Kind == impl.PtOr:
		return "(" + strings.Join(args, " | ") + ")"
	case p.Kind == impl.PtAs:
		return p.Name + " @ " + list
	case len(args) > 0:
		return p.Name + "(" + list + ")"
	}
	return p.Name
}

// wantPat checks that p is valid and has the representation s.
func wantPat(t *testing.T, s string, p impl.Pat) {
	t.Helper()
	if !impl.IsValidPat(p) {
		t.Errorf("IsValidPat(%s) = false", brief(p))
	}
	if got := impl.FormatPat(p); got != s {
		t.Errorf("FormatPat(%s) = %.300q, want %.300q", brief(p), got, s)
	}
	if got, ok := impl.ParsePat(s); !ok || !samePat(got, p) {
		t.Errorf("ParsePat(%.300q) = %s, %v, want %s, true", s, brief(got), ok, brief(p))
	}
}

// wantInvalid checks that p is not valid and has no representation.
func wantInvalid(t *testing.T, p impl.Pat) {
	t.Helper()
	if impl.IsValidPat(p) {
		t.Errorf("IsValidPat(%s) = true", brief(p))
	}
	if got := impl.FormatPat(p); got != "" {
		t.Errorf("FormatPat(%s) = %.300q, want no representation", brief(p), got)
	}
}

func wantNoPat(t *testing.T, s string) {
	t.Helper()
	if got, ok := impl.ParsePat(s); ok || !samePat(got, impl.Pat{}) {
		t.Errorf("ParsePat(%.300q) = %s, %v, want the zero Pat, false", s, brief(got), ok)
	}
}

// wantPatWithin checks a pattern of the seven forms that is valid only if it is within the limits.
func wantPatWithin(t *testing.T, s string, p impl.Pat, within bool) {
	t.Helper()
	if within {
		wantPat(t, s, p)
	} else {
		wantInvalid(t, p)
		wantNoPat(t, s)
	}
}

func wantPatCount(t *testing.T, p impl.Pat, nodes, depth int) {
	t.Helper()
	if got := impl.CountPat(p); got != nodes {
		t.Errorf("CountPat(%s) = %d, want %d", brief(p), got, nodes)
	}
	if got := impl.DepthOfPat(p); got != depth {
		t.Errorf("DepthOfPat(%s) = %d, want %d", brief(p), got, depth)
	}
}

func wantVars(t *testing.T, p impl.Pat, want ...string) {
	t.Helper()
	wantList(t, fmt.Sprintf("VarsOfPat(%s)", brief(p)), impl.VarsOfPat(p), want)
}

func TestPatConstants(t *testing.T) {
	if impl.MaxPatNodes != 24 || impl.MaxPatDepth != 8 {
		t.Error("the limits of patterns are wrong")
	}
	kinds := []int{impl.PtAny, impl.PtVar, impl.PtInt, impl.PtText, impl.PtCon, impl.PtOr, impl.PtAs}
	if !slices.Equal(kinds, []int{1, 2, 3, 4, 5, 6, 7}) {
		t.Errorf("the kinds of patterns are %v", kinds)
	}
}

// simplePats lists patterns of the five kinds that may have no Args, with their representations.
func simplePats() map[string]impl.Pat {
	return map[string]impl.Pat{
		"_": anyPart(), "x": varPat("x"), "x1": varPat("x1"), "abcdefgh": varPat("abcdefgh"), "types": varPat("types"),
		"0": intPat(0), "7": intPat(7), "-2": intPat(-2), "10": intPat(10), "999999999999": intPat(impl.MaxInt), "-999999999999": intPat(-impl.MaxInt),
		`""`: textPat(""), `"a"`: textPat("a"), `" "`: textPat(" "), `"x @ 1"`: textPat("x @ 1"), `"(0 | 1)"`: textPat("(0 | 1)"), `"_"`: textPat("_"), `"A(_), B"`: textPat("A(_), B"),
		"Nil": conPat("Nil"), "N": conPat("N"), "N0": conPat("N0"), "Abcdefgh": conPat("Abcdefgh"), "Type": conPat("Type"),
	}
}

// writtenPats lists nested patterns with their representations.
func writtenPats() map[string]impl.Pat {
	one, two, x, y, z := intPat(1), intPat(2), varPat("x"), varPat("y"), varPat("z")
	return map[string]impl.Pat{
		"Cons(x, _)":                   conPat("Cons", x, anyPart()),
		`Doc("", Nil, -3, y)`:          conPat("Doc", textPat(""), conPat("Nil"), intPat(-3), y),
		`Doc("), (", Mix(1))`:          conPat("Doc", textPat("), ("), conPat("Mix", one)),
		"A(A(A(A)), 1, B(x), 2)":       conPat("A", conPat("A", conPat("A", conPat("A"))), one, conPat("B", x), two),
		"(1 | 2)":                      orPat(one, two),
		"(_ | x)":                      orPat(anyPart(), x),
		`("a" | "|")`:                  orPat(textPat("a"), textPat("|")),
		"(Nil | Cons(x, y))":           orPat(conPat("Nil"), conPat("Cons", x, y)),
		"((x | y) | z)":                orPat(orPat(x, y), z),
		"(x | (y | z))":                orPat(x, orPat(y, z)),
		"((1 | 2) | (x | y))":          orPat(orPat(one, two), orPat(x, y)),
		"A((1 | 2), (x | y))":          conPat("A", orPat(one, two), orPat(x, y)),
		"A(((1 | 2) | x))":             conPat("A", orPat(orPat(one, two), x)),
		"x @ _":                        asPat("x", anyPart()),
		"x @ y":                        asPat("x", y),
		"x @ x":                        asPat("x", x),
		"x @ -2":                       asPat("x", intPat(-2)),
		`x @ " @ "`:                    asPat("x", textPat(" @ ")),
		"p @ Cons(1, x)":               asPat("p", conPat("Cons", one, x)),
		"x @ y @ z @ 1":                asPat("x", asPat("y", asPat("z", one))),
		"x @ (1 | 2)":                  asPat("x", orPat(one, two)),
		"(x @ 1 | 2)":                  orPat(asPat("x", one), two),
		"(1 | x @ 2)":                  orPat(one, asPat("x", two)),
		"(x @ 1 | x @ 2)":              orPat(asPat("x", one), asPat("x", two)),
		"(x @ (1 | y) | z)":            orPat(asPat("x", orPat(one, y)), z),
		"x @ (y @ 1 | z)":              asPat("x", orPat(asPat("y", one), z)),
		"A(x @ 1, y @ B(z), x)":        conPat("A", asPat("x", one), asPat("y", conPat("B", z)), x),
		"A(x @ (1 | 2), _)":            conPat("A", asPat("x", orPat(one, two)), anyPart()),
		`(A("a", _) | x @ B((y | 1)))`: orPat(conPat("A", textPat("a"), anyPart()), asPat("x", conPat("B", orPat(y, one)))),
	}
}

func TestKnownPats(t *testing.T) {
	for _, list := range []map[string]impl.Pat{simplePats(), writtenPats()} {
		for s, p := range list {
			wantPat(t, s, p)
		}
	}
}

// Each kind in each place of each kind that has Args.
func TestEveryKindInEveryPlace(t *testing.T) {
	inner := simplePats()
	for s, p := range writtenPats() {
		inner[s] = p
	}
	for s, p := range inner {
		wantPat(t, "A("+s+")", conPat("A", p))
		wantPat(t, "B(_, "+s+", 1)", conPat("B", anyPart(), p, intPat(1)))
		wantPat(t, "B("+s+", "+s+")", conPat("B", p, p))
		wantPat(t, "("+s+" | _)", orPat(p, anyPart()))
		wantPat(t, "(1 | "+s+")", orPat(intPat(1), p))
		wantPat(t, "("+s+" | "+s+")", orPat(p, p))
		wantPat(t, "v @ "+s, asPat("v", p))
		wantPat(t, "v @ (w @ "+s+" | A("+s+"))", asPat("v", orPat(asPat("w", p), conPat("A", p))))
	}
}

func TestAlternativesNeedParentheses(t *testing.T) {
	for s := range simplePats() {
		for _, no := range []string{
			s + " | " + s, s + " | ", " | " + s, s + " |", s + "|", "(" + s + ")", "((" + s + " | 1))", "(" + s + " | 1 | 2)", "(1 | 2 | " + s + ")",
			s + " | (1 | 2)", "(1 | 2) | " + s, "A(" + s + " | 1)", "A(1 | " + s + ")", "A(1, " + s + " | 2)", "x @ " + s + " | 1", "(" + s + " | 1) | 2",
			"(" + s + ", 1)", "(" + s + " | 1, 2)", "(" + s + " | )", "( | " + s + ")", "(" + s + " || 1)", "(" + s + " | | 1)", "(" + s + " & 1)",
		} {
			wantNoPat(t, no)
		}
	}
}

func TestParseRejectsMalformedPats(t *testing.T) {
	for _, s := range []string{
		"", " ", "?", "(", ")", "()", "( | )", "|", " | ", "@", " @ ", ",", ", ", "\"", "\"\"\"", "-", "--1", "+", "*", "__", "_x", "x_", "_1", "_()", "_(x)", "_ @ 1", "(_)",
		" x", "x ", "x\n", "\tx", "x\x00", "x y", "x, y", "x,", "x)", "x(", "x()", "x(1)", "x@1", "x @1", "x@ 1", "x  @ 1", "x @  1", "x @", "x @ ", " x @ 1", "x @ 1 ", "@ 1",
		"X @ 1", "Nil @ x", "1 @ x", "\"x\" @ 1", "(x) @ 1", "(x @ 1)", "(x | y) @ 1", "A(x) @ 1", "x @ @ 1", "x @ y @", "x @ y @ ", "x @ 1 @ y", "x @ 1 y", "x @ (1)", "x = 1",
		"01", "00", "-0", "-01", "007", "+1", "+0", "1.0", "1e3", "0x1", "1_000", "1_", "1 2", "1)", "1()", "1(2)", "1Nil", "1x", "x-1", "- 1", "-x",
		"\"a", "a\"", "\"a\" ", " \"a\"", "\"a\"b", "\"a\"\"b\"", "\"a\"1", "\"a\"(1)", "'a'", "\"a\\\"\"", "\"a\"_", "_\"a\"", "x\"a\"",
		"Nil ", " Nil", "Nil,", "Nil)", "Nil(", "Nil()", "Nil( )", "Nil(,)", "Nil(, )", "Nil(_", "Nil\n", "Nil Nil", "NIL", "NiL", "N_", "Nil_", "N-1", "Nil()()",
		"Cons (1, x)", "Cons( 1, x)", "Cons(1 , x)", "Cons(1,x)", "Cons(1,  x)", "Cons(1, x )", "Cons(1, x) ", "Cons(1\t, x)", "Cons(1,\nx)",
		"Cons(1, x", "Cons(1, ", "Cons(1,", "Cons(1", "Cons(", "Cons(1, x))", "Cons((1, x)", "Cons(1, (x))", "Cons)1, x(", "Cons1, x)", "(1, x)", "((1, x))",
		"Cons(1 x)", "Cons(1; x)", "Cons(1, x,)", "Cons(1, x, )", "Cons(, 1, x)", "Cons(1, , x)", "Cons(,)", "Cons(1, x)y", "Cons(1, x)1", "Cons(1, x)(1)", "cons(1, x)",
		"Cons(1, x), 2", "Cons(1, x()", "Cons(1, Nil())", "Cons(01, x)", "Cons(-0, x)", "Cons(1, X @ 2)", "Cons(?, x)", "Cons[1]", "Cons{1}", "Cons(\"a)", "Cons(a\")",
		"(0|1)", "(0| 1)", "(0 |1)", "(0  | 1)", "(0 |  1)", "( 0 | 1)", "(0 | 1 )", "(0 | 1) ", " (0 | 1)", "(0 | 1", "0 | 1)", "(0 | 1))", "((0 | 1)", "(0 \t| 1)",
		"(0 | 1)x", "(0 | 1)(2)", "(0 | 1)1", "(0 1)", "[0 | 1]", "(0 / 1)", "x | y", "x @ 1 | 2", "(x @ | 1)", "(1 | x @ )", "(1 | x @)", "(x @ 1 | )",
		"Ä", "ä", "A(é)", "é @ 1", "\xff", "x\xff", "A\xff", "A(\xff)", "(\xff | 1)", "x @ \xff", "\"é\"", "\"\xff\"", "x\u00a0@ 1", "A(1,\u00a0x)", "１", "ｘ", "＿", "\ufeffx", "x\u0301",
	} {
		wantNoPat(t, s)
	}
}

func TestNamesInPats(t *testing.T) {
	for _, name := range []string{"a", "z", "a0", "z9", "abcdefg", "abcdefgh", "a1234567", "types", "typ", "xcase", "if0", "int2", "texts", "matc"} {
		wantPat(t, name, varPat(name))
		wantPat(t, name+" @ 1", asPat(name, intPat(1)))
		wantPat(t, "A("+name+", "+name+" @ _)", conPat("A", varPat(name), asPat(name, anyPart())))
		wantInvalid(t, conPat(name))
		wantInvalid(t, conPat(name, intPat(1)))
		wantNoPat(t, name+"(1)")
	}
	for _, name := range []string{"A", "Z", "A0", "Z9", "Abcdefg", "Abcdefgh", "A1234567", "Type", "Case", "If", "Int", "Text", "Match"} {
		wantPat(t, name, conPat(name))
		wantPat(t, name+"("+name+", 1)", conPat(name, conPat(name), intPat(1)))
		wantInvalid(t, varPat(name))
		wantInvalid(t, asPat(name, intPat(1)))
		wantNoPat(t, name+" @ 1")
	}
}

func TestInvalidNamesInPats(t *testing.T) {
	bad := slices.Concat(reservedWords, []string{
		"", " ", "_", "-", "1", "9a", "aB", "AB", "abcdefghi", "Abcdefghi", "a12345678", "A12345678", "a b", "A b", "a-", "A-", "a_", "A.b", "_a", "a\"", "a@", "a|", "a,",
		"a(", "a)", "a\n", "a\x00", "\xff", "a\xff", "A\xff", "é", "É", "aé", "Aé", strings.Repeat("a", 100000), "A" + strings.Repeat("a", 100000), "x @", "A(x)", "\"a\"", "@", "[", "`", "{",
	})
	for _, name := range bad {
		for _, p := range []impl.Pat{varPat(name), asPat(name, intPat(1)), conPat(name), conPat(name, intPat(1))} {
			wantInvalid(t, p)
			wantInvalid(t, conPat("A", intPat(1), orPat(asPat("x", p), intPat(2))))
		}
		for _, s := range []string{name + " @ 1", name + "(1)", "A(" + name + " @ 1)", "x @ " + name + "(1)"} {
			wantNoPat(t, s)
		}
	}
	for _, word := range append(reservedWords, "abcdefghi", "Abcdefghi", "aB", "a_", "AB", "é") {
		wantNoPat(t, word)
		wantNoPat(t, "A("+word+")")
		wantNoPat(t, "(1 | "+word+")")
		wantNoPat(t, "("+word+" | 1)")
		wantNoPat(t, "x @ "+word)
	}
}

func TestIntegersInPats(t *testing.T) {
	for _, n := range []int{0, 1, 9, 10, 999999, 1000000, 999999999998, 999999999999} {
		for _, n := range []int{n, -n} {
			wantPat(t, fmt.Sprint(n), intPat(n))
			wantPat(t, fmt.Sprintf("A(%d)", n), conPat("A", intPat(n)))
		}
	}
	for _, n := range []int{1000000000000, -1000000000000, 1000000000001, 9999999999999, 1 << 62, math.MaxInt64, math.MinInt64} {
		wantInvalid(t, intPat(n))
		wantInvalid(t, conPat("A", anyPart(), intPat(n)))
		wantNoPat(t, fmt.Sprint(n))
		wantNoPat(t, fmt.Sprintf("A(_, %d)", n))
	}
	for _, s := range []string{"9223372036854775808", "18446744073709551616", "-18446744073709551617", "1000000000000000000000000"} {
		wantNoPat(t, s)
	}
}

func TestTextsInPats(t *testing.T) {
	for _, size := range []int{0, 1, 7, 8, 9, 10, 16, 256, 264, 100000} {
		s := strings.Repeat("x", size)
		wantPatWithin(t, `"`+s+`"`, textPat(s), size <= 8)
		wantPatWithin(t, `A("`+s+`", "")`, conPat("A", textPat(s), textPat("")), size <= 8)
	}
	for b := range 256 {
		for _, at := range []int{0, 3, 7} {
			bytes := []byte("xxxxxxxx")
			bytes[at] = byte(b)
			for _, s := range []string{string(bytes), string(bytes[:at+1])} {
				valid := b >= 32 && b <= 126 && b != '"'
				wantPatWithin(t, `"`+s+`"`, textPat(s), valid)
				wantPatWithin(t, `(x | "`+s+`")`, orPat(varPat("x"), textPat(s)), valid)
			}
		}
	}
}

// chainPats returns patterns of this depth whose nodes of a kind with Args are one inside the other.
func chainPats(depth int) []impl.Pat {
	one, x := intPat(1), varPat("x")
	chains := []impl.Pat{anyPart(), x, one, textPat("a"), conPat("Nil"), one, x}
	for range depth - 1 {
		for i, p := range chains {
			chains[i] = []impl.Pat{conPat("W", p), asPat("x", p), orPat(p, one), orPat(one, p), conPat("W", x, p), conPat("W", p, x), asPat("y", p)}[i]
		}
	}
	return chains
}

// bushPat returns a flat pattern with this number of nodes.
func bushPat(nodes int) impl.Pat {
	switch {
	case nodes == 1:
		return anyPart()
	case nodes == 2:
		return asPat("x", intPat(1))
	case nodes%2 == 0:
		return conPat("N", bushPat(nodes/2), bushPat(nodes/2-1))
	}
	return orPat(bushPat(nodes/2), bushPat(nodes/2))
}

func TestPatsAtTheLimits(t *testing.T) {
	for depth := 1; depth <= 40; depth++ {
		for _, p := range chainPats(depth) {
			if nodes, got := measurePat(p); got != depth || nodes > 2*depth-1 {
				t.Fatalf("%s has %d nodes and depth %d", brief(p), nodes, got)
			}
			wantPatWithin(t, patText(p), p, depth <= 8)
			inner := conPat("A", intPat(1), p, varPat("x"))
			wantPatWithin(t, patText(inner), inner, depth <= 7)
		}
	}
	for nodes := 1; nodes <= 90; nodes++ {
		p := bushPat(nodes)
		if got, depth := measurePat(p); got != nodes || depth > 7 {
			t.Fatalf("%s has %d nodes and depth %d", brief(p), got, depth)
		}
		wantPatWithin(t, patText(p), p, nodes <= 24)
	}
}

// The last node or the deepest one is of each kind.
func TestLastNodesAtTheLimits(t *testing.T) {
	for _, last := range []impl.Pat{anyPart(), varPat("x"), intPat(1), textPat("a"), conPat("Nil")} {
		for args := 1; args <= 60; args++ {
			fan := slices.Repeat([]impl.Pat{last}, args)
			wantPatWithin(t, "F("+strings.Repeat(patText(last)+", ", args-1)+patText(last)+")", conPat("F", fan...), args <= 23)
		}
		fan := conPat("F", slices.Repeat([]impl.Pat{anyPart()}, 21)...)
		for _, p := range []impl.Pat{orPat(fan, last), orPat(last, fan), conPat("A", fan, last), conPat("A", last, fan), asPat("x", conPat("A", append(fan.Args, last)...))} {
			wantPat(t, patText(p), p)
			wantPatWithin(t, patText(asPat("x", p)), asPat("x", p), false)
			wantPatWithin(t, patText(conPat("A", p)), conPat("A", p), false)
		}
		deep := last
		for range 7 {
			deep = asPat("x", deep)
		}
		wantPat(t, strings.Repeat("x @ ", 7)+patText(last), deep)
		wantPatWithin(t, strings.Repeat("x @ ", 8)+patText(last), asPat("x", deep), false)
	}
}

func TestPatsFarBeyondTheLimits(t *testing.T) {
	const size = 30000
	for _, p := range chainPats(size) {
		wantInvalid(t, p)
		if got := impl.DepthOfPat(p); got != size {
			t.Errorf("DepthOfPat = %d, want %d", got, size)
		}
		if !impl.EqualPat(p, p) || impl.EqualPat(p, p.Args[0]) {
			t.Error("EqualPat is wrong far beyond the limits")
		}
	}
	fan := conPat("F", slices.Repeat([]impl.Pat{varPat("b"), varPat("a")}, size)...)
	wantInvalid(t, fan)
	wantPatCount(t, fan, 2*size+1, 2)
	wantVars(t, fan, "a", "b")
	chain := asPat("x", chainPats(size)[1])
	wantPatCount(t, chain, size+1, size+1)
	wantVars(t, chain, "x")
	p := anyPart()
	// Far too many nodes to look at each.
	for range 200 {
		p = orPat(p, p)
	}
	wantInvalid(t, p)
	wantInvalid(t, conPat("A", intPat(1), p))
}

func TestParsePatFarBeyondTheLimits(t *testing.T) {
	const size = 1000000
	for _, part := range []string{"(", ")", "A(", "(_ | ", "A(_, ", "x @ ", "1", "a", "A", "_", "\"", " ", "-", "|", ", ", " | ", "é", "\xff"} {
		s := strings.Repeat(part, size)
		for _, no := range []string{s, "\"" + s, "\"" + s + "\"", "x" + s, "A(1" + s, "(1 | 2)" + s, s + "1", "x @ " + s, "1" + s} {
			wantNoPat(t, no)
		}
	}
	wantNoPat(t, strings.Repeat("A(", size)+"_"+strings.Repeat(")", size))
	wantNoPat(t, strings.Repeat("(", size)+"_"+strings.Repeat(" | _)", size))
}

func TestCountAndDepthOfKnownPats(t *testing.T) {
	for _, p := range simplePats() {
		wantPatCount(t, p, 1, 1)
		wantPatCount(t, asPat("x", p), 2, 2)
		wantPatCount(t, orPat(p, p), 3, 2)
		wantPatCount(t, conPat("A", p, p, p), 4, 2)
	}
	wantPatCount(t, asPat("p", conPat("Cons", varPat("x"), orPat(varPat("a"), varPat("b")))), 6, 4)
	deep := conPat("A", asPat("x", intPat(1)))
	wantPatCount(t, conPat("A", deep, intPat(1), intPat(2)), 6, 4)
	wantPatCount(t, conPat("A", intPat(1), deep, intPat(2)), 6, 4)
	wantPatCount(t, conPat("A", intPat(1), intPat(2), deep), 6, 4)
	wantPatCount(t, orPat(deep, intPat(1)), 5, 4)
	wantPatCount(t, orPat(intPat(1), deep), 5, 4)
	wantPatCount(t, impl.Pat{Kind: impl.PtCon, Args: []impl.Pat{}}, 1, 1)
	// The unused capacity of Args does not count.
	wantPatCount(t, conPat("A", []impl.Pat{anyPart(), deep}[:1]...), 2, 2)
}

// Kinds do not count, only Args do.
func TestCountAndDepthOfInvalidPats(t *testing.T) {
	wantPatCount(t, impl.Pat{}, 1, 1)
	for kind := -1; kind <= 9; kind++ {
		p := impl.Pat{Kind: kind, Args: []impl.Pat{intPat(1), {Kind: kind, Args: []impl.Pat{{}}}, {}}}
		wantPatCount(t, p, 5, 3)
		wantInvalid(t, p)
	}
}

// Each kind with each number of Args.
func TestNumbersOfArgsOfPats(t *testing.T) {
	bases := map[int]impl.Pat{1: anyPart(), 2: varPat("x"), 3: intPat(4), 4: textPat("a"), 5: conPat("A"), 6: orPat(), 7: asPat("x")}
	for kind, p := range bases {
		for n := range 6 {
			p.Args = slices.Repeat([]impl.Pat{intPat(1)}, n)
			valid := n == 0 && kind < 5 || kind == 5 || kind == 6 && n == 2 || kind == 7 && n == 1
			for _, p := range []impl.Pat{p, conPat("B", anyPart(), p), orPat(p, anyPart()), orPat(anyPart(), p), asPat("y", conPat("C", p))} {
				if valid {
					wantPat(t, patText(p), p)
				} else {
					wantInvalid(t, p)
				}
			}
		}
	}
}

// otherFields lists patterns with fields that are not mentioned for their kind.
func otherFields() []impl.Pat {
	one, two := intPat(1), intPat(2)
	return []impl.Pat{
		{Kind: impl.PtAny, N: 1}, {Kind: impl.PtAny, N: -1}, {Kind: impl.PtAny, Name: "x"}, {Kind: impl.PtAny, Name: "_"}, {Kind: impl.PtAny, Args: []impl.Pat{one}},
		{Kind: impl.PtVar, Name: "x", N: 1}, {Kind: impl.PtVar, Name: "x", N: math.MinInt64}, {Kind: impl.PtVar, Name: "x", Args: []impl.Pat{one}},
		{Kind: impl.PtInt, Name: "x"}, {Kind: impl.PtInt, N: 1, Name: "1"}, {Kind: impl.PtInt, N: 1, Args: []impl.Pat{one}}, {Kind: impl.PtInt, Args: []impl.Pat{{}}},
		{Kind: impl.PtText, N: 1}, {Kind: impl.PtText, Name: "a", N: -1}, {Kind: impl.PtText, Name: "a", Args: []impl.Pat{one}},
		{Kind: impl.PtCon, Name: "A", N: 1}, {Kind: impl.PtCon, Name: "A", N: -1, Args: []impl.Pat{one}},
		{Kind: impl.PtOr, N: 1, Args: []impl.Pat{one, two}}, {Kind: impl.PtOr, Name: "x", Args: []impl.Pat{one, two}}, {Kind: impl.PtOr, Name: "A", Args: []impl.Pat{one, two}},
		{Kind: impl.PtAs, Name: "x", N: 1, Args: []impl.Pat{one}}, {Kind: impl.PtAs, Name: "x", N: math.MaxInt64, Args: []impl.Pat{one}}, {Kind: impl.PtAs, Args: []impl.Pat{one}},
	}
}

// otherKinds lists patterns of none of the seven kinds.
func otherKinds() []impl.Pat {
	var list []impl.Pat
	for _, kind := range []int{0, 8, 9, -1, -7, 1 << 32, 1<<32 + 1, math.MaxInt64, math.MinInt64} {
		list = append(list, impl.Pat{Kind: kind}, impl.Pat{Kind: kind, N: 1}, impl.Pat{Kind: kind, Name: "x"}, impl.Pat{Kind: kind, Name: "A"},
			impl.Pat{Kind: kind, Args: []impl.Pat{intPat(1)}}, impl.Pat{Kind: kind, Args: []impl.Pat{intPat(1), intPat(2)}})
	}
	return list
}

func TestInvalidPatsInEveryPlace(t *testing.T) {
	for _, p := range append(otherFields(), otherKinds()...) {
		wantInvalid(t, p)
		wantInvalid(t, conPat("A", p))
		wantInvalid(t, conPat("A", intPat(1), p, varPat("x")))
		wantInvalid(t, orPat(p, intPat(1)))
		wantInvalid(t, orPat(intPat(1), p))
		wantInvalid(t, asPat("x", p))
		wantInvalid(t, asPat("x", orPat(conPat("A", intPat(1), conPat("B", p)), anyPart())))
	}
}

// An empty slice is not different from none.
func TestEmptyArgsOfPats(t *testing.T) {
	for s, p := range simplePats() {
		empty := p
		empty.Args = []impl.Pat{intPat(1)}[:0]
		wantPat(t, s, empty)
		wantPat(t, "A("+s+")", conPat("A", empty))
		if !impl.EqualPat(p, empty) || !impl.EqualPat(empty, p) || !impl.EqualPat(asPat("x", p), asPat("x", empty)) {
			t.Errorf("EqualPat of %s with nil and empty Args = false", s)
		}
	}
	for _, p := range []impl.Pat{orPat(), asPat("x")} {
		p.Args = []impl.Pat{}
		wantInvalid(t, p)
	}
}

// differentPats lists patterns that differ from the others in one field or more.
func differentPats() []impl.Pat {
	x, y := []impl.Pat{intPat(1)}, []impl.Pat{intPat(2)}
	return append(append(otherFields(), otherKinds()...),
		anyPart(), varPat("x"), varPat("y"), varPat("A"), intPat(0), intPat(1), intPat(-1), intPat(math.MinInt64), textPat(""), textPat("x"), textPat("x\x00"), textPat("x "),
		impl.Pat{N: -1}, impl.Pat{Name: "y"}, impl.Pat{Args: y},
		impl.Pat{Kind: 5, N: 1, Name: "A", Args: x}, impl.Pat{Kind: 5, N: 2, Name: "A", Args: x}, impl.Pat{Kind: 5, N: 1, Name: "B", Args: x},
		impl.Pat{Kind: 5, N: 1, Name: "A", Args: y}, impl.Pat{Kind: 6, N: 1, Name: "A", Args: x},
		conPat("A"), conPat("B"), conPat("A", x...), conPat("A", y...), conPat("A", x[0], x[0]), conPat("A", x[0], y[0]), conPat("A", y[0], x[0]), conPat("A", x[0], y[0], x[0]),
		conPat("A", conPat("A")), conPat("A", conPat("A", x...)), conPat("A", conPat("A"), x[0]), conPat("A", conPat("A", x...), x[0]), conPat("A", x[0], conPat("A", x...)),
		conPat("A", conPat("A", x...), conPat("A")), conPat("A", conPat("A"), conPat("A", x...)), conPat("A", conPat("A", conPat("A"))),
		orPat(), orPat(x...), orPat(x[0], y[0]), orPat(y[0], x[0]), orPat(x[0], y[0], x[0]), orPat(orPat(x[0], y[0]), x[0]), orPat(x[0], orPat(y[0], x[0])),
		asPat("x"), asPat("x", x...), asPat("y", x...), asPat("x", y...), asPat("x", x[0], y[0]), asPat("x", asPat("x", x...)), asPat("x", impl.Pat{}),
	)
}

func TestEqualPat(t *testing.T) {
	left, right := differentPats(), differentPats()
	for i, a := range left {
		for k, b := range right {
			want := i == k
			if got := impl.EqualPat(a, b); got != want {
				t.Errorf("EqualPat(%v, %v) = %v", a, b, got)
			}
			if got := impl.EqualPat(conPat("B", orPat(a, anyPart()), a), conPat("B", orPat(b, anyPart()), a)); got != want {
				t.Errorf("EqualPat with %v and %v in Args = %v", a, b, got)
			}
			if got := impl.EqualPat(asPat("x", a), asPat("x", b)); got != want {
				t.Errorf("EqualPat with %v and %v below a variable = %v", a, b, got)
			}
		}
	}
}

func TestVarsOfKnownPats(t *testing.T) {
	for _, p := range []impl.Pat{anyPart(), intPat(1), textPat("a"), conPat("A"), conPat("A", textPat("x"), intPat(2)), orPat(anyPart(), conPat("B"))} {
		wantVars(t, p)
	}
	x, y, z := varPat("x"), varPat("y"), varPat("z")
	wantVars(t, x, "x")
	wantVars(t, asPat("x", anyPart()), "x")
	wantVars(t, asPat("x", x), "x")
	wantVars(t, asPat("x", y), "x", "y")
	wantVars(t, asPat("y", x), "x", "y")
	wantVars(t, conPat("A", z, x, y), "x", "y", "z")
	wantVars(t, conPat("A", y, y, x, y), "x", "y")
	wantVars(t, orPat(y, x), "x", "y")
	wantVars(t, orPat(x, x), "x")
	wantVars(t, orPat(x, intPat(1)), "x")
	wantVars(t, orPat(intPat(1), x), "x")
	wantVars(t, asPat("p", conPat("Cons", x, orPat(varPat("a"), varPat("b")))), "a", "b", "p", "x")
	wantVars(t, conPat("A", conPat("B", conPat("C", z)), asPat("y", asPat("x", varPat("z")))), "x", "y", "z")
	// The order is that of the bytes.
	wantVars(t, conPat("A", varPat("b"), varPat("ab"), varPat("a"), varPat("a1"), varPat("a0"), varPat("aa")), "a", "a0", "a1", "aa", "ab", "b")
}

// Names are listed whatever they are and wherever they are.
func TestVarsOfInvalidPats(t *testing.T) {
	wantVars(t, impl.Pat{})
	wantVars(t, impl.Pat{Name: "x"})
	wantVars(t, varPat("Case"), "Case")
	wantVars(t, varPat(""), "")
	wantVars(t, conPat("A", varPat("x"), varPat("\xff"), varPat("if"), varPat("X"), varPat("a b"), varPat("")), "", "X", "a b", "if", "x", "\xff")
	wantVars(t, asPat("x"), "x")
	wantVars(t, asPat("x", varPat("z"), varPat("y")), "x", "y", "z")
	for kind := -1; kind <= 9; kind++ {
		below := impl.Pat{Kind: kind, N: 3, Name: "k", Args: []impl.Pat{varPat("z"), {Kind: kind, Name: "m", Args: []impl.Pat{asPat("b"), varPat("a")}}}}
		if kind == 2 || kind == 7 {
			wantVars(t, below, "a", "b", "k", "m", "z")
		} else {
			wantVars(t, below, "a", "b", "z")
		}
	}
	wantVars(t, conPat("A", []impl.Pat{varPat("x"), varPat("a")}[:1]...), "x")
}

// anyPat returns a pattern of the seven kinds with at most this depth; many are within the limits.
func anyPat(random *rand.Rand, depth int) impl.Pat {
	names := []string{"x", "y", "z", "x1", "abcdefgh", "k"}
	name := names[random.Intn(len(names))]
	kind := 1 + random.Intn(5)
	if depth > 1 {
		kind = 1 + random.Intn(10)
	}
	switch kind {
	case impl.PtAny:
		return anyPart()
	case impl.PtVar:
		return varPat(name)
	case impl.PtInt:
		ints := []int{0, 1, -1, 10, -305, impl.MaxInt, -impl.MaxInt}
		return intPat(ints[random.Intn(len(ints))])
	case impl.PtText:
		texts := []string{"", "a", " ", "12345678", "x @ 1", " | ", "a, b", "(", ")", "_", "\\n", "-1"}
		return textPat(texts[random.Intn(len(texts))])
	case impl.PtOr, 8:
		return orPat(anyPat(random, depth-1), anyPat(random, depth-1))
	case impl.PtAs, 9:
		return asPat(name, anyPat(random, depth-1))
	}
	p := conPat([]string{"A", "B1", "Nil", "Abcdefgh", "Int"}[random.Intn(5)])
	if depth > 1 {
		for range random.Intn(6) {
			p.Args = append(p.Args, anyPat(random, depth-1))
		}
	}
	return p
}

func TestManyPats(t *testing.T) {
	random := rand.New(rand.NewSource(6))
	within, beyond := 0, 0
	for range 10000 {
		p := anyPat(random, 1+random.Intn(10))
		nodes, depth := measurePat(p)
		wantPatCount(t, p, nodes, depth)
		sound := isSound(p)
		wantPatWithin(t, patText(p), p, sound)
		var names []string
		eachPat(p, 1, func(_ int, part impl.Pat) {
			if (part.Kind == 2 || part.Kind == 7) && !slices.Contains(names, part.Name) {
				names = append(names, part.Name)
			}
		})
		slices.Sort(names)
		wantVars(t, p, names...)
		if sound {
			within++
		} else {
			beyond++
		}
	}
	if within < 3000 || beyond < 500 {
		t.Errorf("%d patterns within the limits and %d beyond are no fair share", within, beyond)
	}
}

// One field of one node of a valid pattern is changed.
func TestPatsWithOneChange(t *testing.T) {
	random := rand.New(rand.NewSource(66))
	changes := []func(p *impl.Pat){
		func(p *impl.Pat) { p.Kind = random.Intn(10) - 1 },
		func(p *impl.Pat) {
			p.N = []int{0, 1, -1, impl.MaxInt, impl.MaxInt + 1, -impl.MaxInt - 1}[random.Intn(6)]
		},
		func(p *impl.Pat) {
			p.Name = []string{"", "x", "A", "if", "x_", "abcdefghi", "a b", "\"", "\x7f"}[random.Intn(9)]
		},
		func(p *impl.Pat) { p.Args = slices.Concat(p.Args, []impl.Pat{anyPart()}) },
		func(p *impl.Pat) { p.Args = p.Args[:max(0, len(p.Args)-1)] },
	}
	valid, invalid := 0, 0
	for range 20000 {
		p := anyPat(random, 5)
		node := &p
		for len(node.Args) > 0 && random.Intn(4) > 0 {
			node = &node.Args[random.Intn(len(node.Args))]
		}
		changes[random.Intn(len(changes))](node)
		if isSound(p) {
			wantPat(t, patText(p), p)
			valid++
		} else {
			wantInvalid(t, p)
			invalid++
		}
	}
	if valid < 2000 || invalid < 2000 {
		t.Errorf("%d valid patterns and %d others are no fair share", valid, invalid)
	}
}

// wantSoundPat checks that ParsePat returns a valid pattern with the representation s, or none.
func wantSoundPat(t *testing.T, s string) bool {
	t.Helper()
	p, ok := impl.ParsePat(s)
	if ok && (patText(p) != s || impl.FormatPat(p) != s || !isSound(p)) {
		t.Errorf("ParsePat(%q) = %v, true, which is %q", s, p, patText(p))
	}
	if !ok && !samePat(p, impl.Pat{}) {
		t.Errorf("ParsePat(%q) = %v, false", s, p)
	}
	return ok
}

// textsOfTokens returns the representations, by the number of their tokens, of all patterns of the tokens in
// TestAllShortPats.
func textsOfTokens(most int) [][]string {
	texts := make([][]string, most+1)
	lists := make([][]string, most+1)
	for n := 1; n <= most; n++ {
		if n == 1 {
			texts[n] = []string{"_", "A"}
		}
		for _, s := range texts[n-1] {
			texts[n] = append(texts[n], "x @ "+s)
		}
		for left := 1; left <= n-4; left++ {
			for _, s := range texts[left] {
				for _, other := range texts[n-3-left] {
					texts[n] = append(texts[n], "("+s+" | "+other+")")
				}
			}
		}
		for _, list := range lists[max(0, n-3)] {
			texts[n] = append(texts[n], "A("+list+")")
		}
		lists[n] = slices.Clone(texts[n])
		for first := 1; first <= n-2; first++ {
			for _, s := range texts[first] {
				for _, rest := range lists[n-1-first] {
					lists[n] = append(lists[n], s+", "+rest)
				}
			}
		}
	}
	return texts
}

// Exactly the representations are parsed, of all texts of at most seven tokens.
func TestAllShortPats(t *testing.T) {
	tokens := []string{"_", "A", "x @ ", "(", ")", ", ", " | "}
	isPat := map[string]bool{}
	for _, s := range slices.Concat(textsOfTokens(7)...) {
		isPat[s] = true
	}
	if len(isPat) < 80 {
		t.Fatalf("%d patterns are not many", len(isPat))
	}
	eachList(tokens, 7, func(list []string) {
		s := strings.Join(list, "")
		if wantSoundPat(t, s) != isPat[s] {
			t.Errorf("ParsePat(%q) = %v", s, !isPat[s])
		}
	})
}

func TestAllShortTextsAsPats(t *testing.T) {
	for _, alphabet := range []string{"x(|) @", "A1(, )", "a0-\"_\xff"} {
		eachString(alphabet, 6, func(s string) { wantSoundPat(t, s) })
	}
}

// Each representation with one byte removed, added or replaced.
func TestParseOfChangedPats(t *testing.T) {
	for s := range writtenPats() {
		for at := range len(s) + 1 {
			for _, b := range []byte("A1x0 -_,()|@\"?\n\xff") {
				wantSoundPat(t, s[:at]+string([]byte{b})+s[at:])
				if at < len(s) {
					wantSoundPat(t, s[:at]+string([]byte{b})+s[at+1:])
				}
			}
			if at < len(s) {
				wantSoundPat(t, s[:at]+s[at+1:])
			}
		}
	}
}

// Nothing behind a pattern is ignored, and nothing of it can be missing.
func TestPatsWithTextBehind(t *testing.T) {
	for s := range writtenPats() {
		for _, more := range []string{" ", "\n", "\x00", ")", "(", "_", "x", "1", "A", "\"", "\"\"", " | 1", " | 1)", ", 1", ",", "|", "@", " @ 1", " if 1", "\xff", "é"} {
			wantSoundPat(t, s+more)
			wantSoundPat(t, more+s)
		}
		for size := range len(s) {
			wantSoundPat(t, s[:size])
			wantSoundPat(t, s[size+1:])
		}
	}
	for _, s := range []string{"A(1)", "(1 | 2)", "x @ A(1)", "\"a\"", "x @ (1 | 2)"} {
		for _, more := range []string{" ", "\n", ")", "(", "(1)", "_", "x", "1", "\"", " | 1", ", 1", " @ 1", s} {
			wantNoPat(t, s+more)
		}
	}
}

// patLists returns all lists of Args in p, with their unused capacity.
func patLists(p impl.Pat) [][]impl.Pat {
	lists := [][]impl.Pat{p.Args[:cap(p.Args)]}
	for _, arg := range p.Args {
		lists = append(lists, patLists(arg)...)
	}
	return lists
}

// roomyPat returns a pattern with unused capacity behind its Args, and all these lists with what stands behind them.
func roomyPat() (impl.Pat, [][]impl.Pat) {
	inner := []impl.Pat{varPat("z"), intPat(5), textPat("spare"), varPat("spare")}
	sides := []impl.Pat{conPat("Cons", inner[:2]...), varPat("b"), conPat("Spare", varPat("y")), {}}
	outer := []impl.Pat{textPat("t"), orPat(sides[:2]...), varPat("a"), varPat("spare"), {}}
	return conPat("Doc", outer[:3]...), [][]impl.Pat{inner, sides, outer}
}

func TestPatFunctionsKeepTheirArguments(t *testing.T) {
	p, lists := roomyPat()
	other, otherLists := roomyPat()
	other.Args[1].Args[1].Name = "c"
	wantPat(t, "Doc(\"t\", (Cons(z, 5) | b), a)", p)
	wantPatCount(t, p, 8, 4)
	wantVars(t, p, "a", "b", "z")
	if impl.EqualPat(p, other) || impl.EqualPat(other, p) || !impl.EqualPat(p, p) {
		t.Error("EqualPat is wrong")
	}
	_, before := roomyPat()
	otherLists[1][1].Name = "b"
	for i, list := range before {
		if !slices.EqualFunc(lists[i], list, samePat) || !slices.EqualFunc(otherLists[i], list, samePat) {
			t.Errorf("the Args afterwards are %v and %v, not %v", lists[i], otherLists[i], list)
		}
	}
}

func patNumber(p *impl.Pat) *int { return &p.N }

func TestPatsAreNewMemory(t *testing.T) {
	texts := []string{"A(B(1, 1), B(1, 1), B(B(1)))", "A((1 | 1), (1 | 1))", "x @ x @ A(x @ 1, x @ 1)", "((1 | 1) | (1 | 1))"}
	var lists [][]impl.Pat
	for range 2 {
		for _, s := range texts {
			p, ok := impl.ParsePat(s)
			if !ok {
				t.Fatalf("ParsePat(%q) fails", s)
			}
			lists = append(lists, patLists(p)...)
		}
	}
	wantSeparate(t, lists, patNumber)
	for _, s := range texts {
		p, _ := impl.ParsePat(s)
		wantPat(t, s, p)
	}
}

func TestVarsAreNewMemory(t *testing.T) {
	p := conPat("A", varPat("b"), asPat("a", varPat("c")))
	first, second := impl.VarsOfPat(p), impl.VarsOfPat(p)
	for i := range first {
		first[i] = "?"
	}
	wantList(t, "VarsOfPat", second, []string{"a", "b", "c"})
	wantVars(t, p, "a", "b", "c")
	wantPat(t, "A(b, a @ c)", p)
}
