package tests

import (
	"fmt"
	"math"
	"math/big"
	"math/rand"
	"slices"
	"strings"
	"testing"

	"loop.example/g00519/impl"
)

func intExpr(n int) impl.Expr { return impl.Expr{Kind: impl.ExInt, N: n} }

func varExpr(name string) impl.Expr { return impl.Expr{Kind: impl.ExVar, Name: name} }

func opExpr(n int, args ...impl.Expr) impl.Expr {
	return impl.Expr{Kind: impl.ExOp, N: n, Args: args}
}

func notExpr(args ...impl.Expr) impl.Expr { return impl.Expr{Kind: impl.ExNot, Args: args} }

// opSymbols are the symbols of the operators by their numbers.
var opSymbols = []string{"none", "+", "-", "*", "<", "==", "&", "|"}

func sameExpr(a, b impl.Expr) bool {
	return a.Kind == b.Kind && a.N == b.N && a.Name == b.Name && slices.EqualFunc(a.Args, b.Args, sameExpr)
}

// eachExpr visits the nodes of an expression with their depths.
func eachExpr(e impl.Expr, depth int, visit func(depth int, e impl.Expr)) {
	visit(depth, e)
	for _, arg := range e.Args {
		eachExpr(arg, depth+1, visit)
	}
}

// measureExpr returns the number of nodes and the depth of an expression.
func measureExpr(e impl.Expr) (int, int) {
	nodes, deepest := 0, 0
	eachExpr(e, 1, func(depth int, _ impl.Expr) {
		nodes++
		deepest = max(deepest, depth)
	})
	return nodes, deepest
}

// hasFormOfExpr reports whether a node has one of the four forms.
func hasFormOfExpr(e impl.Expr) bool {
	switch e.Kind {
	case 1:
		return e.N >= -999999999999 && e.N <= 999999999999 && sameExpr(e, intExpr(e.N))
	case 2:
		return namePattern.MatchString(e.Name) && !slices.Contains(reservedWords, e.Name) && sameExpr(e, varExpr(e.Name))
	case 3:
		return e.N >= 1 && e.N <= 7 && e.Name == "" && len(e.Args) == 2
	}
	return e.Kind == 4 && e.N == 0 && e.Name == "" && len(e.Args) == 1
}

// isSoundExpr reports by the definition whether e is valid.
func isSoundExpr(e impl.Expr) bool {
	nodes, depth := measureExpr(e)
	sound := nodes <= 12 && depth <= 6
	eachExpr(e, 1, func(_ int, part impl.Expr) { sound = sound && hasFormOfExpr(part) })
	return sound
}

// exprText returns the representation of an expression of the four forms, within the limits or beyond.
func exprText(e impl.Expr) string {
	switch e.Kind {
	case impl.ExInt:
		return fmt.Sprint(e.N)
	case impl.ExVar:
		return e.Name
	case impl.ExNot:
		return "!" + exprText(e.Args[0])
	}
	return fmt.Sprintf("(%s %s %s)", exprText(e.Args[0]), opSymbols[e.N], exprText(e.Args[1]))
}

// wrapped returns n as an int of 64 bits with a sign holds it.
func wrapped(n *big.Int) int {
	all := new(big.Int).Lsh(big.NewInt(1), 64)
	rest := new(big.Int).Mod(n, all)
	if rest.Cmp(big.NewInt(math.MaxInt64)) > 0 {
		rest.Sub(rest, all)
	}
	return int(rest.Int64())
}

func truth(holds bool) int {
	return map[bool]int{false: 0, true: 1}[holds]
}

// resultOf returns the value of an operator by the definition.
func resultOf(n, left, right int) int {
	a, b := big.NewInt(int64(left)), big.NewInt(int64(right))
	switch opSymbols[n] {
	case "+":
		return wrapped(a.Add(a, b))
	case "-":
		return wrapped(a.Sub(a, b))
	case "*":
		return wrapped(a.Mul(a, b))
	case "<":
		return truth(a.Cmp(b) < 0)
	case "==":
		return truth(a.Cmp(b) == 0)
	case "&":
		return truth(a.Sign()*b.Sign() != 0)
	}
	return truth(a.Sign() != 0 || b.Sign() != 0)
}

// valueOfExpr returns the value of a valid expression by the definition.
func valueOfExpr(e impl.Expr, env []impl.Binding) int {
	switch e.Kind {
	case impl.ExInt:
		return e.N
	case impl.ExVar:
		at := slices.IndexFunc(env, func(b impl.Binding) bool { return b.Name == e.Name })
		if at < 0 || env[at].Value.Kind != impl.ViInt {
			return 0
		}
		return env[at].Value.N
	case impl.ExNot:
		return truth(valueOfExpr(e.Args[0], env) == 0)
	}
	return resultOf(e.N, valueOfExpr(e.Args[0], env), valueOfExpr(e.Args[1], env))
}

func bind(name string, n int) impl.Binding { return impl.Binding{Name: name, Value: intOf(n)} }

// someEnv binds x, y and z to integers, and s to a string.
func someEnv() []impl.Binding {
	return []impl.Binding{bind("x", 3), bind("y", -4), {Name: "s", Value: textOf("3")}, bind("z", math.MaxInt64), bind("x1", 1)}
}

func wantEval(t *testing.T, e impl.Expr, env []impl.Binding, want int) {
	t.Helper()
	if got := impl.EvalExpr(e, env); got != want {
		t.Errorf("EvalExpr(%s, %s) = %d, want %d", brief(e), brief(env), got, want)
	}
}

// wantExpr checks that e is valid and has the representation s, and a value.
func wantExpr(t *testing.T, s string, e impl.Expr) {
	t.Helper()
	if !impl.IsValidExpr(e) {
		t.Errorf("IsValidExpr(%s) = false", brief(e))
	}
	if got := impl.FormatExpr(e); got != s {
		t.Errorf("FormatExpr(%s) = %.300q, want %.300q", brief(e), got, s)
	}
	if got, ok := impl.ParseExpr(s); !ok || !sameExpr(got, e) {
		t.Errorf("ParseExpr(%.300q) = %s, %v, want %s, true", s, brief(got), ok, brief(e))
	}
	wantEval(t, e, someEnv(), valueOfExpr(e, someEnv()))
	wantEval(t, e, nil, valueOfExpr(e, nil))
}

// wantInvalidExpr checks that e is not valid and has neither a representation nor a value.
func wantInvalidExpr(t *testing.T, e impl.Expr) {
	t.Helper()
	if impl.IsValidExpr(e) {
		t.Errorf("IsValidExpr(%s) = true", brief(e))
	}
	if got := impl.FormatExpr(e); got != "" {
		t.Errorf("FormatExpr(%s) = %.300q, want no representation", brief(e), got)
	}
	wantEval(t, e, someEnv(), 0)
	wantEval(t, e, nil, 0)
}

func wantNoExpr(t *testing.T, s string) {
	t.Helper()
	if got, ok := impl.ParseExpr(s); ok || !sameExpr(got, impl.Expr{}) {
		t.Errorf("ParseExpr(%.300q) = %s, %v, want the zero Expr, false", s, brief(got), ok)
	}
}

// wantExprWithin checks an expression of the four forms that is valid only if it is within the limits.
func wantExprWithin(t *testing.T, s string, e impl.Expr, within bool) {
	t.Helper()
	if within {
		wantExpr(t, s, e)
	} else {
		wantInvalidExpr(t, e)
		wantNoExpr(t, s)
	}
}

func wantVarsOfExpr(t *testing.T, e impl.Expr, want ...string) {
	t.Helper()
	wantList(t, fmt.Sprintf("VarsOfExpr(%s)", brief(e)), impl.VarsOfExpr(e), want)
}

func TestExprConstants(t *testing.T) {
	if impl.MaxExprNodes != 12 || impl.MaxExprDepth != 6 {
		t.Error("the limits of expressions are wrong")
	}
	kinds := []int{impl.ExInt, impl.ExVar, impl.ExOp, impl.ExNot}
	if !slices.Equal(kinds, []int{1, 2, 3, 4}) {
		t.Errorf("the kinds of expressions are %v", kinds)
	}
	ops := []int{impl.OpAdd, impl.OpSubtract, impl.OpMultiply, impl.OpLess, impl.OpSame, impl.OpAnd, impl.OpOr}
	if !slices.Equal(ops, []int{1, 2, 3, 4, 5, 6, 7}) {
		t.Errorf("the operators are %v", ops)
	}
}

// simpleExprs lists expressions without Args, with their representations.
func simpleExprs() map[string]impl.Expr {
	return map[string]impl.Expr{
		"0": intExpr(0), "7": intExpr(7), "-2": intExpr(-2), "10": intExpr(10), "999999999999": intExpr(impl.MaxInt), "-999999999999": intExpr(-impl.MaxInt),
		"x": varExpr("x"), "y": varExpr("y"), "s": varExpr("s"), "x1": varExpr("x1"), "abcdefgh": varExpr("abcdefgh"), "types": varExpr("types"), "nobody": varExpr("nobody"),
	}
}

// writtenExprs lists nested expressions with their representations.
func writtenExprs() map[string]impl.Expr {
	one, two, x, y, z := intExpr(1), intExpr(2), varExpr("x"), varExpr("y"), varExpr("z")
	return map[string]impl.Expr{
		"(x + 1)":                     opExpr(impl.OpAdd, x, one),
		"(x - -1)":                    opExpr(impl.OpSubtract, x, intExpr(-1)),
		"(-1 - x)":                    opExpr(impl.OpSubtract, intExpr(-1), x),
		"(1 * 2)":                     opExpr(impl.OpMultiply, one, two),
		"(x < y)":                     opExpr(impl.OpLess, x, y),
		"(x == 1)":                    opExpr(impl.OpSame, x, one),
		"(x & x)":                     opExpr(impl.OpAnd, x, x),
		"(0 | z)":                     opExpr(impl.OpOr, intExpr(0), z),
		"!x":                          notExpr(x),
		"!-2":                         notExpr(intExpr(-2)),
		"!!x":                         notExpr(notExpr(x)),
		"!!!0":                        notExpr(notExpr(notExpr(intExpr(0)))),
		"!(x < 1)":                    notExpr(opExpr(impl.OpLess, x, one)),
		"(!x & y)":                    opExpr(impl.OpAnd, notExpr(x), y),
		"(x & !y)":                    opExpr(impl.OpAnd, x, notExpr(y)),
		"(!x | !!y)":                  opExpr(impl.OpOr, notExpr(x), notExpr(notExpr(y))),
		"((x - y) - z)":               opExpr(impl.OpSubtract, opExpr(impl.OpSubtract, x, y), z),
		"(x - (y - z))":               opExpr(impl.OpSubtract, x, opExpr(impl.OpSubtract, y, z)),
		"((x + 1) * (y - 2))":         opExpr(impl.OpMultiply, opExpr(impl.OpAdd, x, one), opExpr(impl.OpSubtract, y, two)),
		"(x + (1 * 2))":               opExpr(impl.OpAdd, x, opExpr(impl.OpMultiply, one, two)),
		"((x + 1) == (1 + x))":        opExpr(impl.OpSame, opExpr(impl.OpAdd, x, one), opExpr(impl.OpAdd, one, x)),
		"((x < y) | (y < x))":         opExpr(impl.OpOr, opExpr(impl.OpLess, x, y), opExpr(impl.OpLess, y, x)),
		"!((x & y) | !z)":             notExpr(opExpr(impl.OpOr, opExpr(impl.OpAnd, x, y), notExpr(z))),
		"(!(x == 2) & ((1 < y) | z))": opExpr(impl.OpAnd, notExpr(opExpr(impl.OpSame, x, two)), opExpr(impl.OpOr, opExpr(impl.OpLess, one, y), z)),
	}
}

func TestKnownExprs(t *testing.T) {
	for _, list := range []map[string]impl.Expr{simpleExprs(), writtenExprs()} {
		for s, e := range list {
			wantExpr(t, s, e)
		}
	}
}

// Each kind in each place of a negation and of each operator.
func TestEveryKindOfExprInEveryPlace(t *testing.T) {
	inner := simpleExprs()
	for s, e := range writtenExprs() {
		if nodes, _ := measureExpr(e); nodes <= 5 {
			inner[s] = e
		}
	}
	for s, e := range inner {
		wantExpr(t, "!"+s, notExpr(e))
		wantExpr(t, "!!"+s, notExpr(notExpr(e)))
		for n := impl.OpAdd; n <= impl.OpOr; n++ {
			between := " " + opSymbols[n] + " "
			wantExpr(t, "("+s+between+"x)", opExpr(n, e, varExpr("x")))
			wantExpr(t, "(1"+between+s+")", opExpr(n, intExpr(1), e))
			wantExpr(t, "("+s+between+s+")", opExpr(n, e, e))
			wantExpr(t, "!("+s+between+"0)", notExpr(opExpr(n, e, intExpr(0))))
			wantExpr(t, "(!"+s+between+"y)", opExpr(n, notExpr(e), varExpr("y")))
			for other := impl.OpAdd; other <= impl.OpOr; other++ {
				outside := " " + opSymbols[other] + " "
				wantExpr(t, "((x"+between+s+")"+outside+"-1)", opExpr(other, opExpr(n, varExpr("x"), e), intExpr(-1)))
				wantExpr(t, "(-1"+outside+"("+s+between+"x))", opExpr(other, intExpr(-1), opExpr(n, e, varExpr("x"))))
			}
		}
	}
}

func TestSpacesAndParenthesesOfOperators(t *testing.T) {
	for _, symbol := range opSymbols[1:] {
		for _, no := range []string{
			"x # y", "x # y)", "(x # y", "((x # y))", "((x # y)", "(x # y))", "(x) # y", "x # (y)", "(x # (y))", "((x) # y)", "[x # y]", "{x # y}", "(x # y]", "((x # y) # (1 # 2)", "(x # y) # 1",
			"(x#y)", "(x #y)", "(x# y)", "(x  # y)", "(x #  y)", "( x # y)", "(x # y )", " (x # y)", "(x # y) ", "(x\t# y)", "(x #\ty)", "(x\n#\ny)", "(x # y)\n", "(x\u00a0# y)",
			"(x # )", "( # y)", "(x #)", "(# y)", "(x # y", "(x # ", "(x #", "(x", "( # )", "#", " # ", "(#)", "(# x y)", "(x y #)", "x #", "# x", "#x", "(x # # y)", "(x ## y)", "(x # y #)",
			"(x # y # 1)", "(x # y, 1)", "(x, y)", "(x # y 1)", "(x # y)(1)", "(x # y)1", "(x # y)x", "1(x # y)", "x(x # y)", "(x # y)!", "!x # y", "!(x # y", "(x # !)", "(! # y)", "(!)", "(x ! y)", "(x !# y)", "(x #! y)",
			"(x # X)", "(X # y)", "(x # if)", "(if # y)", "(x # 01)", "(-0 # y)", "(x # _)", "(x # \"a\")", "(x # \xff)", "(é # y)", "(x # y", ")x # y(", "(x # y) # ", "(x) # (y)",
		} {
			wantNoExpr(t, strings.ReplaceAll(no, "#", symbol))
		}
	}
}

func TestOtherSymbols(t *testing.T) {
	for _, symbol := range []string{
		"=", "===", "!=", "<>", "=<", "<=", ">", ">=", "<<", ">>", "==!", "= =", "&&", "||", "& &", "| |", "&|", "++", "--", "+-", "-+", "+=", "**", "* *", "/", "%", "^", "~", ".", ",", ";", ":", "?", "@", "!", "!!", "\\",
		"", " ", "and", "or", "not", "is", "x", "1", "(", ")", "()", "\"", "'", "`", "#", "$", "_", "\x00", "\x7f", "\xff", "−", "×", "＋", "＜", "＝＝", "≤", "é", "none", "if", "A",
	} {
		for _, between := range []string{symbol, " " + symbol, symbol + " ", " " + symbol + " "} {
			wantNoExpr(t, "(x"+between+"y)")
			wantNoExpr(t, "(7"+between+"2)")
			wantNoExpr(t, "((x < 1)"+between+"!y)")
			wantNoExpr(t, "!(x"+between+"y)")
			wantNoExpr(t, "(1 + (x"+between+"y))")
		}
	}
}

func TestParseRejectsMalformedExprs(t *testing.T) {
	for _, s := range []string{
		"", " ", "  ", "\n", "?", "(", ")", "()", "( )", "((", "))", "(())", "!", "!!", "! !", "!()", "!)", "!(", "! ", " !", "! x", "!  x", "!\tx", " !x", "!x ", "x!", "!x!", "!(x)", "!x)", "(!x)", "(!x", "!!(x)", "~x", "¬x", "not x",
		" x", "x ", "x\n", "\nx", "\tx", "x\t", "\x00x", "x\x00", "x y", "x, y", "x,", "(x)", "((x))", "x()", "x(1)", "x.y", "x_", "_x", "_", "x-", "x-1", "x-y", "-x", "- 1", "-", "--", "--1", "-!1", "-(x + 1)", "+x", "+1", "+0",
		"01", "00", "000", "-0", "-01", "-00", "007", "-007", "0x1", "1.0", "1e3", "1_000", "1_", "1 2", "1)", "(1)", "1x", "9a", "0b1", "1-2", "１", "٣", "!-0", "!007", "!+1", "!X",
		"X", "Nil", "A1", "xY", "xX", "Xx", "aB", "ABC", "if", "\"a\"", "\"\"", "'a'", "x = 1", "x == 1", "1 < 2", "x | y", "x & y", "x,y", "x;", "#x", "$x", "x@y", "x @ 1", "[x]", "{x}", "<x>",
		"é", "ä", "xé", "éx", "x\xff", "\xff", "\xffx", "\x80", "ｘ", "x\u0301", "\ufeffx", "x\u00a0", "!é", "!\xff", "(é + 1)", "日本",
	} {
		wantNoExpr(t, s)
	}
}

func TestNamesInExprs(t *testing.T) {
	for _, name := range []string{"a", "z", "a0", "z9", "abcdefg", "abcdefgh", "a1234567", "types", "typ", "xcase", "if0", "int2", "texts", "matc", "not", "true", "v"} {
		wantExpr(t, name, varExpr(name))
		wantExpr(t, "!"+name, notExpr(varExpr(name)))
		wantExpr(t, "("+name+" == "+name+")", opExpr(impl.OpSame, varExpr(name), varExpr(name)))
		wantEval(t, varExpr(name), []impl.Binding{bind("b", 1), bind(name, 5), bind(name+"0", 2)}, 5)
	}
}

func TestInvalidNamesInExprs(t *testing.T) {
	bad := slices.Concat(reservedWords, []string{
		"", " ", "_", "-", "1", "9a", "-1", "A", "Nil", "aB", "AB", "abcdefghi", "Abcdefgh", "a12345678", "a b", "a-", "a_", "a.b", "_a", "a\"", "a@", "a|", "a,", "a(", "a)", "(a)", "!a", "(a + b)", "a\n", "a\x00",
		"\xff", "a\xff", "é", "aé", strings.Repeat("a", 100000), strings.Repeat("a", 256), strings.Repeat("a", 264), "[", "`", "{", "a`", "a{", "a/", "a:",
	})
	for _, name := range bad {
		e := varExpr(name)
		env := []impl.Binding{bind(name, 5)}
		for _, e := range []impl.Expr{e, notExpr(e), opExpr(impl.OpOr, intExpr(1), e), opExpr(impl.OpOr, e, intExpr(1)), notExpr(opExpr(impl.OpAnd, varExpr("x"), notExpr(e)))} {
			wantInvalidExpr(t, e)
			wantEval(t, e, env, 0)
		}
	}
	for _, word := range append(reservedWords, "abcdefghi", "Abcdefgh", "a12345678", "A", "Nil", "aB", "a_", "AB", "é", "_a", "9a") {
		wantNoExpr(t, word)
		wantNoExpr(t, "!"+word)
		wantNoExpr(t, "("+word+" + 1)")
		wantNoExpr(t, "(1 + "+word+")")
		wantNoExpr(t, "!(x & !"+word+")")
	}
}

func TestIntegersInExprs(t *testing.T) {
	for _, n := range []int{0, 1, 9, 10, 999999, 1000000, 999999999998, 999999999999} {
		for _, n := range []int{n, -n} {
			wantExpr(t, fmt.Sprint(n), intExpr(n))
			wantExpr(t, fmt.Sprintf("!%d", n), notExpr(intExpr(n)))
			wantExpr(t, fmt.Sprintf("(x * %d)", n), opExpr(impl.OpMultiply, varExpr("x"), intExpr(n)))
			wantEval(t, intExpr(n), nil, n)
		}
	}
	for _, n := range []int{1000000000000, -1000000000000, 1000000000001, 9999999999999, 1 << 62, math.MaxInt64, math.MinInt64} {
		wantInvalidExpr(t, intExpr(n))
		wantInvalidExpr(t, notExpr(intExpr(n)))
		wantInvalidExpr(t, opExpr(impl.OpLess, intExpr(n), varExpr("x")))
		wantInvalidExpr(t, opExpr(impl.OpOr, varExpr("x"), intExpr(n)))
		wantNoExpr(t, fmt.Sprint(n))
		wantNoExpr(t, fmt.Sprintf("!%d", n))
		wantNoExpr(t, fmt.Sprintf("(x + %d)", n))
	}
	for _, s := range []string{"9223372036854775808", "18446744073709551616", "-18446744073709551617", "1000000000000000000000000"} {
		wantNoExpr(t, s)
		wantNoExpr(t, "(1 < "+s+")")
	}
}

func TestOperatorsOfExprs(t *testing.T) {
	for n := -10; n <= 300; n++ {
		e := opExpr(n, intExpr(5), varExpr("x"))
		if n >= 1 && n <= 7 {
			wantExpr(t, "(5 "+opSymbols[n]+" x)", e)
			wantExpr(t, "!(1 | (5 "+opSymbols[n]+" x))", notExpr(opExpr(impl.OpOr, intExpr(1), e)))
			continue
		}
		wantInvalidExpr(t, e)
		wantInvalidExpr(t, notExpr(e))
		wantInvalidExpr(t, notExpr(opExpr(impl.OpOr, intExpr(1), e)))
	}
	for _, n := range []int{1 << 32, 1<<32 + 1, 1<<63 - 1, -1 << 63, math.MinInt32} {
		wantInvalidExpr(t, opExpr(n, intExpr(5), varExpr("x")))
	}
}

// chainExprs returns expressions of this depth whose negations and operators are one inside the other.
func chainExprs(depth int) []impl.Expr {
	one, x := intExpr(1), varExpr("x")
	chains := []impl.Expr{x, one, x, one, x}
	for i := range depth - 1 {
		n := 1 + i%7
		for k, e := range chains {
			chains[k] = []impl.Expr{notExpr(e), notExpr(e), opExpr(n, e, one), opExpr(n, x, e), opExpr(8-n, e, x)}[k]
		}
	}
	return chains
}

// bushExpr returns a flat expression with this number of nodes.
func bushExpr(nodes int) impl.Expr {
	switch {
	case nodes == 1:
		return varExpr("x")
	case nodes%2 == 0:
		return notExpr(bushExpr(nodes - 1))
	}
	left := nodes / 4 * 2
	return opExpr(1+nodes%7, bushExpr(max(1, left)), bushExpr(nodes-1-max(1, left)))
}

func TestExprsAtTheLimits(t *testing.T) {
	for depth := 1; depth <= 40; depth++ {
		for _, e := range chainExprs(depth) {
			if nodes, got := measureExpr(e); got != depth || nodes > 2*depth-1 {
				t.Fatalf("%s has %d nodes and depth %d", brief(e), nodes, got)
			}
			wantExprWithin(t, exprText(e), e, depth <= 6)
			wantExprWithin(t, exprText(notExpr(e)), notExpr(e), depth <= 5)
		}
	}
	for nodes := 1; nodes <= 40; nodes++ {
		e := bushExpr(nodes)
		got, depth := measureExpr(e)
		if got != nodes || nodes <= 13 && depth > 6 {
			t.Fatalf("%s has %d nodes and depth %d", brief(e), got, depth)
		}
		wantExprWithin(t, exprText(e), e, nodes <= 12)
	}
}

// The last node or the deepest one is of each kind.
func TestLastNodesOfExprsAtTheLimits(t *testing.T) {
	x := varExpr("x")
	five := opExpr(impl.OpAdd, opExpr(impl.OpMultiply, x, x), x)
	for _, last := range []impl.Expr{x, intExpr(1), notExpr(x)} {
		nodes, depth := measureExpr(last)
		for _, e := range []impl.Expr{opExpr(impl.OpLess, opExpr(impl.OpAdd, five, x), opExpr(impl.OpOr, x, last)), opExpr(impl.OpAnd, last, opExpr(impl.OpSame, five, opExpr(impl.OpOr, x, x)))} {
			if got, _ := measureExpr(e); got != 10+nodes {
				t.Fatalf("%s has %d nodes", exprText(e), got)
			}
			wantExpr(t, exprText(e), e)
			wantExprWithin(t, exprText(notExpr(e)), notExpr(e), nodes == 1)
			wantExprWithin(t, exprText(notExpr(notExpr(e))), notExpr(notExpr(e)), false)
			wantExprWithin(t, exprText(opExpr(impl.OpAdd, e, x)), opExpr(impl.OpAdd, e, x), false)
			wantExprWithin(t, exprText(opExpr(impl.OpAdd, x, e)), opExpr(impl.OpAdd, x, e), false)
		}
		deep := last
		for range 6 - depth {
			deep = notExpr(deep)
		}
		wantExpr(t, strings.Repeat("!", 6-depth)+exprText(last), deep)
		wantExprWithin(t, strings.Repeat("!", 7-depth)+exprText(last), notExpr(deep), false)
		wantExprWithin(t, "("+exprText(deep)+" + 1)", opExpr(impl.OpAdd, deep, intExpr(1)), false)
		wantExprWithin(t, "(1 + "+exprText(deep)+")", opExpr(impl.OpAdd, intExpr(1), deep), false)
	}
}

func TestExprsFarBeyondTheLimits(t *testing.T) {
	const size = 30000
	for _, e := range chainExprs(size) {
		wantInvalidExpr(t, e)
		if !impl.EqualExpr(e, e) || impl.EqualExpr(e, e.Args[0]) || impl.EqualExpr(e, notExpr(e)) {
			t.Error("EqualExpr is wrong far beyond the limits")
		}
	}
	wantVarsOfExpr(t, chainExprs(size)[0], "x")
	wantVarsOfExpr(t, chainExprs(size)[1])
	fan := opExpr(impl.OpAdd, slices.Repeat([]impl.Expr{varExpr("b"), varExpr("a")}, size)...)
	wantInvalidExpr(t, fan)
	wantVarsOfExpr(t, fan, "a", "b")
	e := intExpr(1)
	// Far too many nodes to look at each.
	for range 200 {
		e = opExpr(impl.OpOr, e, e)
	}
	wantInvalidExpr(t, e)
	wantInvalidExpr(t, opExpr(impl.OpOr, intExpr(1), e))
}

func TestParseExprFarBeyondTheLimits(t *testing.T) {
	const size = 1000000
	for _, part := range []string{"(", ")", "!", "(x + ", "(!", "!(", "1", "a", "A", "-", "\"", " ", " + ", "é", "\xff", "x ", "=", "<"} {
		s := strings.Repeat(part, size)
		for _, no := range []string{s, "x" + s, "(1 + 2)" + s, s + "1", "!" + s, "(x " + s, "(x" + s, "1" + s, "(x + " + s + ")"} {
			wantNoExpr(t, no)
		}
	}
	wantNoExpr(t, strings.Repeat("!", size)+"x")
	wantNoExpr(t, strings.Repeat("(", size)+"x"+strings.Repeat(" & x)", size))
	wantNoExpr(t, strings.Repeat("(x & ", size)+"x"+strings.Repeat(")", size))
}

// Each kind with each number of Args.
func TestNumbersOfArgsOfExprs(t *testing.T) {
	bases := map[int]impl.Expr{1: intExpr(4), 2: varExpr("x"), 3: opExpr(impl.OpOr), 4: notExpr()}
	wanted := map[int]int{1: 0, 2: 0, 3: 2, 4: 1}
	for kind, e := range bases {
		for n := range 6 {
			e.Args = slices.Repeat([]impl.Expr{intExpr(0)}, n)
			for _, e := range []impl.Expr{e, notExpr(e), opExpr(impl.OpOr, e, intExpr(1)), opExpr(impl.OpAdd, intExpr(1), e), notExpr(opExpr(impl.OpSame, intExpr(7), notExpr(e)))} {
				if n == wanted[kind] {
					wantExpr(t, exprText(e), e)
				} else {
					wantInvalidExpr(t, e)
				}
			}
		}
	}
	for n := impl.OpAdd; n <= impl.OpOr; n++ {
		for args := range 6 {
			e := opExpr(n, slices.Repeat([]impl.Expr{intExpr(1)}, args)...)
			if args == 2 {
				wantExpr(t, "(1 "+opSymbols[n]+" 1)", e)
			} else {
				wantInvalidExpr(t, e)
			}
		}
	}
}

// exprsOfOtherFields lists expressions with fields that are not mentioned for their kind.
func exprsOfOtherFields() []impl.Expr {
	one, x := intExpr(1), varExpr("x")
	return []impl.Expr{
		{Kind: impl.ExInt, Name: "x"}, {Kind: impl.ExInt, N: 1, Name: "1"}, {Kind: impl.ExInt, N: 1, Args: []impl.Expr{one}}, {Kind: impl.ExInt, N: 1, Args: []impl.Expr{one, x}}, {Kind: impl.ExInt, Args: []impl.Expr{{}}},
		{Kind: impl.ExVar, Name: "x", N: 1}, {Kind: impl.ExVar, Name: "x", N: -1}, {Kind: impl.ExVar, Name: "x", N: math.MinInt64}, {Kind: impl.ExVar, Name: "x", Args: []impl.Expr{one}}, {Kind: impl.ExVar, Name: "x", Args: []impl.Expr{{}}},
		{Kind: impl.ExOp, N: 1, Name: "x", Args: []impl.Expr{one, x}}, {Kind: impl.ExOp, N: 1, Name: "+", Args: []impl.Expr{one, x}}, {Kind: impl.ExOp, N: 7, Name: " ", Args: []impl.Expr{one, x}}, {Kind: impl.ExOp, Args: []impl.Expr{one, x}},
		{Kind: impl.ExNot, N: 1, Args: []impl.Expr{{Kind: impl.ExInt}}}, {Kind: impl.ExNot, N: -1, Args: []impl.Expr{{Kind: impl.ExInt}}}, {Kind: impl.ExNot, N: math.MaxInt64, Args: []impl.Expr{x}},
		{Kind: impl.ExNot, Name: "x", Args: []impl.Expr{{Kind: impl.ExInt}}}, {Kind: impl.ExNot, Name: "!", Args: []impl.Expr{x}},
	}
}

// exprsOfOtherKinds lists expressions of none of the four kinds.
func exprsOfOtherKinds() []impl.Expr {
	var list []impl.Expr
	for _, kind := range []int{0, 5, 6, 7, 8, -1, -4, -7, 1 << 32, 1<<32 + 1, math.MaxInt64, math.MinInt64} {
		list = append(list, impl.Expr{Kind: kind}, impl.Expr{Kind: kind, N: 1}, impl.Expr{Kind: kind, Name: "x"}, impl.Expr{Kind: kind, N: 1, Name: "x"},
			impl.Expr{Kind: kind, Args: []impl.Expr{intExpr(0)}}, impl.Expr{Kind: kind, N: 1, Args: []impl.Expr{intExpr(1), intExpr(2)}})
	}
	return list
}

func TestInvalidExprsInEveryPlace(t *testing.T) {
	for _, e := range append(exprsOfOtherFields(), exprsOfOtherKinds()...) {
		wantInvalidExpr(t, e)
		wantInvalidExpr(t, notExpr(e))
		for n := impl.OpAdd; n <= impl.OpOr; n++ {
			wantInvalidExpr(t, opExpr(n, e, intExpr(1)))
			wantInvalidExpr(t, opExpr(n, intExpr(1), e))
			wantInvalidExpr(t, notExpr(opExpr(n, varExpr("x"), notExpr(opExpr(impl.OpOr, intExpr(1), e)))))
		}
	}
}

// An empty slice is not different from none.
func TestEmptyArgsOfExprs(t *testing.T) {
	for s, e := range simpleExprs() {
		empty := e
		empty.Args = []impl.Expr{intExpr(1)}[:0]
		wantExpr(t, s, empty)
		wantExpr(t, "!"+s, notExpr(empty))
		if !impl.EqualExpr(e, empty) || !impl.EqualExpr(empty, e) || !impl.EqualExpr(notExpr(e), notExpr(empty)) {
			t.Errorf("EqualExpr of %s with nil and empty Args = false", s)
		}
	}
	for _, e := range []impl.Expr{opExpr(impl.OpAdd), notExpr()} {
		e.Args = []impl.Expr{}
		wantInvalidExpr(t, e)
	}
}

// differentExprs lists expressions that differ from the others in one field or more.
func differentExprs() []impl.Expr {
	one, two, x := intExpr(1), intExpr(2), varExpr("x")
	list := append(append(exprsOfOtherFields(), exprsOfOtherKinds()...),
		x, varExpr("y"), varExpr("X"), varExpr(""), varExpr("x\x00"), varExpr("xx"), intExpr(0), one, two, intExpr(-1), intExpr(math.MinInt64), intExpr(math.MaxInt64),
		impl.Expr{N: -1}, impl.Expr{Name: "y"}, impl.Expr{Args: []impl.Expr{two}},
		impl.Expr{Kind: 3, N: 1, Name: "A", Args: []impl.Expr{one}}, impl.Expr{Kind: 3, N: 2, Name: "A", Args: []impl.Expr{one}}, impl.Expr{Kind: 3, N: 1, Name: "B", Args: []impl.Expr{one}},
		impl.Expr{Kind: 3, N: 1, Name: "A", Args: []impl.Expr{two}}, impl.Expr{Kind: 4, N: 1, Name: "A", Args: []impl.Expr{one}},
		notExpr(), notExpr(one), notExpr(x), notExpr(one, one), notExpr(notExpr(one)), notExpr(notExpr()), notExpr(impl.Expr{}),
	)
	for n := impl.OpAdd; n <= impl.OpOr; n++ {
		list = append(list, opExpr(n), opExpr(n, one), opExpr(n, two), opExpr(n, one, one), opExpr(n, one, two), opExpr(n, two, one), opExpr(n, one, two, one), opExpr(n, x, one), opExpr(n, one, x),
			opExpr(n, opExpr(n, one, two), one), opExpr(n, one, opExpr(n, two, one)), opExpr(n, opExpr(n, one), one), opExpr(n, opExpr(n), one), opExpr(n, one, opExpr(n)), opExpr(n, opExpr(n, one), opExpr(n)), opExpr(n, opExpr(n), opExpr(n, one)))
	}
	return list
}

func TestEqualExpr(t *testing.T) {
	left, right := differentExprs(), differentExprs()
	for i, a := range left {
		for k, b := range right {
			want := i == k
			if got := impl.EqualExpr(a, b); got != want {
				t.Errorf("EqualExpr(%v, %v) = %v", a, b, got)
			}
			if got := impl.EqualExpr(opExpr(2, opExpr(1, a, intExpr(1)), a), opExpr(2, opExpr(1, b, intExpr(1)), a)); got != want {
				t.Errorf("EqualExpr with %v and %v in Args = %v", a, b, got)
			}
			if got := impl.EqualExpr(notExpr(opExpr(1, varExpr("x"), a)), notExpr(opExpr(1, varExpr("x"), b))); got != want {
				t.Errorf("EqualExpr with %v and %v below a negation = %v", a, b, got)
			}
		}
	}
}

func TestVarsOfKnownExprs(t *testing.T) {
	x, y, z := varExpr("x"), varExpr("y"), varExpr("z")
	for _, e := range []impl.Expr{intExpr(0), intExpr(1), notExpr(intExpr(2)), opExpr(impl.OpAdd, intExpr(1), notExpr(intExpr(1)))} {
		wantVarsOfExpr(t, e)
	}
	wantVarsOfExpr(t, x, "x")
	wantVarsOfExpr(t, notExpr(x), "x")
	wantVarsOfExpr(t, notExpr(notExpr(y)), "y")
	for n := impl.OpAdd; n <= impl.OpOr; n++ {
		wantVarsOfExpr(t, opExpr(n, x, y), "x", "y")
		wantVarsOfExpr(t, opExpr(n, y, x), "x", "y")
		wantVarsOfExpr(t, opExpr(n, x, x), "x")
		wantVarsOfExpr(t, opExpr(n, x, intExpr(1)), "x")
		wantVarsOfExpr(t, opExpr(n, intExpr(1), x), "x")
		wantVarsOfExpr(t, opExpr(n, y, opExpr(n, x, y)), "x", "y")
		wantVarsOfExpr(t, notExpr(opExpr(n, notExpr(z), opExpr(n, notExpr(y), opExpr(n, x, z)))), "x", "y", "z")
	}
	// The order is that of the bytes.
	sum := varExpr("b")
	for _, name := range []string{"ab", "a", "a1", "a0", "b", "aa"} {
		sum = opExpr(impl.OpAdd, sum, varExpr(name))
	}
	wantVarsOfExpr(t, sum, "a", "a0", "a1", "aa", "ab", "b")
}

// Names are listed whatever they are and wherever they are.
func TestVarsOfInvalidExprs(t *testing.T) {
	wantVarsOfExpr(t, impl.Expr{})
	wantVarsOfExpr(t, impl.Expr{Name: "x"})
	wantVarsOfExpr(t, varExpr("Case"), "Case")
	wantVarsOfExpr(t, varExpr(""), "")
	wantVarsOfExpr(t, opExpr(9, varExpr("x"), varExpr("\xff"), varExpr("if"), varExpr("X"), varExpr("a b"), varExpr("")), "", "X", "a b", "if", "x", "\xff")
	wantVarsOfExpr(t, impl.Expr{Kind: impl.ExVar, N: 3, Name: "x"}, "x")
	wantVarsOfExpr(t, notExpr())
	wantVarsOfExpr(t, notExpr(varExpr("z"), varExpr("y")), "y", "z")
	for kind := -1; kind <= 9; kind++ {
		below := impl.Expr{Kind: kind, N: 3, Name: "k", Args: []impl.Expr{varExpr("z"), {Kind: kind, Name: "m", Args: []impl.Expr{notExpr(varExpr("b")), varExpr("a")}}}}
		if kind == 2 {
			wantVarsOfExpr(t, below, "a", "b", "k", "m", "z")
		} else {
			wantVarsOfExpr(t, below, "a", "b", "z")
		}
	}
	wantVarsOfExpr(t, opExpr(impl.OpAdd, []impl.Expr{varExpr("x"), varExpr("a")}[:1]...), "x")
}

func TestKnownValuesOfOperators(t *testing.T) {
	// The results of the operators in order.
	results := map[[2]int][7]int{
		{0, 0}:   {0, 0, 0, 0, 1, 0, 0},
		{0, 1}:   {1, -1, 0, 1, 0, 0, 1},
		{1, 0}:   {1, 1, 0, 0, 0, 0, 1},
		{1, 1}:   {2, 0, 1, 0, 1, 1, 1},
		{0, -1}:  {-1, 1, 0, 0, 0, 0, 1},
		{-1, 0}:  {-1, -1, 0, 1, 0, 0, 1},
		{-1, -1}: {-2, 0, 1, 0, 1, 1, 1},
		{1, -1}:  {0, 2, -1, 0, 0, 1, 1},
		{-1, 1}:  {0, -2, -1, 1, 0, 1, 1},
		{7, -3}:  {4, 10, -21, 0, 0, 1, 1},
		{-3, 7}:  {4, -10, -21, 1, 0, 1, 1},
		{2, 4}:   {6, -2, 8, 1, 0, 1, 1},
		{12, 12}: {24, 0, 144, 0, 1, 1, 1},
	}
	for operands, values := range results {
		for i, want := range values {
			left, right := operands[0], operands[1]
			wantEval(t, opExpr(i+1, intExpr(left), intExpr(right)), nil, want)
			wantEval(t, opExpr(i+1, varExpr("a"), varExpr("b")), []impl.Binding{bind("a", left), bind("b", right)}, want)
			wantEval(t, opExpr(i+1, intExpr(left), varExpr("b")), []impl.Binding{bind("b", right)}, want)
			wantEval(t, notExpr(opExpr(i+1, intExpr(left), intExpr(right))), nil, truth(want == 0))
		}
	}
	for n, want := range map[int]int{0: 1, 1: 0, -1: 0, 2: 0, impl.MaxInt: 0, -impl.MaxInt: 0} {
		wantEval(t, notExpr(intExpr(n)), nil, want)
		wantEval(t, notExpr(notExpr(intExpr(n))), nil, 1-want)
	}
}

func TestOperatorsThatWrapAround(t *testing.T) {
	largest, least := math.MaxInt64, math.MinInt64
	env := []impl.Binding{bind("max", largest), bind("min", least), bind("half", 1<<62), bind("root", 1<<32), bind("one", 1), bind("neg", -1)}
	for s, want := range map[string]int{
		"max": largest, "min": least, "(max + 1)": least, "(min - 1)": largest, "(max + max)": -2, "(min + min)": 0, "(max + min)": -1, "(min + neg)": largest,
		"(max - -1)": least, "(0 - min)": least, "(-1 - min)": largest, "(1 - min)": least + 1, "(max - min)": -1, "(min - max)": 1, "(min - 999999999999)": largest - impl.MaxInt + 1,
		"(min * -1)": least, "(min * 2)": 0, "(min * min)": 0, "(max * max)": 1, "(max * 2)": -2, "(max * min)": least, "(half * 2)": least, "(half * 4)": 0, "(root * root)": 0, "(half + half)": least, "(half * half)": 0,
		"(999999999999 * 999999999999)": 2003762205206896641, "(999999999999 * -999999999999)": -2003762205206896641,
		"((root * root) == 0)": 1, "!(root * root)": 1, "((root * root) & 1)": 0, "((root * root) | 0)": 0, "!(min + min)": 1, "(((max + 1) - 1) == max)": 1, "((max + 1) < max)": 1, "((min - 1) < min)": 0,
		"(min < max)": 1, "(max < min)": 0, "(max < max)": 0, "(min < min)": 0, "(min < 0)": 1, "(0 < min)": 0, "(0 < max)": 1, "(max < 0)": 0, "(min < 1)": 1, "(-1 < max)": 1, "(max < -1)": 0, "(1 < min)": 0,
		"(min == max)": 0, "(max == max)": 1, "(min == min)": 1, "(min & max)": 1, "(min | 0)": 1, "(0 | min)": 1, "(min & min)": 1, "!min": 0, "!max": 0, "!half": 0, "(half & root)": 1, "(root | 0)": 1, "(root & 0)": 0,
	} {
		e, ok := impl.ParseExpr(s)
		if !ok {
			t.Errorf("ParseExpr(%q) fails", s)
		}
		wantEval(t, e, env, want)
	}
}

// Each operator with each two of many operands.
func TestOperatorsOfManyOperands(t *testing.T) {
	var operands []int
	for shift := 0; shift < 64; shift += 7 {
		operands = append(operands, 1<<shift, -1<<shift, 1<<shift-1, 1<<shift+1)
	}
	operands = append(operands, math.MaxInt64, math.MinInt64, math.MaxInt64-1, math.MinInt64+1, impl.MaxInt, -impl.MaxInt, 1<<32, 1<<31, -1<<31, 3037000500, -3037000500)
	for _, left := range operands {
		for _, right := range operands {
			env := []impl.Binding{bind("a", left), bind("b", right)}
			for n := impl.OpAdd; n <= impl.OpOr; n++ {
				wantEval(t, opExpr(n, varExpr("a"), varExpr("b")), env, resultOf(n, left, right))
			}
		}
		wantEval(t, notExpr(varExpr("a")), []impl.Binding{bind("a", left)}, truth(left == 0))
		wantEval(t, varExpr("a"), []impl.Binding{bind("a", left)}, left)
	}
}

func TestVariablesInEnvironments(t *testing.T) {
	x := varExpr("x")
	no := func(v impl.Value) impl.Binding { return impl.Binding{Name: "x", Value: v} }
	noIntegers := []impl.Value{textOf(""), textOf("5"), conOf("A"), conOf("A", intOf(5)), {}, {N: 5}, {Kind: 4, N: 5}, {Kind: -1, N: 5}, {Kind: impl.ViText, N: 5}, {Kind: impl.ViCon, N: 5, Text: "A"}, {Kind: 1<<32 + 1, N: 5}}
	cases := map[int][][]impl.Binding{
		5: {
			{bind("x", 5)}, {bind("x", 5), bind("x", 6)}, {bind("y", 1), bind("x", 5), bind("x", 0)}, {bind("", 1), bind("X", 2), bind("xx", 3), bind("x ", 4), bind("x\x00", 6), bind("x", 5)},
			{bind("x", 5), no(textOf("a"))}, {{Name: "y", Value: textOf("x")}, bind("x", 5)}, {bind("x", 5), bind("x", 7), bind("x", 8)},
		},
		0: {
			nil, {}, {bind("y", 5)}, {bind("", 5)}, {bind("X", 5)}, {bind("xx", 5)}, {bind("x1", 5), bind("y", 6)}, {bind("x ", 5)}, {bind("x", 0)}, {bind("x", 0), bind("x", 5)}, {{}, {}}, {bind("y", 5), bind("z", 6)},
			[]impl.Binding{bind("x", 5)}[:0], []impl.Binding{bind("y", 6), bind("x", 5)}[:1],
		},
	}
	for _, v := range noIntegers {
		cases[0] = append(cases[0], []impl.Binding{no(v)}, []impl.Binding{no(v), bind("x", 5)}, []impl.Binding{bind("y", 1), no(v), bind("x", 5), no(v)}, []impl.Binding{no(v), no(v), bind("x", 5)})
		cases[5] = append(cases[5], []impl.Binding{bind("x", 5), no(v)})
	}
	for want, list := range cases {
		for _, env := range list {
			wantEval(t, x, env, want)
			wantEval(t, notExpr(x), env, truth(want == 0))
			wantEval(t, opExpr(impl.OpAdd, intExpr(1), x), env, want+1)
			wantEval(t, opExpr(impl.OpSubtract, x, intExpr(1)), env, want-1)
			wantEval(t, opExpr(impl.OpMultiply, opExpr(impl.OpAdd, x, x), notExpr(notExpr(x))), env, 2*want)
			wantEval(t, intExpr(3), env, 3)
		}
	}
	// An integer is one by its kind, and none is too large.
	wantEval(t, x, []impl.Binding{{Name: "x", Value: impl.Value{Kind: impl.ViInt, N: 5, Text: "a", Args: []impl.Value{{}}}}}, 5)
	for _, n := range []int{impl.MaxInt, impl.MaxInt + 1, -impl.MaxInt - 1, math.MaxInt64, math.MinInt64, -1} {
		wantEval(t, x, []impl.Binding{bind("x", n)}, n)
	}
}

func TestLargeEnvironments(t *testing.T) {
	env := []impl.Binding{{Name: "s", Value: impl.Value{Kind: impl.ViCon, Text: "A", Args: []impl.Value{chainOf(30000)}}}}
	for i := range 100000 {
		env = append(env, bind(fmt.Sprint("v", i), i))
	}
	for _, i := range []int{0, 1, 5000, 99999} {
		wantEval(t, varExpr(fmt.Sprint("v", i)), env, i)
	}
	wantEval(t, varExpr("v100000"), env, 0)
	wantEval(t, notExpr(varExpr("s")), env, 1)
}

// Both operands count, whatever the other one is, and all of an expression is evaluated.
func TestValuesOfNestedExprs(t *testing.T) {
	env := []impl.Binding{bind("x", 3), bind("y", -4), bind("z", 0), {Name: "s", Value: textOf("a")}}
	for s, want := range map[string]int{
		"((x + y) * (x - y))": -7, "((x - y) - x)": 4, "(x - (y - x))": 10, "(x * (y + 2))": -6, "((x * y) + 2)": -10, "!(x < y)": 1, "(!x < !z)": 1, "(x == (1 + 2))": 1, "((x == 3) == 1)": 1,
		"(x & (y | z))": 1, "((x & z) | (y & z))": 0, "(z | (z | (z | x)))": 1, "(x & (x & (x & z)))": 0, "!!!!!x": 0, "!!!!!z": 1, "(s | 7)": 1, "(s + 7)": 7, "!s": 1, "((x < 4) + (y < x))": 2, "((x == y) - (x == x))": -1,
		"((x < y) | ((y < x) & !z))": 1, "(none + 1)": 1, "(1 - !z)": 0, "(2 & 4)": 1, "(2 | 4)": 1, "(-1 & -1)": 1, "(-1 | 0)": 1, "(0 | 0)": 0,
	} {
		e, ok := impl.ParseExpr(s)
		if !ok {
			t.Errorf("ParseExpr(%q) fails", s)
		}
		wantEval(t, e, env, want)
	}
}

// anyExpr returns an expression of the four forms with at most this depth; many are within the limits.
func anyExpr(random *rand.Rand, depth int) impl.Expr {
	kind := 1 + random.Intn(2)
	if depth > 1 {
		kind = 1 + random.Intn(7)
	}
	switch kind {
	case impl.ExInt:
		ints := []int{0, 1, -1, 2, 10, -305, impl.MaxInt, -impl.MaxInt}
		return intExpr(ints[random.Intn(len(ints))])
	case impl.ExVar:
		names := []string{"x", "y", "z", "s", "x1", "abcdefgh", "none"}
		return varExpr(names[random.Intn(len(names))])
	case impl.ExNot, 5:
		return notExpr(anyExpr(random, depth-1))
	}
	return opExpr(1+random.Intn(7), anyExpr(random, depth-1), anyExpr(random, depth-1))
}

// anyEnv binds some of the names of anyExpr, some of them more than once.
func anyEnv(random *rand.Rand) []impl.Binding {
	var env []impl.Binding
	values := []impl.Value{intOf(0), intOf(1), intOf(-1), intOf(math.MaxInt64), intOf(math.MinInt64), intOf(1 << 40), intOf(7), textOf("a"), conOf("A", intOf(1)), {N: 5}}
	for range random.Intn(8) {
		name := []string{"x", "y", "z", "s", "x1", "abcdefgh", "q", ""}[random.Intn(8)]
		env = append(env, impl.Binding{Name: name, Value: values[random.Intn(len(values))]})
	}
	return env
}

func TestManyExprs(t *testing.T) {
	random := rand.New(rand.NewSource(7))
	within, beyond := 0, 0
	for range 20000 {
		e := anyExpr(random, 1+random.Intn(8))
		sound := isSoundExpr(e)
		wantExprWithin(t, exprText(e), e, sound)
		var names []string
		eachExpr(e, 1, func(_ int, part impl.Expr) {
			if part.Kind == impl.ExVar && !slices.Contains(names, part.Name) {
				names = append(names, part.Name)
			}
		})
		slices.Sort(names)
		wantVarsOfExpr(t, e, names...)
		env := anyEnv(random)
		if sound {
			within++
			wantEval(t, e, env, valueOfExpr(e, env))
		} else {
			beyond++
			wantEval(t, e, env, 0)
		}
	}
	if within < 5000 || beyond < 1000 {
		t.Errorf("%d expressions within the limits and %d beyond are no fair share", within, beyond)
	}
}

// One field of one node of an expression is changed.
func TestExprsWithOneChange(t *testing.T) {
	random := rand.New(rand.NewSource(77))
	changes := []func(e *impl.Expr){
		func(e *impl.Expr) { e.Kind = random.Intn(7) - 1 },
		func(e *impl.Expr) {
			e.N = []int{0, 1, 7, 8, -1, impl.MaxInt, impl.MaxInt + 1, -impl.MaxInt - 1}[random.Intn(8)]
		},
		func(e *impl.Expr) {
			e.Name = []string{"", "x", "A", "if", "x_", "abcdefghi", "a b", "!", "+"}[random.Intn(9)]
		},
		func(e *impl.Expr) { e.Args = slices.Concat(e.Args, []impl.Expr{intExpr(1)}) },
		func(e *impl.Expr) { e.Args = e.Args[:max(0, len(e.Args)-1)] },
	}
	valid, invalid := 0, 0
	for range 20000 {
		e := anyExpr(random, 4)
		node := &e
		for len(node.Args) > 0 && random.Intn(4) > 0 {
			node = &node.Args[random.Intn(len(node.Args))]
		}
		changes[random.Intn(len(changes))](node)
		if isSoundExpr(e) {
			wantExpr(t, exprText(e), e)
			valid++
		} else {
			wantInvalidExpr(t, e)
			invalid++
		}
	}
	if valid < 2000 || invalid < 2000 {
		t.Errorf("%d valid expressions and %d others are no fair share", valid, invalid)
	}
}

// wantSoundExpr checks that ParseExpr returns a valid expression with the representation s, or none.
func wantSoundExpr(t *testing.T, s string) bool {
	t.Helper()
	e, ok := impl.ParseExpr(s)
	if ok && (!isSoundExpr(e) || exprText(e) != s || impl.FormatExpr(e) != s) {
		t.Errorf("ParseExpr(%q) = %v, true", s, e)
	}
	if !ok && !sameExpr(e, impl.Expr{}) {
		t.Errorf("ParseExpr(%q) = %v, false", s, e)
	}
	return ok
}

// exprsOfTokens returns the representations of all expressions of at most so many of the tokens in TestAllShortExprs.
func exprsOfTokens(most int) map[string]bool {
	texts := make([][]string, most+1)
	isExpr := map[string]bool{}
	for n := 1; n <= most; n++ {
		if n == 1 {
			texts[n] = []string{"abcdefgh", "-1"}
		}
		for _, s := range texts[n-1] {
			texts[n] = append(texts[n], "!"+s)
		}
		for left := 1; left <= n-4; left++ {
			for _, s := range texts[left] {
				for _, other := range texts[n-3-left] {
					texts[n] = append(texts[n], "("+s+" - "+other+")", "("+s+" == "+other+")")
				}
			}
		}
		for _, s := range texts[n] {
			// Without operators, the depth is the number of the tokens.
			isExpr[s] = strings.Contains(s, "(") || n <= 6
		}
	}
	return isExpr
}

// Exactly the representations are parsed, of all texts of at most seven tokens. The name is so long that two of them side
// by side are none.
func TestAllShortExprs(t *testing.T) {
	isExpr := exprsOfTokens(7)
	if len(isExpr) < 60 {
		t.Fatalf("%d expressions are not many", len(isExpr))
	}
	eachList([]string{"abcdefgh", "-1", "!", "(", ")", " - ", " == "}, 7, func(list []string) {
		s := strings.Join(list, "")
		if wantSoundExpr(t, s) != isExpr[s] {
			t.Errorf("ParseExpr(%q) = %v", s, !isExpr[s])
		}
	})
}

func TestAllShortTextsAsExprs(t *testing.T) {
	for _, alphabet := range []string{"x(+) !1", "a1(=) -", "y(<&|) ", "a0-A_\xff\"!"} {
		eachString(alphabet, 6, func(s string) { wantSoundExpr(t, s) })
	}
}

// Each representation with one byte removed, added or replaced.
func TestParseOfChangedExprs(t *testing.T) {
	for s := range writtenExprs() {
		for at := range len(s) + 1 {
			for _, b := range []byte("A1x0 -_,()+*<=&|!@\"?\n\xff") {
				wantSoundExpr(t, s[:at]+string([]byte{b})+s[at:])
				if at < len(s) {
					wantSoundExpr(t, s[:at]+string([]byte{b})+s[at+1:])
				}
			}
			if at < len(s) {
				wantSoundExpr(t, s[:at]+s[at+1:])
			}
		}
	}
}

// Nothing behind an expression is ignored, and nothing of it can be missing.
func TestExprsWithTextBehind(t *testing.T) {
	for s := range writtenExprs() {
		for _, more := range []string{" ", "\n", "\x00", ")", "(", "_", "x", "1", "A", "\"", " + 1", " + 1)", ", 1", ",", "|", "!", " if 1", "\xff", "é"} {
			wantSoundExpr(t, s+more)
			wantSoundExpr(t, more+s)
		}
		for size := range len(s) {
			wantSoundExpr(t, s[:size])
			wantSoundExpr(t, s[size+1:])
		}
	}
	for _, s := range []string{"x", "1", "!x", "(x + 1)", "!(1 | 2)", "(!x & !y)"} {
		for _, more := range []string{" ", "\n", ")", "(", "(1)", "_", "A", "\"", " + 1", " + 1)", ", 1", "!", "!x", "-", "\x00", "\xff", "é", " if 1", " ==", " x"} {
			wantNoExpr(t, s+more)
		}
	}
}

// exprLists returns all lists of Args in e, with their unused capacity.
func exprLists(e impl.Expr) [][]impl.Expr {
	lists := [][]impl.Expr{e.Args[:cap(e.Args)]}
	for _, arg := range e.Args {
		lists = append(lists, exprLists(arg)...)
	}
	return lists
}

// roomyExpr returns an expression with unused capacity behind its Args, and all these lists with what stands behind them.
func roomyExpr() (impl.Expr, [][]impl.Expr) {
	inner := []impl.Expr{varExpr("z"), intExpr(5), varExpr("spare"), {}}
	below := []impl.Expr{varExpr("b"), intExpr(7)}
	outer := []impl.Expr{opExpr(impl.OpLess, inner[:2]...), notExpr(below[:1]...), varExpr("a"), {}}
	return opExpr(impl.OpAnd, outer[:2]...), [][]impl.Expr{inner, below, outer}
}

// roomyEnv returns bindings with unused capacity behind them.
func roomyEnv() []impl.Binding {
	return []impl.Binding{{Name: "s", Value: conOf("A", intOf(1))}, bind("z", 4), bind("z", 9), bind("b", 1), bind("spare", 8)}
}

func sameBinding(a, b impl.Binding) bool { return a.Name == b.Name && sameValue(a.Value, b.Value) }

func TestExprFunctionsKeepTheirArguments(t *testing.T) {
	e, lists := roomyExpr()
	other, otherLists := roomyExpr()
	other.Args[0].Args[1].N = 6
	wantExpr(t, "((z < 5) & !b)", e)
	wantVarsOfExpr(t, e, "b", "z")
	if impl.EqualExpr(e, other) || impl.EqualExpr(other, e) || !impl.EqualExpr(e, e) {
		t.Error("EqualExpr is wrong")
	}
	env := roomyEnv()
	wantEval(t, e, env[:3], 1)
	wantEval(t, e, env[:4], 0)
	if !slices.EqualFunc(env, roomyEnv(), sameBinding) {
		t.Errorf("the environment afterwards is %v", env)
	}
	_, before := roomyExpr()
	otherLists[0][1].N = 5
	for i, list := range before {
		if !slices.EqualFunc(lists[i], list, sameExpr) || !slices.EqualFunc(otherLists[i], list, sameExpr) {
			t.Errorf("the Args afterwards are %v and %v, not %v", lists[i], otherLists[i], list)
		}
	}
}

func exprNumber(e *impl.Expr) *int { return &e.N }

func TestExprsAreNewMemory(t *testing.T) {
	texts := []string{"((x + x) + (x + x))", "(!(1 + 1) + !(1 + 1))", "!!!x", "((1 | 1) | !(1 | 1))"}
	var lists [][]impl.Expr
	for range 2 {
		for _, s := range texts {
			e, ok := impl.ParseExpr(s)
			if !ok {
				t.Fatalf("ParseExpr(%q) fails", s)
			}
			lists = append(lists, exprLists(e)...)
		}
	}
	wantSeparate(t, lists, exprNumber)
	for _, s := range texts {
		e, _ := impl.ParseExpr(s)
		wantExpr(t, s, e)
	}
}

func TestVarsOfExprAreNewMemory(t *testing.T) {
	e := opExpr(impl.OpAdd, varExpr("b"), opExpr(impl.OpAdd, varExpr("a"), varExpr("c")))
	first, second := impl.VarsOfExpr(e), impl.VarsOfExpr(e)
	for i := range first {
		first[i] = "?"
	}
	wantList(t, "VarsOfExpr", second, []string{"a", "b", "c"})
	wantVarsOfExpr(t, e, "a", "b", "c")
	wantExpr(t, "(b + (a + c))", e)
}
