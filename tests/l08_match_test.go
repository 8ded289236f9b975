package tests

import (
	"maps"
	"math"
	"math/rand"
	"slices"
	"strings"
	"testing"

	"loop.example/g00519/impl"
)

// patOf returns the pattern with the representation s.
func patOf(s string) impl.Pat {
	p, ok := impl.ParsePat(s)
	if !ok {
		panic("no pattern: " + s)
	}
	return p
}

// exprOf returns the expression with the representation s.
func exprOf(s string) impl.Expr {
	e, ok := impl.ParseExpr(s)
	if !ok {
		panic("no expression: " + s)
	}
	return e
}

// clauseOf returns the clause that is written as "PAT" or "PAT if GUARD".
func clauseOf(s string) impl.Clause {
	left, right, guarded := strings.Cut(s, " if ")
	c := impl.Clause{Pat: patOf(left), Guarded: guarded}
	if guarded {
		c.Guard = exprOf(right)
	}
	return c
}

func matchOf(name string, clauses ...string) impl.Match {
	m := impl.Match{Type: name}
	for _, s := range clauses {
		m.Clauses = append(m.Clauses, clauseOf(s))
	}
	return m
}

// varTypes returns the types of variables that are written as "x:int y:list".
func varTypes(s string) []impl.VarType {
	var list []impl.VarType
	for _, word := range strings.Fields(s) {
		name, in, _ := strings.Cut(word, ":")
		list = append(list, impl.VarType{Name: name, Type: in})
	}
	return list
}

// wantTypes checks the types of the variables of a pattern without problems.
func wantTypes(t *testing.T, s impl.Signature, p impl.Pat, name string, want []impl.VarType) {
	t.Helper()
	if got, code := impl.TypePat(s, p, name); code != impl.TyOk || !slices.Equal(got, want) {
		t.Errorf("TypePat(%q, %s, %q) = %v, %d, want %v, 0", s, brief(p), name, got, code, want)
	}
}

// wantProblem checks that a pattern has a problem with this code, and so no types.
func wantProblem(t *testing.T, s impl.Signature, p impl.Pat, name string, want int) {
	t.Helper()
	if got, code := impl.TypePat(s, p, name); code != want || got != nil {
		t.Errorf("TypePat(%q, %s, %q) = %v, %d, want nil, %d", s, brief(p), name, got, code, want)
	}
}

func wantCheck(t *testing.T, s impl.Signature, m impl.Match, index, code int) {
	t.Helper()
	if i, c := impl.CheckMatch(s, m); i != index || c != code {
		t.Errorf("CheckMatch(%q, %s) = %d, %d, want %d, %d", s, brief(m), i, c, index, code)
	}
}

func wantEqualMatch(t *testing.T, a, b impl.Match, want bool) {
	t.Helper()
	if got := impl.EqualMatch(a, b); got != want {
		t.Errorf("EqualMatch(%s, %s) = %v", brief(a), brief(b), got)
	}
}

func TestMatchConstants(t *testing.T) {
	if impl.MaxClauses != 6 {
		t.Errorf("MaxClauses = %d, want 6", impl.MaxClauses)
	}
	codes := []int{impl.TyOk, impl.TyPat, impl.TyCon, impl.TyArity, impl.TyKind, impl.TyTwice, impl.TyOr, impl.TyGuard, impl.TyMatch}
	if !slices.Equal(codes, []int{0, 1, 2, 3, 4, 5, 6, 7, 8}) {
		t.Errorf("the codes are %v", codes)
	}
}

// typedPats lists patterns for values of the types of listAndHue, by these types, with the types of their variables.
func typedPats() map[string]map[string]string {
	return map[string]map[string]string{
		"int": {
			"_": "", "x": "x:int", "0": "", "-7": "", "999999999999": "", "x @ _": "x:int", "x @ 1": "x:int", "x @ y": "x:int y:int", "y @ x": "x:int y:int", "(1 | 2)": "", "(_ | 1)": "",
			"(x | x)": "x:int", "(x | x @ 1)": "x:int", "(x @ 1 | x @ 2)": "x:int", "x @ (1 | 2)": "x:int", "(x @ y | y @ x)": "x:int y:int", "((x | x) | x)": "x:int", "(x | (x @ 0 | x))": "x:int", "b @ a @ c @ 1": "a:int b:int c:int",
		},
		"text": {
			"_": "", "x": "x:text", `""`: "", `"a"`: "", `"12345678"`: "", `"x"`: "", `"Nil"`: "", `x @ "x"`: "x:text", "x @ y": "x:text y:text", `("a" | "b")`: "", `("x" | _)`: "", "(s | s)": "s:text", `(s @ "" | s @ "a")`: "s:text",
		},
		"list": {
			"_": "", "x": "x:list", "Nil": "", "Cons(_, _)": "", "Cons(x, _)": "x:int", "Cons(_, x)": "x:list", "Cons(x, y)": "x:int y:list", "Cons(y, x)": "x:list y:int", "Cons(1, Nil)": "", "p @ Nil": "p:list", "p @ q": "p:list q:list",
			"Cons(x, Cons(y, z))": "x:int y:int z:list", "Cons(z, Cons(y, Cons(x, Nil)))": "x:int y:int z:int", "p @ Cons(x, t)": "p:list t:list x:int", "a @ Cons(b, c @ Cons(d, e))": "a:list b:int c:list d:int e:list",
			"Cons(h @ 1, t @ Nil)": "h:int t:list", "(Nil | Cons(_, _))": "", "(x | x)": "x:list", "(Cons(x, _) | Cons(0, Cons(x, _)))": "x:int", "(x @ Nil | Cons(_, x))": "x:list", "(Cons(x, y) | y @ Cons(_, Cons(x, _)))": "x:int y:list", "(p @ Cons(x, _) | Cons(x, p @ Nil))": "p:list x:int",
			"Cons((1 | 2), (Nil | Cons(3, _)))": "", "Cons((x | x @ 1), (y | y @ Nil))": "x:int y:list", "p @ (Cons(x, _) | Cons(_, Cons(x, Nil)))": "p:list x:int", "((Cons(a, _) | Cons(_, Cons(a, _))) | Cons(a @ 1, Nil))": "a:int",
		},
		"hue": {
			"_": "", "x": "x:hue", "Red": "", "Blue": "", "Mix(Red, Blue)": "", "Mix(x, y)": "x:hue y:hue", "Mix(y, x)": "x:hue y:hue", "Mix(x, _)": "x:hue", "Mix(_, x)": "x:hue", "(Red | Blue)": "", "((Red | Blue) | Mix(_, _))": "",
			"Mix(Mix(a, b), Mix(c, d))": "a:hue b:hue c:hue d:hue", "Mix(Mix(d, c), Mix(b, a))": "a:hue b:hue c:hue d:hue", "(Mix(x, y) | Mix(y, x))": "x:hue y:hue", "Mix(x @ Red, y @ (Red | Blue))": "x:hue y:hue", "(Mix(x, Red) | Mix(Blue, x))": "x:hue",
		},
		"doc": {
			"_": "", "x": "x:doc", "Doc(_, _, _)": "", "Doc(x, y, z)": "x:text y:list z:hue", "Doc(z, y, x)": "x:hue y:list z:text", `Doc("a", Nil, Red)`: "", `Doc("a", Cons(n, l), Mix(h, _))`: "h:hue l:list n:int", "Doc(x, _, _)": "x:text", "Doc(_, x, _)": "x:list", "Doc(_, _, x)": "x:hue",
			"d @ Doc(s @ \"a\", l @ Cons(n @ 1, _), h @ Mix(m, _))": "d:doc h:hue l:list m:hue n:int s:text", "(Doc(x, y, _) | Doc(x @ \"\", y @ Nil, Red))": "x:text y:list", `(d @ Doc(s, _, _) | d @ Doc(s @ "a", Nil, _))`: "d:doc s:text",
		},
		"one": {"_": "", "one": "one:one", "One": "", "one1 @ One": "one1:one", "(One | One)": "", "(x @ One | x)": "x:one"},
	}
}

// eachTyped visits the patterns of typedPats.
func eachTyped(visit func(name, s string, p impl.Pat, vars []impl.VarType)) {
	for name, list := range typedPats() {
		for s, vars := range list {
			visit(name, s, patOf(s), varTypes(vars))
		}
	}
}

func TestTypesOfKnownPats(t *testing.T) {
	eachTyped(func(name, _ string, p impl.Pat, vars []impl.VarType) { wantTypes(t, listAndHue(), p, name, vars) })
}

// places lists texts that are patterns for values of a type if "#" is replaced by a pattern for values of another type, by
// these types.
func places() map[[2]string][]string {
	return map[[2]string][]string{
		{"int", "list"}:  {"Cons(#, _)", "Cons(1, Cons(#, Nil))", "(Cons(#, Nil) | Cons(#, _))", "Cons((# | #), _)"},
		{"int", "doc"}:   {"Doc(_, Cons(#, _), Red)", "(Doc(_, Cons(#, Nil), _) | Doc(_, Cons(_, Cons(#, _)), _))"},
		{"text", "doc"}:  {"Doc(#, _, _)", "Doc(#, Nil, Mix(Red, _))", "Doc((# | #), _, _)"},
		{"list", "list"}: {"#", "Cons(_, #)", "Cons(1, Cons(2, #))", "(# | Cons(_, #))", "(# | #)"},
		{"list", "doc"}:  {"Doc(_, #, _)", `Doc("a", Cons(1, #), _)`, "(Doc(_, Cons(_, #), _) | Doc(_, #, Red))"},
		{"hue", "hue"}:   {"#", "Mix(#, _)", "Mix(Red, #)", "Mix(Mix(_, #), Blue)", "(Mix(#, _) | Mix(_, #))", "Mix((# | #), Blue)"},
		{"hue", "doc"}:   {"Doc(_, _, #)", "Doc(_, _, Mix(#, Red))", "(Doc(_, _, #) | Doc(_, _, #))"},
		{"doc", "doc"}:   {"#", "(# | #)"},
		{"one", "one"}:   {"#", "(# | #)"},
	}
}

// Each kind in each place of each kind that has Args.
func TestTypesOfPatsInEveryPlace(t *testing.T) {
	sound := 0
	eachTyped(func(name, text string, _ impl.Pat, vars []impl.VarType) {
		for types, list := range places() {
			for _, place := range list {
				p, ok := impl.ParsePat(strings.ReplaceAll(place, "#", text))
				if types[0] != name || !ok {
					continue
				}
				sound++
				wantTypes(t, listAndHue(), p, types[1], vars)
				if impl.IsValidPat(asPat("pp", p)) {
					wantTypes(t, listAndHue(), asPat("pp", p), types[1], sortedTypes(append(slices.Clone(vars), impl.VarType{Name: "pp", Type: types[1]})))
				}
			}
		}
	})
	if sound < 250 {
		t.Errorf("%d patterns within the limits are not many", sound)
	}
}

func sortedTypes(list []impl.VarType) []impl.VarType {
	slices.SortFunc(list, func(a, b impl.VarType) int { return strings.Compare(a.Name, b.Name) })
	return list
}

// The order is that of the bytes, whatever the order in the pattern is.
func TestTypesAreSortedByName(t *testing.T) {
	s := declared("a = A b b b", "b = B int text a | C")
	names := []string{"a", "a0", "a1", "aa", "ab", "b", "b9", "z"}
	random := rand.New(rand.NewSource(8))
	for range 200 {
		random.Shuffle(len(names), func(i, k int) { names[i], names[k] = names[k], names[i] })
		v := func(i int) impl.Pat { return varPat(names[i]) }
		p := asPat(names[0], conPat("A", conPat("B", v(1), v(2), v(3)), asPat(names[4], conPat("B", v(5), v(6), v(7))), anyPart()))
		types := []string{"a", "int", "text", "a", "b", "int", "text", "a"}
		var want []impl.VarType
		for i, name := range names {
			want = append(want, impl.VarType{Name: name, Type: types[i]})
		}
		wantTypes(t, s, p, "a", sortedTypes(want))
	}
}

// A wildcard and a variable have every type; the others have one type at most.
func TestTypesOfSinglePats(t *testing.T) {
	s := listAndHue()
	types := []string{"int", "text", "list", "hue", "doc", "one"}
	for _, name := range types {
		wantTypes(t, s, anyPart(), name, nil)
		wantTypes(t, s, varPat("x"), name, []impl.VarType{{Name: "x", Type: name}})
		wantTypes(t, s, varPat("list"), name, []impl.VarType{{Name: "list", Type: name}})
		wantTypes(t, s, asPat("y", varPat("x")), name, []impl.VarType{{Name: "x", Type: name}, {Name: "y", Type: name}})
		wantTypes(t, s, orPat(varPat("x"), varPat("x")), name, []impl.VarType{{Name: "x", Type: name}})
	}
	for text, only := range map[string]string{
		"0": "int", "-5": "int", "999999999999": "int", `""`: "text", `"a"`: "text", `"0"`: "text", "Nil": "list", "Cons(_, _)": "list", "Red": "hue", "Blue": "hue", "Mix(_, _)": "hue", "Doc(_, _, _)": "doc", "One": "one",
	} {
		for _, name := range types {
			if name == only {
				wantTypes(t, s, patOf(text), name, nil)
				wantTypes(t, s, patOf("x @ "+text), name, varTypes("x:"+name))
				continue
			}
			for _, text := range []string{text, "x @ " + text, "(" + text + " | _)", "(_ | " + text + ")", "(x | " + text + ")", "x @ (x | " + text + ")"} {
				wantProblem(t, s, patOf(text), name, impl.TyKind)
			}
		}
	}
}

// Without declared types there are still int and text.
func TestTypesOfPatsWithoutDeclarations(t *testing.T) {
	for _, s := range []impl.Signature{{}, {Types: []impl.TypeDecl{}}} {
		wantTypes(t, s, patOf("x @ (1 | 2)"), "int", varTypes("x:int"))
		wantTypes(t, s, patOf(`("a" | "b")`), "text", nil)
		wantProblem(t, s, patOf("x"), "list", impl.TyPat)
		wantProblem(t, s, patOf("Nil"), "int", impl.TyCon)
		wantProblem(t, s, patOf("Nil(x, x)"), "text", impl.TyCon)
		wantCheck(t, s, matchOf("int", "1", "x if x"), -1, impl.TyOk)
		wantCheck(t, s, matchOf("list", "_"), -1, impl.TyMatch)
	}
}

// noTypes lists names that are no types of listAndHue.
func noTypes() []string {
	return []string{"", " ", "zz", "Int", "INT", "Text", "List", "lis", "lists", "list ", " list", "int ", "int\x00", "integer", "Nil", "Cons", "x", "_", "?", "type", "match", "\xff", strings.Repeat("list", 10000)}
}

func TestNamesThatAreNoTypesOfPats(t *testing.T) {
	for _, name := range noTypes() {
		for _, text := range []string{"_", "x", "1", `"a"`, "Nil", "Zz", "Cons(1)", "Cons(x, x)", "(x | y)", "x @ x"} {
			wantProblem(t, listAndHue(), patOf(text), name, impl.TyPat)
		}
		wantProblem(t, listAndHue(), impl.Pat{}, name, impl.TyPat)
		wantCheck(t, listAndHue(), matchOf(name, "_"), -1, impl.TyMatch)
		wantCheck(t, listAndHue(), matchOf(name, "x if x", "Zz"), -1, impl.TyMatch)
	}
}

func TestPatsForInvalidSignatures(t *testing.T) {
	for _, s := range invalidSignatures() {
		for _, name := range []string{"int", "text", "a", "b", "zz", ""} {
			for _, text := range []string{"_", "x", "1", `"a"`, "A", "B", "Zz", "A(x, x)", "(x | y)", "x @ x"} {
				wantProblem(t, s, patOf(text), name, impl.TyPat)
			}
			wantProblem(t, s, impl.Pat{}, name, impl.TyPat)
			wantCheck(t, s, matchOf(name, "_"), -1, impl.TyMatch)
			wantCheck(t, s, matchOf(name, "Zz", "x if y"), -1, impl.TyMatch)
			wantCheck(t, s, impl.Match{Type: name}, -1, impl.TyMatch)
		}
	}
}

// invalidPats lists patterns that are not valid, though most would have the type list otherwise.
func invalidPats() []impl.Pat {
	deep := patOf("Nil")
	for range 8 {
		deep = conPat("Cons", anyPart(), deep)
	}
	wide := patOf("Nil")
	for range 12 {
		wide = orPat(wide, patOf("Nil"))
	}
	list := append(otherFields(), otherKinds()...)
	return append(list, impl.Pat{}, varPat(""), varPat("X"), varPat("int"), varPat("toolongxx"), intPat(impl.MaxInt+1), intPat(math.MinInt64), textPat("toolongxx"), textPat("\""), textPat("\xff"), conPat(""), conPat("nil"), conPat("Ni l"),
		orPat(), orPat(conPat("Nil")), orPat(conPat("Nil"), conPat("Nil"), conPat("Nil")), asPat("x"), asPat("x", conPat("Nil"), conPat("Nil")), asPat("", conPat("Nil")), asPat("Nil", conPat("Nil")), deep, wide)
}

func TestInvalidPatsHaveNoTypes(t *testing.T) {
	s := listAndHue()
	for _, p := range invalidPats() {
		for _, name := range []string{"list", "int", "text", "hue", "zz"} {
			wantProblem(t, s, p, name, impl.TyPat)
			// That a pattern is not valid comes before all problems, wherever it is.
			for _, p := range []impl.Pat{conPat("Cons", anyPart(), p), conPat("Cons", p), conPat("Zz", p), conPat("Red", p), orPat(p, anyPart()), orPat(varPat("x"), p), orPat(conPat("Zz"), p), asPat("x", p), conPat("Cons", textPat("a"), asPat("x", orPat(varPat("x"), p)))} {
				wantProblem(t, s, p, name, impl.TyPat)
			}
		}
		m := matchOf("list", "_", "_", "_")
		m.Clauses[1].Pat = p
		wantCheck(t, s, m, 1, impl.TyPat)
		m.Clauses[0] = clauseOf("_ if x")
		wantCheck(t, s, m, 0, impl.TyGuard)
	}
}

// Limits are those of a valid pattern.
func TestTypesOfPatsAtTheLimits(t *testing.T) {
	s := declared("tree = Leaf | Wrap tree | Fan int int int | Node tree tree tree")
	p, names := patOf("Fan(1, 2, 3)"), []string{"a", "b", "c", "d", "e", "f"}
	for _, name := range names {
		p = asPat(name, p)
	}
	wantTypes(t, s, p, "tree", varTypes("a:tree b:tree c:tree d:tree e:tree f:tree"))
	wantProblem(t, s, asPat("g", p), "tree", impl.TyPat)
	deep := patOf("x")
	for range 7 {
		deep = conPat("Wrap", deep)
	}
	wantTypes(t, s, deep, "tree", varTypes("x:tree"))
	wantProblem(t, s, conPat("Wrap", deep), "tree", impl.TyPat)
	wide := patOf("Node(Node(Fan(a, b, c), Fan(d, e, f), Fan(g, h, i)), Fan(j, k, l), m @ Wrap(n @ Leaf))")
	wantPatCount(t, wide, 22, 5)
	want := varTypes("a:int b:int c:int d:int e:int f:int g:int h:int i:int j:int k:int l:int m:tree n:tree")
	wantTypes(t, s, wide, "tree", want)
	wantTypes(t, s, orPat(anyPart(), patOf("Node(Node(Fan(_, _, _), Fan(_, _, _), Fan(_, _, _)), Fan(_, _, _), Wrap(Leaf))")), "tree", nil)
	wide = asPat("o", asPat("p", wide))
	wantTypes(t, s, wide, "tree", append(want, varTypes("o:tree p:tree")...))
	wantProblem(t, s, asPat("q", wide), "tree", impl.TyPat)
}

func TestPatsFarBeyondTheLimitsHaveNoTypes(t *testing.T) {
	s := listAndHue()
	for _, p := range append(chainPats(30000), conPat("Nil", slices.Repeat([]impl.Pat{varPat("x")}, 300000)...)) {
		for _, name := range []string{"list", "int", "zz"} {
			wantProblem(t, s, p, name, impl.TyPat)
		}
		m := matchOf("list", "_", "_")
		m.Clauses[1].Pat = p
		wantCheck(t, s, m, 1, impl.TyPat)
	}
	for _, e := range chainExprs(30000) {
		for _, guarded := range []bool{true, false} {
			m := matchOf("list", "_", "Cons(x, y)")
			m.Clauses[1].Guarded, m.Clauses[1].Guard = guarded, e
			wantCheck(t, s, m, 1, impl.TyGuard)
		}
	}
}

// endlessParts returns patterns and guards that contain themselves, or that have far too many nodes to look at each.
func endlessParts() ([]impl.Pat, []impl.Expr) {
	args, operands := []impl.Pat{anyPart(), anyPart()}, []impl.Expr{intExpr(1), intExpr(1)}
	args[1] = conPat("Cons", args...)
	operands[1] = opExpr(impl.OpAdd, operands...)
	p, e := anyPart(), intExpr(1)
	for range 200 {
		p, e = orPat(p, p), opExpr(impl.OpAdd, e, e)
	}
	return []impl.Pat{args[1], orPat(args...), asPat("x", args[1]), p, conPat("Cons", anyPart(), p)}, []impl.Expr{operands[1], notExpr(operands...), e, notExpr(e)}
}

// The messages do not show the patterns and guards: that would not end.
func TestEndlessPatsAndGuards(t *testing.T) {
	s := listAndHue()
	pats, guards := endlessParts()
	for i, p := range pats {
		if vars, code := impl.TypePat(s, p, "list"); code != impl.TyPat || vars != nil {
			t.Errorf("TypePat of pattern %d returns the code %d", i, code)
		}
		m := matchOf("list", "_", "_")
		m.Clauses[1].Pat = p
		if at, code := impl.CheckMatch(s, m); at != 1 || code != impl.TyPat {
			t.Errorf("CheckMatch = %d, %d for pattern %d", at, code, i)
		}
	}
	for i, e := range guards {
		for _, guarded := range []bool{true, false} {
			m := matchOf("list", "_", "_")
			m.Clauses[1].Guarded, m.Clauses[1].Guard = guarded, e
			if at, code := impl.CheckMatch(s, m); at != 1 || code != impl.TyGuard {
				t.Errorf("CheckMatch = %d, %d for guard %d", at, code, i)
			}
		}
	}
}

// problemPats lists patterns for values of the types of listAndHue that have one problem, by these types.
func problemPats() map[string]map[string]int {
	return map[string]map[string]int{
		"int": {
			"Zz": impl.TyCon, "Zz(1)": impl.TyCon, "Zz(x, x)": impl.TyCon, `"a"`: impl.TyKind, `""`: impl.TyKind, "Nil": impl.TyKind, "Red": impl.TyKind, "Cons(_, _)": impl.TyKind, "x @ x": impl.TyTwice, "x @ y @ x": impl.TyTwice, "x @ (x | x)": impl.TyTwice,
			"(x | y)": impl.TyOr, "(x | 1)": impl.TyOr, "(1 | x)": impl.TyOr, "(_ | x)": impl.TyOr, "(x @ y | x)": impl.TyOr, "(x | x @ y)": impl.TyOr, "((x | x) | y)": impl.TyOr,
		},
		"text": {
			"Zz": impl.TyCon, "1": impl.TyKind, "0": impl.TyKind, "One": impl.TyKind, "Doc(_, _, _)": impl.TyKind, "x @ x": impl.TyTwice, "(x | y)": impl.TyOr, `(x | "a")`: impl.TyOr,
		},
		"list": {
			"Zz": impl.TyCon, "Zz(_, _)": impl.TyCon, "N": impl.TyCon, "Con(_, _)": impl.TyCon, "Conss": impl.TyCon, "List": impl.TyCon, "Cons(Zz, _)": impl.TyCon, "Cons(1, Zz)": impl.TyCon,
			"1": impl.TyKind, `"a"`: impl.TyKind, "Red": impl.TyKind, "Mix(_, _)": impl.TyKind, "Cons(Nil, _)": impl.TyKind, `Cons("a", _)`: impl.TyKind, "Cons(_, 1)": impl.TyKind, "Cons(_, Red)": impl.TyKind, "Cons(1, Cons(Nil, _))": impl.TyKind,
			"Nil(_)": impl.TyArity, "Nil(x, x)": impl.TyArity, "Cons": impl.TyArity, "Cons(1)": impl.TyArity, "Cons(_)": impl.TyArity, "Cons(1, Nil, Nil)": impl.TyArity, "Cons(1, Nil, _, _)": impl.TyArity, "Cons(_, Cons)": impl.TyArity, "Cons(_, Nil(_))": impl.TyArity,
			"Cons(x, x)": impl.TyTwice, "Cons(x @ 1, x @ Nil)": impl.TyTwice, "Cons(x, Cons(x, _))": impl.TyTwice, "Cons(x, Cons(_, x))": impl.TyTwice, "Cons(_, Cons(x, x))": impl.TyTwice, "Cons(x, Cons(y, Cons(z, x)))": impl.TyTwice, "Cons((x | x), x)": impl.TyTwice,
			"x @ x": impl.TyTwice, "x @ Cons(x, _)": impl.TyTwice, "x @ Cons(_, x)": impl.TyTwice, "x @ y @ x": impl.TyTwice, "x @ y @ Cons(_, Cons(x, _))": impl.TyTwice, "x @ (Cons(x, _) | Cons(_, Cons(x, _)))": impl.TyTwice, "Cons(x, x @ Nil)": impl.TyTwice,
			"(Nil | x)": impl.TyOr, "(x | Nil)": impl.TyOr, "(Nil | Cons(x, _))": impl.TyOr, "(Cons(x, _) | Nil)": impl.TyOr, "(Cons(x, _) | Cons(_, x))": impl.TyOr, "(Cons(_, x) | Cons(x, _))": impl.TyOr, "(x | Cons(x, _))": impl.TyOr, "(Cons(x, y) | Cons(y, x))": impl.TyOr,
			"(Cons(x, y) | Cons(x, _))": impl.TyOr, "(Cons(x, _) | Cons(x, y))": impl.TyOr, "(Cons(x, _) | Cons(y, _))": impl.TyOr, "x @ (y | z)": impl.TyOr, "Cons(_, (x | Nil))": impl.TyOr,
		},
		"hue": {
			"Zz": impl.TyCon, "Mix(Red, Zz)": impl.TyCon, "1": impl.TyKind, "Nil": impl.TyKind, "Mix(1, _)": impl.TyKind, "Mix(_, Nil)": impl.TyKind, "Red(_)": impl.TyArity, "Mix": impl.TyArity, "Mix(_)": impl.TyArity, "Mix(_, _, _)": impl.TyArity,
			"Mix(x, x)": impl.TyTwice, "Mix(Mix(x, y), Mix(z, x))": impl.TyTwice, "Mix(x @ Red, x @ Red)": impl.TyTwice, "Mix(Mix(x, _), x)": impl.TyTwice, "x @ Mix(_, x)": impl.TyTwice, "Mix((x | x), (x | x))": impl.TyTwice,
			"(x | Red)": impl.TyOr, "(Mix(x, y) | Mix(x, z))": impl.TyOr, "(Mix(x, y) | Mix(x, _))": impl.TyOr, "(Mix(x, _) | Mix(x, y))": impl.TyOr, "Mix((x | y), _)": impl.TyOr,
		},
		"doc": {
			"Zz": impl.TyCon, "One": impl.TyKind, "Doc": impl.TyArity, "Doc(_, _)": impl.TyArity, "Doc(_, _, _, _)": impl.TyArity, "Doc(x, y, x)": impl.TyTwice, "Doc(x, x, y)": impl.TyTwice, "Doc(y, x, x)": impl.TyTwice, "Doc(x, x, x)": impl.TyTwice,
			"Doc(x, Cons(_, Cons(_, y)), Mix(_, x))": impl.TyTwice, "(Doc(x, y, z) | Doc(x, z, y))": impl.TyOr, "(Doc(x, _, _) | Doc(_, x, _))": impl.TyOr, "(Doc(x, _, _) | Doc(_, _, x))": impl.TyOr,
		},
		"one": {"One(_)": impl.TyArity, "x @ x": impl.TyTwice, "Nil": impl.TyKind, "Zz": impl.TyCon, "(One | x)": impl.TyOr},
	}
}

// eachProblem visits the patterns of problemPats.
func eachProblem(visit func(name, text string, code int)) {
	for name, list := range problemPats() {
		for text, code := range list {
			visit(name, text, code)
		}
	}
}

func TestKnownProblems(t *testing.T) {
	eachProblem(func(name, text string, code int) {
		wantProblem(t, listAndHue(), patOf(text), name, code)
		wantCheck(t, listAndHue(), matchOf(name, text), 0, code)
	})
}

// A problem is found in every place.
func TestProblemsInEveryPlace(t *testing.T) {
	found := 0
	eachProblem(func(name, text string, code int) {
		for types, list := range places() {
			for _, place := range list {
				p, ok := impl.ParsePat(strings.ReplaceAll(place, "#", text))
				if types[0] != name || !ok {
					continue
				}
				found++
				wantProblem(t, listAndHue(), p, types[1], code)
				wantCheck(t, listAndHue(), impl.Match{Type: types[1], Clauses: []impl.Clause{{Pat: anyPart()}, {Pat: p}}}, 1, code)
			}
		}
	})
	if found < 400 {
		t.Errorf("%d patterns with problems are not many", found)
	}
}

// Patterns with two problems or more.
func TestFirstOfKnownProblems(t *testing.T) {
	s := declared("list = Nil | Cons int list", "hue = Red | Blue | Mix hue hue", "doc = Doc text list hue", "two = Two list list | Pair int text")
	for name, list := range map[string]map[string]int{
		"int": {
			"Nil(_)": impl.TyKind, "Cons": impl.TyKind, "Cons(x, x)": impl.TyKind, "Cons(Zz, _)": impl.TyKind, "Zz(Nil, x, x)": impl.TyCon, "Zz((x | y))": impl.TyCon, "(x @ x | y)": impl.TyTwice, "(x | y @ y)": impl.TyTwice, "x @ (x | y)": impl.TyOr, "x @ (x | Zz)": impl.TyCon, "x @ Red": impl.TyKind,
		},
		"list": {
			"Zz(_, _, _)": impl.TyCon, "Zz(x, x)": impl.TyCon, "Zz(1, Zz)": impl.TyCon, "Red(_)": impl.TyKind, "Mix(_)": impl.TyKind, "Mix(Zz, Zz)": impl.TyKind, "Mix(x, x)": impl.TyKind, "Mix((x | y), _)": impl.TyKind, "Doc": impl.TyKind,
			"Nil(Zz)": impl.TyArity, "Nil(1)": impl.TyArity, "Cons(Zz)": impl.TyArity, `Cons("a")`: impl.TyArity, "Cons(x, x, x)": impl.TyArity, "Cons(x @ x)": impl.TyArity, "Cons((x | y))": impl.TyArity, "Cons(Zz, Zz, Zz)": impl.TyArity, "Cons(1, Cons(Zz))": impl.TyArity,
			"Cons(Zz, 1)": impl.TyCon, "Cons(Nil, Zz)": impl.TyKind, "Cons((x | y), Zz)": impl.TyOr, "Cons(x @ x, Zz)": impl.TyTwice, "Cons(Zz, Cons(x, x))": impl.TyCon, "Cons(x, Nil(x))": impl.TyArity,
			"Cons(x, Cons(x, Zz))": impl.TyCon, "Cons(x, Cons(x, Nil(_)))": impl.TyArity, "Cons(x, Cons(x, 1))": impl.TyKind, "Cons(x, Cons(x, (y | z)))": impl.TyOr, "Cons(x, (x | Nil))": impl.TyOr, "Cons(x, (x | Cons(x, x)))": impl.TyTwice, "Cons(x, x @ Zz)": impl.TyCon,
			"x @ Cons(x, 1)": impl.TyKind, "x @ Cons(x, Zz)": impl.TyCon, "x @ Cons(x, (y | z))": impl.TyOr, "x @ Nil(x)": impl.TyArity, "x @ (x | Nil)": impl.TyOr, "x @ x @ Zz": impl.TyCon, "x @ 1": impl.TyKind, "x @ (x | 1)": impl.TyKind,
			"(Cons(x, x) | Nil)": impl.TyTwice, "(Nil | Cons(x, x))": impl.TyTwice, "(Cons(x, x) | Zz)": impl.TyTwice, "(Zz | Cons(x, x))": impl.TyCon, "(x | Zz)": impl.TyCon, "(x | 1)": impl.TyKind, "(x | Nil(y))": impl.TyArity, "(x | (y | z))": impl.TyOr, "((x | y) | 1)": impl.TyOr,
			"(1 | (x | y))": impl.TyKind, "((x | x) | (1 | Zz))": impl.TyKind, "((x | x) | (Zz | 1))": impl.TyCon, "((x | Cons(x, x)) | Zz)": impl.TyTwice, "(1 | Zz)": impl.TyKind, "(Zz | 1)": impl.TyCon, "(Nil(_) | Zz)": impl.TyArity, "(Cons(Zz, _) | 1)": impl.TyCon, "(Cons(1, 1) | Zz)": impl.TyKind,
		},
		"hue": {
			"Cons": impl.TyKind, "Red(Zz)": impl.TyArity, "Mix(x, x, x)": impl.TyArity, "Mix(Mix(x, x), 1)": impl.TyTwice, "Mix(1, Mix(x, x))": impl.TyKind, "Mix((x | y), 1)": impl.TyOr, "Mix(x @ x, Zz)": impl.TyTwice, "Mix(Mix(x, x), (x | y))": impl.TyTwice, "Mix((x | y), Mix(x, x))": impl.TyOr,
			"Mix((x | y), x)": impl.TyOr, "Mix(x, (x | y))": impl.TyOr, "Mix(Mix(x, y), Mix(x, 1))": impl.TyKind, "Mix(Mix(x, Zz), Mix(x, 1))": impl.TyCon, "Mix(Mix(x), Zz)": impl.TyArity, "Mix(Zz, Mix(x))": impl.TyCon, "Mix(Mix(1, Zz), _)": impl.TyKind, "Mix(Mix(Zz, 1), _)": impl.TyCon,
		},
		"doc": {
			"Doc(x, x, 1)": impl.TyKind, "Doc(x, x, Zz)": impl.TyCon, "Doc(x, x, Red(_))": impl.TyArity, "Doc(x, x, (x | y))": impl.TyOr, "Doc(x, x, Mix(x, x))": impl.TyTwice, "Doc(1, x, x)": impl.TyKind, "Doc(x, Zz, x)": impl.TyCon, "Doc(Nil, Zz, _)": impl.TyKind, "Doc(Zz, 1, _)": impl.TyCon, "Doc(_, 1, Zz)": impl.TyKind, "Doc(_, Zz, 1)": impl.TyCon,
		},
		"two": {
			"Two(Cons(x, x), Zz)": impl.TyTwice, "Two(Cons(x, _), Cons(x, Zz))": impl.TyCon, "Two((x | y), Cons(x, x))": impl.TyOr, "Two(x, Cons(x, (y | Nil)))": impl.TyOr, "(Pair(x, y) | Pair(y, x))": impl.TyOr, "(Two(x, _) | Pair(x, _))": impl.TyOr, "(Two(x, x) | Pair(x, Zz))": impl.TyTwice, "Pair(Zz, 1)": impl.TyCon, "Pair(_, 1)": impl.TyKind, `Pair("a", Zz)`: impl.TyKind,
		},
	} {
		for text, code := range list {
			wantProblem(t, s, patOf(text), name, code)
		}
	}
}

// The problem of the left one of two parts comes first, then that of the right one, then that of the node around them.
func TestFirstOfTwoProblems(t *testing.T) {
	s := listAndHue()
	eachProblem(func(name, first string, code int) {
		for second := range problemPats()[name] {
			wantProblem(t, s, patOf("("+first+" | "+second+")"), name, code)
		}
		for _, around := range []string{"(_ | #)", "(q | #)", "(# | q)", "q @ #", "(q @ _ | #)", "q @ (_ | #)", "q @ (q | #)", "((_ | #) | q)", "((_ | q @ #) | Zz)"} {
			if p, ok := impl.ParsePat(strings.ReplaceAll(around, "#", first)); ok {
				wantProblem(t, s, p, name, code)
			}
		}
		for other := range problemPats() {
			if other != name {
				wantProblem(t, s, patOf("Zz("+first+")"), other, impl.TyCon)
				wantProblem(t, s, patOf("One("+first+")"), other, map[bool]int{true: impl.TyArity, false: impl.TyKind}[other == "one"])
			}
		}
	})
}

// The same for the Args of constructors.
func TestFirstOfTwoProblemsOfArgs(t *testing.T) {
	s := listAndHue()
	hues, lists := problemPats()["hue"], problemPats()["list"]
	for first, code := range hues {
		wantProblem(t, s, patOf("Mix("+first+")"), "hue", impl.TyArity)
		wantProblem(t, s, patOf("Mix("+first+", _, _)"), "hue", impl.TyArity)
		wantProblem(t, s, patOf("q @ Mix(q, "+first+")"), "hue", code)
		wantProblem(t, s, patOf("Doc(_, Zz, "+first+")"), "doc", impl.TyCon)
		for second := range hues {
			wantProblem(t, s, patOf("Mix("+first+", "+second+")"), "hue", code)
			wantProblem(t, s, patOf("Doc(q, q, Mix("+first+", "+second+"))"), "doc", code)
		}
		for second, other := range lists {
			wantProblem(t, s, patOf("Doc(_, "+second+", "+first+")"), "doc", other)
			wantProblem(t, s, patOf("Doc(1, "+second+", "+first+")"), "doc", impl.TyKind)
		}
	}
	for first := range lists {
		wantProblem(t, s, patOf("Cons("+first+", Zz)"), "doc", impl.TyKind)
	}
}

// declaredCon returns the types of the arguments of a constructor and its type; "" if it is not declared.
func declaredCon(s impl.Signature, name string) ([]string, string) {
	for _, d := range s.Types {
		for _, c := range d.Cons {
			if c.Name == name {
				return c.Args, d.Name
			}
		}
	}
	return nil, ""
}

// boundIn adds the types of the variables of a pattern to bound, as far as its constructors have the types that are wanted.
func boundIn(s impl.Signature, p impl.Pat, name string, bound map[string]string) map[string]string {
	if p.Kind == impl.PtVar || p.Kind == impl.PtAs {
		bound[p.Name] = name
	}
	types, _ := declaredCon(s, p.Name)
	for i, arg := range p.Args {
		in := name
		if p.Kind == impl.PtCon && i < len(types) {
			in = types[i]
		}
		boundIn(s, arg, in, bound)
	}
	return bound
}

// problemsOfCon lists the problems of a node that is a constructor, without those of its Args.
func problemsOfCon(s impl.Signature, p impl.Pat, name string) []int {
	types, in := declaredCon(s, p.Name)
	switch {
	case in == "":
		return []int{impl.TyCon}
	case in != name:
		return []int{impl.TyKind}
	case len(types) != len(p.Args):
		return []int{impl.TyArity}
	}
	return nil
}

// problemsOf lists all problems of a valid pattern in the order of the definition; those behind the first one do not count.
func problemsOf(s impl.Signature, p impl.Pat, name string) []int {
	var list []int
	types := slices.Repeat([]string{name}, len(p.Args))
	switch {
	case p.Kind == impl.PtInt && name != "int", p.Kind == impl.PtText && name != "text":
		return []int{impl.TyKind}
	case p.Kind == impl.PtCon:
		if list = problemsOfCon(s, p, name); list != nil {
			return list
		}
		types, _ = declaredCon(s, p.Name)
	}
	var groups []map[string]string
	if p.Kind == impl.PtAs {
		groups = append(groups, map[string]string{p.Name: name})
	}
	for i, arg := range p.Args {
		list = append(list, problemsOf(s, arg, types[i])...)
		groups = append(groups, boundIn(s, arg, types[i], map[string]string{}))
	}
	if p.Kind == impl.PtOr {
		if !maps.Equal(groups[0], groups[1]) {
			list = append(list, impl.TyOr)
		}
		return list
	}
	for i := range groups {
		for k := range i {
			for v := range groups[i] {
				if _, twice := groups[k][v]; twice {
					list = append(list, impl.TyTwice)
				}
			}
		}
	}
	return list
}

// typesByDefinition returns what TypePat has to return for a valid signature.
func typesByDefinition(s impl.Signature, p impl.Pat, name string) ([]impl.VarType, int) {
	isType := name == "int" || name == "text" || slices.ContainsFunc(s.Types, func(d impl.TypeDecl) bool { return d.Name == name })
	if !isType || !isSound(p) {
		return nil, impl.TyPat
	}
	if list := problemsOf(s, p, name); len(list) > 0 {
		return nil, list[0]
	}
	var types []impl.VarType
	for v, in := range boundIn(s, p, name, map[string]string{}) {
		types = append(types, impl.VarType{Name: v, Type: in})
	}
	return sortedTypes(types), impl.TyOk
}

// wantDefined checks TypePat against the definition, and returns the code.
func wantDefined(t *testing.T, s impl.Signature, p impl.Pat, name string) int {
	t.Helper()
	types, code := typesByDefinition(s, p, name)
	if code == impl.TyOk {
		wantTypes(t, s, p, name, types)
	} else {
		wantProblem(t, s, p, name, code)
	}
	return code
}

// patsOfNodes returns, by the number of nodes, all patterns of a few names, constructors and literals.
func patsOfNodes(most int) [][]impl.Pat {
	list := make([][]impl.Pat, most+1)
	list[1] = []impl.Pat{anyPart(), varPat("x"), varPat("y"), intPat(1), textPat("a"), conPat("Nil"), conPat("Cons"), conPat("Red"), conPat("Zz")}
	for n := 2; n <= most; n++ {
		for _, p := range list[n-1] {
			list[n] = append(list[n], asPat("x", p), conPat("Nil", p), conPat("Cons", p))
		}
		for left := 1; left < n-1; left++ {
			for _, p := range list[left] {
				for _, q := range list[n-1-left] {
					list[n] = append(list[n], conPat("Cons", p, q), orPat(p, q), conPat("Mix", p, q))
				}
			}
		}
	}
	return list
}

func TestTypesOfAllSmallPats(t *testing.T) {
	s := declared("list = Nil | Cons int list", "hue = Red | Mix hue list")
	codes := map[int]int{}
	for _, p := range slices.Concat(patsOfNodes(5)...) {
		for _, name := range []string{"list", "hue", "int"} {
			codes[wantDefined(t, s, p, name)]++
		}
	}
	for _, code := range []int{impl.TyOk, impl.TyCon, impl.TyArity, impl.TyKind, impl.TyTwice, impl.TyOr} {
		if codes[code] < 400 {
			t.Errorf("the code %d comes %d times, which is no fair share", code, codes[code])
		}
	}
}

// anyLeaf returns a pattern without Args for values of a type.
func anyLeaf(random *rand.Rand, name string) impl.Pat {
	if random.Intn(3) == 0 {
		return anyPart()
	}
	switch name {
	case "int":
		return intPat(random.Intn(3) - 1)
	case "text":
		return textPat([]string{"", "a", "x"}[random.Intn(3)])
	}
	return anyPart()
}

// typedPat returns a pattern for values of a type, with at most this depth, whose variables all have names of their own.
func typedPat(random *rand.Rand, s impl.Signature, name string, depth int, fresh func() string) impl.Pat {
	kind := random.Intn(8)
	at := slices.IndexFunc(s.Types, func(d impl.TypeDecl) bool { return d.Name == name })
	switch {
	case depth == 1 && kind < 4, kind == 0:
		return varPat(fresh())
	case depth == 1:
		return anyLeaf(random, name)
	case kind == 1:
		return asPat(fresh(), typedPat(random, s, name, depth-1, fresh))
	case kind == 2:
		left := typedPat(random, s, name, depth-1, fresh)
		return orPat(left, loosened(random, left))
	case at < 0:
		return anyLeaf(random, name)
	}
	con := s.Types[at].Cons[random.Intn(len(s.Types[at].Cons))]
	p := conPat(con.Name)
	for _, in := range con.Args {
		p.Args = append(p.Args, typedPat(random, s, in, depth-1, fresh))
	}
	return p
}

// loosened returns a copy of a pattern in which wildcards replace some parts without variables.
func loosened(random *rand.Rand, p impl.Pat) impl.Pat {
	if len(boundIn(impl.Signature{}, p, "", map[string]string{})) == 0 && random.Intn(2) == 0 {
		return anyPart()
	}
	p.Args = slices.Clone(p.Args)
	for i := range p.Args {
		p.Args[i] = loosened(random, p.Args[i])
	}
	return p
}

// names returns a function that returns one name after the other.
func names() func() string {
	next := -1
	return func() string {
		next++
		return string([]byte{byte('z' - next%26)}) + strings.Repeat("q", next/26)
	}
}

// anyNode returns a node of a pattern, mostly not the outermost one.
func anyNode(random *rand.Rand, p *impl.Pat) *impl.Pat {
	for len(p.Args) > 0 && random.Intn(5) > 0 {
		p = &p.Args[random.Intn(len(p.Args))]
	}
	return p
}

// clonedPat returns a pattern that shares no memory with p.
func clonedPat(p impl.Pat) impl.Pat {
	p.Args = slices.Clone(p.Args)
	for i := range p.Args {
		p.Args[i] = clonedPat(p.Args[i])
	}
	return p
}

// changePat changes one node of a pattern so that it often has a problem.
func changePat(random *rand.Rand, p *impl.Pat) {
	node := anyNode(random, p)
	switch random.Intn(6) {
	case 0:
		*node = []impl.Pat{anyPart(), varPat("z"), intPat(1), textPat("a"), conPat("Zz"), conPat("C00"), orPat(anyPart(), varPat("x"))}[random.Intn(7)]
	case 1:
		*node = asPat([]string{"x", "y", "z"}[random.Intn(3)], *node)
	case 2:
		node.Name = []string{"x", "y", "z", "C01", "C10", "Zz"}[random.Intn(6)]
	case 3:
		node.Args = slices.Concat(node.Args, []impl.Pat{anyPart()})
	case 4:
		node.Args = node.Args[:max(0, len(node.Args)-1)]
	case 5:
		*node = clonedPat(*anyNode(random, p))
	}
}

// validSignature returns a valid signature with at least one type.
func validSignature(random *rand.Rand) impl.Signature {
	for {
		if s := anySignature(random); len(s.Types) > 0 && impl.IsValidSignature(s) {
			return s
		}
	}
}

func TestTypesOfManyPats(t *testing.T) {
	random := rand.New(rand.NewSource(88))
	codes := map[int]int{}
	for range 3000 {
		s := validSignature(random)
		types := []string{"int", "text", "a", "b", "c", "d"}
		for range 20 {
			name := types[random.Intn(2+len(s.Types))]
			p := typedPat(random, s, name, 1+random.Intn(6), names())
			code := wantDefined(t, s, p, name)
			if code > impl.TyPat {
				t.Errorf("%s has the problem %d", patText(p), code)
			}
			codes[code]++
			for range 1 + random.Intn(3) {
				changePat(random, &p)
			}
			codes[wantDefined(t, s, p, name)]++
			wantDefined(t, s, p, types[random.Intn(6)])
		}
	}
	for code := impl.TyOk; code <= impl.TyOr; code++ {
		if codes[code] < 1000 {
			t.Errorf("the code %d comes %d times, which is no fair share", code, codes[code])
		}
	}
}

// goodClauses lists clauses for values of the types of listAndHue, by these types.
func goodClauses() map[string][]string {
	return map[string][]string{
		"int":  {"_", "x", "7", "_ if 1", "x if x", "x if (x < 3)", "x if !(x == (x + 1))", "7 if 0", "x @ (1 | 2) if (x & x)", "(x | x @ 1) if x", "x @ y if (x == y)", "x if 1"},
		"text": {"_", "s", `"a"`, "s if 1", `("a" | "b") if !0`, "_ if (1 - 1)"},
		"list": {"Nil", "Cons(x, Nil)", "Cons(x, Cons(y, _)) if (x < y)", "Cons(_, t)", "Cons(x, t) if x", "Cons(x, t) if !x", "p @ Cons(_, _) if 1", "(Cons(x, _) | Cons(_, Cons(x, _))) if (x == 1)", "Cons(b, Cons(a, Cons(c, _))) if ((a + b) == c)", "p @ Cons(h @ 1, t) if (h * h)", "Cons(x, _) if -1"},
		"hue":  {"Red", "Mix(x, y)", "(Red | Blue) if 1", "x if 0", "Mix(_, _) if !!1"},
		"doc":  {"Doc(s, Cons(n, _), h) if (n < 0)", "d @ Doc(_, _, _)", "Doc(_, Cons(n, Cons(m, _)), _) if (n - m)", "_"},
		"one":  {"One", "x", "x @ One if 1"},
	}
}

func TestMatchesWithoutProblems(t *testing.T) {
	for name, list := range goodClauses() {
		for _, s := range list {
			wantCheck(t, listAndHue(), matchOf(name, s), -1, impl.TyOk)
			for size := 2; size <= 6; size++ {
				wantCheck(t, listAndHue(), matchOf(name, slices.Repeat([]string{s}, size)...), -1, impl.TyOk)
			}
		}
		for size := 1; size <= 6; size++ {
			for from := range list {
				wantCheck(t, listAndHue(), matchOf(name, slices.Concat(list, list)[from:min(from+size, 2*len(list))]...), -1, impl.TyOk)
			}
		}
	}
}

// badGuards lists clauses for values of the types of listAndHue whose only problem is the guard, by these types.
func badGuards() map[string][]string {
	return map[string][]string{
		"int":  {"_ if x", "y if x", "1 if x", "x @ 1 if y", "x if (x + y)", "x if (y + x)", "x if !!y", "(1 | 2) if x", "x if ((x & x) | (x & y))", "x if (0 & y)", "x1 if x", "x if x1", "x if xx"},
		"text": {"s if s", `s @ "a" if s`, "s if (s == s)", "s if !s", "s if (1 + s)", "s if x", "(s | s) if (1 | s)"},
		"list": {"Nil if x", "Cons(x, t) if t", "Cons(x, t) if (x + t)", "Cons(x, t) if (t < x)", "p @ Cons(x, _) if p", "p @ Cons(x, _) if (x & !p)", "Cons(_, x) if x", "Cons(x, Cons(y, z)) if ((x < y) & (y < z))", "(Cons(_, x) | x) if x", "Cons(x, Cons(y, _)) if (x < z)", "x if x"},
		"hue":  {"x if x", "Mix(x, y) if (x == y)", "Red if red", "x @ Red if !x"},
		"doc":  {"Doc(s, _, _) if s", "Doc(_, l, _) if l", "Doc(_, _, h) if h", "d if d", "d @ Doc(s, Cons(n, l), h) if (n + s)", "Doc(s, Cons(n, l), h) if (h & n)", "Doc(s, Cons(n, l), h) if (n | l)"},
		"one":  {"x if x", "One if one"},
	}
}

func TestGuardsThatDoNotFit(t *testing.T) {
	for name, list := range badGuards() {
		for _, s := range list {
			wantCheck(t, listAndHue(), matchOf(name, s), 0, impl.TyGuard)
			wantCheck(t, listAndHue(), matchOf(name, s, s, "Zz"), 0, impl.TyGuard)
			// The variables of other clauses do not count, nor does the type of a variable there.
			wantCheck(t, listAndHue(), matchOf(name, "_", s), 1, impl.TyGuard)
			wantCheck(t, listAndHue(), matchOf(name, goodClauses()[name][0], goodClauses()[name][1], s, "_"), 2, impl.TyGuard)
		}
	}
	s := listAndHue()
	wantCheck(t, s, matchOf("list", "Cons(x, _) if x", "Cons(_, x) if x"), 1, impl.TyGuard)
	wantCheck(t, s, matchOf("list", "Cons(x, _)", "Nil if x"), 1, impl.TyGuard)
	wantCheck(t, s, matchOf("list", "Cons(x, Cons(y, _)) if (x < y)", "Cons(x, y) if (x < y)", "Cons(y, x) if (x < y)"), 1, impl.TyGuard)
	wantCheck(t, s, matchOf("int", "x if x", "_ if x", "y if x"), 1, impl.TyGuard)
}

// A guard counts only if it is one: it is valid if Guarded is true, and zero if it is false.
func TestInvalidGuards(t *testing.T) {
	s := listAndHue()
	zero := impl.Expr{Args: []impl.Expr{intExpr(1)}[:0]}
	bad := append(append(exprsOfOtherFields(), exprsOfOtherKinds()...), impl.Expr{}, zero, impl.Expr{N: 1}, impl.Expr{Name: "x"}, impl.Expr{Args: []impl.Expr{{}}}, varExpr(""), varExpr("X"), varExpr("if"), intExpr(impl.MaxInt+1), notExpr(), notExpr(intExpr(1), intExpr(1)),
		opExpr(impl.OpAdd), opExpr(impl.OpAdd, intExpr(1)), opExpr(8, intExpr(1), intExpr(1)), notExpr(impl.Expr{}), notExpr(notExpr(varExpr("Case"))), chainExprs(7)[0], chainExprs(7)[3], bushExpr(13))
	for i, e := range bad {
		for at := range 3 {
			m := matchOf("int", "x", "x if x", "x")
			m.Clauses[at].Guarded, m.Clauses[at].Guard = true, e
			wantCheck(t, s, m, at, impl.TyGuard)
			m.Clauses[at].Guarded = false
			if sameExpr(e, impl.Expr{}) {
				wantCheck(t, s, m, -1, impl.TyOk)
			} else {
				wantCheck(t, s, m, at, impl.TyGuard)
			}
			m.Clauses[at].Guard = bad[(i+1)%len(bad)]
			m.Clauses[at].Pat = conPat("Zz")
			wantCheck(t, s, m, at, impl.TyCon)
		}
	}
	for text := range writtenExprs() {
		m := matchOf("int", "x", "1", "x")
		m.Clauses[2].Guard = exprOf(text)
		wantCheck(t, s, m, 2, impl.TyGuard)
	}
	// Zero is what has no field at all: neither the integer 0 nor a variable.
	for _, e := range []impl.Expr{intExpr(0), varExpr("x"), {N: -1}, {Kind: -1}, {Name: " "}, {Args: []impl.Expr{{}}}} {
		m := matchOf("int", "x")
		m.Clauses[0].Guard = e
		wantCheck(t, s, m, 0, impl.TyGuard)
	}
}

func TestGuardsAtTheLimits(t *testing.T) {
	s := listAndHue()
	for depth := 1; depth <= 10; depth++ {
		for _, e := range chainExprs(depth) {
			m := matchOf("int", "_", "x if 1")
			m.Clauses[1].Guard = e
			wantCheck(t, s, m, map[bool]int{true: -1, false: 1}[depth <= 6], map[bool]int{true: impl.TyOk, false: impl.TyGuard}[depth <= 6])
		}
	}
	for nodes := 1; nodes <= 20; nodes++ {
		m := matchOf("int", "x if 1")
		m.Clauses[0].Guard = bushExpr(nodes)
		wantCheck(t, s, m, map[bool]int{true: -1, false: 0}[nodes <= 12], map[bool]int{true: impl.TyOk, false: impl.TyGuard}[nodes <= 12])
	}
}

func TestNumbersOfClauses(t *testing.T) {
	for name, list := range goodClauses() {
		for size := range 20 {
			m := matchOf(name, slices.Repeat(list[:1], size)...)
			if size >= 1 && size <= 6 {
				wantCheck(t, listAndHue(), m, -1, impl.TyOk)
				continue
			}
			wantCheck(t, listAndHue(), m, -1, impl.TyMatch)
			if size > 6 {
				// The number of clauses comes before the problems of one.
				m.Clauses[0].Pat = conPat("Zz")
				wantCheck(t, listAndHue(), m, -1, impl.TyMatch)
				m.Clauses[0] = impl.Clause{}
				wantCheck(t, listAndHue(), m, -1, impl.TyMatch)
			}
		}
		wantCheck(t, listAndHue(), impl.Match{Type: name, Clauses: []impl.Clause{}}, -1, impl.TyMatch)
		wantCheck(t, listAndHue(), impl.Match{Type: name, Clauses: make([]impl.Clause, 100000)}, -1, impl.TyMatch)
		// The unused capacity of the clauses does not count.
		clauses := matchOf(name, slices.Repeat(list[:1], 9)...).Clauses
		clauses[6].Pat = conPat("Zz")
		wantCheck(t, listAndHue(), impl.Match{Type: name, Clauses: clauses[:6]}, -1, impl.TyOk)
		wantCheck(t, listAndHue(), impl.Match{Type: name, Clauses: clauses[:7]}, -1, impl.TyMatch)
		wantCheck(t, listAndHue(), impl.Match{Type: name, Clauses: clauses[:0]}, -1, impl.TyMatch)
	}
	wantCheck(t, listAndHue(), impl.Match{}, -1, impl.TyMatch)
	wantCheck(t, impl.Signature{}, impl.Match{}, -1, impl.TyMatch)
}

// The first clause with a problem counts, whatever its code is, and its pattern before its guard.
func TestFirstClauseWithAProblem(t *testing.T) {
	s := listAndHue()
	clauses := map[int][]string{
		impl.TyOk: {"_", "Cons(x, _) if x"}, impl.TyCon: {"Zz", "Zz if zz"}, impl.TyArity: {"Nil(_)", "Cons(x) if y"}, impl.TyKind: {"1", "Red if x"}, impl.TyTwice: {"Cons(x, x)", "x @ x if x"}, impl.TyOr: {"(x | Nil)", "(x | y) if x"}, impl.TyGuard: {"Nil if x", "x if x"},
	}
	for first, list := range clauses {
		for second, others := range clauses {
			for i := range list {
				if first != impl.TyOk {
					for at := range 6 {
						m := matchOf("list", slices.Concat(slices.Repeat(clauses[impl.TyOk][:1], at), list[i:i+1], slices.Repeat(others[:1], 5-at))...)
						wantCheck(t, s, m, at, first)
					}
					wantCheck(t, s, matchOf("list", list[i], others[0], others[1]), 0, first)
				} else if second != impl.TyOk {
					wantCheck(t, s, matchOf("list", list[i], others[i]), 1, second)
				}
			}
		}
	}
	// Types that are none and signatures that are not valid come before all this.
	for _, list := range clauses {
		wantCheck(t, s, matchOf("lists", list...), -1, impl.TyMatch)
		wantCheck(t, declared("list = Nil | Cons int list", "hue = Hue hue"), matchOf("list", list...), -1, impl.TyMatch)
		wantCheck(t, s, matchOf("list", slices.Repeat(list, 4)...), -1, impl.TyMatch)
	}
}

// checkByDefinition returns what CheckMatch has to return for a valid signature.
func checkByDefinition(s impl.Signature, m impl.Match) (int, int) {
	if _, code := typesByDefinition(s, anyPart(), m.Type); code != impl.TyOk || len(m.Clauses) == 0 || len(m.Clauses) > 6 {
		return -1, impl.TyMatch
	}
	for i, c := range m.Clauses {
		vars, code := typesByDefinition(s, c.Pat, m.Type)
		if code != impl.TyOk {
			return i, code
		}
		fits := !c.Guarded && sameExpr(c.Guard, impl.Expr{}) || c.Guarded && isSoundExpr(c.Guard)
		eachExpr(c.Guard, 1, func(_ int, e impl.Expr) {
			if e.Kind == impl.ExVar && !slices.Contains(vars, impl.VarType{Name: e.Name, Type: "int"}) {
				fits = false
			}
		})
		if !fits {
			return i, impl.TyGuard
		}
	}
	return -1, impl.TyOk
}

// anyGuarded adds a guard to a clause, mostly with variables of its pattern.
func anyGuarded(random *rand.Rand, s impl.Signature, c *impl.Clause, name string) {
	c.Guard, c.Guarded = anyExpr(random, 1+random.Intn(4)), random.Intn(20) > 0
	used := []string{"x", "z"}
	for v, in := range boundIn(s, c.Pat, name, map[string]string{}) {
		if in == "int" || random.Intn(10) == 0 {
			used = append(used, v)
		}
	}
	slices.Sort(used)
	var rename func(e *impl.Expr)
	rename = func(e *impl.Expr) {
		if e.Kind == impl.ExVar {
			e.Name = used[random.Intn(len(used))]
		}
		for i := range e.Args {
			rename(&e.Args[i])
		}
	}
	rename(&c.Guard)
}

func TestCheckOfManyMatches(t *testing.T) {
	random := rand.New(rand.NewSource(888))
	codes := map[int]int{}
	for range 20000 {
		s := validSignature(random)
		m := impl.Match{Type: []string{"int", "text", "a", "b", "c", "d"}[random.Intn(3+len(s.Types)/2)]}
		for range random.Intn(8) {
			c := impl.Clause{Pat: typedPat(random, s, m.Type, 1+random.Intn(4), names())}
			if random.Intn(10) == 0 {
				changePat(random, &c.Pat)
			}
			if random.Intn(2) == 0 {
				anyGuarded(random, s, &c, m.Type)
			}
			m.Clauses = append(m.Clauses, c)
		}
		index, code := checkByDefinition(s, m)
		wantCheck(t, s, m, index, code)
		codes[code]++
	}
	for code := impl.TyOk; code <= impl.TyMatch; code++ {
		if codes[code] < 50 {
			t.Errorf("the code %d comes %d times, which is no fair share", code, codes[code])
		}
	}
}

// someMatch returns a match with clauses of every sort, in new memory.
func someMatch() impl.Match {
	return matchOf("doc", `Doc("a", Cons(1, x), (Red | p @ Mix(_, _)))`, "Doc(_, Cons(x, Cons(y, _)), _) if (!(x < 3) & (y == x))", "_", "x @ Doc(_, _, _) if 1")
}

// changesOfExpr lists changes of single fields of an expression and its parts.
func changesOfExpr(e *impl.Expr) []func() {
	list := []func(){
		func() { e.Kind++ }, func() { e.Kind = -e.Kind - 1 }, func() { e.N++ }, func() { e.N = math.MinInt64 }, func() { e.Name += "x" }, func() { e.Name += "\x00" },
		func() { e.Args = slices.Concat(e.Args, []impl.Expr{{}}) }, func() { e.Args = slices.Concat([]impl.Expr{intExpr(1)}, e.Args) },
	}
	if len(e.Args) > 0 {
		list = append(list, func() { e.Args = e.Args[1:] }, func() { e.Args = e.Args[:len(e.Args)-1] }, func() { e.Args = nil })
	}
	for i := range e.Args {
		list = append(list, changesOfExpr(&e.Args[i])...)
	}
	return list
}

// changesOfPat lists changes of single fields of a pattern and its parts.
func changesOfPat(p *impl.Pat) []func() {
	list := []func(){
		func() { p.Kind++ }, func() { p.Kind = -p.Kind }, func() { p.N++ }, func() { p.N = math.MinInt64 }, func() { p.Name += "x" }, func() { p.Name += "\x00" },
		func() { p.Args = slices.Concat(p.Args, []impl.Pat{{}}) }, func() { p.Args = slices.Concat([]impl.Pat{anyPart()}, p.Args) },
	}
	if len(p.Args) > 0 {
		list = append(list, func() { p.Args = p.Args[1:] }, func() { p.Args = p.Args[:len(p.Args)-1] }, func() { p.Args = nil })
	}
	for i := range p.Args {
		list = append(list, changesOfPat(&p.Args[i])...)
	}
	return list
}

// changesOf lists changes of single fields of a match and its parts.
func changesOf(m *impl.Match) []func() {
	list := []func(){
		func() { m.Type = "" }, func() { m.Type = "Doc" }, func() { m.Type += " " }, func() { m.Type = "doc\x00" }, func() { m.Type = "list" },
		func() { m.Clauses = nil }, func() { m.Clauses = m.Clauses[1:] }, func() { m.Clauses = m.Clauses[:len(m.Clauses)-1] },
		func() { m.Clauses = append(m.Clauses, impl.Clause{}) }, func() { m.Clauses = append(m.Clauses, m.Clauses[3]) }, func() { m.Clauses = slices.Concat(m.Clauses[:1], m.Clauses) },
	}
	for i := range m.Clauses {
		c := &m.Clauses[i]
		list = append(list, func() { c.Guarded = !c.Guarded })
		list = append(list, changesOfPat(&c.Pat)...)
		list = append(list, changesOfExpr(&c.Guard)...)
		if i > 0 {
			list = append(list, func() { m.Clauses[0], *c = *c, m.Clauses[0] }, func() { m.Clauses[0].Guard, c.Guard = c.Guard, notExpr(c.Guard) })
		}
	}
	return list
}

func TestEqualMatchesOfOneChange(t *testing.T) {
	first := someMatch()
	size := len(changesOf(&first))
	if size < 300 {
		t.Fatalf("%d changes are not many", size)
	}
	for i := range size {
		m, again := someMatch(), someMatch()
		changesOf(&m)[i]()
		changesOf(&again)[i]()
		wantEqualMatch(t, m, someMatch(), false)
		wantEqualMatch(t, someMatch(), m, false)
		wantEqualMatch(t, m, again, true)
		wantEqualMatch(t, m, m, true)
	}
	wantEqualMatch(t, someMatch(), someMatch(), true)
	wantEqualMatch(t, first, first, true)
}

// Each pattern and each guard of many, and whether there is a guard.
func TestEqualMatchesOfManyParts(t *testing.T) {
	with := func(p impl.Pat, guarded bool, e impl.Expr) impl.Match {
		return impl.Match{Type: "a", Clauses: []impl.Clause{{Pat: anyPart()}, {Pat: p, Guarded: guarded, Guard: e}}}
	}
	left, right := differentPats(), differentPats()
	for i, a := range left {
		for k, b := range right {
			wantEqualMatch(t, with(a, true, intExpr(1)), with(b, true, intExpr(1)), i == k)
		}
	}
	guards, others := differentExprs(), differentExprs()
	for i, a := range guards {
		for k, b := range others {
			// A guard counts even if the clause is not Guarded.
			wantEqualMatch(t, with(anyPart(), true, a), with(anyPart(), true, b), i == k)
			wantEqualMatch(t, with(anyPart(), false, a), with(anyPart(), false, b), i == k)
			wantEqualMatch(t, with(anyPart(), true, a), with(anyPart(), false, b), false)
		}
	}
}

func TestEqualMatchesOfNumbersOfClauses(t *testing.T) {
	for size := range 9 {
		for other := range 9 {
			wantEqualMatch(t, matchOf("a", slices.Repeat([]string{"x if 1"}, size)...), matchOf("a", slices.Repeat([]string{"x if 1"}, other)...), size == other)
			wantEqualMatch(t, impl.Match{Clauses: make([]impl.Clause, size)}, impl.Match{Clauses: make([]impl.Clause, other)}, size == other)
		}
	}
	wantEqualMatch(t, matchOf("a", "x", "y"), matchOf("a", "y", "x"), false)
	wantEqualMatch(t, matchOf("a", "x", "x", "y"), matchOf("a", "x", "y", "y"), false)
	large := impl.Match{Clauses: make([]impl.Clause, 100000)}
	wantEqualMatch(t, large, large, true)
	wantEqualMatch(t, large, impl.Match{Clauses: make([]impl.Clause, 100001)}, false)
	deep := impl.Match{Clauses: []impl.Clause{{Pat: chainPats(30000)[0], Guard: chainExprs(30000)[0]}}}
	wantEqualMatch(t, deep, impl.Match{Clauses: []impl.Clause{{Pat: chainPats(30000)[0], Guard: chainExprs(30000)[0]}}}, true)
	wantEqualMatch(t, deep, impl.Match{Clauses: []impl.Clause{{Pat: chainPats(30000)[1], Guard: chainExprs(30000)[0]}}}, false)
	wantEqualMatch(t, deep, impl.Match{Clauses: []impl.Clause{{Pat: chainPats(30000)[0], Guard: chainExprs(30001)[0]}}}, false)
}

// An empty slice is not different from none.
func TestEmptySlicesOfMatches(t *testing.T) {
	s := listAndHue()
	noPats, noExprs := []impl.Pat{conPat("Zz")}[:0], []impl.Expr{intExpr(1)}[:0]
	empty, none := matchOf("list", "Nil", "x if 1", "_ if 1"), matchOf("list", "Nil", "x if 1", "_ if 1")
	for i := range empty.Clauses {
		empty.Clauses[i].Pat.Args, empty.Clauses[i].Guard.Args = noPats, noExprs
		none.Clauses[i].Pat.Args, none.Clauses[i].Guard.Args = nil, nil
		wantTypes(t, s, conPat("Cons", anyPart(), empty.Clauses[i].Pat), "list", varTypes([]string{"", "x:list", ""}[i]))
	}
	for _, m := range []impl.Match{empty, none} {
		wantCheck(t, s, m, -1, impl.TyOk)
		wantEqualMatch(t, m, none, true)
		wantEqualMatch(t, m, empty, true)
	}
	wantEqualMatch(t, impl.Match{}, impl.Match{Clauses: []impl.Clause{}}, true)
	wantEqualMatch(t, impl.Match{Clauses: []impl.Clause{}}, impl.Match{}, true)
	wantEqualMatch(t, impl.Match{Type: "a"}, impl.Match{Type: "a", Clauses: empty.Clauses[:0]}, true)
	// Constructors without arguments, declared with an empty slice.
	s.Types[0].Cons[0].Args = []string{"int"}[:0]
	wantTypes(t, s, patOf("p @ Nil"), "list", varTypes("p:list"))
	wantProblem(t, s, patOf("Nil(_)"), "list", impl.TyArity)
}

// roomyMatch returns a match with unused capacity behind every slice, and the whole of its clauses and of its lists of Args.
func roomyMatch() (impl.Match, []impl.Clause, [][]impl.Pat, [][]impl.Expr) {
	left := []impl.Pat{varPat("z"), varPat("b"), textPat("spare"), varPat("spare")}
	right := []impl.Pat{varPat("b"), varPat("z"), {}}
	sides := []impl.Pat{conPat("Cons", left[:2]...), conPat("Cons", right[:2]...), conPat("Spare", varPat("y"))}
	outer := []impl.Pat{textPat("t"), orPat(sides[:2]...), varPat("a"), varPat("spare"), {}}
	p := conPat("Doc", outer[:3]...)
	inner := []impl.Pat{p, {}}
	e, exprs := roomyExpr()
	clauses := []impl.Clause{{Pat: p}, {Pat: p, Guarded: true, Guard: e}, {Pat: asPat("w", inner[:1]...), Guarded: true, Guard: intExpr(1)}, {Pat: conPat("Spare"), Guard: intExpr(1)}, {}}
	return impl.Match{Type: "doc", Clauses: clauses[:3]}, clauses, [][]impl.Pat{left, right, sides, outer, inner}, exprs
}

func sameClause(a, b impl.Clause) bool {
	return a.Guarded == b.Guarded && samePat(a.Pat, b.Pat) && sameExpr(a.Guard, b.Guard)
}

func wantSameMatch(t *testing.T, clauses []impl.Clause, pats [][]impl.Pat, exprs [][]impl.Expr) {
	t.Helper()
	_, clausesBefore, patsBefore, exprsBefore := roomyMatch()
	if !slices.EqualFunc(clauses, clausesBefore, sameClause) {
		t.Errorf("the clauses afterwards are %v", clauses)
	}
	for i := range pats {
		if !slices.EqualFunc(pats[i], patsBefore[i], samePat) {
			t.Errorf("the Args of patterns afterwards are %v", pats[i])
		}
	}
	for i := range exprs {
		if !slices.EqualFunc(exprs[i], exprsBefore[i], sameExpr) {
			t.Errorf("the Args of guards afterwards are %v", exprs[i])
		}
	}
}

func TestMatchFunctionsKeepTheirArguments(t *testing.T) {
	m, clauses, pats, exprs := roomyMatch()
	s := declared("doc = Doc text list hue", "list = Nil | Cons int int", "hue = Red")
	for range 2 {
		wantTypes(t, s, m.Clauses[0].Pat, "doc", varTypes("a:hue b:int z:int"))
		wantTypes(t, s, m.Clauses[2].Pat, "doc", varTypes("a:hue b:int w:doc z:int"))
		wantProblem(t, s, m.Clauses[0].Pat, "list", impl.TyKind)
		wantProblem(t, listAndHue(), m.Clauses[0].Pat, "doc", impl.TyOr)
		wantProblem(t, s, m.Clauses[0].Pat, "zz", impl.TyPat)
		wantCheck(t, s, m, -1, impl.TyOk)
		wantCheck(t, listAndHue(), m, 0, impl.TyOr)
		wantCheck(t, declared("doc = Doc text list hue", "list = Cons int text", "hue = Red"), m, 0, impl.TyOr)
		wantCheck(t, s, impl.Match{Type: "list", Clauses: m.Clauses}, 0, impl.TyKind)
		wantEqualMatch(t, m, m, true)
		wantEqualMatch(t, m, impl.Match{Type: "doc", Clauses: clauses}, false)
		other, _, _, _ := roomyMatch()
		wantEqualMatch(t, m, other, true)
		other.Clauses[2].Guard.N = 2
		wantEqualMatch(t, m, other, false)
		wantSameMatch(t, clauses, pats, exprs)
	}
}

func TestMatchFunctionsKeepTheSignature(t *testing.T) {
	s, args, cons, types := roomy()
	for _, name := range []string{"a", "b", "int", "text", "zz", ""} {
		for _, text := range []string{"x", "A(x, y)", "A(x, x)", "A(1, C(D))", "B", "C(D, _)", "C(x @ C(y))", "(A(x, _) | B)", "Spare", "Zz"} {
			impl.TypePat(s, patOf(text), name)
			impl.CheckMatch(s, matchOf(name, "_", text+" if x"))
		}
	}
	_, argsBefore, consBefore, typesBefore := roomy()
	if !slices.EqualFunc(args, argsBefore, slices.Equal) || !slices.EqualFunc(cons, consBefore, sameCon) || !slices.EqualFunc(types, typesBefore, sameType) {
		t.Errorf("the signature afterwards is %q, with %q behind it", s, types)
	}
}

func overwriteTypes(list []impl.VarType) {
	list = list[:cap(list)]
	for i := range list {
		list[i] = impl.VarType{Name: "?", Type: "?"}
	}
}

// A result does not change with another one, nor does a later call with an earlier one.
func TestTypesAreNewMemory(t *testing.T) {
	eachTyped(func(name, _ string, p impl.Pat, vars []impl.VarType) {
		first, _ := impl.TypePat(listAndHue(), p, name)
		second, _ := impl.TypePat(listAndHue(), p, name)
		overwriteTypes(first)
		if !slices.Equal(second, vars) {
			t.Errorf("the types of %s are %v after another result was overwritten", patText(p), second)
		}
		wantTypes(t, listAndHue(), p, name, vars)
	})
}
