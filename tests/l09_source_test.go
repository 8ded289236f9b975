package tests

import (
	"math/rand"
	"regexp"
	"slices"
	"strings"
	"testing"

	"loop.example/g00519/impl"
)

// programOf returns the program with the declarations, the type of the match and the clauses.
func programOf(types []string, name string, clauses ...string) impl.Program {
	return impl.Program{Signature: declared(types...), Match: matchOf(name, clauses...)}
}

// listProgram returns a program with the types of listAndHue.
func listProgram(name string, clauses ...string) impl.Program {
	return impl.Program{Signature: listAndHue(), Match: matchOf(name, clauses...)}
}

func sameProgram(a, b impl.Program) bool {
	return sameSignature(a.Signature, b.Signature) && a.Match.Type == b.Match.Type && slices.EqualFunc(a.Match.Clauses, b.Match.Clauses, sameClause)
}

// linesOf returns the lines of a program, with or without problems.
func linesOf(p impl.Program) []string {
	var lines []string
	for _, d := range p.Signature.Types {
		line, sign := "type "+d.Name, " ="
		for _, c := range d.Cons {
			line += sign
			for _, word := range append([]string{c.Name}, c.Args...) {
				line += " " + word
			}
			sign = " |"
		}
		lines = append(lines, line)
	}
	lines = append(lines, "match "+p.Match.Type)
	for _, c := range p.Match.Clauses {
		line := "case " + patText(c.Pat)
		if c.Guarded {
			line += " if " + exprText(c.Guard)
		}
		lines = append(lines, line)
	}
	return lines
}

// sourceOf returns the lines, each with a newline behind it.
func sourceOf(lines ...string) string {
	var s strings.Builder
	for _, line := range lines {
		s.WriteString(line + "\n")
	}
	return s.String()
}

// wantProgram checks that a program without problems has this source code and is parsed from it.
func wantProgram(t *testing.T, p impl.Program, s string) {
	t.Helper()
	if got := impl.FormatProgram(p); got != s {
		t.Errorf("FormatProgram = %.300q, want %.300q", got, s)
	}
	if got, line, code := impl.ParseProgram(s); !sameProgram(got, p) || line != -1 || code != impl.TyOk {
		t.Errorf("ParseProgram(%.300q) = %s, %d, %d, want %s, -1, 0", s, brief(got), line, code, brief(p))
	}
}

// wantWritten checks that a program without problems has its lines as source code and is parsed from them.
func wantWritten(t *testing.T, p impl.Program) {
	t.Helper()
	wantProgram(t, p, sourceOf(linesOf(p)...))
}

// wantNoSource checks that a program has no source code. The message does not show the program: it may be endless.
func wantNoSource(t *testing.T, p impl.Program) {
	t.Helper()
	if got := impl.FormatProgram(p); got != "" {
		t.Errorf("FormatProgram = %.300q, want no source code", got)
	}
}

func wantNoProgram(t *testing.T, s string, line, code int) {
	t.Helper()
	p, gotLine, gotCode := impl.ParseProgram(s)
	if gotLine != line || gotCode != code {
		t.Errorf("ParseProgram(%.300q) returns line %d and code %d, want %d and %d", s, gotLine, gotCode, line, code)
	}
	if !sameProgram(p, impl.Program{}) {
		t.Errorf("ParseProgram(%.300q) returns the program %s with code %d", s, brief(p), gotCode)
	}
}

// knownPrograms lists programs by their source code.
func knownPrograms() map[string]impl.Program {
	return map[string]impl.Program{
		"match int\ncase 0\n":                             programOf(nil, "int", "0"),
		"match int\ncase _\n":                             programOf(nil, "int", "_"),
		"match int\ncase x if x\n":                        programOf(nil, "int", "x if x"),
		"match int\ncase 0\ncase 1\ncase 7\n":             programOf(nil, "int", "0", "1", "7"),
		"match text\ncase \"\"\ncase \"a b\"\ncase s\n":   programOf(nil, "text", `""`, `"a b"`, "s"),
		"type one = One\nmatch one\ncase One\n":           programOf([]string{"one = One"}, "one", "One"),
		"type one = One\nmatch int\ncase -1\n":            programOf([]string{"one = One"}, "int", "-1"),
		"type x = X\nmatch x\ncase x\ncase x @ X\n":       programOf([]string{"x = X"}, "x", "x", "x @ X"),
		"type t = A | B\nmatch t\ncase A\ncase B if 0\n":  programOf([]string{"t = A | B"}, "t", "A", "B if 0"),
		"type t = A int text t | B\nmatch text\ncase s\n": programOf([]string{"t = A int text t | B"}, "text", "s"),
		"type list = Nil | Cons int list\nmatch list\ncase Nil\ncase Cons(x, Nil)\ncase Cons(x, Cons(y, _)) if (x < y)\ncase Cons(_, t)\n":    programOf([]string{"list = Nil | Cons int list"}, "list", "Nil", "Cons(x, Nil)", "Cons(x, Cons(y, _)) if (x < y)", "Cons(_, t)"),
		"type hue = Red | Blue | Mix hue hue\nmatch hue\ncase Mix(Red, Blue)\ncase Mix((Red | Blue), _)\ncase Red\n":                          programOf([]string{"hue = Red | Blue | Mix hue hue"}, "hue", "Mix(Red, Blue)", "Mix((Red | Blue), _)", "Red"),
		"type hue = Red | Blue\ntype pair = Pair hue hue\nmatch pair\ncase Pair(Red, _)\ncase Pair(_, Red)\n":                                 programOf([]string{"hue = Red | Blue", "pair = Pair hue hue"}, "pair", "Pair(Red, _)", "Pair(_, Red)"),
		"type pair = Pair hue hue\ntype hue = Red | Blue\nmatch hue\ncase x\n":                                                                programOf([]string{"pair = Pair hue hue", "hue = Red | Blue"}, "hue", "x"),
		"type pair = Pair int int\nmatch pair\ncase (Pair(x, 0) | Pair(0, x)) if (x == 1)\ncase Pair(x, y) if (x < y)\ncase p @ Pair(_, _)\n": programOf([]string{"pair = Pair int int"}, "pair", "(Pair(x, 0) | Pair(0, x)) if (x == 1)", "Pair(x, y) if (x < y)", "p @ Pair(_, _)"),
		"type a = A | A1 b c\ntype b = B d d d\ntype c = C1 | C2 | C3 | C4 | C5 int\ntype d = D text\nmatch a\ncase A1(B(D(\"|\"), _, x), y @ C5(n)) if !(n - 3)\ncase z @ (A | A1(_, _))\n": programOf(
			[]string{"a = A | A1 b c", "b = B d d d", "c = C1 | C2 | C3 | C4 | C5 int", "d = D text"}, "a", `A1(B(D("|"), _, x), y @ C5(n)) if !(n - 3)`, "z @ (A | A1(_, _))"),
	}
}

func TestKnownPrograms(t *testing.T) {
	for s, p := range knownPrograms() {
		wantProgram(t, p, s)
		wantWritten(t, p)
	}
}

func TestSourcesOfTypes(t *testing.T) {
	for types := range 5 {
		for cons := 1; cons <= 5; cons++ {
			for args := range 4 {
				s := fullSignature(types, cons, args)
				wantWritten(t, impl.Program{Signature: s, Match: matchOf("int", "_")})
				for _, d := range s.Types {
					wantWritten(t, impl.Program{Signature: s, Match: matchOf(d.Name, "x", "_ if 1")})
				}
			}
		}
	}
	random := rand.New(rand.NewSource(9))
	for range 1000 {
		s := validSignature(random)
		wantWritten(t, impl.Program{Signature: s, Match: matchOf(s.Types[0].Name, "_")})
	}
	// Names like the words of the source code, names that begin like others, and the longest ones.
	for _, lines := range [][]string{{"types = Type | Match | Case | If | Int"}, {"cases = If int | Case text", "x1234567 = X1234567 cases x1234567 | Y"}, {"a = A", "aa = Aa a", "a1 = A1 aa a aa", "aaa = Aaa a1"}} {
		wantWritten(t, programOf(lines, "int", "_"))
	}
}

func TestSourcesOfClauses(t *testing.T) {
	for name, list := range goodClauses() {
		for size := 1; size <= 6; size++ {
			for from := range list {
				wantWritten(t, listProgram(name, slices.Concat(list, list, list)[from:from+size]...))
			}
		}
	}
}

func TestSourcesOfPatterns(t *testing.T) {
	types := "type list = Nil | Cons int list\ntype hue = Red | Blue | Mix hue hue\ntype doc = Doc text list hue\ntype one = One\n"
	eachTyped(func(name, text string, _ impl.Pat, _ []impl.VarType) {
		wantProgram(t, listProgram(name, text), types+"match "+name+"\ncase "+text+"\n")
		wantProgram(t, listProgram(name, "_", text+" if 1", text), types+"match "+name+"\ncase _\ncase "+text+" if 1\ncase "+text+"\n")
	})
	for text, p := range simplePats() {
		if p.Kind == impl.PtInt {
			wantProgram(t, programOf(nil, "int", text), "match int\ncase "+text+"\n")
		}
		if p.Kind == impl.PtText {
			wantProgram(t, programOf(nil, "text", text), "match text\ncase "+text+"\n")
		}
	}
}

func TestSourcesOfGuards(t *testing.T) {
	types := []string{"t = Doc int int int"}
	for text, e := range writtenExprs() {
		wantProgram(t, programOf(types, "t", "Doc(x, y, z) if "+text), "type t = Doc int int int\nmatch t\ncase Doc(x, y, z) if "+text+"\n")
		p := programOf(types, "t", "_", "Doc(z, x, y)", "Doc(y, z, x) if 0")
		p.Match.Clauses[1].Guarded, p.Match.Clauses[1].Guard = true, e
		wantProgram(t, p, "type t = Doc int int int\nmatch t\ncase _\ncase Doc(z, x, y) if "+text+"\ncase Doc(y, z, x) if 0\n")
	}
	for _, text := range []string{"0", "1", "-1", "x", "!x", "999999999999", "-999999999999"} {
		wantProgram(t, programOf(nil, "int", "x if "+text), "match int\ncase x if "+text+"\n")
	}
}

// wantLastWithin checks a program whose last clause is valid only if it is within the limits.
func wantLastWithin(t *testing.T, p impl.Program, within bool) {
	t.Helper()
	if within {
		wantWritten(t, p)
		return
	}
	lines := linesOf(p)
	wantNoSource(t, p)
	wantNoProgram(t, sourceOf(lines...), len(lines)-1, impl.TyPat)
}

func TestSourcesAtTheLimits(t *testing.T) {
	tree := []string{"tree = Leaf | Wrap tree | Fan int int int | Node tree tree tree"}
	wide := patOf("Node(Node(Fan(a, b, c), Fan(d, e, f), Fan(g, h, i)), Fan(j, k, l), m @ Wrap(n @ Leaf))")
	deep := patOf("x")
	for i, name := range []string{"o", "p", "q", "r"} {
		p := programOf(tree, "tree", "_", "_")
		p.Match.Clauses[1].Pat = wide
		wantLastWithin(t, p, i <= 2)
		wide = asPat(name, wide)
	}
	for depth := 1; depth <= 12; depth++ {
		p := programOf(tree, "tree", "_", "_ if 1")
		p.Match.Clauses[1].Pat = deep
		wantLastWithin(t, p, depth <= 8)
		deep = conPat("Wrap", deep)
	}
	for depth := 1; depth <= 10; depth++ {
		for _, e := range chainExprs(depth) {
			p := programOf(tree, "int", "_", "x if 1")
			p.Match.Clauses[1].Guard = e
			wantLastWithin(t, p, depth <= 6)
		}
	}
	for nodes := 1; nodes <= 20; nodes++ {
		p := programOf(tree, "int", "x if 1")
		p.Match.Clauses[0].Guard = bushExpr(nodes)
		wantLastWithin(t, p, nodes <= 12)
	}
}

// Every byte that a text may contain, and all that looks like a part of a line.
func TestSourcesOfTexts(t *testing.T) {
	texts := []string{"", " ", "  ", "        ", "12345678", " if", "if ", "if", "if if", " i f ", "_if_", " If ", " if\\n", " | ", "|", " = ", "case _", "match", "type a", "(", ")", ", ", "@", " @ ", "_", "\\", "\\n", "\\u0061", "'", "a\\", "#", "//", "%s"}
	for b := 32; b < 127; b++ {
		if b != '"' {
			texts = append(texts, string(rune(b)), string([]rune{'a', rune(b), ' ', rune(b)}))
		}
	}
	for _, text := range texts {
		p := programOf([]string{"t = A text t | B"}, "text", "_")
		p.Match.Clauses[0].Pat = textPat(text)
		wantProgram(t, p, "type t = A text t | B\nmatch text\ncase \""+text+"\"\n")
		p.Match.Clauses[0].Guarded, p.Match.Clauses[0].Guard = true, exprOf("!1")
		wantProgram(t, p, "type t = A text t | B\nmatch text\ncase \""+text+"\" if !1\n")
		p.Match.Type, p.Match.Clauses[0].Pat = "t", conPat("A", orPat(textPat(text), textPat(text)), varPat("x"))
		wantProgram(t, p, "type t = A text t | B\nmatch t\ncase A((\""+text+"\" | \""+text+"\"), x) if !1\n")
	}
}

// The first " if " of a line comes before the guard, even if it is within quotes: these programs have a source code from
// which they cannot be parsed.
func TestTextsWithTheMarkOfAGuard(t *testing.T) {
	for _, text := range []string{" if ", "a if b", " if  if ", "x if 1", "  if  ", "if if if"} {
		p := programOf([]string{"t = A text t | B"}, "text", "_")
		for _, pat := range []impl.Pat{textPat(text), asPat("x", textPat(text)), orPat(anyPart(), textPat(text))} {
			p.Match.Clauses = []impl.Clause{{Pat: anyPart()}, {Pat: pat}, {Pat: pat, Guarded: true, Guard: intExpr(1)}}
			source := sourceOf(linesOf(p)...)
			if got := impl.FormatProgram(p); got != source {
				t.Errorf("FormatProgram = %q, want %q", got, source)
			}
			wantNoProgram(t, source, 3, impl.TyPat)
			wantNoProgram(t, strings.Replace(source, "case _\n", "", 1), 2, impl.TyPat)
		}
	}
}

// problemPrograms lists programs with problems by their codes.
func problemPrograms() map[int][]impl.Program {
	list := map[int][]impl.Program{impl.TyMatch: {{}, {Signature: listAndHue()}, {Match: matchOf("list", "_")}, {Signature: listAndHue(), Match: impl.Match{Clauses: matchOf("int", "_").Clauses}}}}
	add := func(code int, p impl.Program) { list[code] = append(list[code], p) }
	for _, s := range invalidSignatures() {
		add(impl.TyMatch, impl.Program{Signature: s, Match: matchOf("int", "_")})
		add(impl.TyMatch, impl.Program{Signature: s, Match: matchOf("a", "Zz if zz", "_")})
	}
	for _, name := range noTypes() {
		add(impl.TyMatch, listProgram(name, "_"))
	}
	for _, size := range []int{0, 7, 8, 100} {
		add(impl.TyMatch, listProgram("int", slices.Repeat([]string{"_"}, size)...))
		add(impl.TyMatch, listProgram("int", slices.Repeat([]string{"Zz if zz"}, size)...))
	}
	for _, pat := range invalidPats() {
		p := listProgram("list", "_", "_ if 1")
		p.Match.Clauses[1].Pat = pat
		add(impl.TyPat, p)
	}
	eachProblem(func(name, text string, code int) { add(code, listProgram(name, "_", text, "_")) })
	for name, clauses := range badGuards() {
		for _, text := range clauses {
			add(impl.TyGuard, listProgram(name, text, "_"))
		}
	}
	for _, c := range []impl.Clause{{Pat: anyPart(), Guarded: true}, {Pat: anyPart(), Guard: intExpr(1)}, {Pat: anyPart(), Guard: impl.Expr{Name: "x"}}, {Pat: anyPart(), Guarded: true, Guard: notExpr()}} {
		p := listProgram("list", "_", "_")
		p.Match.Clauses[1] = c
		add(impl.TyGuard, p)
	}
	return list
}

func TestProgramsWithProblemsHaveNoSource(t *testing.T) {
	list := problemPrograms()
	for code := impl.TyPat; code <= impl.TyMatch; code++ {
		if len(list[code]) < 6 {
			t.Errorf("%d programs with the code %d are not many", len(list[code]), code)
		}
		for _, p := range list[code] {
			if _, got := impl.CheckMatch(p.Signature, p.Match); got != code {
				t.Errorf("CheckMatch of %s returns the code %d, not %d", brief(p), got, code)
			}
			wantNoSource(t, p)
		}
	}
	pats, guards := endlessParts()
	for _, p := range append(pats, chainPats(30000)...) {
		wantNoSource(t, impl.Program{Signature: listAndHue(), Match: impl.Match{Type: "list", Clauses: []impl.Clause{{Pat: p}}}})
	}
	for _, e := range append(guards, chainExprs(30000)...) {
		for _, guarded := range []bool{true, false} {
			wantNoSource(t, impl.Program{Match: impl.Match{Type: "int", Clauses: []impl.Clause{{Pat: varPat("x"), Guarded: guarded, Guard: e}}}})
		}
	}
	wantNoSource(t, impl.Program{Signature: impl.Signature{Types: make([]impl.TypeDecl, 100000)}, Match: matchOf("int", "_")})
	wantNoSource(t, impl.Program{Match: impl.Match{Type: "int", Clauses: slices.Repeat([]impl.Clause{{Pat: anyPart()}}, 100000)}})
}

// linesOfNoForm lists lines that none of the forms fits.
func linesOfNoForm() []string {
	return slices.Concat([]string{
		"", " ", "  ", "\t", "\r", "\x00", "\xff", "?", "#", "// no line", ";", "|", "=", " = ", " | ", " if ", "hm", "_", "if x", "if", "int", "x", "A", "t = A", "= A", "a type t = A", "comment: case _", "Type t = A", "TYPE t = A", "types t = A", "typet = A", "type\tt = A",
		"type", "type ", "type  ", "type t", "type t ", "type =", "type = ", "type = A", "type  = A", "type   = A", "type t =", "type t = ", "type t =  ", "type t=A", "type t= A", "type t =A", "type t == A", "type t : A", "type t A", "type t | A", "type t\t=\tA", "type t\r= A",
		" type t = A", "type  t = A", "type t  = A", "type t =  A", "type t = A ", "type t = A  ", "type t = A  b", "type t = A b ", "type t = A b  c", "type t = A b c ", "type t = A  | B", "type t = A |  B", "type t = A | B ", "type t = A b  | B", "type t = A | B  c", "type t = A | B c | D  e",
		"type t x = A", "type t x y = A", "type t x = A | B", "type t =  | A", "type t = A | ", "type t = A b | ", "type t = A | B | ", "type t = A |  | B", "type t =  | ", "type t = A |  ", "type t =   ", "type t = A |  | ", "type t =  | A | B", "type x y = = A",
	}, []string{
		"match", "match ", "match  ", "match  int", "match int ", "match int  ", " match int", "match int text", "match int int", "match int case _", "match  int ", "matchint", "Match int", "MATCH int", "matches int", "match\tint", "match\xa0int", "\tmatch int",
		"case", "case ", "case  ", "case  _", "case _ ", " case _", "case_", "Case _", "cases _", "case\t_", "\tcase _", "case _\r", "case \t", "case (", "case )", "case (1", "case 1)", "case (1)", "case 01", "case -0", "case +1", "case x @", "case x @ ", "case x@1", "case @ 1", "case A(", "case A()", "case A(1,2)", "case A (1)", "case A(1", "case A(1, )", "case A( 1)",
		"case x y", "case x | y", "case (x|y)", "case (x |y)", "case (x | y) ", "case int", "case text", "case type", "case match", "case case", "case if", "case \"", "case \"a", "case a\"", "case 'a'", "case \"a\"b\"", "case \"\xff\"", "case \"\x7f\"", "case \"\t\"", "case \"\\\"\"", "case \"toolongxx\"", "case toolongxx", "case Toolongxx", "case 1000000000000", "case \xff", "case ?",
		"case x if", "case x if ", "case x if  ", "case x  if x", "case x if  x", "case x if x ", "case  x if x", " case x if x", "case x\tif x", "case x if\tx", "case x if(x < 1)", "case xif x", "case x if (x)", "case x if x < 1", "case x if (x<1)", "case x if (x = 1)", "case x if (x < 1", "case x if x)", "case x if ()", "case x if X", "case x if A", "case x if _", "case x if \"a\"", "case x if int", "case x if case", "case x if if", "case x if 01", "case x if toolongxx", "case x if 1000000000000", "case x if (x <= 1)", "case x if \xff", "case x if ?",
		"case if x", "case  if x", "case if if x", "case if if if", "case x if x if x", "case _ if 1 if 1", "case x if if x", "case x if (x if x)", "case x iff x", "case x If x", "case x when x", "case (x if x)", "case x if x else", "case x if x case _",
		"case \" if \"", "case \"a if b\"", "case \" if \" if 1", "case \" if  if \"", "case A(\" if \")", "case (_ | \" if \")", "case x @ \" if \"", "case \"a\" if \" if \"", "case \" if (\" if x", "case \"x if 1", "case x if 1\"",
	}, []string{"case " + patText(chainPats(9)[0]), "case " + patText(bushPat(25)), "case x if " + exprText(chainExprs(7)[0]), "case x if " + exprText(bushExpr(13)), "case " + patText(bushPat(25)) + " if 1"})
}

// linesOfAForm lists lines that one of the forms fits, though most of them are part of no program.
func linesOfAForm() []string {
	list := []string{
		"type t = A", "type t = A | B", "type t = A b c d", "type t = A |", "type t = |", "type t = | A", "type t = A | |", "type t = A | | B", "type t = | | |", "type t = | | | | |", "type t = A b |", "type t = A | B |", "type t = A |B", "type t = A| B", "type t = A|B", "type t = A, B",
		"type = = =", "type = = A", "type = = = =", "type | = |", "type t = =", "type t = = A", "type t = A = B", "type t = A =", "type t = A = B | C = D", "type type = type", "type int = int", "type T = a", "type t = A if B", "type t = if", "type if = case _", "type t = case x", "type 1 = 2 3", "type t = 1", "type t = A(b)",
		"type t = A b c d e f g h", "type t = A | B | C | D | E | F | G", "type t = A | A", "type t\t = A", "type \t = \t", "type t = A\t", "type t = A\r", "type t\r = A", "type \xff = \xfe \x00", "type \" = (", "type t:u = A", "type t = A\tb", "type \xc2\xa0 = \xc2\xa0", "type toolongxx = Toolongxx toolongxx",
		"type " + strings.Repeat("t", 10000) + " = " + strings.Repeat("A", 10000) + strings.Repeat(" b", 10000) + strings.Repeat(" | C", 10000),
		"match t", "match int", "match text", "match type", "match match", "match case", "match |", "match =", "match T", "match 0", "match _", "match \t", "match int\r", "match int\t", "match \xff", "match \x00", "match \xc2\xa0", "match int\tint", "match " + strings.Repeat("t", 10000),
		"case _ if 1", "case x if y", "case Zz(x, x) if !x", "case (x | y) if (y < x)", "case x @ x", "case x if -1", "case Nil(Nil) if nil", "case A(_) if a", "case \"if\" if iff", "case \" if\" if i", "case \"if \"", "case iff if iff", "case \" | \" if (1 | 1)", "case \"case x\"",
	}
	for text := range writtenPats() {
		list = append(list, "case "+text, "case "+text+" if 1")
	}
	for text := range writtenExprs() {
		list = append(list, "case _ if "+text)
	}
	return list
}

func TestSingleLines(t *testing.T) {
	for _, line := range linesOfNoForm() {
		wantNoProgram(t, line+"\n", 0, impl.TyPat)
		if line != "" {
			wantNoProgram(t, line, 0, impl.TyPat)
		}
		wantNoProgram(t, "\n"+line+"\n", 0, impl.TyPat)
		wantNoProgram(t, "match int\n"+line+"\n", 1, impl.TyPat)
	}
	for _, line := range linesOfAForm() {
		wantNoProgram(t, line+"\n", 1, impl.TyMatch)
		wantNoProgram(t, line, 1, impl.TyMatch)
		wantNoProgram(t, line+"\n"+line+"\n", 2, impl.TyMatch)
		wantNoProgram(t, line+"\n\n", 1, impl.TyPat)
	}
}

// sourcesOfAnySort lists lines of programs without problems, with problems of clauses, and with others.
func sourcesOfAnySort() [][]string {
	return [][]string{
		{"match int", "case 0"},
		{"type t = A | B t", "match t", "case A", "case B(x) if 1", "case _"},
		{"type t = A", "match t", "case Zz", "case Zz if zz"},
		{"match int", "case x if y", "case _ if x"},
		{"match int", "match text", "case 0"},
		{"case _", "match int", "type t = A"},
		{"type t = A t", "match t", "case _"},
		{"type t = A |", "type t = a", "match u", "case Zz"},
		{"match list"},
		{"case (x | y)"},
		{"match int", "case _", "case _", "case _", "case _", "case _", "case _", "case Zz"},
		nil,
	}
}

// A line that is none comes before all other problems, wherever they are.
func TestLinesOfNoFormAmongOthers(t *testing.T) {
	for _, lines := range sourcesOfAnySort() {
		for at := range len(lines) + 1 {
			for _, none := range linesOfNoForm() {
				list := slices.Insert(slices.Clone(lines), at, none)
				wantNoProgram(t, sourceOf(list...), at, impl.TyPat)
				if at < len(lines) || none != "" {
					wantNoProgram(t, strings.Join(list, "\n"), at, impl.TyPat)
				}
			}
		}
	}
}

func TestFirstOfTwoLinesOfNoForm(t *testing.T) {
	for _, lines := range sourcesOfAnySort() {
		for first := range len(lines) + 1 {
			for second := first + 1; second <= len(lines)+1; second++ {
				for _, none := range []string{"", " ", "type t", "type t = A  b", "match", "match int ", "case", "case (", "case x if", "case x if x if x", "what"} {
					for _, other := range []string{"", "type t =", "match int text", "case )", "case _ if )"} {
						list := slices.Insert(slices.Clone(lines), first, none)
						list = slices.Insert(list, second, other)
						wantNoProgram(t, sourceOf(list...), first, impl.TyPat)
					}
				}
			}
		}
	}
}

// The line is that of the clause, not its index, and the code is that of CheckMatch.
func TestLinesOfClausesWithProblems(t *testing.T) {
	want := func(name, text, good string, code int) {
		t.Helper()
		for at := range 6 {
			for behind := range 6 - at {
				clauses := slices.Concat(slices.Repeat([]string{good}, at), []string{text}, slices.Repeat([]string{"Zz"}, behind))
				source := sourceOf(linesOf(listProgram(name, clauses...))...)
				wantNoProgram(t, source, 5+at, code)
				wantNoProgram(t, strings.TrimSuffix(source, "\n"), 5+at, code)
			}
		}
	}
	eachProblem(func(name, text string, code int) {
		want(name, text, "_", code)
		// The code of the pattern comes before that of the guard.
		want(name, text+" if nobody", "x if 1", code)
	})
	for name, list := range badGuards() {
		for _, text := range list {
			want(name, text, "_", impl.TyGuard)
		}
	}
}

// formOf returns the word at the start of a line.
func formOf(line string) string {
	word, _, _ := strings.Cut(line, " ")
	return word
}

// Lines in any order: those of a program come in the order of the forms, and a clause with a problem is found wherever
// its line is.
func TestLinesInEveryOrder(t *testing.T) {
	eachOrder([]string{"type a = A | B b", "type b = C int a", "match a", "case A", "case B(C(x, _)) if x", "case _"}, func(lines []string) {
		if slices.IsSortedFunc(lines, func(a, b string) int { return -strings.Compare(formOf(a), formOf(b)) }) {
			p, line, code := impl.ParseProgram(sourceOf(lines...))
			if got := sourceOf(linesOf(p)...); line != -1 || code != impl.TyOk || got != sourceOf(lines...) {
				t.Errorf("ParseProgram of %q returns line %d, code %d and a program with the source code %q", lines, line, code, got)
			}
			wantWritten(t, p)
		} else {
			wantNoProgram(t, sourceOf(lines...), 6, impl.TyMatch)
		}
		wantNoProgram(t, strings.Join(lines, "\n"), 6, impl.TyMatch)
	})
	for bad, code := range map[string]int{"case Zz": impl.TyCon, "case A(_)": impl.TyArity, "case 1 if y": impl.TyKind, "case B(C(x, x))": impl.TyTwice, "case (x | A) if x": impl.TyOr, "case x if x": impl.TyGuard} {
		eachOrder([]string{"type a = A | B b", "type b = C int a", "match a", "case A", bad}, func(lines []string) {
			wantNoProgram(t, sourceOf(lines...), slices.Index(lines, bad), code)
			wantNoProgram(t, strings.Join(lines, "\n"), slices.Index(lines, bad), code)
		})
		// The first of two is reported.
		eachOrder([]string{"type a = A | B b", "type b = C int a", "match a", "case C(1, A)", bad}, func(lines []string) {
			first, is := slices.Index(lines, bad), code
			if other := slices.Index(lines, "case C(1, A)"); other < first {
				first, is = other, impl.TyKind
			}
			wantNoProgram(t, sourceOf(lines...), first, is)
		})
	}
}

// The last match line counts, but a program has one only.
func TestSeveralMatchLines(t *testing.T) {
	for s, want := range map[string][2]int{
		"match int\nmatch int\ncase 0\n":                    {3, impl.TyMatch},
		"match text\nmatch int\ncase 0\n":                   {3, impl.TyMatch},
		"match int\nmatch text\ncase 0\n":                   {2, impl.TyKind},
		"match int\ncase 0\nmatch text\n":                   {1, impl.TyKind},
		"match text\ncase 0\nmatch int\n":                   {3, impl.TyMatch},
		"match text\ncase 0\nmatch int\ncase \"\"\n":        {3, impl.TyKind},
		"match zz\nmatch int\ncase 0\n":                     {3, impl.TyMatch},
		"match int\nmatch zz\ncase Zz\n":                    {3, impl.TyMatch},
		"match zz\nmatch int\ncase Zz\n":                    {2, impl.TyCon},
		"case x if x\nmatch text\nmatch int\n":              {3, impl.TyMatch},
		"case x if x\nmatch int\nmatch text\n":              {0, impl.TyGuard},
		"case 0\ncase 1\ncase Zz\nmatch int\n":              {2, impl.TyCon},
		"match int\ntype t = A\ncase 0\n":                   {3, impl.TyMatch},
		"match t\ntype t = A\ncase A\n":                     {3, impl.TyMatch},
		"match t\ntype t = A\ncase A\ncase B\n":             {3, impl.TyCon},
		"match t\ncase A\ncase B\ntype t = A\n":             {2, impl.TyCon},
		"match t\ncase A\ncase B(1)\ntype t = A | B t\n":    {2, impl.TyKind},
		"match int\ncase 0\nmatch int\ncase 1\nmatch int":   {5, impl.TyMatch},
		"match int\ncase 0\nmatch int\ncase y if z\ncase A": {3, impl.TyGuard},
	} {
		wantNoProgram(t, s, want[0], want[1])
	}
}

// The number of lines is reported where no line is.
func TestNumbersOfLines(t *testing.T) {
	wantNoProgram(t, "", 0, impl.TyMatch)
	want := func(lines ...string) {
		t.Helper()
		wantNoProgram(t, sourceOf(lines...), len(lines), impl.TyMatch)
		wantNoProgram(t, strings.Join(lines, "\n"), len(lines), impl.TyMatch)
	}
	for _, s := range invalidSignatures() {
		for _, name := range []string{"a", "int", "zz"} {
			lines := linesOf(impl.Program{Signature: s, Match: matchOf(name, "_")})
			if none := slices.Index(lines, "type b"); none >= 0 {
				wantNoProgram(t, sourceOf(lines...), none, impl.TyPat)
				continue
			}
			want(lines...)
			want(append(lines, "case Zz if zz", "case (x | y)")...)
			want(lines[:len(lines)-1]...)
		}
	}
	for _, name := range noTypes() {
		if name == "" || strings.Contains(name, " ") {
			wantNoProgram(t, sourceOf(linesOf(listProgram(name, "_"))...), 4, impl.TyPat)
			continue
		}
		want(linesOf(listProgram(name, "_"))...)
		want(linesOf(listProgram(name, "_", "Zz"))...)
		want(linesOf(listProgram(name))...)
	}
	for name, list := range goodClauses() {
		lines := linesOf(listProgram(name))
		want(lines...)
		want(append(slices.Clone(lines[:4]), "case _")...)
		for _, size := range []int{7, 8, 60} {
			want(linesOf(listProgram(name, slices.Repeat(list[:1], size)...))...)
			// The number of clauses comes before the problem of one.
			want(linesOf(listProgram(name, slices.Repeat([]string{"Zz"}, size)...))...)
		}
	}
	// Nothing is wrong with these but the newline that they do not end with, or end with twice.
	for s, p := range knownPrograms() {
		lines := linesOf(p)
		wantNoProgram(t, strings.TrimSuffix(s, "\n"), len(lines), impl.TyMatch)
		wantNoProgram(t, s+"\n", len(lines), impl.TyPat)
		wantNoProgram(t, "\n"+s, 0, impl.TyPat)
		want(append(lines, "match "+p.Match.Type)...)
		want(append(lines, "type zz = Zz1")...)
		want(append([]string{"match " + p.Match.Type}, lines...)...)
		want(append([]string{lines[len(lines)-1]}, lines[:len(lines)-1]...)...)
	}
}

// A newline ends a line, and nothing else does.
func TestOtherEndsOfLines(t *testing.T) {
	for _, end := range []string{"\r", "\v", "\f", "\x00", "\x1c", "\x1d", "\x1e", "\x85", "\u0085", "\u2028", "\u2029", "\t", "\xa0", "\u00a0", "\\n", ";"} {
		wantNoProgram(t, "match int"+end+"case 0\n", 0, impl.TyPat)
		wantNoProgram(t, "match int"+end+"case 0"+end, 0, impl.TyPat)
		wantNoProgram(t, "type t = A"+end+"type u = B\n", 1, impl.TyMatch)
		wantNoProgram(t, "match int"+end+"\ncase 0"+end+"\n", 1, impl.TyPat)
		wantNoProgram(t, "match int\n"+end+"case 0\n"+end, 1, impl.TyPat)
		wantNoProgram(t, "type t = A"+end+"\nmatch t\ncase A\n", 3, impl.TyMatch)
		wantNoProgram(t, "type t"+end+" = A\nmatch t\ncase A\n", 3, impl.TyMatch)
		wantNoProgram(t, "type t = A\nmatch t"+end+"\ncase A\n", 3, impl.TyMatch)
		wantNoProgram(t, "type t = A\nmatch t\ncase A"+end+"\n", 2, impl.TyPat)
		wantNoProgram(t, "type t = A\nmatch t\ncase A if 1"+end+"\n", 2, impl.TyPat)
		wantNoProgram(t, "type t = A\nmatch t\ncase A\n"+end, 3, impl.TyPat)
		wantNoProgram(t, end+"type t = A\nmatch t\ncase A\n", 0, impl.TyPat)
	}
	for count := 1; count < 5; count++ {
		empty := strings.Repeat("\n", count)
		wantNoProgram(t, empty, 0, impl.TyPat)
		wantNoProgram(t, "match int\ncase 0\n"+empty, 2, impl.TyPat)
	}
	wantNoProgram(t, "match text\ncase \"a\nb\"\n", 1, impl.TyPat)
	wantNoProgram(t, "match int\ncase x if (x <\n1)\n", 1, impl.TyPat)
}

var (
	typeLine  = regexp.MustCompile(`\Atype ([^ ]+) = (.+)\z`)
	matchLine = regexp.MustCompile(`\Amatch ([^ ]+)\z`)
	conText   = regexp.MustCompile(`\A[^ ]+( [^ ]+)*\z`)
)

// consByDefinition returns the constructors of a line, and false if there is one without words.
func consByDefinition(s string) ([]impl.Con, bool) {
	var list []impl.Con
	for more := true; more; {
		text := s
		if i := strings.Index(s, " | "); i >= 0 {
			text, s = s[:i], s[i+3:]
		} else {
			more = false
		}
		if !conText.MatchString(text) {
			return nil, false
		}
		words := strings.Split(text, " ")
		list = append(list, impl.Con{Name: words[0], Args: words[1:]})
	}
	return list, true
}

// clauseByDefinition returns the clause of a line, and false if it is none.
func clauseByDefinition(line string) (impl.Clause, bool) {
	c, left := impl.Clause{}, line
	if i := strings.Index(line, " if "); i >= 0 {
		left, c.Guarded = line[:i], true
		e, ok := impl.ParseExpr(line[i+4:])
		if !ok {
			return impl.Clause{}, false
		}
		c.Guard = e
	}
	p, ok := impl.ParsePat(strings.TrimPrefix(left, "case "))
	c.Pat = p
	return c, ok && strings.HasPrefix(left, "case ")
}

// addByDefinition adds what a line says to a program, and reports whether one of the forms fits it.
func addByDefinition(p *impl.Program, line string) bool {
	if m := typeLine.FindStringSubmatch(line); m != nil {
		cons, ok := consByDefinition(m[2])
		p.Signature.Types = append(p.Signature.Types, impl.TypeDecl{Name: m[1], Cons: cons})
		return ok
	}
	if m := matchLine.FindStringSubmatch(line); m != nil {
		p.Match.Type = m[1]
		return true
	}
	c, ok := clauseByDefinition(line)
	p.Match.Clauses = append(p.Match.Clauses, c)
	return ok
}

// codeByDefinition returns what CheckMatch has to return.
func codeByDefinition(p impl.Program) (int, int) {
	if !impl.IsValidSignature(p.Signature) {
		return -1, impl.TyMatch
	}
	return checkByDefinition(p.Signature, p.Match)
}

// parseByDefinition returns what ParseProgram has to return.
func parseByDefinition(s string) (impl.Program, int, int) {
	lines := strings.SplitAfter(s, "\n")
	if lines[len(lines)-1] == "" {
		lines = lines[:len(lines)-1]
	}
	var p impl.Program
	var lineOfClause []int
	for i, line := range lines {
		if !addByDefinition(&p, strings.TrimSuffix(line, "\n")) {
			return impl.Program{}, i, impl.TyPat
		}
		if strings.HasPrefix(line, "case ") {
			lineOfClause = append(lineOfClause, i)
		}
	}
	index, code := codeByDefinition(p)
	switch {
	case code == impl.TyOk && s == sourceOf(linesOf(p)...):
		return p, -1, impl.TyOk
	case index >= 0:
		return impl.Program{}, lineOfClause[index], code
	}
	return impl.Program{}, len(lines), impl.TyMatch
}

// wantParsed checks ParseProgram by its definition, and returns the code.
func wantParsed(t *testing.T, s string) int {
	t.Helper()
	p, line, code := parseByDefinition(s)
	if code == impl.TyOk {
		wantProgram(t, p, s)
	} else {
		wantNoProgram(t, s, line, code)
	}
	return code
}

// What the tests above say of lines and programs is what the definition says.
func TestDefinitionOfLines(t *testing.T) {
	for _, line := range linesOfNoForm() {
		if addByDefinition(&impl.Program{}, line) {
			t.Errorf("%q has a form", line)
		}
	}
	for _, line := range linesOfAForm() {
		if !addByDefinition(&impl.Program{}, line) {
			t.Errorf("%q has no form", line)
		}
	}
	for s := range knownPrograms() {
		if code := wantParsed(t, s); code != impl.TyOk {
			t.Errorf("the definition gives the code %d for %q", code, s)
		}
	}
}

// All lines of a few words, signs and spaces.
func TestAllShortLines(t *testing.T) {
	forms := 0
	for start, words := range map[string][]string{"type": {" ", "=", "|", "A", " = "}, "match": {" ", "int", "\t", "="}, "case": {" ", "if", "x", " if ", "(", ")"}, "": {" ", "type", "match", "case", "A", " = "}} {
		eachList(words, 6, func(list []string) {
			line := start + strings.Join(list, "")
			if addByDefinition(&impl.Program{}, line) {
				forms++
				wantNoProgram(t, line+"\n", 1, impl.TyMatch)
			} else {
				wantNoProgram(t, line+"\n", 0, impl.TyPat)
			}
		})
	}
	if forms < 1000 {
		t.Errorf("%d lines of a form are not many", forms)
	}
}

// Every byte in every place of a program, and in front of it, and every byte that is left out.
func TestSourcesWithOneChange(t *testing.T) {
	codes := map[int]int{}
	for _, s := range []string{"type t = A int | B t\nmatch t\ncase B(A(x)) if (x < 2)\ncase p @ (A(1) | B(_))\n", "type s = S text\ntype u = U s s\nmatch u\ncase U(_, S(\"a b\"))\ncase U(S(_), x) if !1\n"} {
		for at := range len(s) + 1 {
			for b := range 256 {
				codes[wantParsed(t, s[:at]+string([]byte{byte(b)})+s[at:])]++
				if at < len(s) {
					codes[wantParsed(t, s[:at]+string([]byte{byte(b)})+s[at+1:])]++
				}
			}
			codes[wantParsed(t, s[:at])]++
			codes[wantParsed(t, s[at:])]++
			if at < len(s) {
				codes[wantParsed(t, s[:at]+s[at+1:])]++
			}
		}
	}
	for _, code := range []int{impl.TyOk, impl.TyPat, impl.TyCon, impl.TyKind, impl.TyGuard, impl.TyMatch} {
		if codes[code] < 10 {
			t.Errorf("the code %d comes %d times, which is not often", code, codes[code])
		}
	}
}

// anyProgram returns a program, often with a problem.
func anyProgram(random *rand.Rand) impl.Program {
	s := validSignature(random)
	p := impl.Program{Signature: s, Match: impl.Match{Type: []string{"int", "text", "a", "b", "c", "d"}[random.Intn(2+len(s.Types))]}}
	for range 1 + random.Intn(4) {
		c := impl.Clause{Pat: typedPat(random, s, p.Match.Type, 1+random.Intn(4), names())}
		if random.Intn(12) == 0 {
			changePat(random, &c.Pat)
		}
		if random.Intn(3) == 0 {
			anyGuarded(random, s, &c, p.Match.Type)
		}
		p.Match.Clauses = append(p.Match.Clauses, c)
	}
	return p
}

// changeLines changes the order, the number or the text of some lines.
func changeLines(random *rand.Rand, lines []string) []string {
	at, other := random.Intn(len(lines)), random.Intn(len(lines))
	switch random.Intn(6) {
	case 0:
		lines[at], lines[other] = lines[other], lines[at]
	case 1:
		return slices.Insert(lines, at, lines[other])
	case 2:
		return slices.Delete(lines, at, at+1)
	case 3:
		extra := []string{"match int", "match a", "match zz", "type a = A", "type zz = Zz zz", "case _", "case Zz", "case x if x", "case (x | y)", "", "case \" if \""}
		return slices.Insert(lines, at, extra[random.Intn(len(extra))])
	case 4:
		cut := random.Intn(len(lines[at]) + 1)
		lines[at] = lines[at][:cut] + []string{" ", "|", " | ", "=", " if ", "(", "x"}[random.Intn(7)] + lines[at][cut:]
	}
	return lines
}

func TestManySources(t *testing.T) {
	random := rand.New(rand.NewSource(99))
	codes := map[int]int{}
	for range 8000 {
		p := anyProgram(random)
		lines := linesOf(p)
		source := ""
		if _, code := codeByDefinition(p); code == impl.TyOk {
			source = sourceOf(lines...)
		}
		if got := impl.FormatProgram(p); got != source {
			t.Errorf("FormatProgram = %q, want %q", got, source)
		}
		codes[wantParsed(t, sourceOf(lines...))]++
		for range random.Intn(3) {
			if len(lines) > 0 {
				lines = changeLines(random, lines)
			}
		}
		codes[wantParsed(t, sourceOf(lines...))]++
		codes[wantParsed(t, strings.Join(lines, "\n"))]++
	}
	for code := impl.TyOk; code <= impl.TyMatch; code++ {
		if codes[code] < 30 {
			t.Errorf("the code %d comes %d times, which is no fair share", code, codes[code])
		}
	}
}

func TestLongSources(t *testing.T) {
	const many = 50000
	repeat := func(line string) string { return strings.Repeat(line+"\n", many) }
	wantNoProgram(t, repeat("type t = A"), many, impl.TyMatch)
	wantNoProgram(t, repeat("match int")+"case 0\n", many+1, impl.TyMatch)
	wantNoProgram(t, repeat("match int")+"case Zz\n", many, impl.TyCon)
	wantNoProgram(t, repeat("match text")+"case Zz\nmatch int", many, impl.TyCon)
	wantNoProgram(t, "match int\n"+repeat("case Zz"), many+1, impl.TyMatch)
	wantNoProgram(t, "match int\n"+repeat("case 0")+"case )", many+1, impl.TyPat)
	wantNoProgram(t, repeat(""), 0, impl.TyPat)
	wantNoProgram(t, "type t = A"+strings.Repeat(" | B int", many)+"\nmatch t\ncase A\n", 3, impl.TyMatch)
	wantNoProgram(t, "type t = A"+strings.Repeat(" t", many)+"\nmatch int\ncase 0\n", 3, impl.TyMatch)
	wantNoProgram(t, "type t = "+strings.Repeat(" | ", many)+"\n", 0, impl.TyPat)
	wantNoProgram(t, "match "+strings.Repeat("t", many)+"\ncase 0\n", 2, impl.TyMatch)
	for _, part := range []string{"(", "x @ ", "A(", "!", "1", "\"", " if ", "a", " ", "_"} {
		wantNoProgram(t, "match int\ncase "+strings.Repeat(part, many)+"\n", 1, impl.TyPat)
		wantNoProgram(t, "match int\ncase x if "+strings.Repeat(part, many)+"\n", 1, impl.TyPat)
	}
}

func TestFormatProgramKeepsItsArgument(t *testing.T) {
	s, args, cons, types := roomy()
	for range 2 {
		if got := impl.FormatProgram(impl.Program{Signature: s, Match: matchOf("a", "A(x, _) if x", "B")}); got != "type a = A int a | B\ntype b = C b | D\nmatch a\ncase A(x, _) if x\ncase B\n" {
			t.Errorf("FormatProgram = %q", got)
		}
		wantNoSource(t, impl.Program{Signature: s, Match: matchOf("a", "A(x, y) if y")})
		wantNoSource(t, impl.Program{Signature: s, Match: matchOf("zz", "_")})
	}
	_, argsBefore, consBefore, typesBefore := roomy()
	if !slices.EqualFunc(args, argsBefore, slices.Equal) || !slices.EqualFunc(cons, consBefore, sameCon) || !slices.EqualFunc(types, typesBefore, sameType) {
		t.Errorf("the signature afterwards is %q, with %q behind it", s, types)
	}
	m, clauses, pats, exprs := roomyMatch()
	for range 2 {
		wantWritten(t, impl.Program{Signature: declared("doc = Doc text list hue", "list = Nil | Cons int int", "hue = Red"), Match: m})
		wantNoSource(t, impl.Program{Signature: listAndHue(), Match: m})
		wantSameMatch(t, clauses, pats, exprs)
	}
}

func TestProgramsAreNewMemory(t *testing.T) {
	var types [][]impl.TypeDecl
	var cons [][]impl.Con
	var args [][]string
	var clauses [][]impl.Clause
	var pats [][]impl.Pat
	var exprs [][]impl.Expr
	for range 2 {
		for s := range knownPrograms() {
			p, _, _ := impl.ParseProgram(s)
			types = append(types, p.Signature.Types[:cap(p.Signature.Types)])
			for _, d := range p.Signature.Types {
				cons = append(cons, d.Cons[:cap(d.Cons)])
				for _, c := range d.Cons {
					args = append(args, c.Args[:cap(c.Args)])
				}
			}
			clauses = append(clauses, p.Match.Clauses[:cap(p.Match.Clauses)])
			for _, c := range p.Match.Clauses {
				pats = append(pats, patLists(c.Pat)...)
				exprs = append(exprs, exprLists(c.Guard)...)
			}
		}
	}
	mark := func(i int) string { return string(rune('a' + i)) }
	wantMarked(t, types, func(d *impl.TypeDecl) *string { return &d.Name }, mark)
	wantMarked(t, cons, func(c *impl.Con) *string { return &c.Name }, mark)
	wantMarked(t, args, func(s *string) *string { return s }, mark)
	wantSeparate(t, clauses, func(c *impl.Clause) *int { return &c.Pat.N })
	wantSeparate(t, pats, patNumber)
	wantSeparate(t, exprs, exprNumber)
	for s, p := range knownPrograms() {
		wantProgram(t, p, s)
	}
}
