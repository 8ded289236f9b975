package tests

import (
	"fmt"
	"math/rand"
	"slices"
	"strings"
	"testing"

	"loop.example/g00519/impl"
)

// declared returns the signature with the declarations, each of the form "NAME = CON ARG ARG | CON"; "NAME =" has no
// constructors.
func declared(lines ...string) impl.Signature {
	var s impl.Signature
	for _, line := range lines {
		name, right, _ := strings.Cut(line, " =")
		d := impl.TypeDecl{Name: name}
		for _, words := range strings.Split(right, "|") {
			if w := strings.Fields(words); len(w) > 0 {
				d.Cons = append(d.Cons, impl.Con{Name: w[0], Args: w[1:]})
			}
		}
		s.Types = append(s.Types, d)
	}
	return s
}

// listAndHue is an ordinary signature with arguments of every sort.
func listAndHue() impl.Signature {
	return declared("list = Nil | Cons int list", "hue = Red | Blue | Mix hue hue", "doc = Doc text list hue", "one = One")
}

func sameCon(a, b impl.Con) bool {
	return a.Name == b.Name && slices.Equal(a.Args, b.Args)
}

func sameType(a, b impl.TypeDecl) bool {
	return a.Name == b.Name && slices.EqualFunc(a.Cons, b.Cons, sameCon)
}

func sameSignature(a, b impl.Signature) bool {
	return slices.EqualFunc(a.Types, b.Types, sameType)
}

func wantType(t *testing.T, s impl.Signature, name string, want impl.TypeDecl, ok bool) {
	t.Helper()
	if got, gotOk := impl.FindType(s, name); !sameType(got, want) || gotOk != ok {
		t.Errorf("FindType(%q, %q) = %q, %v, want %q, %v", s, name, got, gotOk, want, ok)
	}
}

func wantCon(t *testing.T, s impl.Signature, name string, want impl.Con, in string, ok bool) {
	t.Helper()
	if got, gotIn, gotOk := impl.FindCon(s, name); !sameCon(got, want) || gotIn != in || gotOk != ok {
		t.Errorf("FindCon(%q, %q) = %q, %q, %v, want %q, %q, %v", s, name, got, gotIn, gotOk, want, in, ok)
	}
}

func wantInhabited(t *testing.T, s impl.Signature, want ...string) {
	t.Helper()
	wantList(t, fmt.Sprintf("Inhabited(%q)", s), impl.Inhabited(s), want)
}

func wantValid(t *testing.T, s impl.Signature, want bool) {
	t.Helper()
	if got := impl.IsValidSignature(s); got != want {
		t.Errorf("IsValidSignature(%q) = %v, want %v", s, got, want)
	}
}

func TestTypeLimits(t *testing.T) {
	if impl.MaxTypes != 4 || impl.MaxCons != 5 || impl.MaxArgs != 3 {
		t.Errorf("MaxTypes, MaxCons, MaxArgs = %d, %d, %d, want 4, 5, 3", impl.MaxTypes, impl.MaxCons, impl.MaxArgs)
	}
}

func TestFindDeclaredTypes(t *testing.T) {
	s := listAndHue()
	for n := range len(s.Types) + 1 {
		some := impl.Signature{Types: s.Types[:n]}
		for i, d := range s.Types {
			if i < n {
				wantType(t, some, d.Name, d, true)
			} else {
				wantType(t, some, d.Name, impl.TypeDecl{}, false)
			}
			if got := impl.IsType(some, d.Name); got != (i < n) {
				t.Errorf("IsType(%q, %q) = %v", some, d.Name, got)
			}
		}
	}
}

func TestFindDeclaredConstructors(t *testing.T) {
	s := listAndHue()
	for n := range len(s.Types) + 1 {
		some := impl.Signature{Types: s.Types[:n]}
		for i, d := range s.Types {
			for _, c := range d.Cons {
				if i < n {
					wantCon(t, some, c.Name, c, d.Name, true)
				} else {
					wantCon(t, some, c.Name, impl.Con{}, "", false)
				}
			}
		}
	}
}

// A constructor is no type, a type is no constructor, and a name is found only as a whole.
func TestNamesThatAreNotDeclared(t *testing.T) {
	s := listAndHue()
	for _, name := range []string{"", " ", "zz", "lis", "list2", "List", "LIST", " list", "list ", "list\x00", "Nil", "Red", "Cons", "?", "\xff"} {
		wantType(t, s, name, impl.TypeDecl{}, false)
		if impl.IsType(s, name) {
			t.Errorf("IsType(%q) = true", name)
		}
	}
	for _, name := range []string{"", " ", "Zz", "Con", "Cons2", "cons", "CONS", " Nil", "Nil ", "Nil\x00", "list", "hue", "int", "text", "?", "\xff"} {
		wantCon(t, s, name, impl.Con{}, "", false)
	}
}

func TestIntAndTextExistEverywhere(t *testing.T) {
	for _, s := range []impl.Signature{{}, {Types: []impl.TypeDecl{}}, listAndHue(), declared("a ="), declared("int =", "text =")} {
		if !impl.IsType(s, "int") || !impl.IsType(s, "text") {
			t.Errorf("IsType(%q) = false for int or text", s)
		}
		for _, name := range []string{"Int", "Text", "integer", "tex", "string", "int text", ""} {
			if impl.IsType(s, name) {
				t.Errorf("IsType(%q, %q) = true", s, name)
			}
		}
	}
	for _, s := range []impl.Signature{{}, listAndHue(), declared("a ="), declared("a = A int text")} {
		wantType(t, s, "int", impl.TypeDecl{}, false)
		wantType(t, s, "text", impl.TypeDecl{}, false)
	}
	wantInhabited(t, declared("a = A int text"), "a")
	wantInhabited(t, declared("a = A int", "b = B text"), "a", "b")
}

func TestFirstDeclarationCounts(t *testing.T) {
	s := declared("a = A int", "b = A text | A | B a | B", "a = A a | C", "b = C b | D", "c =", "c = E")
	wantType(t, s, "a", s.Types[0], true)
	wantType(t, s, "b", s.Types[1], true)
	wantType(t, s, "c", impl.TypeDecl{Name: "c"}, true)
	wantCon(t, s, "A", impl.Con{Name: "A", Args: []string{"int"}}, "a", true)
	wantCon(t, s, "B", impl.Con{Name: "B", Args: []string{"a"}}, "b", true)
	wantCon(t, s, "C", impl.Con{Name: "C"}, "a", true)
	wantCon(t, s, "D", impl.Con{Name: "D"}, "b", true)
	wantCon(t, s, "E", impl.Con{Name: "E"}, "c", true)
	for _, name := range []string{"a", "b", "c"} {
		if !impl.IsType(s, name) {
			t.Errorf("IsType(%q) = false", name)
		}
	}
}

// Names need not be valid to be found.
func TestFindDeclarationsWithInvalidNames(t *testing.T) {
	for _, name := range []string{"", "int", "text", "type", "a b", "Upper", "averylongname", "\xff"} {
		d := impl.TypeDecl{Name: name, Cons: []impl.Con{{Name: name, Args: []string{name, ""}}}}
		s := impl.Signature{Types: []impl.TypeDecl{{Name: "x"}, d}}
		wantType(t, s, name, d, true)
		wantCon(t, s, name, d.Cons[0], name, true)
		if !impl.IsType(s, name) {
			t.Errorf("IsType(%q, %q) = false", s, name)
		}
		wantValid(t, s, false)
	}
}

func TestInhabitedInTheOrderOfDeclaration(t *testing.T) {
	wantInhabited(t, impl.Signature{})
	wantInhabited(t, impl.Signature{Types: []impl.TypeDecl{}})
	wantInhabited(t, listAndHue(), "list", "hue", "doc", "one")
	wantInhabited(t, declared("z = Z", "m = M", "a = A"), "z", "m", "a")
	wantInhabited(t, declared("z = Z a", "m = M z", "a = A"), "z", "m", "a")
	wantInhabited(t, declared("a = A b c d", "b = B c d", "c = C d", "d = D"), "a", "b", "c", "d")
	wantInhabited(t, declared("d = D", "c = C d", "b = B c d", "a = A b c d"), "d", "c", "b", "a")
}

func TestTypesWithoutValues(t *testing.T) {
	wantInhabited(t, declared("a ="))
	wantInhabited(t, declared("a = A a"))
	wantInhabited(t, declared("a = A a | B a a | C int a text"))
	wantInhabited(t, declared("a = A b", "b = B a"))
	wantInhabited(t, declared("a = A b", "b = B c", "c = C a"))
	wantInhabited(t, declared("a = A b", "b ="))
	wantInhabited(t, declared("a = A zz"))
	wantInhabited(t, declared("a = A Nil", "b = Nil"), "b")
	wantInhabited(t, declared("a = A int a", "b = B"), "b")
	wantInhabited(t, declared("a = A b c", "b = B", "c = C c"), "b")
	wantInhabited(t, declared("a = A c b", "b = B", "c = C c"), "b")
	wantInhabited(t, declared("a = A b | B c", "b = C b", "c = D"), "a", "c")
	wantInhabited(t, declared("a = A b", "b = B c", "c = C b | D d", "d = E d | F a"))
	wantInhabited(t, declared("a = A b", "b = B c", "c = C b | D d", "d = E d | F a | G"), "a", "b", "c", "d")
}

// Declarations with one name are one type.
func TestInhabitedWithRepeatedNames(t *testing.T) {
	wantInhabited(t, declared("a =", "a = A"), "a", "a")
	wantInhabited(t, declared("a = A", "a ="), "a", "a")
	wantInhabited(t, declared("a = A a", "b = B a", "a = C", "a ="), "a", "b", "a", "a")
	wantInhabited(t, declared("a = A b", "a = B a", "b = C b", "c = D"), "c")
	wantInhabited(t, declared("a = A b", "a = B c", "b = C b", "c = D"), "a", "a", "c")
	wantInhabited(t, declared("b = B a", "a =", "b =", "a = A"), "b", "a", "b", "a")
	wantInhabited(t, declared("a = A | A a", "b = A"), "a", "b")
}

// A declared int or text is returned only for its own constructors, but int and text have values as arguments anyway.
func TestInhabitedWithDeclaredIntAndText(t *testing.T) {
	wantInhabited(t, declared("int =", "text ="))
	wantInhabited(t, declared("int =", "a = A int"), "a")
	wantInhabited(t, declared("text =", "a = A text"), "a")
	wantInhabited(t, declared("int = I b", "a = A int", "b = B b"), "a")
	wantInhabited(t, declared("int = I", "text = T"), "int", "text")
	wantInhabited(t, declared("int = I int", "text = T text"), "int", "text")
	wantInhabited(t, declared("int = I text", "text ="), "int")
	wantInhabited(t, declared("text = T int", "int ="), "text")
	wantInhabited(t, declared("int =", "int = I"), "int", "int")
	wantInhabited(t, declared("int = I a", "a = A b", "b = B"), "int", "a", "b")
	wantInhabited(t, declared("a = A Int", "Int ="))
}

// hasValue reports whether a type has a value of at most this depth.
func hasValue(s impl.Signature, name string, depth int) bool {
	if depth == 0 || name == "int" || name == "text" {
		return depth > 0
	}
	for _, d := range s.Types {
		for _, c := range d.Cons {
			if d.Name == name && !slices.ContainsFunc(c.Args, func(arg string) bool { return !hasValue(s, arg, depth-1) }) {
				return true
			}
		}
	}
	return false
}

// withValues returns the declared types that have values: if any, then some of them are built without a type inside
// itself, and these are not deeper than there are types, but for an integer or a string at the bottom.
func withValues(s impl.Signature) []string {
	var names []string
	for _, d := range s.Types {
		if hasValue(s, d.Name, len(s.Types)+1) {
			names = append(names, d.Name)
		}
	}
	return names
}

func TestInhabitedOfAllSmallSignatures(t *testing.T) {
	args := []string{"", " a", " b", " c", " int", " a b", " b c", " c a", " a b c"}
	var rights []string
	for i, first := range args {
		rights = append(rights, "K"+first)
		for _, second := range args[:i] {
			rights = append(rights, "K"+first+" | L"+second)
		}
	}
	rights = append(rights, "")
	for _, a := range rights {
		for _, b := range rights {
			for _, c := range rights {
				s := declared("a = "+a, "b = "+b, "c = "+c)
				if got, want := impl.Inhabited(s), withValues(s); !slices.Equal(got, want) {
					t.Fatalf("Inhabited(%q) = %q, want %q", s, got, want)
				}
			}
		}
	}
}

// anySignature returns a signature that is valid but for types without values.
func anySignature(random *rand.Rand) impl.Signature {
	names := []string{"a", "b", "c", "d"}[:random.Intn(5)]
	args := slices.Concat(names, []string{"int", "text"})
	var s impl.Signature
	for i, name := range names {
		d := impl.TypeDecl{Name: name}
		for k := range 1 + random.Intn(impl.MaxCons) {
			c := impl.Con{Name: fmt.Sprintf("C%d%d", i, k)}
			for range random.Intn(impl.MaxArgs + 1) {
				c.Args = append(c.Args, args[random.Intn(len(args))])
			}
			// Constructors without arguments would be so many that hardly a type were without values.
			if len(c.Args) > 0 || random.Intn(4) == 0 {
				d.Cons = append(d.Cons, c)
			}
		}
		s.Types = append(s.Types, d)
	}
	return s
}

func TestValidSignaturesHaveValues(t *testing.T) {
	random := rand.New(rand.NewSource(3))
	valid := 0
	for range 20000 {
		s := anySignature(random)
		names := withValues(s)
		wantInhabited(t, s, names...)
		wantValid(t, s, len(names) == len(s.Types))
		if len(s.Types) > 1 && len(names) == len(s.Types) {
			valid++
		}
	}
	if valid < 1000 || valid > 15000 {
		t.Errorf("%d valid signatures are no fair share", valid)
	}
}

func TestOrdinarySignaturesAreValid(t *testing.T) {
	s := listAndHue()
	for n := range len(s.Types) + 1 {
		wantValid(t, impl.Signature{Types: s.Types[:n]}, true)
	}
	wantValid(t, impl.Signature{Types: []impl.TypeDecl{}}, true)
	wantValid(t, declared("a = A"), true)
	wantValid(t, declared("a = A int text int"), true)
	wantValid(t, declared("a = A | B a a a"), true)
	wantValid(t, declared("a = A b", "b = B a | C c", "c = D d", "d = E"), true)
	wantValid(t, declared("nil = Nil nil | Int | Text"), true)
	wantValid(t, declared("x1234567 = X1234567 | X", "x = Y x1234567"), true)
	wantValid(t, declared("a = A | A1 | A2", "a1 = B", "a2 = Ab"), true)
}

// fullSignature returns a signature with the numbers of types, of constructors of each and of arguments of each of these.
func fullSignature(types, cons, args int) impl.Signature {
	var s impl.Signature
	for i := range types {
		d := impl.TypeDecl{Name: fmt.Sprintf("t%d", i)}
		for k := range cons {
			d.Cons = append(d.Cons, impl.Con{Name: fmt.Sprintf("C%dx%d", i, k), Args: slices.Repeat([]string{"int"}, args)})
		}
		s.Types = append(s.Types, d)
	}
	return s
}

func TestSignaturesAtTheLimits(t *testing.T) {
	for types := range 7 {
		for cons := range 8 {
			for args := range 6 {
				ok := types == 0 || types <= 4 && cons >= 1 && cons <= 5 && args <= 3
				wantValid(t, fullSignature(types, cons, args), ok)
			}
		}
	}
	wantValid(t, fullSignature(300, 1, 0), false)
	wantValid(t, fullSignature(1, 300, 0), false)
	wantValid(t, fullSignature(1, 1, 300), false)
}

// One type or constructor over a limit is enough, wherever it is.
func TestOneOverTheLimit(t *testing.T) {
	for i := range 4 {
		s := fullSignature(4, 5, 3)
		s.Types[i].Cons = append(s.Types[i].Cons, impl.Con{Name: "More"})
		wantValid(t, s, false)
		s.Types[i].Cons = nil
		wantValid(t, s, false)
		for k := range 5 {
			s := fullSignature(4, 5, 3)
			s.Types[i].Cons[k].Args = append(s.Types[i].Cons[k].Args, "text")
			wantValid(t, s, false)
		}
	}
}

// withName returns a valid signature, but for one name: that of its type number i, or of constructor k of it if k is not -1.
func withName(i, k int, name string) impl.Signature {
	s := declared("a = A | B", "b = C | D", "c = E | F")
	if k < 0 {
		s.Types[i].Name = name
	} else {
		s.Types[i].Cons[k].Name = name
	}
	return s
}

func TestNamesInSignatures(t *testing.T) {
	neither := []string{"", " ", "1", "_", "a b", "A b", "a_", "A_", "aB", "AB", "a\n", "A\xff", "é", "abcdefghi", "Abcdefghi", "?"}
	types := []string{"x", "x9", "abcdefgh", "integer", "cas", "typ", "x0000000"}
	cons := []string{"X", "X9", "Abcdefgh", "Int", "Text", "Type", "Case"}
	for i := range 3 {
		for _, name := range slices.Concat(neither, cons, reservedWords) {
			wantValid(t, withName(i, -1, name), false)
		}
		for _, name := range types {
			wantValid(t, withName(i, -1, name), true)
		}
		for k := range 2 {
			for _, name := range slices.Concat(neither, types, reservedWords) {
				wantValid(t, withName(i, k, name), false)
			}
			for _, name := range cons {
				wantValid(t, withName(i, k, name), true)
			}
		}
	}
}

// Reserved type names are wrong by themselves, also where they name what an argument may have.
func TestReservedTypesInSignatures(t *testing.T) {
	for _, name := range reservedWords {
		wantValid(t, declared(name+" = A"), false)
		wantValid(t, declared("a = A", name+" = B"), false)
		wantValid(t, declared("a = A "+name, name+" = B"), false)
		wantValid(t, declared("a = A "+name), name == "int" || name == "text")
	}
}

func TestRepeatedNamesInSignatures(t *testing.T) {
	wantValid(t, declared("a = A", "a = B"), false)
	wantValid(t, declared("a = A", "b = B", "a = C"), false)
	wantValid(t, declared("a = A", "b = B", "c = C", "b = D"), false)
	wantValid(t, declared("a = A", "a ="), false)
	wantValid(t, declared("a = A | A"), false)
	wantValid(t, declared("a = A | A a"), false)
	wantValid(t, declared("a = A | B | C | A int"), false)
	wantValid(t, declared("a = A | B", "b = C | B"), false)
	wantValid(t, declared("a = A | B", "b = C", "c = D | A"), false)
	wantValid(t, declared("a = A", "b = C | C"), false)
	wantValid(t, declared("a = A int int a | B int int int"), true)
}

// The type has values by another constructor, so that the argument alone makes the signature invalid.
func TestArgumentsThatAreNoTypes(t *testing.T) {
	bad := []string{"", " ", "zz", "A", "B", "Int", "Text", "INT", "int ", " int", "integer", "b1", "bb", "type", "match", "case", "if", "?", "\xff"}
	for _, arg := range bad {
		for at := range 3 {
			for i := range 2 {
				s := declared("a = A | B a b int", "b = C | D text a b")
				s.Types[i].Cons[1].Args[at] = arg
				wantValid(t, s, false)
			}
		}
	}
	for _, arg := range []string{"int", "text", "a", "b"} {
		for at := range 3 {
			s := declared("a = A | B a b int", "b = C | D text a b")
			s.Types[0].Cons[1].Args[at] = arg
			s.Types[1].Cons[1].Args[at] = arg
			wantValid(t, s, true)
		}
	}
}

func TestSignaturesWithTypesWithoutValues(t *testing.T) {
	wantValid(t, declared("a ="), false)
	wantValid(t, declared("a = A", "b ="), false)
	wantValid(t, declared("a = A a"), false)
	wantValid(t, declared("a = A", "b = B b"), false)
	wantValid(t, declared("a = A int a | B a", "b = C"), false)
	wantValid(t, declared("a = A b", "b = B a"), false)
	wantValid(t, declared("a = A b", "b = B a | C"), true)
	wantValid(t, declared("a = A b", "b = B c", "c = C d", "d = D a"), false)
	wantValid(t, declared("a = A b", "b = B c", "c = C d", "d = D a | E"), true)
	wantValid(t, declared("a = A b c", "b = B", "c = C c"), false)
}

func TestInhabitedOfLongChains(t *testing.T) {
	const size = 400
	var s impl.Signature
	var want []string
	for i := range size {
		name := fmt.Sprintf("t%d", i)
		next := fmt.Sprintf("t%d", i+1)
		s.Types = append(s.Types, impl.TypeDecl{Name: name, Cons: []impl.Con{{Name: "C", Args: []string{next}}}})
		want = append(want, name)
	}
	wantInhabited(t, s)
	s.Types[size-1].Cons[0].Args[0] = "int"
	wantInhabited(t, s, want...)
	slices.Reverse(s.Types)
	slices.Reverse(want)
	wantInhabited(t, s, want...)
	wantValid(t, s, false)
}

// roomy returns a signature with unused capacity behind every slice, and the whole of each slice: those of Args
// with what stands behind them.
func roomy() (impl.Signature, [][]string, []impl.Con, []impl.TypeDecl) {
	args := [][]string{{"int", "a", "spare"}, {"b", "text", "spare"}}
	cons := []impl.Con{{Name: "A", Args: args[0][:2]}, {Name: "B"}, {Name: "Spare"}}
	more := []impl.Con{{Name: "C", Args: args[1][:1]}, {Name: "D"}}
	types := []impl.TypeDecl{{Name: "a", Cons: cons[:2]}, {Name: "b", Cons: more}, {Name: "spare"}, {Name: "room"}}
	return impl.Signature{Types: types[:2]}, args, cons, types
}

func TestTypeFunctionsKeepTheirArguments(t *testing.T) {
	s, args, cons, types := roomy()
	for _, name := range []string{"a", "b", "int", "A", "D", "zz", ""} {
		impl.FindType(s, name)
		impl.FindCon(s, name)
		impl.IsType(s, name)
	}
	wantInhabited(t, s, "a", "b")
	wantValid(t, s, true)
	_, argsBefore, consBefore, typesBefore := roomy()
	if !slices.EqualFunc(args, argsBefore, slices.Equal) || !slices.EqualFunc(cons, consBefore, sameCon) || !slices.EqualFunc(types, typesBefore, sameType) {
		t.Errorf("the signature afterwards is %q, with %q behind it", s, types)
	}
}

// overwriteType changes all that a declaration refers to, with the unused capacity.
func overwriteType(d impl.TypeDecl) {
	cons := d.Cons[:cap(d.Cons)]
	for i := range cons {
		overwrite(cons[i].Args)
		cons[i] = impl.Con{Name: "Changed", Args: []string{"changed"}}
	}
}

func TestFoundTypesAreNewMemory(t *testing.T) {
	s, args, cons, types := roomy()
	for _, name := range []string{"a", "b"} {
		d, _ := impl.FindType(s, name)
		overwriteType(d)
	}
	for _, name := range []string{"A", "B", "C", "D"} {
		c, _, _ := impl.FindCon(s, name)
		overwrite(c.Args)
	}
	overwrite(impl.Inhabited(s))
	before, argsBefore, consBefore, typesBefore := roomy()
	if !sameSignature(s, before) || !slices.EqualFunc(args, argsBefore, slices.Equal) || !slices.EqualFunc(cons, consBefore, sameCon) || !slices.EqualFunc(types, typesBefore, sameType) {
		t.Errorf("the signature after its results were overwritten is %q", s)
	}
	wantType(t, s, "a", before.Types[0], true)
	wantCon(t, s, "A", before.Types[0].Cons[0], "a", true)
	wantInhabited(t, s, "a", "b")
}

// Constructors that share their arguments in a signature must not do so in a result.
func TestFoundConstructorsShareNothing(t *testing.T) {
	args := []string{"int", "a", "text"}
	s := impl.Signature{Types: []impl.TypeDecl{{Name: "a", Cons: []impl.Con{
		{Name: "A", Args: args}, {Name: "B", Args: args}, {Name: "C", Args: args[:1]}, {Name: "D", Args: args[1:]}, {Name: "E"},
	}}}}
	for k := range s.Types[0].Cons {
		d, _ := impl.FindType(s, "a")
		overwrite(d.Cons[k].Args)
		d.Cons[k].Args = s.Types[0].Cons[k].Args
		if !sameType(d, s.Types[0]) {
			t.Errorf("after constructor %d was overwritten, the type is %q", k, d)
		}
	}
	wantList(t, "the arguments afterwards", args, []string{"int", "a", "text"})
}

// The set of types is made anew for every call.
func TestTypeFunctionsKeepNoState(t *testing.T) {
	good, bad := declared("a = A | B b", "b = C a"), declared("a = A a", "b = C a")
	for range 3 {
		wantInhabited(t, good, "a", "b")
		wantInhabited(t, bad)
		wantValid(t, good, true)
		wantValid(t, bad, false)
	}
}
