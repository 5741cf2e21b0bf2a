package tests

import (
	"strings"
	"testing"

	"loop.example/pergola/impl"
)

func fitsSchema(t *testing.T) []impl.Def {
	t.Helper()
	return []impl.Def{query(t), enum("Kind", "CAT DOG"), input(t, "In", "a:Int! b:[String] c:In k:Kind!"), input(t, "Opt", "a:Int l:[[Int!]!]"), union("Thing", "Query")}
}

// in is an input's tree with all that it must have.
func in() impl.Value { return tree("k a", word("CAT"), num(1)) }

// P9, P10: what fits which type.
func TestValueFits(t *testing.T) {
	fine := fitsSchema(t)
	for i, c := range []struct {
		types string
		v     impl.Value
	}{
		{"Int Int! [Int] [Int!]! ID [[ID!]]", num(5)}, {"Int ID!", num(-impl.NumMax)},
		{"String ID String! [String] [[ID]!]", text("a")}, {"Kind Kind! String ID [Kind!]", text("DOG")},
		{"Kind Kind! [[Kind]]", word("CAT")}, {"Boolean Boolean! [Boolean]", yes(false)}, {"Boolean", yes(true)},
		{"Int String Boolean ID Kind In [Int!] [[In!]!]", null()},
		{"[Int] [Int!]! [Kind] [[In!]!]! [[String]]", list()}, {"[Int!] [ID] [[Int]] [[Int!]!]!", list(num(1), num(2))},
		{"[Int] [ID] [[Int]]", list(num(1), null())}, {"[[Int]] [[ID!]]", list(list(num(1)), null(), num(2), list())},
		{"[ID!]", list(num(1), text("a"))}, {"[Kind!]", list(word("CAT"), text("DOG"))},
		{"In In! [In!]! [[In]]", in()}, {"In", tree("a k b c", num(1), text("DOG"), text("x"), in())},
		{"In", tree("c b k a", null(), null(), word("DOG"), num(0))}, {"In", tree("a k b", num(1), word("CAT"), list(null(), text("")))},
		{"[In]", list(in(), null(), in())}, {"Opt Opt!", tree("")}, {"Opt [Opt!]!", tree("a", null())}, {"Opt", tree("l", num(1))}, {"Opt", tree("l", list(num(1), list()))},
	} {
		for _, s := range strings.Fields(c.types) {
			if !impl.ValueFits(fine, mustType(t, s), c.v) {
				t.Errorf("%d: %v does not fit %s", i, c.v, s)
			}
		}
	}
}

// P9, P10: what does not.
func TestValueDoesNotFit(t *testing.T) {
	fine := fitsSchema(t)
	for i, c := range []struct {
		types string
		v     impl.Value
	}{
		{"String Boolean Kind In Opt [String] Query Thing None", num(5)}, {"Int Boolean Kind In [Int] [[Kind]] Query", text("a")}, {"Kind", text("cat")}, {"Kind", text("")}, {"Kind", word("Kind")},
		{"String ID Int Boolean In [String]", word("CAT")}, {"Int String ID Kind In", yes(true)}, {"Boolean", num(1)}, {"Boolean", text("true")}, {"Boolean", word("true")},
		{"Int! String! Boolean! ID! Kind! In! [Int]! [[Int]]! Query Thing None [None] [Query]", null()},
		{"Int String ID Boolean Kind In Opt Query", list()}, {"Int", list(num(1))}, {"Kind", list(word("CAT"))}, {"In", list(in())},
		{"[Int!] [ID!]! [[Int!]!]", list(num(1), null())}, {"[Int]", list(num(1), text(""))}, {"[Int]", list(list(num(1)))}, {"[[Int!]]", list(list(num(1), null()))},
		{"[[Int]]", list(list(list()))}, {"[Kind]", list(word("COW"))},
		{"Int String Kind [Int] Boolean ID", in()}, {"In", tree("")}, {"In", tree("a", num(1))}, {"In", tree("k", word("CAT"))}, {"In", tree("a k", null(), word("CAT"))}, {"In", tree("a k", num(1), null())},
		{"In", tree("a k d", num(1), word("CAT"), null())}, {"In", tree("a k A", num(1), word("CAT"), num(1))}, {"In", tree("a k c", num(1), word("CAT"), tree("a", num(1)))}, {"In", tree("a k b", num(1), word("CAT"), num(1))},
		{"In", tree("a k b", num(1), word("CAT"), list(num(1)))}, {"[In]", list(in(), tree(""))}, {"Opt", tree("b", null())}, {"Opt", tree("l", list(null()))}, {"In Opt", text("")}, {"In Opt", num(0)},
		{"Int Int! String ID Boolean Kind In Opt [Int] [[In]]", named("a")}, {"[Int] [[Int]]", list(named("a"))}, {"Opt", tree("a", named("a"))}, {"Int Opt In [Int]", word("null")},
	} {
		for _, s := range strings.Fields(c.types) {
			if impl.ValueFits(fine, mustType(t, s), c.v) {
				t.Errorf("%d: %v fits %s", i, c.v, s)
			}
		}
	}
}

// P9, P10: the value, the type and the schema must be right themselves.
func TestValueFitsNothingWrong(t *testing.T) {
	fine := fitsSchema(t)
	for i, x := range formless() {
		if impl.ValueFits(fine, x, null()) || impl.ValueFits(fine, x, num(1)) || impl.ValueFits(fine, x, list()) {
			t.Errorf("type %d", i)
		}
	}
	for i, v := range []impl.Value{{Kind: 9}, {Num: 1}, num(impl.NumMax + 1), text(strings.Repeat("x", impl.TextMax+1)), list(many(impl.ListMax + 1)...), {Kind: impl.IsNum, Text: "a"},
		tree("a a", many(2)...), {Kind: impl.IsWord, Text: "1"}, {Kind: impl.IsWord}, {Kind: impl.IsWord, Text: "CAT", Num: 1}} {
		for _, s := range []string{"Int", "String", "[Int]", "Opt", "Kind", "ID"} {
			if impl.ValueFits(fine, mustType(t, s), v) {
				t.Errorf("value %d fits %s", i, s)
			}
		}
	}
	int1 := mustType(t, "Int")
	for i, wrong := range [][]impl.Def{nil, {enum("Kind", "CAT")}, {query(t), query(t)}, {query(t), input(t, "In", "a:In!")}, {query(t), union("U", "None")}, {query(t), union("U", "Int")},
		{queryWith(t, argElse(t, "a", "Int", text("")))}, {query(t), {Name: "A"}}} {
		if impl.ValueFits(wrong, int1, num(1)) || impl.ValueFits(wrong, int1, null()) {
			t.Errorf("schema %d", i)
		}
	}
	if !impl.ValueFits([]impl.Def{query(t)}, int1, num(1)) {
		t.Error("the least schema")
	}
}

// P9, P10: as deep as may be, and one deeper; a name of an object leads nowhere.
func TestValueFitsAsDeepAsMayBe(t *testing.T) {
	deep := []impl.Def{query(t), input(t, "In", "c:In")}
	v := tree("")
	for range impl.DeepMax - 1 {
		v = tree("c", v)
	}
	x := mustType(t, "In")
	if !impl.ValueFits(deep, x, v) || impl.ValueFits(deep, x, tree("c", v)) || impl.ValueFits(deep, x, list(v)) {
		t.Error("an input within itself")
	}
	nothing := null()
	for range impl.DeepMax - 1 {
		nothing = tree("c", nothing)
	}
	if !impl.ValueFits(deep, x, nothing) {
		t.Error("nothing at the end")
	}
}

// fitting is values of which some fit each type.
func fitting() []impl.Value {
	out := []impl.Value{word("CAT"), text("DOG"), word("COW"), in(), list(in()), tree("a k c", num(1), word("CAT"), in()), named("a"), list(named("a")), list(word("CAT"), null()), tree("l", list(num(1))),
		list(list(num(1), null())), list(list(text("CAT")), list())}
	return append(out, someValues()[:60]...)
}

// P9: what fits a type fits it without Must; nothing fits just that, and all else with Must, too.
func TestMustAndNothing(t *testing.T) {
	fine := fitsSchema(t)
	for _, name := range []string{"Int", "String", "Boolean", "ID", "Kind", "In", "Opt"} {
		for _, x := range someTypes(name) {
			may, must := x, x
			may.Must, must.Must = false, true
			if !impl.ValueFits(fine, may, null()) || impl.ValueFits(fine, must, null()) {
				t.Errorf("nothing and %s", impl.TypePut(x))
			}
			for _, v := range fitting() {
				if v.Kind != impl.IsNull && impl.ValueFits(fine, may, v) != impl.ValueFits(fine, must, v) {
					t.Errorf("%v and %s", v, impl.TypePut(x))
				}
			}
		}
	}
}

// P10: what fits a type fits a list of it in a list, and, if it is none, alone; so does an empty list.
func TestListsOfWhatFits(t *testing.T) {
	fine := fitsSchema(t)
	for _, name := range []string{"Int", "String", "Boolean", "ID", "Kind", "In", "Opt"} {
		for _, x := range someTypes(name)[:6] {
			of := impl.Type{Of: []impl.Type{x}}
			if !impl.ValueFits(fine, of, list()) {
				t.Errorf("an empty list and %s", impl.TypePut(of))
			}
			for _, v := range fitting() {
				fits := impl.ValueFits(fine, x, v)
				if impl.ValueDeep(v) < impl.DeepMax && impl.ValueFits(fine, of, list(v)) != fits {
					t.Errorf("a list of %v and %s", v, impl.TypePut(of))
				}
				if v.Kind != impl.IsList && v.Kind != impl.IsNull && impl.ValueFits(fine, of, v) != fits {
					t.Errorf("%v alone and %s", v, impl.TypePut(of))
				}
			}
		}
	}
}
