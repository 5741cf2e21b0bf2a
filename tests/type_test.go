package tests

import (
	"reflect"
	"strings"
	"testing"

	"loop.example/pergola/impl"
)

// someTypes is types of a name, up to three deep, with and without Must at each step.
func someTypes(name string) []impl.Type {
	out := []impl.Type{{Name: name}, {Name: name, Must: true}}
	last := out
	for range 2 {
		var next []impl.Type
		for _, x := range last {
			next = append(next, impl.Type{Of: []impl.Type{x}}, impl.Type{Of: []impl.Type{x}, Must: true})
		}
		out = append(out, next...)
		last = next
	}
	return out
}

// P6: a type is read back from its text.
func TestTypesReadBack(t *testing.T) {
	for _, name := range []string{"Int", "ID", "a", "_", "x_1", "abcdefghijkl", "none"} {
		for _, x := range someTypes(name) {
			s := impl.TypePut(x)
			if got, ok := impl.TypeGet(s); !ok || !reflect.DeepEqual(got, x) {
				t.Errorf("%q: %v", s, got)
			}
		}
	}
	for s, x := range map[string]impl.Type{"Int": {Name: "Int"}, "Int!": {Name: "Int", Must: true}, "[Int]": {Of: []impl.Type{{Name: "Int"}}}, "[Int!]": {Of: []impl.Type{{Name: "Int", Must: true}}},
		"[Int]!": {Of: []impl.Type{{Name: "Int"}}, Must: true}, "[[A]!]": {Of: []impl.Type{{Of: []impl.Type{{Name: "A"}}, Must: true}}}} {
		if impl.TypePut(x) != s || !reflect.DeepEqual(mustType(t, s), x) {
			t.Errorf("%s is written %s", s, impl.TypePut(x))
		}
	}
}

// P6: texts that are none.
func TestTypesNotRead(t *testing.T) {
	for _, s := range []string{"", "!", "[]", "[]!", "[!]", "[", "]", "[[", "[[]]", "[Int", "Int]", "[Int]]", "[[Int]", "Int!!", "[Int!!]", "[Int]!!", "!Int", "[[[Int]]]", "[[[Int]]]!", "[[[[Int]]]]", " Int", "Int ", "[ Int]",
		"[Int] !", "Int !", "1", "1a", "In t", "Int,", "[Int,Int]", "[Int][Int]", "abcdefghijklm", "Int\n", "\xc4", "Int?", "(Int)", "[Int)", "]Int[", "$a", strings.Repeat("[", 5000) + "A" + strings.Repeat("]", 5000), strings.Repeat("!", 100)} {
		if x, ok := impl.TypeGet(s); ok || !reflect.DeepEqual(x, impl.Type{}) {
			t.Errorf("%q is read: %v", s, x)
		}
	}
}

// formless is types without a form.
func formless() []impl.Type {
	a := impl.Type{Name: "Int"}
	round := make([]impl.Type, 1)
	round[0].Of = round
	deep := impl.Type{Of: []impl.Type{{Of: []impl.Type{{Of: []impl.Type{a}}}}}}
	return []impl.Type{{}, {Must: true}, {Name: "1"}, {Name: "a b"}, {Name: "abcdefghijklm"}, {Name: "Int!"}, {Name: "[Int]"}, {Name: "Int", Of: []impl.Type{a}}, {Of: []impl.Type{a, a}},
		{Of: []impl.Type{{}}}, {Of: []impl.Type{{Name: "Int", Of: []impl.Type{a}}}}, {Of: []impl.Type{{Of: []impl.Type{{}}}}}, deep, {Of: []impl.Type{deep}}, {Of: round}}
}

// P6: types without a form are written as the empty text.
func TestTypesWithoutForm(t *testing.T) {
	for i, x := range formless() {
		if s := impl.TypePut(x); s != "" {
			t.Errorf("%d: %q", i, s)
		}
	}
	if impl.TypePut(impl.Type{Name: "Int", Of: []impl.Type{}}) != "Int" {
		t.Error("an empty list is none")
	}
}

// P6: each reading is new memory.
func TestTypeGetIsNewMemory(t *testing.T) {
	a, b := mustType(t, "[[A]]"), mustType(t, "[[A]]")
	a.Of[0].Of[0].Name = "B"
	_ = append(a.Of, impl.Type{Name: "C"})
	if impl.TypePut(b) != "[[A]]" || impl.TypePut(a) != "[[B]]" {
		t.Error(impl.TypePut(a), impl.TypePut(b))
	}
}
