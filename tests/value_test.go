package tests

import (
	"strings"
	"testing"

	"loop.example/pergola/impl"
)

// P1: each kind, as it may be.
func TestValueOkOfEachKind(t *testing.T) {
	for i, v := range []impl.Value{null(), yes(false), yes(true), num(0), num(impl.NumMax), num(-impl.NumMax),
		text(""), text(strings.Repeat("x", impl.TextMax)), text("\x00\xff\""), list(), list(null(), yes(true), num(3)),
		list(many(impl.ListMax)...), tree(""), tree("a", null()), tree("b a", num(1), list()),
		{Kind: impl.IsTree, Names: manyNames(impl.ListMax), List: many(impl.ListMax)},
		{Kind: impl.IsList, List: []impl.Value{}, Names: []string{}}, {List: []impl.Value{}, Names: []string{}}} {
		if !impl.ValueOk(v) {
			t.Errorf("%d: %v is not ok", i, v)
		}
	}
}

// P1: one more than each limit.
func TestValueOkOneMore(t *testing.T) {
	for i, v := range []impl.Value{num(impl.NumMax + 1), num(-impl.NumMax - 1), {Kind: impl.IsBool, Num: 2}, {Kind: impl.IsBool, Num: -1},
		text(strings.Repeat("x", impl.TextMax+1)), list(many(impl.ListMax + 1)...),
		{Kind: impl.IsTree, Names: manyNames(impl.ListMax + 1), List: many(impl.ListMax + 1)},
		{Kind: -1}, {Kind: 8}, {Kind: 6}, {Kind: 7}, named("a"), word("a"), list(named("a")), tree("a", word("a"))} {
		if impl.ValueOk(v) {
			t.Errorf("%d: %v is ok", i, v)
		}
	}
}

// P1: a part that a kind does not have is 0 or empty.
func TestValueOkPartsOfOtherKinds(t *testing.T) {
	parts := []struct {
		name  string
		set   func(v *impl.Value)
		kinds []impl.Value
	}{
		{"Num", func(v *impl.Value) { v.Num = 1 }, []impl.Value{null(), text("a"), list(num(1)), tree("a", num(1))}},
		{"Text", func(v *impl.Value) { v.Text = "a" }, []impl.Value{null(), yes(true), num(1), list(num(1)), tree("a", num(1))}},
		{"List", func(v *impl.Value) { v.List = []impl.Value{null()} }, []impl.Value{null(), yes(true), num(1), text("a")}},
		{"Names", func(v *impl.Value) { v.Names = []string{"a"} }, []impl.Value{null(), yes(true), num(1), text("a"), list(num(1)), list()}},
	}
	for _, p := range parts {
		for i, v := range p.kinds {
			p.set(&v)
			if impl.ValueOk(v) || impl.ValueOk(list(v)) || impl.ValueOk(tree("a", v)) {
				t.Errorf("%s of %d: %v is ok", p.name, i, v)
			}
		}
	}
}

// P1: names of trees are names, each once, as many as values.
func TestValueOkNames(t *testing.T) {
	for _, name := range []string{"a", "Z", "_", "__", "a1", "_1", "abcdefghijkl", "A_9"} {
		if !impl.ValueOk(impl.Value{Kind: impl.IsTree, Names: []string{name}, List: many(1)}) {
			t.Errorf("no name: %q", name)
		}
	}
	for _, name := range []string{"", "1", "1a", "abcdefghijklm", "a b", "a-b", "a.b", "\xe4", "a\xe4", "ä", " a", "a ", "a\x00", "$a", "@", "[", "`", "{", "/", ":"} {
		if impl.ValueOk(impl.Value{Kind: impl.IsTree, Names: []string{name}, List: many(1)}) {
			t.Errorf("a name: %q", name)
		}
	}
	for i, v := range []impl.Value{tree("a a", num(1), num(2)), tree("a b a", many(3)...), tree("a"), tree("a b", num(1)), tree("a", num(1), num(2)), tree("", num(1))} {
		if impl.ValueOk(v) {
			t.Errorf("%d: %v is ok", i, v)
		}
	}
	if !impl.ValueOk(tree("a b", tree("a", num(1)), tree("a", num(1)))) || !impl.ValueOk(tree("a A", many(2)...)) {
		t.Error("a name in two trees, or large and small, is not twice")
	}
}

// P1: DeepMax, and one deeper; all within is ok, and less deep; a list of it alone is one deeper.
func TestValueDeep(t *testing.T) {
	for _, v := range []impl.Value{null(), num(1), text("a"), list(), tree("")} {
		if impl.ValueDeep(v) != 1 {
			t.Errorf("%v: %d deep", v, impl.ValueDeep(v))
		}
		for times := range impl.DeepMax + 3 {
			x := nested(v, times)
			if impl.ValueDeep(x) != times+1 || impl.ValueOk(x) != (times < impl.DeepMax) {
				t.Errorf("%v: %d deep, ok %v", x, impl.ValueDeep(x), impl.ValueOk(x))
			}
		}
	}
	for want, v := range map[int]impl.Value{2: list(num(1), num(2)), 3: tree("a b c", num(1), list(num(1)), num(2)), 4: list(list(num(1)), list(list(num(1))), num(1)),
		5: list(nested(num(1), 3), nested(num(1), 1))} {
		if impl.ValueDeep(v) != want {
			t.Errorf("%v: %d deep", v, impl.ValueDeep(v))
		}
	}
	if impl.ValueOk(list(num(1), nested(num(1), impl.DeepMax-1))) || impl.ValueOk(tree("a b", num(1), nested(num(1), impl.DeepMax-1))) {
		t.Error("too deep behind what is not")
	}
	deep := nested(num(1), 5000)
	if impl.ValueDeep(deep) != 5001 || impl.ValueOk(deep) {
		t.Error("far too deep")
	}
	if impl.ValueDeep(impl.Value{Kind: impl.IsNum, List: []impl.Value{list(num(1))}}) != 3 {
		t.Error("what is within counts, whatever its kind")
	}
	for _, v := range someValues() {
		if !impl.ValueOk(v) {
			t.Fatalf("%v is not ok", v)
		}
		for _, x := range v.List {
			if !impl.ValueOk(x) || impl.ValueDeep(x) >= impl.ValueDeep(v) {
				t.Errorf("%v within %v", x, v)
			}
		}
		if impl.ValueDeep(list(v)) != impl.ValueDeep(v)+1 || impl.ValueOk(list(v)) != (impl.ValueDeep(v) < impl.DeepMax) {
			t.Errorf("a list of %v", v)
		}
	}
}

// P1, P2: a value that holds itself is not ok, and nothing hangs on it.
func TestValueThatHoldsItself(t *testing.T) {
	for _, wide := range []int{1, 2, 12, 1000} {
		v := endless(wide)
		if impl.ValueOk(v) || impl.JsonPut(v) != "" || impl.ValueDeep(v) <= impl.DeepMax || !impl.ValueSame(v, v) || impl.ValueSame(v, list()) {
			t.Errorf("%d wide", wide)
		}
		if _, ok := impl.TreeGet(v, "a"); ok {
			t.Errorf("%d wide: a name", wide)
		}
	}
}

// wide is a list of so many values, nothing all of them but one, which is a list of a number.
func wide(count int, at int, n int) impl.Value {
	v := list(make([]impl.Value, count)...)
	v.List[at] = list(num(n))
	return v
}

// P1, P2: however many values are within, and wherever the one is that counts.
func TestValuesOfManyValues(t *testing.T) {
	const count = 1<<20 + 5
	for _, at := range []int{0, count - 1} {
		v := wide(count, at, 1)
		if impl.ValueDeep(v) != 3 || impl.ValueDeep(list(v, null())) != 4 || impl.ValueDeep(list(null(), v)) != 4 {
			t.Errorf("deep by %d", at)
		}
		if !impl.ValueSame(v, wide(count, at, 1)) || impl.ValueSame(v, wide(count, at, 2)) || impl.ValueSame(v, wide(count+1, at, 1)) {
			t.Errorf("the same by %d", at)
		}
	}
	const deep = 1<<20 + 3
	one, two := nested(num(1), deep), nested(num(2), deep)
	if impl.ValueDeep(one) != deep+1 || !impl.ValueSame(one, nested(num(1), deep)) || impl.ValueSame(one, two) {
		t.Error("as deep")
	}
}

// twofold is a list of twice the same list, and so on, so many times: 2 to the power of times values, in little room.
func twofold(v impl.Value, times int) impl.Value {
	for range times {
		v = list(v, v)
	}
	return v
}

// P1, P2: a list that is within many others need not be walked through again.
func TestValuesOfSharedLists(t *testing.T) {
	v := twofold(num(1), 200)
	if impl.ValueDeep(v) != 201 || impl.ValueDeep(list(num(1), list(v), v)) != 203 || impl.ValueDeep(list(v, num(1), list(num(1), v, list()))) != 203 {
		t.Errorf("%d deep", impl.ValueDeep(v))
	}
	if !impl.ValueSame(v, twofold(num(1), 200)) || impl.ValueSame(v, twofold(num(2), 200)) || impl.ValueSame(v, twofold(num(1), 199)) {
		t.Error("the same")
	}
	shared := many(3)
	part, whole := list(shared[:2]...), list(shared...)
	if impl.ValueSame(list(part, part), list(part, whole)) || impl.ValueSame(list(whole, part), list(whole, whole)) {
		t.Error("lists that begin in one place are not the same")
	}
	shared[2] = list(list())
	if impl.ValueDeep(list(part, whole)) != 4 || impl.ValueDeep(list(whole, part)) != 4 || impl.ValueDeep(list(part, list(num(1)))) != 3 {
		t.Error("lists that begin in one place are not as deep")
	}
}

// ring is a list that holds itself behind so many others, each with a number.
func ring(numbers ...int) impl.Value {
	first := make([]impl.Value, 2)
	v := list(first...)
	for i := len(numbers) - 1; i > 0; i-- {
		v = list(num(numbers[i]), v)
	}
	first[0], first[1] = num(numbers[0]), v
	return list(first...)
}

// P1, P2: rings are walked through just once.
func TestValuesOfRings(t *testing.T) {
	for _, v := range []impl.Value{ring(1), ring(1, 2), ring(1, 2, 3), ring(make([]int, 100000)...), list(num(1), list(num(1)), ring(1, 2))} {
		if impl.ValueDeep(v) <= impl.DeepMax || !impl.ValueSame(v, v) || impl.ValueSame(v, list(v)) || impl.ValueOk(v) {
			t.Errorf("a ring: %d", impl.ValueDeep(v))
		}
	}
	if !impl.ValueSame(ring(1), ring(1, 1)) || !impl.ValueSame(ring(1, 1, 1), ring(1, 1)) || impl.ValueSame(ring(1, 1, 1), ring(1, 2)) || impl.ValueSame(ring(1, 2), ring(2, 1)) {
		t.Error("rings")
	}
	many := list()
	for range 500 {
		many.List = append(many.List, ring(make([]int, 500)...))
	}
	if impl.ValueDeep(many) <= impl.DeepMax || !impl.ValueSame(many, many) {
		t.Error("many rings")
	}
}

// P2: all of it is the same, in order; so both ways, and just if it is written the same.
func TestValueSame(t *testing.T) {
	values := someValues()
	for _, a := range values {
		for _, b := range values {
			want := alike(a, b)
			if impl.ValueSame(a, b) != want || impl.ValueSame(b, a) != want || (impl.JsonPut(a) == impl.JsonPut(b)) != want {
				t.Fatalf("%v and %v", a, b)
			}
		}
	}
}

// P2: also of what is not ok all parts count.
func TestValueSameOfEachPart(t *testing.T) {
	full := impl.Value{Kind: 9, Num: 1, Text: "a", List: []impl.Value{num(1), list(num(2))}, Names: []string{"a", "a", "b"}}
	others := []impl.Value{full, full, full, full, full, full, full, full, full}
	others[0].Kind = 8
	others[1].Num = 2
	others[2].Text = "b"
	others[3].List = []impl.Value{num(1)}
	others[4].List = []impl.Value{num(1), list(num(3))}
	others[5].List = []impl.Value{num(1), list(num(2)), null()}
	others[6].Names = []string{"a", "a"}
	others[7].Names = []string{"a", "b", "a"}
	others[8].Names = []string{"a", "a", "b", ""}
	for i, x := range others {
		if impl.ValueSame(full, x) || impl.ValueSame(x, full) {
			t.Errorf("%d is the same", i)
		}
	}
	if !impl.ValueSame(full, full) || !impl.ValueSame(nested(full, 5000), nested(full, 5000)) || impl.ValueSame(nested(full, 5000), nested(others[0], 5000)) {
		t.Error("the same is another one, or another one the same")
	}
}

// P2: an empty and a nil list are the same.
func TestValueSameEmptyAndNil(t *testing.T) {
	a := impl.Value{Kind: impl.IsTree, List: []impl.Value{}, Names: []string{}}
	b := impl.Value{Kind: impl.IsTree}
	if !impl.ValueSame(a, b) || !impl.ValueSame(b, a) || !impl.ValueSame(list(a), list(b)) || impl.ValueSame(list(a), list()) {
		t.Error("empty and nil")
	}
}

// P5: the name of a tree leads to its value.
func TestTreeGet(t *testing.T) {
	v := tree("b a c d", num(1), list(num(2), tree("a", num(3))), null(), tree("e", num(4)))
	for i, name := range v.Names {
		x, ok := impl.TreeGet(v, name)
		if !ok || !impl.ValueSame(x, v.List[i]) {
			t.Errorf("%s: %v", name, x)
		}
	}
	wrong := []struct {
		v    impl.Value
		name string
	}{{v, "e"}, {v, ""}, {v, "A"}, {v, "bb"}, {v, "0"}, {tree(""), "a"}, {null(), "a"}, {null(), ""}, {text("a"), "a"}, {num(1), ""}, {list(v), "a"},
		{tree("a a", num(1), num(2)), "a"}, {tree("a 1", num(1), num(2)), "a"}, {tree("a", num(impl.NumMax+1)), "a"}, {tree("a b", num(1), word("x")), "a"},
		{tree("a b", num(1), named("x")), "a"}, {tree("a", nested(num(1), impl.DeepMax-1)), "a"}, {tree("a b", num(1)), "a"},
		{impl.Value{Kind: impl.IsTree, Names: []string{"a"}, List: many(1), Num: 1}, "a"}, {impl.Value{Kind: impl.IsTree, Names: []string{"a"}, List: many(1), Text: "a"}, "a"},
		{impl.Value{Kind: impl.IsList, Names: []string{"a"}, List: many(1)}, "a"}, {word("a"), "a"}, {impl.Value{Kind: 9, Names: []string{"a"}, List: many(1)}, "a"},
		{tree("a b c d e f g h i j k l m", many(13)...), "a"}}
	for i, c := range wrong {
		if x, ok := impl.TreeGet(c.v, c.name); ok || !alike(x, null()) {
			t.Errorf("wrong %d: %v", i, x)
		}
	}
	if x, ok := impl.TreeGet(tree("a", nested(num(1), impl.DeepMax-2)), "a"); !ok || impl.ValueDeep(x) != impl.DeepMax-1 {
		t.Error("as deep as may be")
	}
}

// P5: what is got is new memory.
func TestTreeGetIsNewMemory(t *testing.T) {
	inner := tree("x", list(num(2)))
	v := tree("a b", list(num(1), inner), list(num(1)))
	before := impl.JsonPut(v)
	x, _ := impl.TreeGet(v, "a")
	x.List[0] = num(9)
	x.List[1].Names[0] = "y"
	x.List[1].List[0].List[0] = num(9)
	_ = append(x.List, num(9))
	_ = append(x.List[1].List, num(9))
	_ = append(x.List[1].Names, "z")
	if impl.JsonPut(v) != before {
		t.Errorf("%s was %s", impl.JsonPut(v), before)
	}
}

// What is handed in stays as it was, also behind its end.
func TestValuesStay(t *testing.T) {
	lists, listsStay := withRoom([]impl.Value{num(1), list(num(2))}, text("mark"))
	names, namesStay := withRoom([]string{"a", "b"}, "mark")
	v := impl.Value{Kind: impl.IsTree, List: lists, Names: names}
	impl.ValueOk(v)
	impl.ValueSame(v, v)
	impl.ValueDeep(v)
	impl.JsonPut(v)
	impl.TreeGet(v, "a")
	impl.ValueFits(nil, impl.Type{}, v)
	if !listsStay() || !namesStay() {
		t.Error("an argument was written to")
	}
}
