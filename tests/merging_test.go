package tests

import (
	"slices"
	"strings"
	"testing"

	"loop.example/pergola/impl"
)

// says asks for what says that a value is to be another one.
func says(t *testing.T, a string, b string, want string) {
	t.Helper()
	from, fromStays := roomy(readValue(t, a))
	to, toStays := roomy(readValue(t, b))
	got := impl.MergeOf(from, to)
	if written(got) != want || !fromStays() || !toStays() {
		t.Errorf("from %s to %s: %s, not %s", a, b, written(got), want)
	}
	isNew(t, a+" "+b, got, from, to)
}

// merges asks for a value behind what another one says, once and twice.
func merges(t *testing.T, v string, m string, want string) {
	t.Helper()
	before, valueStays := roomy(readValue(t, v))
	said, saidStays := roomy(readValue(t, m))
	got := impl.MergeDo(before, said)
	if impl.JsonPut(got) != want || !valueStays() || !saidStays() {
		t.Errorf("%s behind %s: %s, not %s", v, m, impl.JsonPut(got), want)
	}
	isNew(t, v+" "+m, got, before, said)
	if again := impl.MergeDo(got, said); impl.JsonPut(again) != want {
		t.Errorf("%s behind %s again: %s", v, m, impl.JsonPut(again))
	}
}

// P54: one of both no tree: all of the other.
func TestMergeOfNoTrees(t *testing.T) {
	plain := []string{"null", "true", "0", `"a"`, "[]", "[1]", "[[2]]"}
	for _, a := range plain {
		for _, b := range plain {
			says(t, a, b, b)
		}
		for _, b := range []string{"{}", `{"a":1}`, `{"a":null}`, `{"a":{"b":null}}`} {
			says(t, a, b, b)
			says(t, b, a, a)
		}
	}
	says(t, "1", `{"b":1,"a":[{"d":1,"c":2}]}`, `{"a":[{"c":2,"d":1}],"b":1}`)
	says(t, `{"x":1}`, `[{"b":1,"a":2}]`, `[{"a":2,"b":1}]`)
}

// P54: names that go, that come, that have something else, and those that stay.
func TestMergeOfTrees(t *testing.T) {
	says(t, "{}", "{}", "{}")
	says(t, `{"a":1}`, `{"a":1}`, "{}")
	says(t, `{"a":1}`, `{}`, `{"a":null}`)
	says(t, `{}`, `{"a":1}`, `{"a":1}`)
	says(t, `{"a":1}`, `{"a":2}`, `{"a":2}`)
	says(t, `{"c":1,"b":2}`, `{"a":3,"b":2}`, `{"a":3,"c":null}`)
	says(t, `{"b":1,"a":[1,{"c":null}]}`, `{"a":[1,{"c":2}],"d":"x"}`, `{"a":[1,{"c":2}],"b":null,"d":"x"}`)
	says(t, `{"a":{"x":1,"y":2},"k":5}`, `{"a":{"y":2,"z":{}},"k":5}`, `{"a":{"x":null,"z":{}}}`)
	says(t, `{"a":{"x":1},"b":{"x":1}}`, `{"a":{"x":1},"b":{"x":2}}`, `{"b":{"x":2}}`)
	says(t, `{"a":{"b":{"c":1,"d":2}}}`, `{"a":{"b":{"d":2}}}`, `{"a":{"b":{"c":null}}}`)
	says(t, `{"a":{"b":1}}`, `{"a":[1]}`, `{"a":[1]}`)
	says(t, `{"a":[1]}`, `{"a":{"b":1}}`, `{"a":{"b":1}}`)
	says(t, `{"a":[1,2]}`, `{"a":[1]}`, `{"a":[1]}`)
	says(t, `{"a":[{"b":1,"c":2}]}`, `{"a":[{"c":2,"b":1}]}`, "{}")
	says(t, `{"b":{"d":1,"c":2},"a":1}`, `{"a":1,"b":{"c":2,"d":1}}`, "{}")
	says(t, `{"z":1}`, `{"d":{"y":1,"x":2},"c":[{"b":1,"a":2}]}`, `{"c":[{"a":2,"b":1}],"d":{"x":2,"y":1},"z":null}`)
}

// P54: a name of nothing is one that has nothing, in both values.
func TestMergeOfNamesOfNothing(t *testing.T) {
	says(t, `{"a":null}`, `{"a":null}`, "{}")
	says(t, `{"a":null}`, `{}`, `{"a":null}`)
	says(t, `{}`, `{"a":null}`, `{"a":null}`)
	says(t, `{"a":1}`, `{"a":null}`, `{"a":null}`)
	says(t, `{"a":null}`, `{"a":1}`, `{"a":1}`)
	says(t, `{"a":{"b":1}}`, `{"a":{"b":null}}`, `{"a":{"b":null}}`)
	says(t, `{"a":{"b":null}}`, `{"a":{}}`, `{"a":{"b":null}}`)
	says(t, `{"a":{"b":null}}`, `{"a":null}`, `{"a":null}`)
	says(t, `{}`, `{"a":{"b":null}}`, `{"a":{"b":null}}`)
	says(t, `{"a":null}`, `{"a":{"b":null}}`, `{"a":{"b":null}}`)
}

// P54: what is said may have more names than a value, and is told all the same.
func TestMergeOfManyNames(t *testing.T) {
	names := manyNames(2 * impl.ListMax)
	a := impl.Value{Kind: impl.IsTree, Names: names[:impl.ListMax], List: many(impl.ListMax)}
	b := impl.Value{Kind: impl.IsTree, Names: names[impl.ListMax:], List: many(impl.ListMax)}
	m := impl.MergeOf(a, b)
	if want := (impl.Value{Kind: impl.IsTree, Names: names, List: append(make([]impl.Value, impl.ListMax), many(impl.ListMax)...)}); !alike(m, want) {
		t.Errorf("%s", written(m))
	}
	if got := impl.MergeDo(a, m); impl.ValueOk(m) || !alike(got, a) {
		t.Errorf("behind what is not ok: %s", impl.JsonPut(got))
	}
	within := impl.MergeOf(tree("x", a), tree("x", b))
	if !alike(within, tree("x", m)) {
		t.Errorf("%s", written(within))
	}
}

// P55: names that go, that come, that are merged, and those that stay.
func TestMergeDo(t *testing.T) {
	merges(t, `{"a":{"x":1,"y":2},"k":5}`, `{"a":{"x":null,"z":{"n":null}}}`, `{"a":{"y":2,"z":{}},"k":5}`)
	merges(t, `{"b":1,"a":[1,{"c":null}]}`, `{"a":[1,{"c":2}],"b":null,"d":"x"}`, `{"a":[1,{"c":2}],"d":"x"}`)
	merges(t, `{"a":1}`, `{"a":2}`, `{"a":2}`)
	merges(t, `{"a":1}`, `{"b":2}`, `{"a":1,"b":2}`)
	merges(t, `{"b":1}`, `{"a":2}`, `{"a":2,"b":1}`)
	merges(t, `{"a":1}`, `{"a":null}`, "{}")
	merges(t, `{"a":1}`, `{"b":null}`, `{"a":1}`)
	merges(t, `{"a":[1,2]}`, `{"a":[{"b":null}]}`, `{"a":[{"b":null}]}`)
	merges(t, `{"a":{"b":{"c":{"d":1,"e":2}}}}`, `{"a":{"b":{"c":{"d":null}}}}`, `{"a":{"b":{"c":{"e":2}}}}`)
	merges(t, `{"a":1}`, `{"a":{"b":null,"c":{"d":null,"e":[]}}}`, `{"a":{"c":{"e":[]}}}`)
	merges(t, `{"a":{"b":1}}`, `{"a":[]}`, `{"a":[]}`)
	merges(t, `{"a":null,"b":{"c":null}}`, `{}`, `{"a":null,"b":{"c":null}}`)
	merges(t, `{"a":null,"b":{"c":null}}`, `{"b":{"d":1}}`, `{"a":null,"b":{"c":null,"d":1}}`)
	merges(t, `{"a":null}`, `{"a":null}`, "{}")
}

// P55: no tree is said, or of no tree; an empty tree leaves a tree.
func TestMergeDoOfNoTrees(t *testing.T) {
	plain := []string{"null", "true", "0", `"a"`, "[]", "[1]", "[[2]]"}
	for _, a := range plain {
		for _, b := range append(plain, "{}") {
			merges(t, b, a, a)
		}
		merges(t, a, "{}", "{}")
		merges(t, a, `{"b":1,"a":{"d":2,"c":null},"e":null}`, `{"a":{"d":2},"b":1}`)
		merges(t, `{"a":1}`, a, a)
	}
	for _, v := range []string{"{}", `{"a":1}`, `{"a":null}`, `{"a":{"b":null},"c":[{"d":null}]}`} {
		merges(t, v, "{}", v)
	}
}

// P55: all names are in order, also of what is as it was.
func TestMergeDoIsSorted(t *testing.T) {
	merges(t, `{"b":{"d":1,"c":2},"a":[{"f":1,"e":2}]}`, "{}", `{"a":[{"e":2,"f":1}],"b":{"c":2,"d":1}}`)
	merges(t, "{}", `{"b":{"d":1,"c":2},"a":[{"f":1,"e":2}]}`, `{"a":[{"e":2,"f":1}],"b":{"c":2,"d":1}}`)
	merges(t, "1", `[{"b":{"d":1,"c":2},"a":3}]`, `[{"a":3,"b":{"c":2,"d":1}}]`)
	merges(t, `{"c":1,"a":{"z":1}}`, `{"b":2,"a":{"y":2,"x":[{"b":1,"a":2}]}}`, `{"a":{"x":[{"a":2,"b":1}],"y":2,"z":1},"b":2,"c":1}`)
}

// P55: what is said is not ok: the value as it is, sorted; a value that is not ok: nothing.
func TestMergesOfWhatIsNotOk(t *testing.T) {
	v, want := tree("b a", list(tree("d c", num(1), num(2))), num(3)), tree("a b", num(3), list(tree("c d", num(2), num(1))))
	for i, x := range append(notOkValues(), endless(1), endless(12), twofold(num(1), 100), ring(1, 2)) {
		for _, m := range []impl.Value{x, list(x), tree("a x", null(), x)} {
			if got := impl.MergeDo(v, m); !alike(got, want) {
				t.Errorf("%d: %s", i, impl.JsonPut(got))
			}
			for _, other := range []impl.Value{null(), num(1), v, tree(""), m} {
				if got := impl.MergeDo(m, other); !alike(got, null()) {
					t.Errorf("%d: of what is not ok: %s", i, impl.JsonPut(got))
				}
				if a, b := impl.MergeOf(m, other), impl.MergeOf(other, m); !alike(a, null()) || !alike(b, null()) {
					t.Errorf("%d: what is said: %s, %s", i, written(a), written(b))
				}
			}
		}
	}
}

// P55: what would not be ok is not done, in all or not at all; what just is, is.
func TestMergeDoOfWhatWouldNotBeOk(t *testing.T) {
	names := manyNames(impl.ListMax)
	full := `{"` + strings.Join(names, `":0,"`) + `":0}`
	more := strings.Replace(full, "}", `,"x":1}`, 1)
	merges(t, full, `{"x":1}`, full)
	merges(t, full, `{"na":1,"x":1}`, full)
	merges(t, full, `{"na":null,"x":1}`, strings.Replace(more, `"na":0,`, "", 1))
	merges(t, full, `{"x":null,"na":1}`, strings.Replace(full, "0", "1", 1))
	merges(t, strings.Replace(more, `"nl":0,`, "", 1), `{"nl":0}`, strings.Replace(more, `"nl":0,`, "", 1))
	merges(t, `{"k":1,"a":`+full+"}", `{"a":{"x":1},"k":2}`, `{"a":`+full+`,"k":1}`)
	merges(t, `{"k":1,"a":{"b":`+full+"}}", `{"a":{"b":{"x":1}},"k":2,"l":[]}`, `{"a":{"b":`+full+`},"k":1}`)
	merges(t, `{"k":1,"a":`+full+"}", `{"a":{"x":1,"nl":null},"k":2}`, `{"a":`+strings.Replace(more, `,"nl":0`, "", 1)+`,"k":2}`)
	slices.Reverse(names)
	merges(t, `{"`+strings.Join(names, `":0,"`)+`":0}`, `{"x":1}`, full)
	deep := impl.JsonPut(nested(num(1), impl.DeepMax-2))
	merges(t, `{"a":1}`, `{"a":`+deep+"}", `{"a":`+deep+"}")
}

// saidByHand is what says that one value, sorted, is to be another one: name by name of both.
func saidByHand(a impl.Value, b impl.Value) impl.Value {
	if a.Kind != impl.IsTree || b.Kind != impl.IsTree {
		return b
	}
	out := tree("")
	for _, name := range slices.Compact(slices.Sorted(slices.Values(slices.Concat(a.Names, b.Names)))) {
		x, was := member(a, name)
		y, is := member(b, name)
		if was && is && alike(x, y) {
			continue
		}
		if was && is {
			y = saidByHand(x, y)
		}
		out.Names, out.List = append(out.Names, name), append(out.List, y)
	}
	return out
}

// mergedByHand is a value behind what another one says, whatever its limits.
func mergedByHand(v impl.Value, m impl.Value) impl.Value {
	if m.Kind != impl.IsTree {
		return m
	}
	out := tree("")
	if v.Kind == impl.IsTree {
		out.Names, out.List = slices.Clone(v.Names), slices.Clone(v.List)
	}
	for i, name := range m.Names {
		at := slices.Index(out.Names, name)
		switch {
		case at < 0 && m.List[i].Kind == impl.IsNull:
		case at < 0:
			out.Names, out.List = append(out.Names, name), append(out.List, mergedByHand(null(), m.List[i]))
		case m.List[i].Kind == impl.IsNull:
			out.Names, out.List = slices.Delete(out.Names, at, at+1), slices.Delete(out.List, at, at+1)
		default:
			out.List[at] = mergedByHand(out.List[at], m.List[i])
		}
	}
	return out
}

// hasNothing says whether a value has a name of nothing, or holds a tree that has one.
func hasNothing(v impl.Value) bool {
	return slices.ContainsFunc(v.List, func(x impl.Value) bool {
		return v.Kind == impl.IsTree && (x.Kind == impl.IsNull || hasNothing(x))
	})
}

// P54, P55, P79: what says that a value is to be another one leads there, if that has no name of nothing; said again it stays so; of two trees it is empty just if they are the same.
func TestMergesByHand(t *testing.T) {
	found := map[string]int{}
	for _, p := range pairs(t, 4000) {
		a, b := p[0], p[1]
		m := impl.MergeOf(a, b)
		if got := impl.MergeDo(a, m); impl.ValueOk(m) && !hasNothing(b) {
			found["there"]++
			if !alike(got, sortedByHand(b)) {
				t.Fatalf("from %s to %s by %s: %s", impl.JsonPut(a), impl.JsonPut(b), written(m), impl.JsonPut(got))
			}
		}
		if want := saidByHand(sortedByHand(a), sortedByHand(b)); !alike(m, want) {
			t.Fatalf("from %s to %s: %s, not %s", impl.JsonPut(a), impl.JsonPut(b), written(m), written(want))
		}
		if a.Kind == impl.IsTree && b.Kind == impl.IsTree {
			same := impl.ValueSame(impl.ValueSorted(a), impl.ValueSorted(b))
			if same != alike(m, tree("")) {
				t.Errorf("from %s to %s: %s", impl.JsonPut(a), impl.JsonPut(b), written(m))
			}
			if same {
				found["same"]++
			}
		}
		got := impl.MergeDo(a, b)
		if want := sortedByHand(mergedByHand(a, b)); !alike(got, want) || !alike(impl.MergeDo(got, b), got) {
			t.Fatalf("%s behind %s: %s, not %s", impl.JsonPut(a), impl.JsonPut(b), impl.JsonPut(got), impl.JsonPut(want))
		}
		if left := impl.MergeDo(a, tree("")); a.Kind == impl.IsTree && !alike(left, sortedByHand(a)) || a.Kind != impl.IsTree && !alike(left, tree("")) {
			t.Errorf("%s behind {}: %s", impl.JsonPut(a), impl.JsonPut(left))
		}
	}
	if found["there"] < 1000 || found["same"] < 100 {
		t.Errorf("too few: %v", found)
	}
}
