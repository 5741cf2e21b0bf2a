package tests

import (
	"math/rand"
	"slices"
	"testing"

	"loop.example/pergola/impl"
)

// anyTree is a value that is ok, at most so deep: its trees have some names of a few, in any order.
func anyTree(r *rand.Rand, deep int) impl.Value {
	switch kind := r.Intn(5); {
	case deep > 1 && kind < 3:
		v := impl.Value{Kind: impl.IsTree}
		for _, i := range r.Perm(6)[:r.Intn(5)] {
			v.Names = append(v.Names, []string{"a", "b", "c", "aa", "B", "_"}[i])
			v.List = append(v.List, anyTree(r, deep-1))
		}
		return v
	case deep > 1 && kind == 3:
		return list(some(r, 0, 3, func() impl.Value { return anyTree(r, deep-1) })...)
	}
	return []impl.Value{null(), null(), yes(false), yes(true), num(0), num(1), text(""), text("1"), list(), tree("")}[r.Intn(10)]
}

// anyOther is a value that is much like another one.
func anyOther(r *rand.Rand, v impl.Value) impl.Value {
	if r.Intn(6) == 0 {
		return anyTree(r, impl.DeepMax+1-impl.ValueDeep(v))
	}
	out := impl.Value{Kind: v.Kind, Num: v.Num, Text: v.Text}
	for _, i := range r.Perm(len(v.List)) {
		if r.Intn(8) == 0 {
			continue
		}
		if v.Kind == impl.IsTree {
			out.Names = append(out.Names, v.Names[i])
		}
		out.List = append(out.List, anyOther(r, v.List[i]))
	}
	if v.Kind == impl.IsTree && r.Intn(4) == 0 && !slices.Contains(out.Names, "more") && len(out.List) < impl.ListMax {
		out.Names, out.List = append(out.Names, "more"), append(out.List, num(r.Intn(3)))
	}
	if v.Kind == impl.IsList && r.Intn(4) == 0 && len(out.List) < impl.ListMax {
		out.List = append(out.List, null())
	}
	return out
}

// pairs is pairs of values that are ok, each much like the other, or the same, or any; always the same ones.
func pairs(t *testing.T, count int) [][2]impl.Value {
	t.Helper()
	r := rand.New(rand.NewSource(43))
	var out [][2]impl.Value
	for len(out) < count {
		a := anyTree(r, impl.DeepMax)
		b := anyOther(r, a)
		switch r.Intn(8) {
		case 0:
			b = anyTree(r, impl.DeepMax)
		case 1:
			b = a
		}
		if impl.ValueOk(a) && impl.ValueOk(b) {
			out = append(out, [2]impl.Value{a, b})
		}
	}
	return out
}

// sortedByHand is a value with all names in order.
func sortedByHand(v impl.Value) impl.Value {
	out := impl.Value{Kind: v.Kind, Num: v.Num, Text: v.Text, Names: slices.Sorted(slices.Values(v.Names))}
	for i, x := range v.List {
		if v.Kind == impl.IsTree {
			x = v.List[slices.Index(v.Names, out.Names[i])]
		}
		out.List = append(out.List, sortedByHand(x))
	}
	return out
}

// P49: names in order, in trees within lists within trees.
func TestValueSorted(t *testing.T) {
	for s, want := range map[string]string{"null": "null", "true": "true", "5": "5", `"ba"`: `"ba"`, "[]": "[]", "{}": "{}", "[2,1,[4,3]]": "[2,1,[4,3]]", `{"a":1}`: `{"a":1}`, `{"a":1,"b":2,"c":3}`: `{"a":1,"b":2,"c":3}`,
		`{"b":1,"a":2}`: `{"a":2,"b":1}`, `{"c":1,"b":2,"a":3}`: `{"a":3,"b":2,"c":1}`, `{"b":1,"a":[{"d":[{"f":1,"e":2}],"c":3}]}`: `{"a":[{"c":3,"d":[{"e":2,"f":1}]}],"b":1}`, `[{"b":1,"a":2},{"a":1,"b":2},{"b":{"d":1,"c":2}}]`: `[{"a":2,"b":1},{"a":1,"b":2},{"b":{"c":2,"d":1}}]`,
		`{"ab":1,"a":2,"aa":3,"A":4,"_":5,"Z":6,"a1":7,"a_":8,"z":9}`: `{"A":4,"Z":6,"_":5,"a":2,"a1":7,"a_":8,"aa":3,"ab":1,"z":9}`, `{"l":1,"k":2,"j":3,"i":4,"h":5,"g":6,"f":7,"e":8,"d":9,"c":10,"b":11,"a":12}`: `{"a":12,"b":11,"c":10,"d":9,"e":8,"f":7,"g":6,"h":5,"i":4,"j":3,"k":2,"l":1}`} {
		wide, stays := roomy(readValue(t, s))
		got := impl.ValueSorted(wide)
		if impl.JsonPut(got) != want || !stays() {
			t.Errorf("%s sorted: %s, not %s", s, impl.JsonPut(got), want)
		}
		isNew(t, s, got, wide)
	}
}

// P49: each name has what it had, sorted; again it is the same; all that is in order is as it was.
func TestValueSortedByHand(t *testing.T) {
	for _, p := range pairs(t, 2000) {
		got := impl.ValueSorted(p[0])
		if want := sortedByHand(p[0]); !alike(got, want) || !alike(impl.ValueSorted(got), got) || impl.ValueSize(got) != impl.ValueSize(p[0]) {
			t.Fatalf("%s sorted: %s", impl.JsonPut(p[0]), impl.JsonPut(got))
		}
		if !slices.IsSorted(got.Names) {
			t.Errorf("%q", got.Names)
		}
		for i, name := range got.Names {
			was, _ := impl.TreeGet(p[0], name)
			if !impl.ValueSame(got.List[i], impl.ValueSorted(was)) {
				t.Errorf("%s of %s", name, impl.JsonPut(p[0]))
			}
		}
	}
}

// sizeByHand is one, and the size of all within.
func sizeByHand(v impl.Value) int {
	size := 1
	for _, x := range v.List {
		size += sizeByHand(x)
	}
	return size
}

// P50: one, and all within.
func TestValueSize(t *testing.T) {
	for s, want := range map[string]int{"null": 1, "true": 1, "7": 1, `"abc"`: 1, "[]": 1, "{}": 1, "[1]": 2, "[1,2,3]": 4, "[[],[]]": 3, "[[[[[1]]]]]": 6, `{"a":1}`: 2, `{"b":1,"a":[1,{"c":null}]}`: 6, `{"a":{},"b":{"c":[]}}`: 4} {
		wide, stays := roomy(readValue(t, s))
		if got := impl.ValueSize(wide); got != want || !stays() {
			t.Errorf("%s: %d, not %d", s, got, want)
		}
	}
	full, size := num(1), 1
	for deep := range impl.DeepMax {
		if got := impl.ValueSize(full); got != size || impl.ValueDeep(full) != deep+1 {
			t.Errorf("%d deep: %d, not %d", deep, got, size)
		}
		full, size = list(times(impl.ListMax, full)...), 1+impl.ListMax*size
	}
	if got := impl.ValueSize(full); got != 0 {
		t.Errorf("too deep: %d", got)
	}
	for _, v := range someValues() {
		if got := impl.ValueSize(v); got != sizeByHand(v) || impl.ValueDeep(v) > got {
			t.Errorf("%s: %d", impl.JsonPut(v), got)
		}
	}
}

// P49, P50: of what is not ok there is nothing, and 0.
func TestSortedAndSizeOfWhatIsNotOk(t *testing.T) {
	for i, v := range append(notOkValues(), endless(1), endless(12), twofold(num(1), 200), ring(1, 2, 3), nested(num(1), 1<<16)) {
		for _, x := range []impl.Value{v, list(v), tree("b a", num(1), v), list(num(1), tree("a", v))} {
			if got := impl.ValueSorted(x); !alike(got, null()) || impl.ValueSize(x) != 0 {
				t.Errorf("%d: %d values", i, impl.ValueSize(x))
			}
		}
	}
}
