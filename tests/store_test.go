package tests

import (
	"slices"
	"strings"
	"testing"

	"loop.example/pergola/impl"
)

// readValue is the value of a text.
func readValue(t *testing.T, s string) impl.Value {
	t.Helper()
	v, ok := impl.JsonGet(s)
	if !ok {
		t.Fatalf("no value: %q", s)
	}
	return v
}

// node is a node whose cells are told in a text.
func node(t *testing.T, id int, typ string, cells string) impl.Node {
	t.Helper()
	return impl.Node{Id: id, Type: typ, Cells: readValue(t, cells)}
}

// someNodes is three nodes with cells of each kind.
func someNodes(t *testing.T) []impl.Node {
	t.Helper()
	return []impl.Node{node(t, 0, "Query", `{"me":{"ref":5},"n":7,"l":[1,[2]],"none":null}`), node(t, 5, "P", `{}`), node(t, impl.NumMax, "P", `{"name":"ann","n":8}`)}
}

// P19: a number, and the value that is that node.
func TestRefs(t *testing.T) {
	for _, id := range []int{0, 1, 7, impl.NumMax - 1, impl.NumMax} {
		if v := impl.RefTo(id); !alike(v, tree("ref", num(id))) || impl.RefOf(v) != id || !impl.ValueOk(v) {
			t.Errorf("%d: %v", id, v)
		}
	}
	for _, id := range []int{-1, -impl.NumMax, impl.NumMax + 1, 1 << 40, -1 << 63} {
		if v := impl.RefTo(id); !alike(v, null()) {
			t.Errorf("%d: %v", id, v)
		}
	}
	isNew(t, "RefTo", []impl.Value{impl.RefTo(1), impl.RefTo(1)})
}

// P19: values that are no node.
func TestRefOfOthers(t *testing.T) {
	wrong := func(v impl.Value, change func(v *impl.Value)) impl.Value {
		change(&v)
		return v
	}
	for i, v := range []impl.Value{null(), num(5), text("ref"), yes(true), list(), list(num(5)), list(tree("ref", num(5))), tree(""), tree("id", num(5)), tree("Ref", num(5)), tree("refs", num(5)),
		tree("ref id", num(5), num(5)), tree("id ref", num(5), num(5)), tree("ref ref", num(5), num(5)), tree("ref", num(-1)), tree("ref", num(-impl.NumMax)), tree("ref", num(impl.NumMax+1)),
		tree("ref", text("5")), tree("ref", null()), tree("ref", yes(true)), tree("ref", list(num(5))), tree("ref", tree("ref", num(5))), tree("ref", named("a")), tree("ref", word("a")), named("ref"), word("ref"),
		tree("ref"), tree("", num(5)), tree("ref", num(5), num(5)), wrong(impl.RefTo(5), func(v *impl.Value) { v.Num = 1 }), wrong(impl.RefTo(5), func(v *impl.Value) { v.Text = "a" }), wrong(impl.RefTo(5), func(v *impl.Value) { v.Kind = impl.IsList }),
		wrong(impl.RefTo(5), func(v *impl.Value) { v.Kind = 9 }), wrong(impl.RefTo(5), func(v *impl.Value) { v.List[0].Text = "a" }), endless(1), endless(2), tree("ref", endless(1))} {
		if got := impl.RefOf(v); got != -1 {
			t.Errorf("%d: %d", i, got)
		}
	}
	for _, v := range someValues() {
		if id := impl.RefOf(v); id >= 0 && !alike(impl.RefTo(id), v) {
			t.Errorf("%v is node %d", v, id)
		}
	}
}

// P20, P21: nodes that are ok, up to the limits.
func TestStoreOk(t *testing.T) {
	nodes := someNodes(t)
	full := []impl.Node{}
	for i := range impl.NodeMax {
		full = append(full, impl.Node{Id: i, Type: "Query", Cells: tree("")})
	}
	deep := []impl.Node{{Type: "Query", Cells: tree("a", nested(num(1), 2))}}
	wide := []impl.Node{{Type: "Query", Cells: impl.Value{Kind: impl.IsTree, Names: manyNames(impl.ListMax), List: many(impl.ListMax)}}}
	for i, x := range [][]impl.Node{nodes, nodes[:1], nodes[:2], full, deep, wide, {node(t, 0, "Query", "{}"), node(t, 1, "_", "{}"), node(t, 2, "abcdefghijkl", "{}")}} {
		if !impl.StoreOk(x) {
			t.Errorf("%d is not ok", i)
		}
	}
}

// wrongStores is nodes that are not ok, each with the same cells of node 0 but for what is wrong.
func wrongStores(t *testing.T) map[string][]impl.Node {
	t.Helper()
	nodes := someNodes(t)
	with := func(i int, change func(n *impl.Node)) []impl.Node {
		out := slices.Clone(nodes)
		change(&out[i])
		return out
	}
	cells := func(v impl.Value) []impl.Node {
		return with(2, func(n *impl.Node) { n.Cells = v })
	}
	out := map[string][]impl.Node{"nil": nil, "none": {}, "not 0 first": nodes[1:], "the last first": {nodes[0], nodes[2], nodes[1]}, "twice": {nodes[0], nodes[1], nodes[1]}, "0 twice": {nodes[0], nodes[0]},
		"one too many": slices.Concat(times(impl.NodeMax, nodes[0]), nodes[1:2]),
		"no Query":     with(0, func(n *impl.Node) { n.Type = "P" }), "Query is not 0": with(0, func(n *impl.Node) { n.Id = 1 }), "below 0": with(0, func(n *impl.Node) { n.Id = -1 }), "a great Id": with(2, func(n *impl.Node) { n.Id = impl.NumMax + 1 }),
		"a lower Id": with(2, func(n *impl.Node) { n.Id = 4 }), "the same Id": with(2, func(n *impl.Node) { n.Id = 5 }), "an Id below 0 behind": with(1, func(n *impl.Node) { n.Id = -5 }),
		"no Type": with(1, func(n *impl.Node) { n.Type = "" }), "a Type that is no name": with(1, func(n *impl.Node) { n.Type = "1a" }), "a long Type": with(2, func(n *impl.Node) { n.Type = "abcdefghijklm" }),
		"nothing": cells(null()), "a list": cells(list()), "a number": cells(num(1)), "too deep": cells(tree("a", nested(num(1), 3))), "a variable": cells(tree("a", named("a"))), "a word": cells(tree("a", list(word("a")))),
		"a name that is none": cells(tree("1", num(1))), "a name twice": cells(tree("a a", num(1), num(1))), "too many names": cells(impl.Value{Kind: impl.IsTree, Names: manyNames(impl.ListMax + 1), List: many(impl.ListMax + 1)}),
		"a number too great": cells(tree("a", num(impl.NumMax+1))), "a text too long": cells(tree("a", text(strings.Repeat("x", impl.TextMax+1)))), "a list too long": cells(tree("a", list(many(impl.ListMax+1)...))),
		"a part of another kind": cells(impl.Value{Kind: impl.IsTree, Num: 1}), "a kind that is none": cells(tree("a", impl.Value{Kind: 8})), "endless": cells(tree("a", endless(2))), "fewer names": cells(tree("a", num(1), num(2)))}
	full := []impl.Node{}
	for i := range impl.NodeMax + 1 {
		full = append(full, impl.Node{Id: i, Type: "Query", Cells: tree("me", num(1))})
	}
	out["one node too many"] = full
	return out
}

// P20, P21: each thing that StoreOk asks, broken; nothing is got of such nodes, and nothing set.
func TestStoresThatAreNotOk(t *testing.T) {
	for what, nodes := range wrongStores(t) {
		if impl.StoreOk(nodes) {
			t.Errorf("%s: ok", what)
		}
		for _, id := range []int{0, 5, impl.NumMax} {
			if v := impl.StoreGet(nodes, id, "n"); !alike(v, null()) {
				t.Errorf("%s: node %d has %v", what, id, v)
			}
			if x, ok := impl.StoreSet(nodes, id, "n", num(1)); ok || len(x) > 0 {
				t.Errorf("%s: node %d is set: %v", what, id, x)
			}
		}
	}
}

// P21: cells that are there, and that are not.
func TestStoreGet(t *testing.T) {
	nodes := someNodes(t)
	for _, c := range []struct {
		id   int
		name string
		want impl.Value
	}{{0, "me", impl.RefTo(5)}, {0, "n", num(7)}, {0, "l", list(num(1), list(num(2)))}, {0, "none", null()}, {impl.NumMax, "name", text("ann")}, {impl.NumMax, "n", num(8)},
		{0, "name", null()}, {5, "n", null()}, {1, "n", null()}, {-1, "n", null()}, {4, "n", null()}, {6, "n", null()}, {impl.NumMax + 1, "n", null()}, {0, "", null()}, {0, "1", null()}, {0, "ref", null()}, {0, "N", null()}} {
		if got := impl.StoreGet(nodes, c.id, c.name); !alike(got, c.want) {
			t.Errorf("%s of %d: %v", c.name, c.id, got)
		}
	}
	for _, n := range nodes {
		for _, name := range append(slices.Clone(n.Cells.Names), "none", "other", "") {
			want, _ := impl.TreeGet(n.Cells, name)
			if got := impl.StoreGet(nodes, n.Id, name); !alike(got, want) {
				t.Errorf("%q of %d: %v", name, n.Id, got)
			}
		}
	}
}

// cellsOf is the cells of each node as texts.
func cellsOf(nodes []impl.Node) []string {
	var out []string
	for _, n := range nodes {
		out = append(out, impl.JsonPut(n.Cells))
	}
	return out
}

// P20: a cell in the place of its name, or behind all.
func TestStoreSet(t *testing.T) {
	nodes := someNodes(t)
	for _, c := range []struct {
		id   int
		name string
		v    string
		want string
	}{{0, "n", "8", `{"me":{"ref":5},"n":8,"l":[1,[2]],"none":null}`}, {0, "me", "null", `{"me":null,"n":7,"l":[1,[2]],"none":null}`}, {0, "new", `"x"`, `{"me":{"ref":5},"n":7,"l":[1,[2]],"none":null,"new":"x"}`},
		{0, "none", "[]", `{"me":{"ref":5},"n":7,"l":[1,[2]],"none":[]}`}, {5, "a", "null", `{"a":null}`}, {5, "_", `{"a":[1]}`, `{"_":{"a":[1]}}`}, {5, "l", "[[1]]", `{"l":[[1]]}`}, {impl.NumMax, "ref", "1", `{"name":"ann","n":8,"ref":1}`}} {
		got, ok := impl.StoreSet(nodes, c.id, c.name, readValue(t, c.v))
		want := someNodes(t)
		for i := range want {
			if want[i].Id == c.id {
				want[i].Cells = readValue(t, c.want)
			}
		}
		if !ok || !equal(got, want) {
			t.Errorf("%s of %d: %q %v", c.name, c.id, cellsOf(got), ok)
		}
		again, ok := impl.StoreSet(got, c.id, c.name, readValue(t, c.v))
		if !ok || !equal(again, got) || !equal(nodes, someNodes(t)) {
			t.Errorf("%s of %d again: %q %v", c.name, c.id, cellsOf(again), ok)
		}
	}
}

// P20: what cannot be set leaves all as it is.
func TestStoreSetOfOthers(t *testing.T) {
	nodes := someNodes(t)
	for i, c := range []struct {
		id   int
		name string
		v    impl.Value
	}{{1, "n", num(1)}, {-1, "n", num(1)}, {impl.NumMax - 1, "n", num(1)}, {impl.NumMax + 1, "n", num(1)}, {0, "", num(1)}, {0, "1n", num(1)}, {0, "a b", num(1)}, {0, "abcdefghijklm", num(1)},
		{0, "n", nested(num(1), 3)}, {0, "n", tree("a", tree("a", list(num(1))))}, {0, "n", named("a")}, {0, "n", word("a")}, {0, "n", list(named("a"))}, {0, "n", tree("a", word("a"))}, {0, "n", num(impl.NumMax + 1)}, {0, "n", text(strings.Repeat("x", impl.TextMax+1))},
		{0, "n", list(many(impl.ListMax + 1)...)}, {0, "n", impl.Value{Kind: 8}}, {0, "n", impl.Value{Num: 1}}, {0, "n", tree("a", num(1), num(2))}, {0, "n", endless(2)}} {
		if got, ok := impl.StoreSet(nodes, c.id, c.name, c.v); ok || !equal(got, nodes) {
			t.Errorf("%d: %q %v", i, cellsOf(got), ok)
		}
	}
	if got, ok := impl.StoreSet(nodes, 0, "n", nested(num(1), 2)); !ok || !alike(impl.StoreGet(got, 0, "n"), nested(num(1), 2)) {
		t.Error("three deep")
	}
}

// P20: as many names as may be: one that is there can be set, a new one cannot.
func TestStoreSetOfManyNames(t *testing.T) {
	nodes := []impl.Node{{Type: "Query", Cells: impl.Value{Kind: impl.IsTree, Names: manyNames(impl.ListMax - 1), List: many(impl.ListMax - 1)}}}
	full, ok := impl.StoreSet(nodes, 0, "last", num(1))
	if !ok || len(full[0].Cells.Names) != impl.ListMax || !impl.StoreOk(full) {
		t.Fatalf("%q %v", cellsOf(full), ok)
	}
	if got, ok := impl.StoreSet(full, 0, "more", num(1)); ok || !equal(got, full) {
		t.Errorf("one more: %q %v", cellsOf(got), ok)
	}
	for _, name := range full[0].Cells.Names {
		got, ok := impl.StoreSet(full, 0, name, text("new"))
		if !ok || !slices.Equal(got[0].Cells.Names, full[0].Cells.Names) || impl.StoreGet(got, 0, name).Text != "new" {
			t.Errorf("%s: %q %v", name, cellsOf(got), ok)
		}
	}
}

// P20, P44: a cell is as it was set, all others as they were; in either order of two it is the same.
func TestStoreSetOfEachCell(t *testing.T) {
	nodes := someNodes(t)
	cells := []struct {
		id   int
		name string
	}{{0, "me"}, {0, "n"}, {0, "l"}, {0, "none"}, {impl.NumMax, "name"}, {impl.NumMax, "n"}, {5, "new"}, {0, "new"}}
	for _, a := range cells {
		one, ok := impl.StoreSet(nodes, a.id, a.name, text("a"))
		if !ok {
			t.Fatal(a)
		}
		for _, b := range cells {
			want := impl.StoreGet(nodes, b.id, b.name)
			if a == b {
				want = text("a")
			}
			if got := impl.StoreGet(one, b.id, b.name); !alike(got, want) {
				t.Errorf("behind %v %v is %v", a, b, got)
			}
			if a.id == b.id && (a.name == "new" || b.name == "new" || a == b) {
				continue
			}
			ab, _ := impl.StoreSet(one, b.id, b.name, list(num(1)))
			other, _ := impl.StoreSet(nodes, b.id, b.name, list(num(1)))
			ba, ok := impl.StoreSet(other, a.id, a.name, text("a"))
			if !ok || !equal(ab, ba) {
				t.Errorf("%v and %v: %q, %q", a, b, cellsOf(ab), cellsOf(ba))
			}
		}
	}
}

// P20, P21: nodes stay as they were, and answers are new memory.
func TestStoreIsNewMemory(t *testing.T) {
	nodes, stay := roomy(someNodes(t))
	v, valueStays := roomy(tree("a b", list(num(1)), num(2)))
	isNew(t, "StoreGet", impl.StoreGet(nodes, 0, "l"), nodes)
	for _, id := range []int{0, 5, 6} {
		for _, name := range []string{"n", "new", "1"} {
			got, _ := impl.StoreSet(nodes, id, name, v)
			isNew(t, "StoreSet", got, nodes, v)
		}
	}
	if !impl.StoreOk(nodes) || !stay() || !valueStays() {
		t.Error("an argument was written to")
	}
	shared := list(num(1), list(num(2)))
	nodes[1].Cells = tree("a b", shared, shared)
	isNew(t, "StoreGet of a list that is there twice", []impl.Value{impl.StoreGet(nodes, 5, "a"), impl.StoreGet(nodes, 5, "b")}, nodes)
	got, _ := impl.StoreSet(nodes, 0, "n", shared)
	isNew(t, "StoreSet of a list that is there more often", got, nodes, shared)
}
