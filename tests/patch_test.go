package tests

import (
	"math/rand"
	"slices"
	"strconv"
	"strings"
	"testing"

	"loop.example/pergola/impl"
)

func add(path string, v impl.Value) impl.Change { return change(impl.PatchAdd, path, v) }
func put(path string, v impl.Value) impl.Change { return change(impl.PatchPut, path, v) }
func drop(path string) impl.Change              { return change(impl.PatchDrop, path, null()) }

// change takes a path as its text.
func change(kind int, path string, v impl.Value) impl.Change {
	steps, _ := impl.PointerGet(path)
	return impl.Change{Kind: kind, Path: steps, Value: v}
}

// changesPut writes changes, each as a sign for its kind, its path and what it puts there, with blanks between.
func changesPut(list []impl.Change) string {
	var out []string
	for _, c := range list {
		s := strconv.Itoa(c.Kind)
		if c.Kind >= impl.PatchAdd && c.Kind <= impl.PatchPut {
			s = "?+-="[c.Kind : c.Kind+1]
		}
		s += impl.PointerText(c.Path)
		if c.Kind != impl.PatchDrop || !alike(c.Value, null()) {
			s += ":" + impl.JsonPut(c.Value)
		}
		out = append(out, s)
	}
	return strings.Join(out, " ")
}

// differs asks for the changes from a value to another one, and does them.
func differs(t *testing.T, a string, b string, want string) {
	t.Helper()
	from, fromStays := roomy(readValue(t, a))
	to, toStays := roomy(readValue(t, b))
	got := impl.PatchOf(from, to)
	if changesPut(got) != want || !fromStays() || !toStays() {
		t.Errorf("from %s to %s: %s, not %s", a, b, changesPut(got), want)
	}
	isNew(t, a+" "+b, got, from, to)
	after, ok := impl.PatchDo(from, got)
	if !ok || !impl.ValueSame(impl.ValueSorted(after), impl.ValueSorted(to)) {
		t.Errorf("from %s to %s: done, it is %s", a, b, impl.JsonPut(after))
	}
}

// P51, P79: the same values; plain ones; values of two kinds.
func TestPatchOfPlainValues(t *testing.T) {
	all := []string{"null", "false", "true", "0", "1", "-1", `""`, `"a"`, `"0"`, `"null"`, "[]", "{}", "[null]", `{"a":null}`, "[1]", `{"a":1}`, "[[]]", "[{}]", `{"a":{}}`, `{"a":[]}`}
	for _, a := range all {
		differs(t, a, a, "")
		for _, b := range all {
			tree := strings.HasPrefix(a, "{") && strings.HasPrefix(b, "{")
			long := strings.HasPrefix(a, "[") && strings.HasPrefix(b, "[") && a != "[]" && b != "[]"
			if a != b && !tree && !long {
				differs(t, a, b, "=:"+b)
			}
		}
	}
}

// P51: names that are gone, names that are more, names of another value, and names in another order.
func TestPatchOfTrees(t *testing.T) {
	differs(t, `{"a":1}`, `{}`, "-/a")
	differs(t, `{}`, `{"a":1}`, "+/a:1")
	differs(t, `{"a":1}`, `{"a":2}`, "=/a:2")
	differs(t, `{"a":1}`, `{"b":1}`, "-/a +/b:1")
	differs(t, `{"c":1,"a":2,"b":3}`, `{"a":2}`, "-/c -/b")
	differs(t, `{"a":2}`, `{"c":1,"a":2,"b":3}`, "+/c:1 +/b:3")
	differs(t, `{"a":1,"b":2,"c":3}`, `{"c":3,"a":1,"b":2}`, "")
	differs(t, `{"a":1,"b":2,"c":3}`, `{"c":4,"d":5,"a":6}`, "-/b =/c:4 +/d:5 =/a:6")
	differs(t, `{"b":1,"a":[1,{"c":null}]}`, `{"a":[1,{"c":2}],"d":"x"}`, `-/b =/a/1/c:2 +/d:"x"`)
	differs(t, `{"a":{"b":{"c":1,"d":2},"e":3}}`, `{"a":{"e":3,"b":{"d":2,"f":[]}}}`, "-/a/b/c +/a/b/f:[]")
	differs(t, `{"a":{"b":1}}`, `{"a":[1]}`, "=/a:[1]")
	differs(t, `{"a":{}}`, `{"a":[]}`, "=/a:[]")
	differs(t, `{"a":null}`, `{}`, "-/a")
	differs(t, `{}`, `{"a":null}`, "+/a:null")
	differs(t, `{"a":1}`, `{"a":null}`, "=/a:null")
	differs(t, `{"a":null}`, `{"a":{"b":null}}`, `=/a:{"b":null}`)
	differs(t, `{"a":{"b":1}}`, `{"b":{"a":1}}`, `-/a +/b:{"a":1}`)
}

// P51: lists as long as each other are changed place by place; all others are put as a whole.
func TestPatchOfLists(t *testing.T) {
	differs(t, "[1,2,3]", "[1,4,3]", "=/1:4")
	differs(t, "[1,2,3]", "[3,2,1]", "=/0:3 =/2:1")
	differs(t, "[1,2]", "[1,2,3]", "=:[1,2,3]")
	differs(t, "[1,2,3]", "[1,2]", "=:[1,2]")
	differs(t, "[]", "[1]", "=:[1]")
	differs(t, "[1]", "[]", "=:[]")
	differs(t, "[[1,2],[3]]", "[[1,5],[3,4]]", "=/0/1:5 =/1:[3,4]")
	differs(t, `[{"a":1},{"b":[[1]]}]`, `[{"a":1,"c":2},{"b":[[2]]}]`, "+/0/c:2 =/1/b/0/0:2")
	differs(t, `{"a":[1,2]}`, `{"a":[1,2,3]}`, "=/a:[1,2,3]")
	differs(t, "[0,0,0,0,0,0,0,0,0,0,0,0]", "[0,1,0,0,0,0,0,0,0,0,1,1]", "=/1:1 =/10:1 =/11:1")
	differs(t, `[{"a":1,"b":2}]`, `[{"b":2,"a":1}]`, "")
	differs(t, `[{"a":1,"b":2}]`, `[{"b":2,"a":1},1]`, `=:[{"b":2,"a":1},1]`)
}

// changesByHand is the changes from a value to another one.
func changesByHand(a impl.Value, b impl.Value, path []string) []impl.Change {
	then := func(step string) []string { return append(slices.Clone(path), step) }
	var out []impl.Change
	switch {
	case a.Kind == impl.IsTree && b.Kind == impl.IsTree:
		for _, name := range a.Names {
			if !slices.Contains(b.Names, name) {
				out = append(out, impl.Change{Kind: impl.PatchDrop, Path: then(name)})
			}
		}
		for i, name := range b.Names {
			x, ok := member(a, name)
			if ok {
				out = append(out, changesByHand(x, b.List[i], then(name))...)
			} else {
				out = append(out, impl.Change{Kind: impl.PatchAdd, Path: then(name), Value: b.List[i]})
			}
		}
	case a.Kind == impl.IsList && b.Kind == impl.IsList && len(a.List) == len(b.List):
		for i := range a.List {
			out = append(out, changesByHand(a.List[i], b.List[i], then(strconv.Itoa(i)))...)
		}
	case !alike(a, b):
		out = append(out, impl.Change{Kind: impl.PatchPut, Path: path, Value: b})
	}
	return out
}

// P51, P78, P79: changes are as by hand; they lead there, and those back lead back, but for the order of names; of sorted values there are none just if they are the same.
func TestPatchThereAndBack(t *testing.T) {
	found := map[string]int{}
	for _, p := range pairs(t, 3000) {
		a, b := p[0], p[1]
		list := impl.PatchOf(a, b)
		if want := changesByHand(a, b, nil); !equal(list, want) {
			t.Fatalf("from %s to %s: %s, not %s", impl.JsonPut(a), impl.JsonPut(b), changesPut(list), changesPut(want))
		}
		same := impl.ValueSame(impl.ValueSorted(a), impl.ValueSorted(b))
		if none := len(impl.PatchOf(impl.ValueSorted(a), impl.ValueSorted(b))) == 0; none != same || impl.ValueSame(a, b) && len(list) > 0 {
			t.Errorf("from %s to %s: none %v", impl.JsonPut(a), impl.JsonPut(b), none)
		}
		there, ok := impl.PatchDo(a, list)
		back := impl.PatchOf(there, a)
		if len(list) > impl.PatchMax || len(back) > impl.PatchMax {
			continue
		}
		again, okBack := impl.PatchDo(there, back)
		if !ok || !okBack || !alike(sortedByHand(there), sortedByHand(b)) || !alike(sortedByHand(again), sortedByHand(a)) {
			t.Fatalf("from %s to %s by %s: %s, and back %s", impl.JsonPut(a), impl.JsonPut(b), changesPut(list), impl.JsonPut(there), impl.JsonPut(again))
		}
		for _, c := range list {
			found[changesPut([]impl.Change{c})[:1]]++
		}
		if same {
			found["same"]++
		}
	}
	if found["+"] < 500 || found["-"] < 500 || found["="] < 500 || found["same"] < 100 {
		t.Errorf("too few: %v", found)
	}
}

// P51, P52, P79: nothing of values that are not ok, on either side.
func TestPatchOfWhatIsNotOk(t *testing.T) {
	for i, v := range append(notOkValues(), endless(1), endless(12), twofold(num(1), 100), ring(1, 2)) {
		for _, x := range []impl.Value{v, list(v), tree("b a", num(1), v)} {
			for _, y := range []impl.Value{null(), list(num(1)), tree("a", num(1)), x} {
				if a, b := impl.PatchOf(x, y), impl.PatchOf(y, x); len(a)+len(b) > 0 {
					t.Errorf("%d: %d and %d changes", i, len(a), len(b))
				}
			}
			for _, list := range [][]impl.Change{nil, {put("", null())}, {add("/c", num(1))}, {put("/b", num(1))}, {drop("/a")}} {
				if got, ok := impl.PatchDo(x, list); ok || !alike(got, null()) {
					t.Errorf("%d: %s is done", i, changesPut(list))
				}
			}
		}
	}
}

// P51, P52: as many changes as there may be of any two values; just as many as can be done, and one more.
func TestPatchOfVeryMany(t *testing.T) {
	names := manyNames(impl.ListMax)
	full := func(v impl.Value) impl.Value {
		for range impl.DeepMax - 2 {
			v = impl.Value{Kind: impl.IsTree, Names: names, List: times(impl.ListMax, v)}
		}
		return list(v)
	}
	const count = impl.ListMax * impl.ListMax * impl.ListMax * impl.ListMax
	a, b := full(num(1)), full(num(2))
	changes := impl.PatchOf(a, b)
	if len(changes) != count || impl.PointerText(changes[count-1].Path) != "/0/nl/nl/nl/nl" || len(impl.PatchOf(a, a)) > 0 {
		t.Errorf("%d changes", len(changes))
	}
	if got, ok := impl.PatchDo(a, changes); ok || !impl.ValueSame(got, a) {
		t.Error("too many are done")
	}
	for _, most := range []int{impl.PatchMax - 1, impl.PatchMax, impl.PatchMax + 1} {
		got, ok := impl.PatchDo(a, changes[:most])
		if ok != (most <= impl.PatchMax) || len(impl.PatchOf(got, b)) != count-most && ok || !ok && !impl.ValueSame(got, a) {
			t.Errorf("%d changes: %v", most, ok)
		}
	}
}

// does asks for what a value is behind changes.
func does(t *testing.T, v string, want string, list ...impl.Change) {
	t.Helper()
	before, valueStays := roomy(readValue(t, v))
	wide, listStays := roomy(list)
	got, ok := impl.PatchDo(before, wide)
	if !ok || impl.JsonPut(got) != want || !valueStays() || !listStays() {
		t.Errorf("%s behind %s: %s, %v, not %s", v, changesPut(list), impl.JsonPut(got), ok, want)
	}
	isNew(t, changesPut(list), got, before, wide)
}

// refuses asks that changes cannot be done, wherever in a list they stand, and that the value is as it was.
func refuses(t *testing.T, v string, c impl.Change) {
	t.Helper()
	for _, list := range [][]impl.Change{{c}, {put("", readValue(t, v)), c}, {c, put("", num(1))}, {put("", readValue(t, v)), c, put("", num(1)), c}} {
		before, valueStays := roomy(readValue(t, v))
		got, ok := impl.PatchDo(before, list)
		if ok || impl.JsonPut(got) != impl.JsonPut(before) || !valueStays() {
			t.Errorf("%s behind %s: %s, %v", v, changesPut(list), impl.JsonPut(got), ok)
		}
		isNew(t, changesPut(list), got, before, list)
	}
}

// P52, P53: each kind of change, anywhere within.
func TestPatchDo(t *testing.T) {
	does(t, `{"b":1}`, `{"b":1}`)
	does(t, "5", "5")
	does(t, `{"b":1}`, `{"b":1,"a":2}`, add("/a", num(2)))
	does(t, `{}`, `{"a":null}`, add("/a", null()))
	does(t, `{"b":{"c":1}}`, `{"b":{"c":1,"b":[]}}`, add("/b/b", list()))
	does(t, `[1,{"a":1}]`, `[1,{"a":1,"b":{"x":[2]}}]`, add("/1/b", tree("x", list(num(2)))))
	does(t, `{"a":1,"b":2,"c":3}`, `{"a":1,"c":3}`, drop("/b"))
	does(t, `{"a":1}`, `{}`, drop("/a"))
	does(t, `[[{"b":1,"a":{"c":1}}]]`, `[[{"b":1,"a":{}}]]`, drop("/0/0/a/c"))
	does(t, `{"a":1,"b":2,"c":3}`, `{"a":1,"b":[],"c":3}`, put("/b", list()))
	does(t, "[1,2,3]", "[1,2,{}]", put("/2", tree("")))
	does(t, "[0,1,2,3,4,5,6,7,8,9,10,11]", "[0,1,2,3,4,5,6,7,8,9,10,null]", put("/11", null()))
	does(t, `{"a":[[1]]}`, `{"a":[["x"]]}`, put("/a/0/0", text("x")))
	for _, v := range []string{"null", "1", "[1]", `{"a":1}`, `""`} {
		does(t, v, `{"x":1}`, put("", tree("x", num(1))))
		does(t, v, "null", put("", null()))
	}
	does(t, `{"a":1}`, `{"a":1}`, put("/a", num(1)))
}

// P52: one behind the other: what one did the next one finds.
func TestPatchDoOneBehindTheOther(t *testing.T) {
	does(t, `{"a":1,"b":2}`, `{"b":2,"a":1}`, drop("/a"), add("/a", num(1)))
	does(t, "[]", `{"a":{"b":[1]}}`, put("", tree("")), add("/a", tree("")), add("/a/b", list(null())), put("/a/b/0", num(1)))
	does(t, `{"a":1}`, `{"a":3}`, put("/a", num(2)), put("/a", num(3)))
	does(t, `{"a":1}`, `{}`, add("/b", num(1)), drop("/a"), drop("/b"))
	does(t, `{"a":{"b":1}}`, `{"c":1}`, drop("/a/b"), drop("/a"), add("/c", num(1)))
	does(t, `{"a":1}`, "7", put("", list()), put("", num(7)))
	same := tree("x", list(num(1)))
	does(t, `{}`, `{"a":{"x":[1]},"b":{"x":[2]}}`, add("/a", same), add("/b", same), put("/b/x/0", num(2)))
	does(t, "1", strconv.Itoa(impl.PatchMax-1), func() []impl.Change {
		var out []impl.Change
		for i := range impl.PatchMax {
			out = append(out, put("", num(i)))
		}
		return out
	}()...)
	if got, ok := impl.PatchDo(num(1), times(impl.PatchMax+1, put("", num(2)))); ok || !alike(got, num(1)) {
		t.Error("one more is done")
	}
	if got, ok := impl.PatchDo(num(1), times(1<<20, put("", num(2)))); ok || !alike(got, num(1)) {
		t.Error("very many are done")
	}
}

// P52, P53: what cannot be done.
func TestPatchDoRefuses(t *testing.T) {
	v := `{"a":1,"l":[1,{"x":1}],"t":{"u":null}}`
	for _, c := range []impl.Change{
		add("/a", num(2)), add("/a", num(1)), add("/t/u", null()), add("/l/1/x", num(1)), // a name that is there
		add("", num(1)), add("/b/c", num(1)), add("/t/x/y", num(1)), add("/l/2/x", num(1)), add("/l/01/y", num(1)), add("/l/-1/y", num(1)), add("/l/x/y", num(1)), // behind a step that is not
		add("/l/2", num(1)), add("/l/0", num(1)), add("/l/-", num(1)), add("/l/y", num(1)), add("/a/b", num(1)), add("/t/u/b", num(1)), // into what is no tree
		add("/", num(1)), add("/1", num(1)), add("/a b", num(1)), add("/abcdefghijklm", num(1)), add("/t/~1", num(1)), add("/t/\xff", num(1)), // what is no name
		drop("/b"), drop("/"), drop("/A"), drop("/t/a"), drop("/t/u/u"), drop("/a/b"), drop("/l/0"), drop("/l/1"), drop("/l/2"), drop("/l/x"), drop("/l/1/y"), drop("/b/a"), drop(""),
		put("/b", num(1)), put("/", num(1)), put("/l/2", num(1)), put("/l/-1", num(1)), put("/l/00", num(1)), put("/l/+1", num(1)), put("/l/", num(1)), put("/l/x", num(1)), put("/a/b", num(1)), put("/a/", num(1)), put("/t/u/v", num(1)), put("/l/1/y", num(1)), put("/l/1/x/0", num(1)),
	} {
		refuses(t, v, c)
	}
	for _, kind := range []int{-1, 0, 4, 5, 1 << 40} {
		for _, path := range []string{"", "/a", "/b"} {
			refuses(t, v, change(kind, path, num(1)))
			refuses(t, v, change(kind, path, null()))
		}
	}
	for _, plain := range []string{"null", "1", `"a"`, "true", "[]", "{}"} {
		for _, c := range []impl.Change{drop(""), drop("/a"), drop("/0"), put("/a", num(1)), put("/0", num(1)), put("/", num(1)), add("", num(1)), add("/a/a", num(1))} {
			refuses(t, plain, c)
		}
		if plain != "{}" {
			refuses(t, plain, add("/a", num(1)))
		}
	}
}

// P52: a Value that is not ok, of each kind of change.
func TestPatchDoOfValuesThatAreNotOk(t *testing.T) {
	for _, v := range append(notOkValues(), endless(1), endless(12), twofold(num(1), 100)) {
		for _, x := range []impl.Value{v, list(v)} {
			for _, c := range []impl.Change{add("/b", x), put("/a", x), put("", x), change(impl.PatchDrop, "/a", x)} {
				for _, list := range [][]impl.Change{{c}, {put("", tree("a", num(2))), c}, {c, put("", num(1))}} {
					if got, ok := impl.PatchDo(tree("a", num(1)), list); ok || !alike(got, tree("a", num(1))) {
						t.Errorf("%d %q: %v", c.Kind, c.Path, ok)
					}
				}
			}
		}
	}
	does(t, `{"a":1}`, "{}", change(impl.PatchDrop, "/a", num(7)))
}

// breaks asks that a value is no more ok behind a change, so that it is as it was.
func breaks(t *testing.T, v string, c impl.Change) {
	t.Helper()
	for _, list := range [][]impl.Change{{c}, {put("", readValue(t, v)), c}} {
		before := readValue(t, v)
		got, ok := impl.PatchDo(before, list)
		if ok || impl.JsonPut(got) != v {
			t.Errorf("%s behind %s: %s, %v", v, changesPut(list), impl.JsonPut(got), ok)
		}
		isNew(t, changesPut(list), got, before, list)
	}
}

// P52, P53: a value that is no more ok behind a change, and one that just is: so deep, of so many names, of an item that is too deep.
func TestPatchDoBeyondLimits(t *testing.T) {
	deep := impl.JsonPut(nested(tree("a", null()), impl.DeepMax-2))
	at := strings.Repeat("/0", impl.DeepMax-2)
	does(t, deep, strings.Replace(deep, "null", `null,"b":1`, 1), add(at+"/b", num(1)))
	does(t, deep, strings.Replace(deep, "null", "[]", 1), put(at+"/a", list()))
	does(t, deep, strings.Replace(deep, `{"a":null}`, "[[]]", 1), put(at, list(list())))
	breaks(t, deep, add(at+"/b", list(num(1))))
	breaks(t, deep, add(at+"/b", tree("c", null())))
	breaks(t, deep, put(at+"/a", list(null())))
	breaks(t, deep, put(at, nested(list(), 2)))
	breaks(t, deep, put("/0", nested(num(1), impl.DeepMax-1)))
	wide := impl.Value{Kind: impl.IsTree, Names: manyNames(impl.ListMax - 1), List: many(impl.ListMax - 1)}
	s := impl.JsonPut(list(wide))
	full := strings.Replace(s, "}", `,"x":[1]}`, 1)
	does(t, s, full, add("/0/x", list(num(1))))
	breaks(t, full, add("/0/y", num(1)))
	does(t, full, strings.Replace(full, "0", "[]", 1), put("/0/na", list()))
}

// P52: what is between two changes may be beyond limits, if all is ok then.
func TestPatchDoBeyondLimitsBetween(t *testing.T) {
	wide := impl.Value{Kind: impl.IsTree, Names: manyNames(impl.ListMax), List: many(impl.ListMax)}
	s := impl.JsonPut(wide)
	does(t, s, strings.NewReplacer(`"na":0,`, "", "}", `,"x":1}`).Replace(s), add("/x", num(1)), drop("/na"))
	does(t, s, s, add("/x", num(1)), add("/y", num(1)), drop("/x"), drop("/y"))
	deep := nested(num(1), impl.DeepMax-1)
	does(t, "[1]", "[[2]]", put("/0", deep), put("/0", list(num(2))))
	does(t, impl.JsonPut(deep), "[[]]", put("/0/0/0/0/0", deep), put("/0", list()))
}

// P52: changes of many values, each behind the other, as by hand; all of them, or none.
func TestPatchDoByHand(t *testing.T) {
	r := rand.New(rand.NewSource(44))
	found := map[bool]int{}
	for range 4000 {
		v := anyTree(r, 5)
		list := some(r, 1, 4, func() impl.Change { return anyChange(r, v) })
		got, ok := impl.PatchDo(v, list)
		want, can := v, true
		for _, c := range list {
			if can {
				want, can = doByHand(want, c)
			}
		}
		can = can && impl.ValueOk(want)
		if !can {
			want = v
		}
		if ok != can || !alike(got, want) {
			t.Fatalf("%s behind %s: %s, %v, not %s, %v", impl.JsonPut(v), changesPut(list), impl.JsonPut(got), ok, impl.JsonPut(want), can)
		}
		found[ok]++
		last := len(list) - 1
		if x, former := impl.PatchDo(v, list[:last]); former {
			y, both := impl.PatchDo(x, list[last:])
			if both != ok || both && !alike(y, got) {
				t.Fatalf("%s behind %s: %s, not %s", impl.JsonPut(v), changesPut(list), impl.JsonPut(got), impl.JsonPut(y))
			}
		}
	}
	if found[true] < 500 || found[false] < 500 {
		t.Errorf("too few: %v", found)
	}
}

// anyChange is a change of a value, mostly one that can be done.
func anyChange(r *rand.Rand, v impl.Value) impl.Change {
	c := impl.Change{Kind: 1 + r.Intn(3), Path: anyPath(r, v)}
	if c.Kind == impl.PatchAdd {
		c.Path = append(c.Path, []string{"new", "a", "x"}[r.Intn(3)])
	}
	if c.Kind != impl.PatchDrop {
		c.Value = anyTree(r, 1+r.Intn(3))
	}
	return c
}

// doByHand is a value behind a change, if it can be done.
func doByHand(v impl.Value, c impl.Change) (impl.Value, bool) {
	out := impl.Value{Kind: v.Kind, Num: v.Num, Text: v.Text, Names: slices.Clone(v.Names), List: slices.Clone(v.List)}
	if len(c.Path) == 0 {
		return c.Value, c.Kind == impl.PatchPut
	}
	i := slices.Index(v.Names, c.Path[0])
	if v.Kind == impl.IsList {
		i = slices.Index([]string{"0", "1", "2", "3", "4", "5", "6", "7", "8", "9", "10", "11"}[:len(v.List)], c.Path[0])
	}
	if len(c.Path) == 1 && v.Kind == impl.IsTree {
		switch {
		case c.Kind == impl.PatchAdd:
			out.Names, out.List = append(out.Names, c.Path[0]), append(out.List, c.Value)
			return out, i < 0
		case c.Kind == impl.PatchDrop && i >= 0:
			out.Names, out.List = slices.Delete(out.Names, i, i+1), slices.Delete(out.List, i, i+1)
			return out, true
		}
	}
	if i < 0 {
		return v, false
	}
	c.Path = c.Path[1:]
	within, ok := doByHand(v.List[i], c)
	out.List[i] = within
	return out, ok
}

// P53: what was put is at the end of its path, where there was something just of PatchPut; what was taken away is not.
func TestPatchIsAtItsPath(t *testing.T) {
	r := rand.New(rand.NewSource(45))
	found := map[int]int{}
	for range 4000 {
		v := anyTree(r, 5)
		c := anyChange(r, v)
		_, was := impl.ValueAt(v, c.Path)
		after, ok := impl.PatchDo(v, []impl.Change{c})
		if !ok {
			continue
		}
		found[c.Kind]++
		x, is := impl.ValueAt(after, c.Path)
		switch {
		case c.Kind == impl.PatchDrop && (!was || is):
			t.Errorf("%s behind %s: %s", impl.JsonPut(v), changesPut([]impl.Change{c}), impl.JsonPut(after))
		case c.Kind != impl.PatchDrop && (was != (c.Kind == impl.PatchPut) || !is || !impl.ValueSame(x, c.Value)):
			t.Errorf("%s behind %s: %s", impl.JsonPut(v), changesPut([]impl.Change{c}), impl.JsonPut(after))
		}
	}
	if found[impl.PatchAdd] < 300 || found[impl.PatchDrop] < 300 || found[impl.PatchPut] < 300 {
		t.Errorf("too few: %v", found)
	}
}
