package tests

import (
	"slices"
	"strings"
	"testing"

	"loop.example/pergola/impl"
)

// shapes asks which values, told in texts, are in the shape of a question by variables.
func shapes(t *testing.T, doc string, vars string, want bool, values ...string) {
	t.Helper()
	list, d := readSchema(t, runSchema), readDoc(t, doc)
	for _, s := range values {
		if got := impl.ShapeOk(list, d, "", readValue(t, vars), readValue(t, s)); got != want {
			t.Errorf("%s by %s: %s: %v", doc, vars, s, got)
		}
	}
}

// P28: just the names under which it is answered; a number is in no shape, nothing in each.
func TestShapeOk(t *testing.T) {
	never := []string{"5", `"x"`, "true", "false", "[]", "[{}]", `[{"n":1}]`}
	shapes(t, "{n}", "{}", true, "null", `{"n":1}`, `{"n":null}`)
	shapes(t, "{n}", "{}", false, append(never, "{}", `{"n":1,"x":1}`, `{"x":1,"n":1}`, `{"x":1}`, `{"N":1}`, `{"n":"1"}`, `{"n":[1]}`, `{"n":{}}`, `{"n":true}`)...)
	shapes(t, "{x:n y:n}", "{}", true, "null", `{"x":1,"y":null}`)
	shapes(t, "{x:n y:n}", "{}", false, append(never, "{}", `{"x":1}`, `{"y":1}`, `{"n":1}`, `{"x":1,"y":1,"n":1}`, `{"x":1,"n":1}`)...)
	shapes(t, "{me{name age kind}}", "{}", true, "null", `{"me":{"name":"x","age":null,"kind":"A"}}`, `{"me":{"name":"","age":1,"kind":null}}`)
	shapes(t, "{me{name age kind}}", "{}", false, append(never, `{"me":null}`, `{"me":{}}`, `{"me":{"name":null,"age":1,"kind":"A"}}`, `{"me":{"name":"x","age":1,"kind":"C"}}`, `{"me":{"name":"x","age":1}}`, `{"me":{"name":"x","age":1,"kind":"A","nick":null}}`, `{"me":5}`, `{"me":{"ref":2}}`, `{"me":[]}`, `{"name":"x","age":1,"kind":"A"}`)...)
	shapes(t, "{it{__typename}}", "{}", true, `{"it":null}`, `{"it":{"__typename":"P"}}`, `{"it":{"__typename":"x"}}`)
	shapes(t, "{it{__typename}}", "{}", false, `{"it":{}}`, `{"it":{"__typename":null}}`, `{"it":{"__typename":1}}`, `{"it":"P"}`)
	shapes(t, "{n n me{name} me{name}}", "{}", true, `{"n":1,"me":{"name":"x"}}`)
	shapes(t, "{n @skip(if:true)}", "{}", true, "null", "{}")
	shapes(t, "{n @skip(if:true)}", "{}", false, append(never, `{"n":1}`)...)
	shapes(t, "mutation{n set(id:1,cell:\"a\"){__typename}}", "{}", true, "null", `{"n":1,"set":null}`, `{"n":1,"set":{"__typename":"P"}}`)
	shapes(t, "mutation{n set(id:1,cell:\"a\"){__typename}}", "{}", false, `{"n":null,"set":null}`, `{"n":1}`)
}

// P28: lists, and lists of lists.
func TestShapeOfLists(t *testing.T) {
	shapes(t, "{grid}", "{}", true, `{"grid":null}`, `{"grid":[]}`, `{"grid":[null,[],[1,2]]}`)
	shapes(t, "{grid}", "{}", false, `{"grid":1}`, `{"grid":[1]}`, `{"grid":[[null]]}`, `{"grid":[["x"]]}`, `{"grid":[[[1]]]}`, `{"grid":{}}`, `{"grid":[[1],2]}`)
	shapes(t, "{must{age}}", "{}", true, `{"must":[]}`, `{"must":[{"age":1},{"age":null}]}`)
	shapes(t, "{must{age}}", "{}", false, `{"must":null}`, `{"must":[null]}`, `{"must":[{"age":1},null]}`, `{"must":[{"age":1},{}]}`, `{"must":{"age":1}}`, `{"must":[{"age":1},{"age":1,"name":"x"}]}`)
}

// P28: of a union a tree of one of its objects.
func TestShapeOfUnions(t *testing.T) {
	const doc = "{all{x:__typename ...on P{age pet{kind}} ...on Q{name}}}"
	shapes(t, doc, "{}", true, `{"all":[{"x":"a","age":1,"pet":null},null,{"x":"a","name":"x"}]}`, `{"all":[{"x":"Q","age":1,"pet":{"kind":"A"}}]}`)
	shapes(t, doc, "{}", false, `{"all":[{"x":"a"}]}`, `{"all":[{"x":"a","age":1}]}`, `{"all":[{"x":"a","age":1,"pet":null,"name":"x"}]}`, `{"all":[{"age":1,"pet":null}]}`, `{"all":[{"x":"a","name":null}]}`, `{"all":[{"x":"a","name":"x"},{"x":"a","age":"1","pet":null}]}`)
	shapes(t, "{u{...on Q{x:nick} ...on R{x:nick}}}", "{}", true, `{"u":{"x":null}}`, `{"u":{"x":"a"}}`)
	shapes(t, "{u{...on Q{name}}}", "{}", true, `{"u":{}}`, `{"u":{"name":"x"}}`)
	shapes(t, "{u{...on Q{name}}}", "{}", false, `{"u":{"age":1}}`, `{"u":{"name":null}}`)
	shapes(t, "{me{...on T{...on Q{age}}}}", "{}", true, `{"me":{}}`)
	shapes(t, "{me{...F}} fragment F on T{...on P{name} ...on Q{age}}", "{}", true, `{"me":{"name":"x"}}`)
	shapes(t, "{me{...F}} fragment F on T{...on P{name} ...on Q{age}}", "{}", false, `{"me":{"age":"x"}}`, `{"me":{"name":"x","age":"x"}}`)
}

// P28: what is left out by variables; what vars has not is not yes.
func TestShapeByVariables(t *testing.T) {
	const doc = "query($y:Boolean!){a:n @skip(if:$y) b:n @include(if:$y)}"
	shapes(t, doc, `{"y":true}`, true, `{"b":1}`)
	shapes(t, doc, `{"y":true}`, false, `{"a":1}`, `{"a":1,"b":1}`, "{}")
	for _, vars := range []string{`{"y":false}`, `{"y":null}`, `{"y":1}`, `{"y":"true"}`, `{"y":[true]}`, `{}`, `{"n":true}`} {
		shapes(t, doc, vars, true, `{"a":1}`)
		shapes(t, doc, vars, false, `{"b":1}`, `{"a":1,"b":1}`, "{}")
	}
}

// P28: each thing that ShapeOk asks, broken; then nothing is in a shape either.
func TestShapeOfOthers(t *testing.T) {
	list := readSchema(t, runSchema)
	d, v, vars := readDoc(t, "query a{n} query b{x:n}"), tree("n", num(1)), tree("")
	none := func(what string, list []impl.Def, d impl.Doc, name string, vars impl.Value) {
		t.Helper()
		if impl.ShapeOk(list, d, name, vars, v) || impl.ShapeOk(list, d, name, vars, null()) {
			t.Errorf("%s is ok", what)
		}
	}
	if !impl.ShapeOk(list, d, "a", vars, v) || impl.ShapeOk(list, d, "b", vars, v) || !impl.ShapeOk(list, d, "b", vars, tree("x", num(1))) {
		t.Fatal("it is right")
	}
	for _, wrong := range wrongSchemas(t, list) {
		none("a schema that is not fine", wrong, d, "a", vars)
	}
	none("no name of several", list, d, "", vars)
	none("a name that is none", list, d, "c", vars)
	none("a name of the only one that has none", list, asks(field("n")), "a", vars)
	none("no document", list, impl.Doc{}, "", vars)
	none("a document that is not fine", list, readDoc(t, "query a{n} query b{none}"), "a", vars)
	for what, x := range map[string]impl.Value{"nothing": null(), "a list": {Kind: impl.IsList}, "a number": num(1), "a variable": tree("a", named("a")), "a word": tree("a", word("a")), "a name twice": tree("a a", num(1), num(1)), "too deep": tree("a", nested(num(1), impl.DeepMax-1)), "endless": endless(1)} {
		none(what, list, d, "a", x)
	}
	wrong := func(change func(v *impl.Value)) impl.Value {
		out := tree("n", num(1))
		change(&out)
		return out
	}
	for what, x := range map[string]impl.Value{"a part of another kind": wrong(func(v *impl.Value) { v.Num = 1 }), "a text": wrong(func(v *impl.Value) { v.Text = "a" }), "no names": wrong(func(v *impl.Value) { v.Names = nil }), "a name more": wrong(func(v *impl.Value) { v.Names = append(v.Names, "n") }), "no value": wrong(func(v *impl.Value) { v.List = nil }), "a value more": wrong(func(v *impl.Value) { v.List = many(2) }),
		"nothing with a number": {Num: 1}, "nothing with a list": {List: many(1)}, "a number too great": tree("n", num(impl.NumMax+1)), "a number with a text": tree("n", impl.Value{Kind: impl.IsNum, Text: "a"}), "a variable": named("n"), "a variable within": tree("n", named("n")), "no kind": {Kind: 9}, "a name twice": tree("n n", num(1), num(1)), "endless": endless(2), "endless within": tree("n", endless(2))} {
		if impl.ShapeOk(list, d, "a", vars, x) {
			t.Errorf("%s is ok", what)
		}
	}
	lists := readDoc(t, "{grid}")
	for what, x := range map[string]impl.Value{"a number": {Kind: impl.IsList, Num: 1}, "a text": {Kind: impl.IsList, Text: "a"}, "names": {Kind: impl.IsList, Names: []string{"a"}}} {
		for _, v := range []impl.Value{tree("grid", x), tree("grid", impl.Value{Kind: impl.IsList, List: []impl.Value{x}})} {
			if impl.ShapeOk(list, lists, "", vars, v) {
				t.Errorf("a list with %s is ok", what)
			}
		}
	}
}

// P24, P28: all that is answered is in its shape, with a name more, or less, or a number, it is not.
func TestShapeOfAnswers(t *testing.T) {
	p, questions := someQuestions(t, 400)
	trees := 0
	for _, q := range questions {
		_, a := q.run(t, p.list)
		vars, _ := impl.Given(p.list, q.op, q.given)
		ok := func(v impl.Value) bool { return impl.ShapeOk(p.list, q.doc, q.op.Name, vars, v) }
		if !ok(a.Data) || !ok(null()) || ok(num(1)) || ok(list(a.Data)) {
			t.Errorf("%s: %s", impl.DocPut(q.doc), impl.AnswerPut(a))
		}
		if a.Data.Kind != impl.IsTree {
			continue
		}
		trees++
		more := impl.Value{Kind: impl.IsTree, Names: append(slices.Clone(a.Data.Names), "none"), List: append(slices.Clone(a.Data.List), null())}
		if ok(more) {
			t.Errorf("%s: with a name more", impl.DocPut(q.doc))
		}
		for i := range a.Data.List {
			less := impl.Value{Kind: impl.IsTree, Names: slices.Delete(slices.Clone(a.Data.Names), i, i+1), List: slices.Delete(slices.Clone(a.Data.List), i, i+1)}
			if ok(less) {
				t.Errorf("%s: with a name less", impl.DocPut(q.doc))
			}
		}
	}
	if trees < 300 {
		t.Errorf("only %d trees", trees)
	}
}

// chain is a document that goes down as far as one can, through three pieces, with the same names at each step.
func chain(names string, end impl.Sel) impl.Doc {
	d := impl.Doc{}
	last := end
	for _, name := range []string{"F", "G", "H"} {
		d.Pieces = append(d.Pieces, impl.Piece{Name: name, On: "Query", Sels: fullSels(impl.DeepMax, names, last)})
		last = spread(name)
	}
	d.Ops = []impl.Op{{Sels: fullSels(impl.DeepMax, names, last)}}
	return d
}

// P24, P26: as much as may be chosen: all that is one is answered once, else this would have no end.
func TestRunOfVeryMany(t *testing.T) {
	fine := readSchema(t, "type Query{q:Query a:Int b:Int}")
	d := chain("xxxxxx", under("end", field("b")))
	_, a, code := impl.Run(fine, []impl.Node{node(t, 0, "Query", `{"q":{"ref":0},"a":1,"b":2}`)}, d, "", tree(""))
	if code != impl.RunFine || len(a.Errs) > 0 || !impl.ShapeOk(fine, d, "", tree(""), a.Data) {
		t.Fatal(code)
	}
	deep, v := 0, a.Data
	for i := slices.Index(v.Names, "x"); i >= 0; i = slices.Index(v.Names, "x") {
		deep, v = deep+1, v.List[i]
	}
	if deep != 4*(impl.DeepMax-1) || impl.ValueDeep(a.Data) != deep+2 || !slices.Contains(v.Names, "end") {
		t.Errorf("%d deep", deep)
	}
	d = chain("abcdef", under("end", field("b")))
	_, a, code = impl.Run(fine, []impl.Node{node(t, 0, "Query", `{}`)}, d, "", tree(""))
	if code != impl.RunFine || impl.AnswerPut(a) != `{"data":{"a":null,"b":null,"c":null,"d":null,"e":null,"f":null}}` || !impl.ShapeOk(fine, d, "", tree(""), a.Data) {
		t.Errorf("%d: %s", code, impl.AnswerPut(a))
	}
}

// P24: what would be far more than can be held, and is nothing, as something that must be there is not at the end of each way.
func TestRunOfVeryManyThatMustBeThere(t *testing.T) {
	fine := readSchema(t, "type Query{q:Query! a:Int! b:Int} type Mutation{set(id:Int,cell:String,value:Int):Int m:[Mutation!]! q:[Query!]!}")
	nodes := []impl.Node{node(t, 0, "Query", `{"q":{"ref":0},"b":2}`), node(t, 1, "Mutation", `{"q":[{"ref":0},{"ref":0}]}`)}
	var ways []string
	for deep := 5; deep <= 20; deep += 5 {
		for _, leaf := range []string{"leafa", "leafb", "leafc", "leafd", "leafe"} {
			ways = append(ways, strings.Repeat("a.", deep)+leaf+":2")
		}
	}
	d := chain("abcdef", under("end", field("a")))
	_, a, code := impl.Run(fine, nodes, d, "", tree(""))
	if code != impl.RunFine || a.Data.Kind != impl.IsNull || errorsPut(a.Errs) != strings.Join(ways, " ") {
		t.Errorf("%d: %v, %s", code, a.Data.Kind, errorsPut(a.Errs))
	}
	set := impl.Sel{Kind: impl.SelField, Name: "set", Args: []impl.Give{{Name: "id", Value: num(0)}, {Name: "cell", Value: text("a")}, {Name: "value", Value: null()}}}
	d.Ops[0] = impl.Op{Change: true, Sels: []impl.Sel{field("q", spread("H")), set, under("p", field("q", spread("H")))}}
	after, a, code := impl.Run(fine, nodes, d, "", tree(""))
	if code != impl.RunFine || a.Data.Kind != impl.IsNull || len(a.Errs) != impl.ErrMax || a.Errs[0].Path != "q.0.a.a.a.a.a.leafa" || !alike(after[0].Cells, tree("q b a", impl.RefTo(0), num(2), null())) {
		t.Errorf("%d: %v, %s", code, a.Data.Kind, errorsPut(a.Errs))
	}
}

// wideTree is in the shape of what chain chooses, of lists: one within the other, so often that it could not be gone through one by one.
func wideTree(names []string) impl.Value {
	v := impl.Value{}
	for deep := 4 * (impl.DeepMax - 1); deep >= 0; deep-- {
		at := impl.Value{Kind: impl.IsTree}
		for _, name := range names {
			if deep < 4*(impl.DeepMax-1) {
				at.Names, at.List = append(at.Names, name), append(at.List, list(times(impl.ListMax, v)...))
			}
			if deep > 0 && deep%(impl.DeepMax-1) == 0 {
				at.Names, at.List = append(at.Names, "leaf"+name), append(at.List, num(1))
			}
		}
		if deep == 4*(impl.DeepMax-1) {
			at.Names, at.List = append(at.Names, "end"), append(at.List, num(2))
		}
		v = at
	}
	return v
}

// P28: a value that holds itself, or the same very often, is held against a shape just as soon.
func TestShapeOfVeryMany(t *testing.T) {
	fine := readSchema(t, "type Query{q:[Query] a:Int b:Int}")
	d := chain("xyzzyx", under("end", field("b")))
	v := wideTree([]string{"x", "y", "z"})
	if !impl.ShapeOk(fine, d, "", tree(""), v) {
		t.Error("a great value is not ok")
	}
	v.List[2].List[impl.ListMax-1] = tree("x", num(1))
	if impl.ShapeOk(fine, d, "", tree(""), v) {
		t.Error("a wrong one at the end is ok")
	}
	round := tree("x y z", null(), null(), null())
	round.List[1] = list(times(impl.ListMax, round)...)
	if impl.ShapeOk(fine, d, "", tree(""), round) {
		t.Error("a value that holds itself is ok")
	}
}
