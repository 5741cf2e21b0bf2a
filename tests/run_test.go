package tests

import (
	"slices"
	"strconv"
	"strings"
	"testing"

	"loop.example/pergola/impl"
)

// runSchema has all kinds of types, and a field that sets cells.
const runSchema = `type Query{me:P! it:T all(first:Int,k:K):[T] must:[P!]! grid:[[Int!]] n(m:Int!=1,i:In):Int q:Query u:U}
type Mutation{set(id:Int!,cell:String!,value:Int):T n:Int! q:Query m:Mutation me:P}
type P{name:String! age:Int pet:Q friends(first:Int=3):[P!] likes(k:K,x:Int,l:[Int],i:In):T nick:String kind:K other:T}
type Q{name:String! age:String owner:P! nick:String pet:Q friends:[Q!] kind:L other:P}
type R{name:String! age:ID pet:Q! likes(x:Int):R nick(x:Int):String}
union T=P|Q
union U=Q|R
enum K{A B}
enum L{A B}
input In{a:Int! b:[String] c:In k:K}`

// runNodes is nodes of runSchema: node 3 lacks what must be there, node 5 has wrong kinds of values.
func runNodes(t *testing.T) []impl.Node {
	t.Helper()
	return []impl.Node{node(t, 0, "Query", `{"me":{"ref":2},"it":{"ref":4},"all":[{"ref":2},{"ref":4},null,{"ref":2}],"must":[{"ref":2}],"grid":[[1,2],null,[]],"n":7,"q":{"ref":0},"u":{"ref":6}}`),
		node(t, 1, "Mutation", `{"n":1,"q":{"ref":0},"m":{"ref":1},"set":5,"me":{"ref":2}}`),
		node(t, 2, "P", `{"name":"ann","age":30,"pet":{"ref":4},"friends":[{"ref":2},{"ref":7}],"likes":{"ref":4},"kind":"A","other":{"ref":2}}`),
		node(t, 3, "P", `{"age":1,"friends":[],"nick":null}`),
		node(t, 4, "Q", `{"name":"rex","age":"old","owner":{"ref":2},"kind":"B","pet":{"ref":4}}`),
		node(t, 5, "P", `{"name":5,"age":"x","pet":{"ref":2},"friends":{"ref":2},"likes":5,"nick":[],"kind":"C","other":{"ref":0}}`),
		node(t, 6, "R", `{"name":"roc","age":"1","pet":{"ref":4}}`),
		node(t, 7, "P", `{"name":"bob"}`)}
}

// world is a schema, and nodes of it.
type world struct {
	list  []impl.Def
	nodes []impl.Node
}

func runWorld(t *testing.T) world {
	t.Helper()
	return world{readSchema(t, runSchema), runNodes(t)}
}

// with is the world with a cell of a node set to the value of a text.
func (w world) with(t *testing.T, id int, name string, value string) world {
	t.Helper()
	nodes, ok := impl.StoreSet(w.nodes, id, name, readValue(t, value))
	if !ok {
		t.Fatalf("%s of %d cannot be set", name, id)
	}
	return world{w.list, nodes}
}

// errorsPut writes errors, each as its path, a colon and its code, with blanks between.
func errorsPut(list []impl.Err) string {
	var out []string
	for _, e := range list {
		out = append(out, e.Path+":"+strconv.Itoa(e.Code))
	}
	return strings.Join(out, " ")
}

// answers asks for the data of a question, and for its errors.
func (w world) answers(t *testing.T, doc string, given string, data string, errs string) {
	t.Helper()
	w.changes(t, doc, given, data, errs, w.nodes)
}

// changes asks for the data of a question, for its errors, and for the nodes that it leaves. What it answers is in its shape, is written by Ask, and is new memory.
func (w world) changes(t *testing.T, doc string, given string, data string, errs string, want []impl.Node) {
	t.Helper()
	d, v := readDoc(t, doc), readValue(t, given)
	nodes, a, code := impl.Run(w.list, w.nodes, d, "", v)
	if code != impl.RunFine || len(nodes) == 0 {
		t.Errorf("%s of %s: code %d", doc, given, code)
		return
	}
	wide := impl.AnswerPut(a)
	if !strings.HasPrefix(wide, `{"data":`+data+",") && wide != `{"data":`+data+"}" {
		t.Errorf("%s of %s: %s", doc, given, wide)
	}
	if got := errorsPut(a.Errs); got != errs {
		t.Errorf("%s of %s: errors %s", doc, given, got)
	}
	if !equal(nodes, want) {
		t.Errorf("%s of %s leaves %q", doc, given, cellsOf(nodes))
	}
	vars, ok := impl.Given(w.list, d.Ops[0], v)
	if !ok || !impl.ShapeOk(w.list, d, "", vars, a.Data) {
		t.Errorf("%s of %s: not in its shape: %s", doc, given, wide)
	}
	after, text := impl.Ask(w.list, w.nodes, "", doc, given)
	if text != wide || !equal(after, want) {
		t.Errorf("%s of %s, asked: %s", doc, given, text)
	}
	isNew(t, doc, nodes, w.list, w.nodes, d, v)
	isNew(t, doc, a, w.list, w.nodes, d, v, nodes)
}

// P24: fields, under their names or others, within each other.
func TestRunOfFields(t *testing.T) {
	w := runWorld(t)
	w.answers(t, "{n}", "{}", `{"n":7}`, "")
	w.answers(t, "{me{name age nick}}", "{}", `{"me":{"name":"ann","age":30,"nick":null}}`, "")
	w.answers(t, "{x:n y:n n}", "{}", `{"x":7,"y":7,"n":7}`, "")
	w.answers(t, "{it:me{n:name name:age}}", "{}", `{"it":{"n":"ann","name":30}}`, "")
	w.answers(t, "{me{pet{owner{pet{name}}}}}", "{}", `{"me":{"pet":{"owner":{"pet":{"name":"rex"}}}}}`, "")
	w.answers(t, "{q{q{q{q{n}}}} n}", "{}", `{"q":{"q":{"q":{"q":{"n":7}}}},"n":7}`, "")
	w.answers(t, "{me{kind} it{...on Q{kind}} u{...on R{age}}}", "{}", `{"me":{"kind":"A"},"it":{"kind":"B"},"u":{"age":"1"}}`, "")
	w.answers(t, "{grid}", "{}", `{"grid":[[1,2],null,[]]}`, "")
	w.answers(t, "{must{name friends{name}} all{__typename}}", "{}", `{"must":[{"name":"ann","friends":[{"name":"ann"},{"name":"bob"}]}],"all":[{"__typename":"P"},{"__typename":"Q"},null,{"__typename":"P"}]}`, "")
	w.answers(t, "{me{other{...on P{likes(x:1,l:[1]){...on Q{name}}}}}}", "{}", `{"me":{"other":{"likes":{"name":"rex"}}}}`, "")
	w.answers(t, "query asked{n}", "{}", `{"n":7}`, "")
}

// P24: __typename is the Type, also where an object has a field of that name, with other arguments and another type.
func TestRunOfTypenames(t *testing.T) {
	w := runWorld(t)
	w.answers(t, "{__typename me{__typename x:__typename} it{__typename} q{__typename} u{__typename ...on R{y:__typename}}}", "{}", `{"__typename":"Query","me":{"__typename":"P","x":"P"},"it":{"__typename":"Q"},"q":{"__typename":"Query"},"u":{"__typename":"R","y":"R"}}`, "")
	own := world{readSchema(t, "type Query{__typename(a:Int!):Int b:Int}"), []impl.Node{node(t, 0, "Query", `{"__typename":5,"b":6}`)}}
	own.answers(t, "{__typename b}", "{}", `{"__typename":"Query","b":6}`, "")
	w.with(t, 2, "__typename", `"Q"`).answers(t, "{me{__typename}}", "{}", `{"me":{"__typename":"P"}}`, "")
	w.changes(t, "mutation{__typename m{__typename}}", "{}", `{"__typename":"Mutation","m":{"__typename":"Mutation"}}`, "", w.nodes)
}

// P24, P26: parts and pieces count by the object that a node is of.
func TestRunOfParts(t *testing.T) {
	w := runWorld(t)
	w.answers(t, "{it{...on P{age} ...on Q{name} ...on T{__typename} ...on U{x:__typename}}}", "{}", `{"it":{"name":"rex","__typename":"Q","x":"Q"}}`, "")
	w.answers(t, "{all{...F ...on Q{owner{...F}}}} fragment F on P{name}", "{}", `{"all":[{"name":"ann"},{"owner":{"name":"ann"}},null,{"name":"ann"}]}`, "")
	w.answers(t, "{me{...on T{...on U{...on Q{name}} ...on P{age}}}}", "{}", `{"me":{"age":30}}`, "")
	w.answers(t, "{me{...F}} fragment F on T{__typename ...G} fragment G on P{name ...H} fragment H on P{age}", "{}", `{"me":{"__typename":"P","name":"ann","age":30}}`, "")
	w.answers(t, "{u{...on Q{name}}}", "{}", `{"u":{}}`, "")
	w.answers(t, "{...on Query{n ...on Query{grid}} ...F} fragment F on Query{x:n}", "{}", `{"n":7,"grid":[[1,2],null,[]],"x":7}`, "")
}

// P26: what is answered under one name is answered once, where it comes first, with all that is chosen within.
func TestRunOfWhatIsChosenTwice(t *testing.T) {
	w := runWorld(t)
	w.answers(t, "{n n n}", "{}", `{"n":7}`, "")
	w.answers(t, "{n x:n grid n x:n}", "{}", `{"n":7,"x":7,"grid":[[1,2],null,[]]}`, "")
	w.answers(t, "{me{name} n me{age} me{name pet{name}} me{pet{kind name}}}", "{}", `{"me":{"name":"ann","age":30,"pet":{"name":"rex","kind":"B"}},"n":7}`, "")
	w.answers(t, "{me{age} ...on Query{me{name}} ...F} fragment F on Query{n me{kind age}}", "{}", `{"me":{"age":30,"name":"ann","kind":"A"},"n":7}`, "")
	w.answers(t, "{me{...F ...F ...G ...F}} fragment F on P{name} fragment G on P{age ...F}", "{}", `{"me":{"name":"ann","age":30}}`, "")
	w.answers(t, "{me{pet{...F}} ...on Query{me{pet{...F age}}}} fragment F on Q{name}", "{}", `{"me":{"pet":{"name":"rex","age":"old"}}}`, "")
	w.answers(t, "{me{...F pet{...F2}} q{me{...F}}} fragment F on P{name pet{kind}} fragment F2 on Q{name}", "{}", `{"me":{"name":"ann","pet":{"kind":"B","name":"rex"}},"q":{"me":{"name":"ann","pet":{"kind":"B"}}}}`, "")
	w.answers(t, "{all{...on P{x:pet{name}} ...on Q{x:pet{name}} ...on T{...on Q{x:pet{kind}}}}}", "{}", `{"all":[{"x":{"name":"rex"}},{"x":{"name":"rex","kind":"B"}},null,{"x":{"name":"rex"}}]}`, "")
	w.answers(t, "{me{age} me{name} x:me{name age}}", "{}", `{"me":{"age":30,"name":"ann"},"x":{"name":"ann","age":30}}`, "")
	w.with(t, 2, "name", "5").answers(t, "{q{me{name}} q{me{name age}}}", "{}", `{"q":null}`, "q.me.name:1")
}

// P27: what is left out, by a truth and by a variable, with two Whens.
func TestRunOfWhatIsLeftOut(t *testing.T) {
	w := runWorld(t)
	for _, c := range []struct {
		whens string
		there bool
	}{{"@skip(if:true)", false}, {"@skip(if:false)", true}, {"@include(if:true)", true}, {"@include(if:false)", false}, {"@skip(if:false)@include(if:true)", true}, {"@skip(if:true)@include(if:true)", false}, {"@skip(if:false)@include(if:false)", false},
		{"@include(if:true)@skip(if:false)", true}, {"@include(if:true)@skip(if:true)", false}, {"@include(if:false)@skip(if:false)", false}, {"@skip(if:false)@skip(if:true)", false}, {"@skip(if:false)@skip(if:false)", true}, {"@include(if:true)@include(if:false)", false}, {"@include(if:true)@include(if:true)", true}} {
		plain, part := `{"grid":[[1,2],null,[]]}`, `{"n":7,"grid":[[1,2],null,[]]}`
		if !c.there {
			part = plain
		}
		pieces := " fragment F on Query{n}"
		w.answers(t, "{n "+c.whens+" grid}", "{}", part, "")
		w.answers(t, "{...on Query "+c.whens+"{n} grid}", "{}", part, "")
		w.answers(t, "{...F "+c.whens+" grid}"+pieces, "{}", part, "")
		vars := strings.NewReplacer("true", "$y", "false", "$n").Replace(c.whens)
		if !strings.Contains(vars, "$y") || !strings.Contains(vars, "$n") {
			vars = strings.Replace(strings.Replace(vars, "$n", "$v", -1), "$y", "$v", -1)
			given := `{"v":` + strconv.FormatBool(strings.Contains(c.whens, "true")) + "}"
			w.answers(t, "query($v:Boolean!){n "+vars+" grid}", given, part, "")
			w.answers(t, "query($v:Boolean!){...F "+vars+" grid}"+pieces, given, part, "")
			continue
		}
		w.answers(t, "query($y:Boolean!,$n:Boolean!){n "+vars+" grid}", `{"y":true,"n":false}`, part, "")
		w.answers(t, "query($y:Boolean=true,$n:Boolean!=false){...on Query "+vars+"{n} grid}", `{}`, part, "")
		w.answers(t, "query($y:Boolean=true,$n:Boolean!=false){...F grid}"+strings.Replace(pieces, "n}", "n "+vars+"}", 1), `{}`, part, "")
	}
	w.answers(t, "{n @skip(if:true)}", "{}", `{}`, "")
	w.answers(t, "{me{name @include(if:false)} all{__typename @skip(if:true)}}", "{}", `{"me":{},"all":[{},{},null,{}]}`, "")
	w.answers(t, "query($v:Boolean=true){n @include(if:$v) x:n @skip(if:$v)}", `{"v":null}`, `{"x":7}`, "")
	w.with(t, 2, "name", "null").answers(t, "{me{name @skip(if:true) age}}", "{}", `{"me":{"age":30}}`, "")
}

// P27: of what is chosen twice just what is left out is: within, and of a piece.
func TestRunOfTwiceAndLeftOut(t *testing.T) {
	w := runWorld(t)
	w.answers(t, "{n @skip(if:true) grid n}", "{}", `{"grid":[[1,2],null,[]],"n":7}`, "")
	w.answers(t, "{n grid n @skip(if:true)}", "{}", `{"n":7,"grid":[[1,2],null,[]]}`, "")
	w.answers(t, "{me{age} me @skip(if:true){name}}", "{}", `{"me":{"age":30}}`, "")
	w.answers(t, "{me @skip(if:true){age} me{name}}", "{}", `{"me":{"name":"ann"}}`, "")
	w.answers(t, "{me{...F @skip(if:true) age ...F}} fragment F on P{name}", "{}", `{"me":{"age":30,"name":"ann"}}`, "")
	w.answers(t, "{me{...F age ...F @skip(if:true)}} fragment F on P{name}", "{}", `{"me":{"name":"ann","age":30}}`, "")
	w.answers(t, "query($y:Boolean!){me{...F @include(if:$y) ...G}} fragment F on P{name} fragment G on P{age ...F}", `{"y":false}`, `{"me":{"age":30,"name":"ann"}}`, "")
	w.answers(t, "query($y:Boolean!){me{...F @include(if:$y) ...G}} fragment F on P{name} fragment G on P{age ...F}", `{"y":true}`, `{"me":{"name":"ann","age":30}}`, "")
	w.answers(t, "{me{...G @skip(if:true) ...F}} fragment F on P{...G} fragment G on P{age}", "{}", `{"me":{"age":30}}`, "")
}

// P24: an error of each value of another kind, where it is; nothing up to where it need not be.
func TestRunOfWrongKinds(t *testing.T) {
	w := runWorld(t)
	x := w.with(t, 0, "it", `{"ref":5}`)
	x.answers(t, "{it{...on P{age}}}", "{}", `{"it":{"age":null}}`, "it.age:1")
	x.answers(t, "{it{...on P{name}}}", "{}", `{"it":null}`, "it.name:1")
	x.answers(t, "{it{...on P{pet{name} friends{name} likes{__typename} nick kind other{__typename}}} n}", "{}", `{"it":{"pet":null,"friends":null,"likes":null,"nick":null,"kind":null,"other":null},"n":7}`, "it.pet:1 it.friends:1 it.likes:1 it.nick:1 it.kind:1 it.other:1")
	x.answers(t, "{it{...on P{name age x:name}}}", "{}", `{"it":null}`, "it.name:1 it.age:1 it.x:1")
	for _, c := range []struct{ id, name, doc string }{{"0", "n", "{n}"}, {"0", "it", "{it{__typename}}"}, {"0", "all", "{all{__typename}}"}, {"0", "grid", "{grid}"}, {"0", "u", "{u{__typename}}"}, {"2", "kind", "{x:me{kind}}"}} {
		for _, v := range []string{`"x"`, "true", "{}", `{"ref":9}`, `{"ref":-1}`, `{"ref":0}`, `{"ref":3,"id":3}`, `{"ref":"3"}`, "false", `"a"`} {
			id, _ := strconv.Atoi(c.id)
			data, path := `{"`+c.name+`":null}`, c.name
			if id == 2 {
				data, path = `{"x":{"kind":null}}`, "x.kind"
			}
			w.with(t, id, c.name, v).answers(t, c.doc, "{}", data, path+":1")
		}
	}
	w.with(t, 0, "n", "[7]").answers(t, "{n}", "{}", `{"n":null}`, "n:1")
	w.with(t, 0, "me", `{"ref":4}`).answers(t, "{me{name}}", "{}", "null", "me:1")
	w.with(t, 0, "me", `{"ref":8}`).answers(t, "{me{name} n}", "{}", "null", "me:1")
	w.with(t, 0, "u", `{"ref":2}`).answers(t, "{u{__typename}}", "{}", `{"u":null}`, "u:1")
	w.with(t, 0, "me", `[{"ref":2}]`).answers(t, "{me{name}}", "{}", "null", "me:1")
	w.with(t, 6, "age", "12").answers(t, "{u{...on R{age}}}", "{}", `{"u":{"age":12}}`, "")
	w.with(t, 6, "age", "true").answers(t, "{u{...on R{age}}}", "{}", `{"u":{"age":null}}`, "u.age:1")
}

// P24: what must be there and is not takes away all up to what need not be there, and no more.
func TestRunOfWhatMustBeThere(t *testing.T) {
	w := runWorld(t)
	x := w.with(t, 0, "me", `{"ref":3}`)
	x.answers(t, "{me{age}}", "{}", `{"me":{"age":1}}`, "")
	x.answers(t, "{me{name}}", "{}", "null", "me.name:2")
	x.answers(t, "{n me{name} q{n}}", "{}", "null", "me.name:2")
	x.answers(t, "{q{me{name}} n}", "{}", `{"q":null,"n":7}`, "q.me.name:2")
	x.answers(t, "{a:q{b:q{c:me{d:name}}}}", "{}", `{"a":{"b":null}}`, "a.b.c.d:2")
	w.with(t, 0, "me", "null").answers(t, "{me{name}}", "{}", "null", "me:2")
	w.with(t, 0, "me", "null").answers(t, "{q{me{name} n} n}", "{}", `{"q":null,"n":7}`, "q.me:2")
	w.with(t, 0, "must", "null").answers(t, "{must{name}}", "{}", "null", "must:2")
	w.with(t, 4, "owner", `{"ref":3}`).answers(t, "{it{...on Q{owner{name}}} me{pet{owner{age}}}}", "{}", `{"it":null,"me":{"pet":{"owner":{"age":1}}}}`, "it.owner.name:2")
	lacking := world{readSchema(t, "type Query{a:A b:A! c:Int!} type A{a:A! b:Int! c:A}"), []impl.Node{node(t, 0, "Query", `{"a":{"ref":1},"b":{"ref":1},"c":1}`), node(t, 1, "A", `{"a":{"ref":1},"c":{"ref":1}}`)}}
	lacking.answers(t, "{a{a{a{b}}} c}", "{}", `{"a":null,"c":1}`, "a.a.a.b:2")
	lacking.answers(t, "{a{c{a{b}} a{c{b}}} c}", "{}", `{"a":{"c":null,"a":{"c":null}},"c":1}`, "a.c.a.b:2 a.a.c.b:2")
	lacking.answers(t, "{b{a{b}} c}", "{}", `null`, "b.a.b:2")
	lacking.answers(t, "{b{c{a{b}}} c}", "{}", `{"b":{"c":null},"c":1}`, "b.c.a.b:2")
	lacking.answers(t, "{a{b x:b c{b}} b{b}}", "{}", `null`, "a.b:2 a.x:2 a.c.b:2 b.b:2")
}

// P24: something that must be there within a list, within a list of lists, and within a list that must be there.
func TestRunOfLists(t *testing.T) {
	names := []string{"a", "b", "c", "d", "e", "f", "g", "h"}
	types := []string{"[Int]", "[Int!]", "[Int]!", "[Int!]!", "[[Int!]]", "[[Int]!]", "[[Int!]!]", "[[Int!]!]!"}
	fields := ""
	for i := range names {
		fields += names[i] + ":" + types[i] + " "
	}
	list := readSchema(t, "type Query{"+fields+"}")
	for _, c := range []struct {
		cell string
		data string
		errs string
	}{
		{"null", "null null ! ! null null null !", "_ _ :2 :2 _ _ _ :2"},
		{"[]", "[] [] [] [] [] [] [] []", "_ _ _ _ _ _ _ _"},
		{"5", "null null ! ! null null null !", ":1 :1 :1 :1 :1 :1 :1 :1"},
		{"[1]", "[1] [1] [1] [1] [null] null null !", "_ _ _ _ .0:1 .0:1 .0:1 .0:1"},
		{"[null]", "[null] null [null] ! [null] null null !", "_ .0:2 _ .0:2 _ .0:2 .0:2 .0:2"},
		{`[1,"x",2]`, "[1,null,2] null [1,null,2] ! [null,null,null] null null !", ".1:1 .1:1 .1:1 .1:1 .0:1,.1:1,.2:1 .0:1,.1:1,.2:1 .0:1,.1:1,.2:1 .0:1,.1:1,.2:1"},
		{"[[1,2],[]]", "[null,null] null [null,null] ! [[1,2],[]] [[1,2],[]] [[1,2],[]] [[1,2],[]]", ".0:1,.1:1 .0:1,.1:1 .0:1,.1:1 .0:1,.1:1 _ _ _ _"},
		{"[[1],[2,null],null]", "[null,null,null] null [null,null,null] ! [[1],null,null] null null !", ".0:1,.1:1 .0:1,.1:1,.2:2 .0:1,.1:1 .0:1,.1:1,.2:2 .1.1:2 .2:2 .1.1:2,.2:2 .1.1:2,.2:2"},
		{`[[null,"x"],[3]]`, "[null,null] null [null,null] ! [null,[3]] [[null,null],[3]] null !", ".0:1,.1:1 .0:1,.1:1 .0:1,.1:1 .0:1,.1:1 .0.0:2,.0.1:1 .0.1:1 .0.0:2,.0.1:1 .0.0:2,.0.1:1"},
	} {
		data, errs := strings.Fields(c.data), strings.Fields(c.errs)
		for i, name := range names {
			w := world{list, []impl.Node{{Type: "Query", Cells: tree(name, readValue(t, c.cell))}}}
			want := `{"` + name + `":` + data[i] + "}"
			if data[i] == "!" {
				want = "null"
			}
			var paths []string
			for _, e := range strings.Split(errs[i], ",") {
				if e != "_" {
					paths = append(paths, name+e)
				}
			}
			w.answers(t, "{"+name+"}", "{}", want, strings.Join(paths, " "))
		}
	}
}

// P24: nodes that must be there within lists.
func TestRunOfListsOfNodes(t *testing.T) {
	w := runWorld(t)
	w.with(t, 0, "all", `[{"ref":2},5,{"ref":6},{"ref":99},{"ref":4},null]`).answers(t, "{all{__typename}}", "{}", `{"all":[{"__typename":"P"},null,null,null,{"__typename":"Q"},null]}`, "all.1:1 all.2:1 all.3:1")
	w.with(t, 0, "all", `[{"ref":2},{"ref":3},{"ref":7}]`).answers(t, "{all{...on P{name}}}", "{}", `{"all":[{"name":"ann"},null,{"name":"bob"}]}`, "all.1.name:2")
	w.with(t, 0, "must", `[{"ref":2},{"ref":3},{"ref":5}]`).answers(t, "{must{name} n}", "{}", `null`, "must.1.name:2 must.2.name:1")
	w.with(t, 0, "must", `[{"ref":2},{"ref":3},{"ref":5}]`).answers(t, "{q{must{name}} n}", "{}", `{"q":null,"n":7}`, "q.must.1.name:2 q.must.2.name:1")
	w.with(t, 0, "must", `[{"ref":2},null]`).answers(t, "{must{name}}", "{}", `null`, "must.1:2")
	w.with(t, 2, "friends", `[{"ref":2},{"ref":3}]`).answers(t, "{me{name friends{friends{name}}}}", "{}", `{"me":{"name":"ann","friends":[{"friends":null},{"friends":[]}]}}`, "me.friends.0.friends.1.name:2")
	w.with(t, 2, "friends", `[{"ref":7},{"ref":4},{"ref":3}]`).answers(t, "{me{x:friends{name}}}", "{}", `{"me":{"x":null}}`, "me.x.1:1 me.x.2.name:2")
}

// P24: not more than ErrMax errors are told, the first ones.
func TestRunOfManyErrors(t *testing.T) {
	nodes := []impl.Node{{Type: "Query", Cells: tree("l g m", list(times(impl.ListMax, text("x"))...), list(times(impl.ListMax, list(num(1), null(), text("x")))...), list(times(impl.ListMax, null())...))}}
	w := world{readSchema(t, "type Query{l:[Int] g:[[Int!]!] m:[Int!]! q:Query}"), nodes}
	paths := func(name string, count int) []string {
		var out []string
		for i := range count {
			out = append(out, name+"."+strconv.Itoa(i)+":1")
		}
		return out
	}
	nulls := "[" + strings.TrimSuffix(strings.Repeat("null,", impl.ListMax), ",") + "]"
	w.answers(t, "{l}", "{}", `{"l":`+nulls+"}", strings.Join(paths("l", 12), " "))
	w.answers(t, "{l x:l}", "{}", `{"l":`+nulls+`,"x":`+nulls+"}", strings.Join(append(paths("l", 12), paths("x", 8)...), " "))
	w.answers(t, "{l x:l y:l z:m}", "{}", `null`, strings.Join(append(paths("l", 12), paths("x", 8)...), " "))
	var within []string
	for i := range impl.ErrMax / 2 {
		within = append(within, "g."+strconv.Itoa(i)+".1:2", "g."+strconv.Itoa(i)+".2:1")
	}
	w.answers(t, "{g l}", "{}", `{"g":null,"l":`+nulls+"}", strings.Join(within, " "))
	for _, c := range []struct{ bad, good int }{{7, 4}, {8, 3}, {8, 4}, {9, 3}} {
		cells := append(times(c.bad, text("x")), many(c.good)...)
		x := world{w.list, []impl.Node{{Type: "Query", Cells: tree("l m", list(times(impl.ListMax, text("x"))...), list(cells...))}}}
		x.answers(t, "{l m}", "{}", "null", strings.Join(append(paths("l", 12), paths("m", min(c.bad, 8))...), " "))
	}
}

// P24: the first so many of a list.
func TestRunOfFirst(t *testing.T) {
	w := runWorld(t)
	all := []string{`{"__typename":"P"}`, `{"__typename":"Q"}`, "null", `{"__typename":"P"}`}
	for _, first := range []int{-impl.NumMax, -1, 0, 1, 2, 3, 4, 5, impl.ListMax, impl.NumMax} {
		want := all
		if 0 <= first && first < 4 {
			want = all[:first]
		}
		data := `{"all":[` + strings.Join(want, ",") + "]}"
		w.answers(t, "{all(first:"+strconv.Itoa(first)+"){__typename}}", "{}", data, "")
		w.answers(t, "query($n:Int){all(first:$n,k:A){__typename}}", `{"n":`+strconv.Itoa(first)+"}", data, "")
	}
	whole := `{"all":[` + strings.Join(all, ",") + "]}"
	w.answers(t, "{all(first:null){__typename}}", "{}", whole, "")
	w.answers(t, "query($n:Int){all(first:$n){__typename}}", "{}", whole, "")
	w.answers(t, "{all(k:B){__typename}}", "{}", whole, "")
	w.answers(t, "{me{friends{name} x:friends(first:1){name} y:friends(first:null){name}}}", "{}", `{"me":{"friends":[{"name":"ann"},{"name":"bob"}],"x":[{"name":"ann"}],"y":[{"name":"ann"},{"name":"bob"}]}}`, "")
	w.with(t, 2, "friends", `[{"ref":2},{"ref":2},{"ref":2},{"ref":3}]`).answers(t, "{me{friends{name}}}", "{}", `{"me":{"friends":[{"name":"ann"},{"name":"ann"},{"name":"ann"}]}}`, "")
	w.with(t, 0, "all", `{"ref":2}`).answers(t, "{all(first:1){__typename}}", "{}", `{"all":null}`, "all:1")
	w.with(t, 0, "all", "null").answers(t, "{all(first:0){__typename}}", "{}", `{"all":null}`, "")
	other := world{readSchema(t, "type Query{l(first:ID):[Int] m(first:[Int]):[Int] b(first:Boolean):[Int] n(first:Int):Int g(first:Int!):[[Int]]}"), []impl.Node{node(t, 0, "Query", `{"l":[1,2],"m":[1,2],"b":[1,2],"n":5,"g":[[1,2],[3],[4]]}`)}}
	other.answers(t, `{l(first:"1") x:l(first:1) m(first:1) b(first:true) n(first:0) g(first:1)}`, "{}", `{"l":[1,2],"x":[1],"m":[1,2],"b":[1,2],"n":5,"g":[[1,2]]}`, "")
}

// P24: arguments that cannot be what they are given are an error, and nothing.
func TestRunOfArgs(t *testing.T) {
	w := runWorld(t)
	w.answers(t, "query($m:Int){n(m:$m)}", "{}", `{"n":7}`, "")
	w.answers(t, "query($m:Int){n(m:$m)}", `{"m":2}`, `{"n":7}`, "")
	w.answers(t, "query($m:Int){n(m:$m)}", `{"m":null}`, `{"n":null}`, "n:3")
	w.answers(t, "query($m:Int){x:n(m:$m) q{y:n(m:$m)} grid}", `{"m":null}`, `{"x":null,"q":{"y":null},"grid":[[1,2],null,[]]}`, "x:3 q.y:3")
	w.answers(t, "query($a:Int=1){n(i:{a:$a})}", "{}", `{"n":7}`, "")
	w.answers(t, "query($a:Int=1){n(i:{a:$a})}", `{"a":null}`, `{"n":null}`, "n:3")
	must := world{readSchema(t, "type Query{a(x:Int!=1):Int! l(x:Int!=1):[Q!] q:Q} type Q{a(x:Int!=1):Int! b:Int}"), []impl.Node{node(t, 0, "Query", `{"a":1,"q":{"ref":1},"l":[{"ref":1}]}`), node(t, 1, "Q", `{"a":1,"b":2}`)}}
	must.answers(t, "query($x:Int){a(x:$x) q{b}}", `{"x":null}`, "null", "a:3")
	must.answers(t, "query($x:Int){q{b a(x:$x)} l{a(x:$x)}}", `{"x":null}`, `{"q":null,"l":null}`, "q.a:3 l.0.a:3")
	must.answers(t, "query($x:Int){l(x:$x){b}}", `{"x":null}`, `{"l":null}`, "l:3")
}

// P24, P25: what is handed in stays as it was, also behind its end, and nothing is kept.
func TestRunStays(t *testing.T) {
	for _, doc := range []string{"query($a:Int!,$i:[Int]=[1]){all(first:$a){...F x:__typename} me{likes(l:$i,i:{a:$a,b:[]}){__typename}}} fragment F on P{friends{name}}", "mutation($a:Int,$i:[Int]=[1]){set(id:2,cell:\"new\",value:$a){__typename} me{likes(l:$i){__typename}}}"} {
		list, listStays := roomy(readSchema(t, runSchema))
		nodes, nodesStay := roomy(runNodes(t))
		d, docStays := roomy(readDoc(t, doc))
		v, valueStays := roomy(readValue(t, `{"a":1}`))
		after, a, code := impl.Run(list, nodes, d, "", v)
		again, b, _ := impl.Run(list, nodes, d, "", v)
		if code != impl.RunFine || !listStays() || !nodesStay() || !docStays() || !valueStays() || !equal(after, again) || !equal(a, b) {
			t.Errorf("%s: %d; %v %v %v %v", doc, code, listStays(), nodesStay(), docStays(), valueStays())
		}
		vars, _ := impl.Given(list, d.Ops[0], v)
		shape, shapeStays := roomy(a.Data)
		if !impl.ShapeOk(list, d, "", vars, shape) || !shapeStays() || !listStays() || !docStays() {
			t.Errorf("%s: ShapeOk", doc)
		}
		isNew(t, doc, after, again, nodes)
		isNew(t, doc, a, b, nodes, after, again, d, list)
	}
}

// codes asks for the code of a question, and that there is nothing beside it.
func (w world) codes(t *testing.T, d impl.Doc, name string, given impl.Value, want int) {
	t.Helper()
	nodes, a, code := impl.Run(w.list, w.nodes, d, name, given)
	if code != want || len(nodes) > 0 || !equal(a, impl.Answer{}) {
		t.Errorf("%s by %q: code %d, not %d; %v %v", impl.DocPut(d), name, code, want, nodes, a)
	}
}

// P24: every code, and of two things that are wrong the first.
func TestRunCodes(t *testing.T) {
	w := runWorld(t)
	fine, vars := readDoc(t, "query a{n} query b($v:Int!){n(m:$v)}"), tree("v", num(1))
	empty, wrong := tree(""), tree("v", text("x"))
	none := world{w.list, nil}
	for _, bad := range []string{"{none}", "query a{n} query a{n}", "{...F}", "query($v:Int){n}", "{n(x:1)}", "{x:n x:q{n}}"} {
		w.codes(t, readDoc(t, bad), "", empty, impl.RunBad)
		none.codes(t, readDoc(t, bad), "zz", wrong, impl.RunBad)
	}
	w.codes(t, impl.Doc{}, "", empty, impl.RunBad)
	for _, list := range wrongSchemas(t, w.list) {
		world{list, w.nodes}.codes(t, fine, "a", empty, impl.RunBad)
	}
	w.codes(t, fine, "", empty, impl.RunName)
	w.codes(t, fine, "c", empty, impl.RunName)
	w.codes(t, fine, "A", empty, impl.RunName)
	w.codes(t, fine, "a ", empty, impl.RunName)
	none.codes(t, fine, "c", wrong, impl.RunName)
	w.codes(t, readDoc(t, "{n}"), "a", empty, impl.RunName)
	w.codes(t, readDoc(t, "query a{n}"), "b", empty, impl.RunName)
	w.codes(t, fine, "b", empty, impl.RunGiven)
	w.codes(t, fine, "b", wrong, impl.RunGiven)
	w.codes(t, fine, "b", null(), impl.RunGiven)
	w.codes(t, fine, "a", null(), impl.RunGiven)
	w.codes(t, fine, "a", list(), impl.RunGiven)
	w.codes(t, fine, "a", tree("a", named("v")), impl.RunGiven)
	w.codes(t, fine, "a", endless(2), impl.RunGiven)
	none.codes(t, fine, "b", empty, impl.RunGiven)
	none.codes(t, fine, "b", vars, impl.RunStore)
	none.codes(t, fine, "a", empty, impl.RunStore)
	for _, nodes := range wrongStores(t) {
		world{w.list, nodes}.codes(t, fine, "a", empty, impl.RunStore)
	}
	for _, typ := range []string{"None", "T", "K", "In", "Int", "p", "PP"} {
		nodes := runNodes(t)
		nodes[5].Type = typ
		world{w.list, nodes}.codes(t, fine, "a", empty, impl.RunStore)
	}
	for name, op := range map[string]string{"a": "query a{n}", "": "query a{n}", "b": "query b{n} query a{none:n}"} {
		if _, _, code := impl.Run(w.list, w.nodes, readDoc(t, op), name, empty); code != impl.RunFine {
			t.Errorf("%s by %q: %d", op, name, code)
		}
	}
	if _, _, code := impl.Run(w.list, w.nodes, fine, "b", vars); code != impl.RunFine {
		t.Error(code)
	}
}

// P24: a change needs a Mutation as node 1; a question does not.
func TestRunCodesOfChanges(t *testing.T) {
	w := runWorld(t)
	change, ask := readDoc(t, "mutation{n}"), readDoc(t, "{n}")
	nodes := runNodes(t)
	other := slices.Clone(nodes)
	other[1].Type = "P"
	moved := slices.Clone(nodes)
	moved[1], moved[2].Type = impl.Node{Id: 1, Type: "P", Cells: tree("")}, "Mutation"
	for i, x := range [][]impl.Node{nodes[:1], slices.Concat(nodes[:1], nodes[2:]), other, moved} {
		world{w.list, x}.codes(t, change, "", tree(""), impl.RunStore)
		if _, _, code := impl.Run(w.list, x, ask, "", tree("")); code != impl.RunFine {
			t.Errorf("%d: %d", i, code)
		}
	}
	w.changes(t, "mutation{n}", "{}", `{"n":1}`, "", w.nodes)
	world{readSchema(t, "type Query{n:Int}"), nodes[:1]}.codes(t, change, "", tree(""), impl.RunBad)
}

// P24: what is set, and what is answered behind it.
func TestRunOfChanges(t *testing.T) {
	w := runWorld(t)
	set := func(id int, name string, v impl.Value) world {
		nodes, ok := impl.StoreSet(w.nodes, id, name, v)
		if !ok {
			t.Fatal(name)
		}
		return world{w.list, nodes}
	}
	w.changes(t, `mutation{set(id:2,cell:"age",value:5){...on P{name age}}}`, "{}", `{"set":{"name":"ann","age":5}}`, "", set(2, "age", num(5)).nodes)
	w.changes(t, `mutation{set(id:7,cell:"new",value:5){...on P{name age}}}`, "{}", `{"set":{"name":"bob","age":null}}`, "", set(7, "new", num(5)).nodes)
	w.changes(t, `mutation{set(id:2,cell:"age",value:null){...on P{age}}}`, "{}", `{"set":{"age":null}}`, "", set(2, "age", null()).nodes)
	w.changes(t, `mutation($i:Int!,$c:String!,$v:Int){x:set(id:$i,cell:$c,value:$v){...on P{age}}}`, `{"i":2,"c":"age","v":6}`, `{"x":{"age":6}}`, "", set(2, "age", num(6)).nodes)
	w.changes(t, `mutation{set(id:2,cell:"name",value:5){...on P{name}}}`, "{}", `{"set":null}`, "set.name:1", set(2, "name", num(5)).nodes)
	w.changes(t, `mutation{set(id:6,cell:"age",value:5){__typename}}`, "{}", `{"set":null}`, "set:1", set(6, "age", num(5)).nodes)
	w.changes(t, `mutation{set(id:1,cell:"n",value:5){__typename} n}`, "{}", `{"set":null,"n":5}`, "set:1", set(1, "n", num(5)).nodes)
	w.changes(t, `mutation{n set(id:1,cell:"n",value:5){__typename}}`, "{}", `{"n":1,"set":null}`, "set:1", set(1, "n", num(5)).nodes)
	w.changes(t, `mutation{set(id:0,cell:"me",value:5){__typename} n q{me{name} n}}`, "{}", `{"set":null,"n":1,"q":null}`, "set:1 q.me:1", set(0, "me", num(5)).nodes)
}

// P24: each way in which a cell is not set; what is chosen behind is answered all the same.
func TestRunOfChangesThatAreNotDone(t *testing.T) {
	w := runWorld(t)
	for _, args := range []string{`id:8,cell:"age",value:5`, `id:-1,cell:"age",value:5`, `id:2,cell:"",value:5`, `id:2,cell:"1a",value:5`, `id:2,cell:"abcdefghijklm",value:5`, `id:2,cell:"a b",value:5`} {
		w.changes(t, `mutation{set(`+args+`){...on P{age}} me{age}}`, "{}", `{"set":null,"me":{"age":30}}`, "", w.nodes)
	}
	full := runWorld(t)
	full.nodes[2].Cells = impl.Value{Kind: impl.IsTree, Names: manyNames(impl.ListMax), List: many(impl.ListMax)}
	full.changes(t, `mutation{set(id:2,cell:"age",value:5){__typename}}`, "{}", `{"set":null}`, "", full.nodes)
	full.changes(t, `mutation{set(id:2,cell:"na",value:0){__typename}}`, "{}", `{"set":{"__typename":"P"}}`, "", full.nodes)
	must := func(args string) world {
		return world{readSchema(t, "type Query{n:Int} type Mutation{set("+args+"):Query! n:Int} input In{a:[[Int]] b:In} enum K{n m}"), []impl.Node{node(t, 0, "Query", `{"n":1}`), node(t, 1, "Mutation", `{"n":2,"set":{"ref":0}}`)}}
	}
	w = must("id:ID,cell:K,value:In")
	w.changes(t, `mutation{set(id:0,cell:n,value:null){n}}`, "{}", `{"set":{"n":null}}`, "", w.with(t, 0, "n", "null").nodes)
	w.changes(t, `mutation{set(id:0,cell:m,value:{b:{}}){n}}`, "{}", `{"set":{"n":1}}`, "", w.with(t, 0, "m", `{"b":{}}`).nodes)
	for _, args := range []string{`id:"0",cell:n,value:null`, `id:null,cell:n,value:null`, `id:0,cell:null,value:null`, `id:5,cell:n,value:null`, `id:-1,cell:n,value:null`, `id:0,cell:n,value:{a:1}`} {
		w.changes(t, `mutation{set(`+args+`){n} n}`, "{}", `null`, "set:2", w.nodes)
	}
	w.changes(t, `mutation($v:In){set(id:0,cell:n,value:{b:{b:$v}}){n} n}`, `{"v":{"b":{"b":{}}}}`, `null`, "set:2", w.nodes)
	w = must("id:Int,cell:Int,value:Int")
	w.changes(t, `mutation{set(id:0,cell:1,value:1){n} n}`, "{}", `null`, "set:2", w.nodes)
	w = must("id:[Int],cell:String,value:Int")
	w.changes(t, `mutation{set(id:0,cell:"n",value:1){n} n}`, "{}", `null`, "set:2", w.nodes)
	w = must("id:Int!=0,cell:String!=\"n\",value:[Int!]=[5]")
	w.changes(t, `mutation($i:Int){set(id:$i){n} n}`, `{"i":null}`, `null`, "set:3", w.nodes)
	w.changes(t, `mutation($i:Int){x:set(id:$i){n} n}`, `{}`, `{"x":{"n":null},"n":2}`, "x.n:1", w.with(t, 0, "n", "[5]").nodes)
}

// P24: what nobody gave, and is not by itself, is no argument: without all three of them no cell is set, and set is the node's cell.
func TestRunOfSetWithoutAll(t *testing.T) {
	w := runWorld(t).with(t, 1, "set", `{"ref":7}`)
	set := w.with(t, 2, "age", "5")
	w.changes(t, `mutation{set(id:2,cell:"age"){...on P{name age}} me{age}}`, "{}", `{"set":{"name":"bob","age":null},"me":{"age":30}}`, "", w.nodes)
	w.changes(t, `mutation($v:Int){set(id:2,cell:"age",value:$v){...on P{name}} me{age}}`, "{}", `{"set":{"name":"bob"},"me":{"age":30}}`, "", w.nodes)
	w.changes(t, `mutation($v:Int){set(id:2,cell:"age",value:$v){...on P{name}} me{age}}`, `{"w":5}`, `{"set":{"name":"bob"},"me":{"age":30}}`, "", w.nodes)
	w.changes(t, `mutation($v:Int){set(id:2,cell:"age",value:$v){...on P{name}} me{age}}`, `{"v":null}`, `{"set":{"name":"ann"},"me":{"age":null}}`, "", w.with(t, 2, "age", "null").nodes)
	w.changes(t, `mutation($v:Int){set(id:2,cell:"age",value:$v){...on P{name}} me{age}}`, `{"v":5}`, `{"set":{"name":"ann"},"me":{"age":5}}`, "", set.nodes)
	w.changes(t, `mutation($v:Int=5){set(id:2,cell:"age",value:$v){...on P{name}} me{age}}`, `{}`, `{"set":{"name":"ann"},"me":{"age":5}}`, "", set.nodes)
	w.changes(t, `mutation($v:Int=null){set(id:2,cell:"age",value:$v){...on P{name}} me{age}}`, `{}`, `{"set":{"name":"ann"},"me":{"age":null}}`, "", w.with(t, 2, "age", "null").nodes)
	w.changes(t, `mutation($v:Int){a:set(id:2,cell:"age",value:5){...on P{age}} b:set(id:2,cell:"age",value:$v){...on P{name}} me{age}}`, `{}`, `{"a":{"age":5},"b":{"name":"bob"},"me":{"age":5}}`, "", set.nodes)
	none := runWorld(t)
	none.nodes[1].Cells = readValue(t, `{"n":1,"me":{"ref":2}}`)
	none.changes(t, `mutation{n set(id:2,cell:"age"){...on P{age}} me{age}}`, "{}", `{"n":1,"set":null,"me":{"age":30}}`, "", none.nodes)
}

// P24: the same of each of the three, with values by themselves, and of lists.
func TestRunOfSetByItself(t *testing.T) {
	of := func(args string, typ string, cell string) world {
		return world{readSchema(t, "type Query{n:Int} type Mutation{set("+args+"):"+typ+"}"), []impl.Node{node(t, 0, "Query", `{"n":1}`), node(t, 1, "Mutation", cell)}}
	}
	w := of("id:Int,cell:String,value:Int", "Query!", `{"set":{"ref":0}}`)
	for _, args := range []string{"", `(id:0)`, `(cell:"n")`, `(value:5)`, `(id:0,cell:"n")`, `(id:0,value:5)`, `(cell:"n",value:5)`, `(id:9,cell:"n")`, `(id:null,cell:null)`} {
		w.changes(t, `mutation{set`+args+`{n}}`, "{}", `{"set":{"n":1}}`, "", w.nodes)
	}
	w.changes(t, `mutation($i:Int,$c:String){set(id:$i,cell:$c,value:5){n}}`, `{"i":0}`, `{"set":{"n":1}}`, "", w.nodes)
	w.changes(t, `mutation($i:Int,$c:String){set(id:$i,cell:$c,value:5){n}}`, `{"c":"n"}`, `{"set":{"n":1}}`, "", w.nodes)
	w.changes(t, `mutation($i:Int,$c:String){set(id:$i,cell:$c,value:5){n}}`, `{"i":0,"c":"n"}`, `{"set":{"n":5}}`, "", w.with(t, 0, "n", "5").nodes)
	w = of("id:Int,cell:String,value:Int", "Query!", `{}`)
	w.changes(t, `mutation{set(id:0,cell:"n"){n}}`, "{}", `null`, "set:2", w.nodes)
	w = of("id:Int=0,cell:String=\"n\",value:Int=5", "Query", `{}`)
	w.changes(t, `mutation{set{n}}`, "{}", `{"set":{"n":5}}`, "", w.with(t, 0, "n", "5").nodes)
	w.changes(t, `mutation($v:Int){set(value:$v){n}}`, "{}", `{"set":{"n":5}}`, "", w.with(t, 0, "n", "5").nodes)
	w = of("id:Int=0,cell:String=\"n\",value:Int=null", "Query", `{}`)
	w.changes(t, `mutation{set{n}}`, "{}", `{"set":{"n":null}}`, "", w.with(t, 0, "n", "null").nodes)
	w = of("id:Int,cell:String,value:Int,first:Int", "[Int]", `{"set":[1,2,3]}`)
	w.changes(t, `mutation{set(id:0,cell:"n",first:2)}`, "{}", `{"set":[1,2]}`, "", w.nodes)
	w.changes(t, `mutation{set(id:0,cell:"n",first:2,value:5)}`, "{}", `{"set":null}`, "set:1", w.with(t, 0, "n", "5").nodes)
}

// P24: changes are done in order, each ahead of what is behind it, once under each name.
func TestRunOfChangesInOrder(t *testing.T) {
	w := runWorld(t)
	w.changes(t, `mutation{a:me{age} b:set(id:2,cell:"age",value:1){...on P{age}} c:me{age} d:set(id:2,cell:"age",value:2){...on P{age friends{age}}} e:me{age}}`, "{}",
		`{"a":{"age":30},"b":{"age":1},"c":{"age":1},"d":{"age":2,"friends":[{"age":2},{"age":null}]},"e":{"age":2}}`, "", w.with(t, 2, "age", "2").nodes)
	w.changes(t, `mutation{a:set(id:2,cell:"age",value:1){__typename} b:set(id:2,cell:"age",value:2){__typename} a:set(id:2,cell:"age",value:1){...on P{age}}}`, "{}",
		`{"a":{"__typename":"P","age":1},"b":{"__typename":"P"}}`, "", w.with(t, 2, "age", "2").nodes)
	w.changes(t, `mutation{a:set(id:2,cell:"age",value:1) @skip(if:true){__typename} ...F} fragment F on Mutation{me{age}}`, "{}", `{"me":{"age":30}}`, "", w.nodes)
	w.changes(t, `mutation{...F me{age}} fragment F on Mutation{set(id:2,cell:"age",value:1){__typename}}`, "{}", `{"set":{"__typename":"P"},"me":{"age":1}}`, "", w.with(t, 2, "age", "1").nodes)
	w.with(t, 1, "n", "null").changes(t, `mutation{n set(id:2,cell:"age",value:1){__typename} me{age}}`, "{}", `null`, "n:2", w.with(t, 1, "n", "null").with(t, 2, "age", "1").nodes)
	w.changes(t, `mutation{m{set(id:2,cell:"age",value:1){...on P{age}}} set(id:2,cell:"age",value:3){...on P{age}} x:m{me{age}}}`, "{}", `{"m":{"set":{"age":1}},"set":{"age":3},"x":{"me":{"age":3}}}`, "", w.with(t, 2, "age", "3").nodes)
	w.changes(t, `mutation{a:m{me{age}} b:m{me{age}} set(id:2,cell:"age",value:3){__typename} c:m{me{age}}}`, "{}", `{"a":{"me":{"age":30}},"b":{"me":{"age":30}},"set":{"__typename":"P"},"c":{"me":{"age":3}}}`, "", w.with(t, 2, "age", "3").nodes)
}

// P24: what is behind a change is answered anew, also if the same was answered ahead of it: through a piece, and in a list of one node twice.
func TestRunOfTheSameBehindChanges(t *testing.T) {
	w := runWorld(t)
	w.changes(t, `mutation{a:m{...F} x:m{...F} set(id:2,cell:"age",value:3){__typename} b:m{...F}} fragment F on Mutation{me{age}}`, "{}",
		`{"a":{"me":{"age":30}},"x":{"me":{"age":30}},"set":{"__typename":"P"},"b":{"me":{"age":3}}}`, "", w.with(t, 2, "age", "3").nodes)
	list := world{readSchema(t, "type Query{n:Int} type Mutation{l:[Mutation] set(id:Int,cell:String,value:Int):Query! n:Int q:Query}"), []impl.Node{node(t, 0, "Query", `{"n":1}`), node(t, 1, "Mutation", `{"l":[{"ref":1},{"ref":1}],"q":{"ref":0},"n":5}`)}}
	list.changes(t, `mutation{l{q{n} a:set(id:0,cell:"n",value:2){n} n b:set(id:1,cell:"n",value:6){n}}}`, "{}", `{"l":[null,null]}`, "l.0.b:1 l.1.b:1", list.with(t, 0, "n", "2").with(t, 1, "n", "6").nodes)
	list.changes(t, `mutation{l{q{n} a:set(id:0,cell:"n",value:2){n}} q{n}}`, "{}", `{"l":[{"q":{"n":1},"a":{"n":2}},{"q":{"n":2},"a":{"n":2}}],"q":{"n":2}}`, "", list.with(t, 0, "n", "2").nodes)
	list.changes(t, `mutation{l{q{n} a:set(id:0,cell:"n",value:2){n} b:set(id:0,cell:"n",value:3){n}}}`, "{}", `{"l":[{"q":{"n":1},"a":{"n":2},"b":{"n":3}},{"q":{"n":3},"a":{"n":2},"b":{"n":3}}]}`, "", list.with(t, 0, "n", "3").nodes)
	list.changes(t, `mutation{set(id:1,cell:"l",value:0){n} l{n}}`, "{}", "null", "set:1 l:1", list.with(t, 1, "l", "0").nodes)
}

// P24: set is a field as others are without such arguments, of another object, and where nothing is to be changed.
func TestRunOfOtherSets(t *testing.T) {
	for _, args := range []string{"", "(id:Int)", "(id:Int,cell:String)", "(id:Int,cell:String,values:Int)", "(Id:Int,cell:String,value:Int)"} {
		w := world{readSchema(t, "type Query{set(id:Int,cell:String,value:Int):Int} type Mutation{set"+args+":Int}"), []impl.Node{node(t, 0, "Query", `{"set":4}`), node(t, 1, "Mutation", `{"set":5}`)}}
		w.changes(t, "mutation{set}", "{}", `{"set":5}`, "", w.nodes)
		if strings.Contains(args, "(id:Int,cell:String)") {
			w.changes(t, `mutation{set(id:0,cell:"set")}`, "{}", `{"set":5}`, "", w.nodes)
		}
		w.answers(t, `{set(id:0,cell:"set",value:9)}`, "{}", `{"set":4}`, "")
	}
	o := world{readSchema(t, "type Query{set(id:Int,cell:String,value:Int):Int} type Mutation{q:Query}"), []impl.Node{node(t, 0, "Query", `{"set":4}`), node(t, 1, "Mutation", `{"q":{"ref":0}}`)}}
	o.changes(t, `mutation{q{set(id:0,cell:"set",value:9)}}`, "{}", `{"q":{"set":4}}`, "", o.nodes)
	w := world{readSchema(t, "type Query{m:Mutation n:Int} type Mutation{set(id:Int,cell:String,value:Int):Int put(id:Int,cell:String,value:Int):Int q:Query}"),
		[]impl.Node{node(t, 0, "Query", `{"m":{"ref":1},"n":4}`), node(t, 1, "Mutation", `{"set":5,"put":6,"q":{"ref":0}}`)}}
	w.answers(t, `{m{set(id:0,cell:"n",value:9)} n}`, "{}", `{"m":{"set":5},"n":4}`, "")
	w.changes(t, `mutation{put(id:0,cell:"n",value:9) q{m{set(id:0,cell:"n",value:9)} n}}`, "{}", `{"put":6,"q":{"m":{"set":null},"n":9}}`, "q.m.set:1", w.with(t, 0, "n", "9").nodes)
}
