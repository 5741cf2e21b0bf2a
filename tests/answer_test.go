package tests

import (
	"fmt"
	"math/rand"
	"slices"
	"strings"
	"testing"

	"loop.example/pergola/impl"
)

// P33: how answers are written: values of each kind, whatever the limits are.
func TestAnswerPut(t *testing.T) {
	for want, v := range map[string]impl.Value{"null": null(), "true": yes(true), "false": yes(false), "7": num(7), "-7": num(-7), `"a\"\\\n\u0001"`: text("a\"\\\n\x01"), "[]": list(), "{}": tree(""), `[1,[2,"x"],{}]`: list(num(1), list(num(2), text("x")), tree("")),
		`{"b":{"a":[null]},"a":2}`: tree("b a", tree("a", list(null())), num(2)), "[[[[[[[[1]]]]]]]]": nested(num(1), 8), "9000000000": num(9000000000), `"` + strings.Repeat("x", 100) + `"`: text(strings.Repeat("x", 100)),
		"[0,1,2,3,4,5,6,7,8,9,10,11,12,13]": list(many(14)...)} {
		if got := impl.AnswerPut(impl.Answer{Data: v}); got != `{"data":`+want+"}" {
			t.Errorf("%s: %s", want, got)
		}
	}
	for _, v := range someValues() {
		if got := impl.AnswerPut(impl.Answer{Data: v}); got != `{"data":`+impl.JsonPut(v)+"}" {
			t.Errorf("%v: %s", v, got)
		}
	}
}

// P33: how errors are written.
func TestAnswerPutOfErrors(t *testing.T) {
	for want, errs := range map[string][]impl.Err{"": {}, `,"errors":[{"path":"a.0.b","code":2}]`: {{Path: "a.0.b", Code: 2}}, `,"errors":[{"path":"","code":0},{"path":"a\"\\\u00ff","code":-12}]`: {{}, {Path: "a\"\\\xff", Code: -12}},
		`,"errors":[` + strings.TrimSuffix(strings.Repeat(`{"path":"a","code":1},`, 30), ",") + "]": times(30, impl.Err{Path: "a", Code: 1}), `,"errors":[{"path":"` + strings.Repeat("x", 100) + `","code":3}]`: {{Path: strings.Repeat("x", 100), Code: 3}}} {
		if got := impl.AnswerPut(impl.Answer{Data: tree("a", null()), Errs: errs}); got != `{"data":{"a":null}`+want+"}" {
			t.Errorf("%s", got)
		}
	}
}

// P33: how values that are not ok are written.
func TestAnswerPutOfOthers(t *testing.T) {
	for want, v := range map[string]impl.Value{"[null,null,null,null]": list(named("a"), word("a"), impl.Value{Kind: 8}, impl.Value{Kind: -1, Num: 5}), "[false,false,true]": list(impl.Value{Kind: impl.IsBool, Num: 2}, impl.Value{Kind: impl.IsBool, Num: -1}, impl.Value{Kind: impl.IsBool, Num: 1, Text: "x"}),
		`{"a":1,"":2,"":3}`: tree("a", many(4)[1:]...), `{"a":0}`: tree("a b", num(0)), `{"":0}`: tree("", num(0)), `{"a":0,"a":1,"1 b":2}`: {Kind: impl.IsTree, Names: []string{"a", "a", "1 b"}, List: many(3)}, "null": {Num: 5, Text: "x", List: many(1)}, "5": {Kind: impl.IsNum, Num: 5, Text: "x", List: many(1), Names: []string{"a"}},
		`"x"`: {Kind: impl.IsText, Num: 5, Text: "x", List: many(1)}, "[0]": {Kind: impl.IsList, Num: 5, Text: "x", List: many(1), Names: []string{"a"}}, `{"\u00e4\u0000":0}`: {Kind: impl.IsTree, Names: []string{"\xe4\x00"}, List: many(1)}} {
		if got := impl.AnswerPut(impl.Answer{Data: v}); got != `{"data":`+want+"}" {
			t.Errorf("%s: %s", want, got)
		}
	}
}

// P33: values that are very deep, and that hold themselves, have an end; a list that is there twice is written twice.
func TestAnswerPutHasAnEnd(t *testing.T) {
	const deep = 1 << 20
	if got := impl.AnswerPut(impl.Answer{Data: nested(num(1), deep)}); got != `{"data":`+strings.Repeat("[", deep)+"1"+strings.Repeat("]", deep)+"}" {
		t.Errorf("%d bytes", len(got))
	}
	if got := impl.AnswerPut(impl.Answer{Data: ring(1, 2)}); got != `{"data":[1,[2,null]]}` {
		t.Errorf("a ring: %s", got)
	}
	if got := impl.AnswerPut(impl.Answer{Data: endless(2)}); got != `{"data":[null,null]}` {
		t.Errorf("endless: %s", got)
	}
	if got := impl.AnswerPut(impl.Answer{Data: twofold(list(), 2)}); got != `{"data":[[[],[]],[[],[]]]}` {
		t.Errorf("twofold: %s", got)
	}
}

// sessionSchema is the schema of chapter 7, and sessionNodes are its nodes.
const sessionSchema = `type Query{me:Person! all(first:Int):[Person!] find(id:ID,kind:Kind=CAT):Thing n:Int! words:[[String!]]}
type Mutation{set(id:Int!,cell:String!,value:Int):Person n:Int!}
type Person{name:String! age:Int pet:Pet friends:[Person] kind:Kind}
type Pet{name:String! owner:Person!}
enum Kind{CAT DOG}
union Thing=Person|Pet
input In{a:Int! b:[String] c:In}`

func sessionNodes(t *testing.T) []impl.Node {
	t.Helper()
	return []impl.Node{node(t, 0, "Query", `{"me":{"ref":2},"all":[{"ref":2},{"ref":3}],"find":{"ref":4},"n":7,"words":[["a","b"],null]}`), node(t, 1, "Mutation", `{"n":1}`),
		node(t, 2, "Person", `{"name":"ann","age":30,"pet":{"ref":4},"friends":[{"ref":3},null],"kind":"CAT"}`), node(t, 3, "Person", `{"name":"bob","age":"old","friends":[{"ref":2},{"ref":9}]}`), node(t, 4, "Pet", `{"name":"rex","owner":{"ref":2}}`)}
}

// P32: the example of chapter 7, question by question, each of the nodes that the one ahead left.
func TestAskOfTheExample(t *testing.T) {
	list, nodes := readSchema(t, sessionSchema), sessionNodes(t)
	for _, c := range []struct{ name, given, doc, want string }{
		{"", "", "{me{name age pet{name}}}", `{"data":{"me":{"name":"ann","age":30,"pet":{"name":"rex"}}}}`},
		{"", "", "{n words all(first:1){name}}", `{"data":{"n":7,"words":[["a","b"],null],"all":[{"name":"ann"}]}}`},
		{"", "", "{all{name age friends{name}}}", `{"data":{"all":[{"name":"ann","age":30,"friends":[{"name":"bob"},null]},{"name":"bob","age":null,"friends":[{"name":"ann"},null]}]},"errors":[{"path":"all.1.age","code":1},{"path":"all.1.friends.1","code":1}]}`},
		{"", `{"k":"DOG"}`, "query($k:Kind){find(kind:$k){__typename ... on Pet{name owner{name}}}}", `{"data":{"find":{"__typename":"Pet","name":"rex","owner":{"name":"ann"}}}}`},
		{"", "", `mutation{set(id:3,cell:"age",value:5){name age}}`, `{"data":{"set":{"name":"bob","age":5}}}`},
		{"", "", "{all{age}}", `{"data":{"all":[{"age":30},{"age":5}]}}`},
		{"", "", `mutation{set(id:2,cell:"name",value:5){name}}`, `{"data":{"set":null},"errors":[{"path":"set.name","code":1}]}`},
		{"", "", "{me{name}}", `{"data":null,"errors":[{"path":"me.name","code":1}]}`},
		{"", "", "{none}", `{"error":"check","code":4}`},
		{"zz", "", "{n}", `{"error":"run","code":2}`},
		{"", "", "{n", `{"error":"form","code":0}`},
	} {
		after, got := impl.Ask(list, nodes, c.name, c.doc, c.given)
		if got != c.want {
			t.Errorf("%s: %s", c.doc, got)
		}
		if !strings.HasPrefix(c.doc, "mutation") && !equal(after, nodes) {
			t.Errorf("%s leaves %q", c.doc, cellsOf(after))
		}
		isNew(t, c.doc, after, nodes)
		nodes = after
	}
	if want := sessionNodes(t); equal(nodes, want) || impl.StoreGet(nodes, 3, "age").Num != 5 || impl.StoreGet(nodes, 2, "name").Num != 5 {
		t.Errorf("%q", cellsOf(nodes))
	}
}

// refused asks for the error of a question, that nodes are as they are, and that they are new memory.
func refused(t *testing.T, what string, list []impl.Def, nodes []impl.Node, name, doc, given string, want string) {
	t.Helper()
	after, got := impl.Ask(list, nodes, name, doc, given)
	if got != want || !equal(after, nodes) {
		t.Errorf("%s: %s; %v", what, got, equal(after, nodes))
	}
	isNew(t, what, after, nodes)
}

// P32: each error of Ask, and of two the first; nodes are as they are, whatever they are.
func TestAskRefuses(t *testing.T) {
	list, nodes := readSchema(t, sessionSchema), sessionNodes(t)
	server, form := `{"error":"server","code":0}`, `{"error":"form","code":0}`
	for _, wrong := range wrongSchemas(t, list) {
		refused(t, "a schema that is not fine", wrong, nodes, "", "{n}", "", server)
		refused(t, "a schema that is not fine, and no document", wrong, nodes, "", "{", "", server)
	}
	for what, x := range wrongStores(t) {
		if strings.HasPrefix(what, "endless") {
			continue
		}
		refused(t, what, list, x, "", "{n}", "", server)
		refused(t, what+", and nothing else right", nil, x, "zz", "{", "5", server)
	}
	for _, typ := range []string{"Kind", "Thing", "In", "None", "Int", "person"} {
		x := sessionNodes(t)
		x[3].Type = typ
		refused(t, typ, list, x, "", "{n}", "", server)
	}
	for _, doc := range []string{"", "{", "{n}}", "{n} fragment F", "query{n(}", "{n}" + strings.Repeat(" ", impl.DocMax)} {
		refused(t, "no document", list, nodes, "zz", doc, "", form)
	}
	for _, given := range []string{" ", "5", "[]", "null", "{", `{"a":1,}`, `{"a":$v}`, `{a:1}`, "{}{}", "{}" + strings.Repeat(" ", impl.JsonMax), `{"a":[[[[[[1]]]]]]}`, "-"} {
		refused(t, "given "+given, list, nodes, "", "{n}", given, form)
		refused(t, "given "+given+" to a wrong document", list, nodes, "zz", "{none}", given, form)
	}
	for doc, code := range map[string]string{"{n} {n}": "2", "{...F}": "3", "{none}": "4", "{all(x:1){name}}": "5", "query($v:Int){n}": "6", "{x:n x:me{name}}": "7"} {
		refused(t, doc, list, nodes, "zz", doc, "", `{"error":"check","code":`+code+"}")
	}
	refused(t, "no such name", list, nodes, "a", "{n}", "", `{"error":"run","code":2}`)
	refused(t, "no name of several", list, nodes, "", "query a{n} query b{n}", `{"x":1}`, `{"error":"run","code":2}`)
	refused(t, "not given", list, nodes, "", "query($n:Int!){all(first:$n){name}}", "", `{"error":"run","code":3}`)
	refused(t, "given what does not fit", list, nodes, "", "query($n:Int){all(first:$n){name}}", `{"n":"x"}`, `{"error":"run","code":3}`)
	refused(t, "no Mutation", list, nodes[:1], "", "mutation{n}", "", `{"error":"run","code":4}`)
	refused(t, "no root", readSchema(t, "type Query{n:Int}"), nodes[:1], "", "mutation{n}", "", `{"error":"check","code":8}`)
}

// P32: the empty text is an empty tree; blanks around do not matter.
func TestAskOfTexts(t *testing.T) {
	list, nodes := readSchema(t, sessionSchema), sessionNodes(t)
	for _, given := range []string{"", "{}", " { } ", `{"x":1}`} {
		if _, got := impl.Ask(list, nodes, "", "query asked{ n, # a note\n}", given); got != `{"data":{"n":7}}` {
			t.Errorf("%q: %s", given, got)
		}
	}
	for name, want := range map[string]string{"a": `{"data":{"n":7}}`, "b": `{"data":{"x":7}}`} {
		if _, got := impl.Ask(list, nodes, name, "query a{n} query b{x:n}", ""); got != want {
			t.Errorf("%s: %s", name, got)
		}
	}
}

// P32: nodes that are not ok are handed back as they are, also if they hold themselves, or are far too many.
func TestAskOfNodesThatHoldThemselves(t *testing.T) {
	fine := readSchema(t, sessionSchema)
	for i, v := range []impl.Value{ring(1, 2, 3), endless(1), endless(12), twofold(num(1), 200), nested(num(1), 1<<17), tree("a b", ring(1), ring(2, 3)), list(twofold(num(1), 3), ring(1, 2), num(5)), list(make([]impl.Value, 1<<20)...)} {
		nodes := []impl.Node{{Id: -3, Type: "x", Cells: v}, {Cells: tree("v", v)}}
		after, got := impl.Ask(fine, nodes, "", "{n}", "")
		if got != `{"error":"server","code":0}` || len(after) != 2 || after[0].Id != -3 || after[0].Type != "x" {
			t.Fatalf("%d: %s", i, got)
		}
		for j := range nodes {
			if !impl.ValueSame(after[j].Cells, nodes[j].Cells) || impl.ValueDeep(after[j].Cells) != impl.ValueDeep(nodes[j].Cells) {
				t.Errorf("%d: node %d is another one", i, j)
			}
		}
		if len(after[0].Cells.List) > 0 && &after[0].Cells.List[0] == &nodes[0].Cells.List[0] {
			t.Errorf("%d: memory is shared", i)
		}
	}
	shared := list(num(1), list(num(2)))
	nodes := []impl.Node{{Cells: tree("a b", shared, shared)}, {Cells: shared}, {Cells: twofold(shared, 4)}}
	after, _ := impl.Ask(fine, nodes, "", "{n}", "")
	isNew(t, "shared lists", after, nodes)
	wide, stays := roomy(nodes)
	after, _ = impl.Ask(fine, wide, "", "{n}", "")
	isNew(t, "lists with room", after, wide)
	if !stays() {
		t.Error("an argument was written to")
	}
}

// askByHand is Ask, just as the document says it, by what stands ahead of chapter 7, and by AnswerPut.
func askByHand(list []impl.Def, nodes []impl.Node, name, doc, given string) ([]impl.Node, string) {
	no := func(word string, code int) string { return fmt.Sprintf(`{"error":"%s","code":%d}`, word, code) }
	for _, n := range nodes {
		if !slices.ContainsFunc(list, func(d impl.Def) bool { return d.Name == n.Type && d.Kind == impl.DefObject }) {
			return nodes, no("server", 0)
		}
	}
	if impl.SchemaCheck(list) != impl.SchemaFine || !impl.StoreOk(nodes) {
		return nodes, no("server", 0)
	}
	v, ok := impl.JsonGet(given)
	if given == "" {
		v, ok = tree(""), true
	}
	d, read := impl.DocGet(doc)
	if !read || !ok || v.Kind != impl.IsTree {
		return nodes, no("form", 0)
	}
	if code := impl.DocCheck(list, d); code != impl.DocFine {
		return nodes, no("check", code)
	}
	after, a, code := impl.Run(list, nodes, d, name, v)
	if code != impl.RunFine {
		return nodes, no("run", code)
	}
	return after, impl.AnswerPut(a)
}

// P32: questions of all kinds, right and wrong ones, are answered as by hand, or leave nodes.
func TestAskByHand(t *testing.T) {
	fine := readSchema(t, runSchema)
	a := rightAsker{rand.New(rand.NewSource(32)), pairerOf(fine)}
	begins, found := []string{`{"data"`, `{"error":"server"`, `{"error":"form"`, `{"error":"check"`, `{"error":"run"`}, map[string]int{}
	for range 3000 {
		d, nodes := a.ask(t), anyNodes(a.Rand, a.pairer)
		doc, given := impl.DocPut(d), []string{"", "{}", `{"i":1,"k":"B","l":[1],"b":true}`, `{"b":true,"i":"x"}`, "[]", "{"}[a.Intn(6)]
		if a.Intn(8) == 0 {
			nodes[a.Intn(len(nodes))].Type = []string{"P", "T", "K", "1", "None"}[a.Intn(5)]
		}
		if i := a.Intn(len(doc)); a.Intn(3) == 0 {
			doc = doc[:i] + string(" {}n:$("[a.Intn(7)]) + doc[i+1:]
		}
		for _, name := range []string{"", d.Ops[a.Intn(len(d.Ops))].Name, "zz"} {
			want, wantTold := askByHand(fine, nodes, name, doc, given)
			after, told := impl.Ask(fine, nodes, name, doc, given)
			if told != wantTold || !equal(after, want) || strings.HasPrefix(told, `{"error"`) && !equal(after, nodes) {
				t.Fatalf("%s by %q of %q:\n%s, not\n%s", doc, name, given, told, wantTold)
			}
			isNew(t, doc, after, nodes)
			for _, begin := range begins {
				if strings.HasPrefix(told, begin) {
					found[begin]++
				}
			}
		}
	}
	for _, begin := range begins {
		if found[begin] < 200 {
			t.Errorf("%s: %d", begin, found[begin])
		}
	}
}

// P42: a document, and what it is given, that are written are answered as they are, as long as both may be.
func TestAskOfWhatIsWritten(t *testing.T) {
	p, questions := someQuestions(t, 1000)
	found := map[string]int{}
	for _, q := range questions {
		doc, given := impl.DocPut(q.doc), impl.JsonPut(q.given)
		after, told := impl.Ask(p.list, q.nodes, q.op.Name, doc, given)
		if len(doc) > impl.DocMax {
			if told != `{"error":"form","code":0}` || !equal(after, q.nodes) {
				t.Errorf("%d bytes: %s", len(doc), told)
			}
			found["too long"]++
			continue
		}
		want, a := q.run(t, p.list)
		if told != impl.AnswerPut(a) || !equal(after, want) {
			t.Errorf("%s of %s: %s, not %s", doc, given, told, impl.AnswerPut(a))
		}
		found["asked"]++
		if !equal(after, q.nodes) {
			found["changed"]++
		}
	}
	if found["asked"] < 800 || found["changed"] < 15 {
		t.Errorf("too few: %v", found)
	}
}

// P33: an answer begins with its data, and ends there just if there are no errors.
func TestAnswerPutIsData(t *testing.T) {
	someErrs := [][]impl.Err{nil, {}, {{}}, {{Path: "a.0", Code: 1}}, {{Path: "a", Code: 2}, {Path: "\"\\\n\t\x00\x1f\x7f\xff~", Code: -3}, {Path: "}", Code: 9000000000}}, times(impl.ErrMax+1, impl.Err{Path: "x", Code: 3})}
	texts := []string{"", "", `{"path":"","code":0}`, `{"path":"a.0","code":1}`, `{"path":"a","code":2},{"path":"\"\\\n\u0009\u0000\u001f\u007f\u00ff~","code":-3},{"path":"}","code":9000000000}`, strings.TrimSuffix(strings.Repeat(`{"path":"x","code":3},`, impl.ErrMax+1), ",")}
	for _, v := range someValues() {
		for i, errs := range someErrs {
			want := `{"data":` + impl.JsonPut(v)
			if len(errs) > 0 {
				want += `,"errors":[` + texts[i] + "]"
			}
			if got := impl.AnswerPut(impl.Answer{Data: v, Errs: errs}); got != want+"}" {
				t.Fatalf("%s, not %s}", got, want)
			}
		}
	}
}
