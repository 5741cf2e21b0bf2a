package tests

import (
	"slices"
	"strings"
	"testing"

	"loop.example/pergola/impl"
)

// givenSchema has inputs with lists, lists of lists, and a field that has a name which objects have by themselves.
const givenSchema = `type Query{n:Int u:U} enum K{A B true} input In{a:Int! b:[String] c:In k:K l:[[K!]]} input Opt{a:Int d:[[Opt]] __typename:[Int]} union U=Query`

// opWith is the question with variables that are told in a text.
func opWith(t *testing.T, vars string) impl.Op {
	t.Helper()
	return readDoc(t, "query("+vars+"){n}").Ops[0]
}

// gives asks for what variables are by what is given.
func gives(t *testing.T, vars string, given string, want string) {
	t.Helper()
	list := readSchema(t, givenSchema)
	op, v := opWith(t, vars), readValue(t, given)
	got, ok := impl.Given(list, op, v)
	if !ok || impl.JsonPut(got) != want {
		t.Errorf("%s of %s: %s, %v", vars, given, impl.JsonPut(got), ok)
		return
	}
	again, ok := impl.Given(list, op, got)
	if !ok || !alike(again, got) {
		t.Errorf("%s of %s: %s, %v", vars, want, impl.JsonPut(again), ok)
	}
	for _, x := range op.Vars {
		within, ok := impl.TreeGet(got, x.Name)
		_, isGiven := impl.TreeGet(v, x.Name)
		if ok != (isGiven || x.Has) || ok && !impl.ValueFits(list, x.Type, within) {
			t.Errorf("%s of %s: %s is %v", vars, given, x.Name, within)
		}
	}
	isNew(t, "Given", got, op, v)
}

// givesNone asks that there are no variables by what is given.
func givesNone(t *testing.T, vars string, given ...string) {
	t.Helper()
	for _, s := range given {
		if v, ok := impl.Given(readSchema(t, givenSchema), opWith(t, vars), readValue(t, s)); ok || !alike(v, null()) {
			t.Errorf("%s of %s: %s, %v", vars, s, impl.JsonPut(v), ok)
		}
	}
}

// P22: what is given, in the order of the variables; what is not given.
func TestGiven(t *testing.T) {
	gives(t, "$a:Int", `{"a":1}`, `{"a":1}`)
	gives(t, "$a:Int", `{}`, `{}`)
	gives(t, "$a:Int", `{"a":null}`, `{"a":null}`)
	gives(t, "$a:Int,$b:String!,$c:Boolean,$d:ID", `{"d":"x","c":true,"z":1,"b":"y","a":-1}`, `{"a":-1,"b":"y","c":true,"d":"x"}`)
	gives(t, "$a:Int,$b:Int,$c:Int", `{"c":1,"a":2}`, `{"a":2,"c":1}`)
	gives(t, "$d:ID", `{"d":5}`, `{"d":5}`)
	gives(t, "$k:K!", `{"k":"B"}`, `{"k":"B"}`)
	gives(t, "$k:K", `{"k":"true"}`, `{"k":"true"}`)
	gives(t, "$a:Int", `{"b":1,"A":2}`, `{}`)
	givesNone(t, "$a:Int!", `{}`, `{"a":null}`, `{"b":1}`, `{"A":1}`, `{"a":"1"}`, `{"a":[1]}`, `{"a":true}`, `{"a":{}}`)
	givesNone(t, "$a:Int", `{"a":"1"}`, `{"a":[]}`, `{"a":{}}`, `{"a":false}`)
	givesNone(t, "$k:K", `{"k":"C"}`, `{"k":"a"}`, `{"k":true}`, `{"k":1}`)
	givesNone(t, "$a:Int,$b:Int!", `{"a":1}`, `{"a":"","b":1}`, `{"a":1,"b":null}`)
}

// P22: lists, lists of lists, and values alone.
func TestGivenLists(t *testing.T) {
	gives(t, "$a:[Int]", `{"a":[1,null,2]}`, `{"a":[1,null,2]}`)
	gives(t, "$a:[Int]", `{"a":5}`, `{"a":[5]}`)
	gives(t, "$a:[Int]", `{"a":null}`, `{"a":null}`)
	gives(t, "$a:[Int!]!", `{"a":[]}`, `{"a":[]}`)
	gives(t, "$a:[[Int]]", `{"a":5}`, `{"a":[[5]]}`)
	gives(t, "$a:[[Int]]", `{"a":[5,[6],null,[],[null]]}`, `{"a":[[5],[6],null,[],[null]]}`)
	gives(t, "$a:[[Int!]!]!", `{"a":[1,2,[3,4]]}`, `{"a":[[1],[2],[3,4]]}`)
	gives(t, "$a:[K]", `{"a":"A"}`, `{"a":["A"]}`)
	givesNone(t, "$a:[Int!]", `{"a":[1,null]}`, `{"a":["x"]}`, `{"a":[[1]]}`, `{"a":"x"}`)
	givesNone(t, "$a:[[Int!]!]", `{"a":[null]}`, `{"a":[[null]]}`, `{"a":[[[1]]]}`)
}

// P22: trees of inputs, with what need not be there left out.
func TestGivenInputs(t *testing.T) {
	gives(t, "$i:In", `{"i":{"a":1}}`, `{"i":{"a":1}}`)
	gives(t, "$i:In", `{"i":{"b":"x","a":1}}`, `{"i":{"b":["x"],"a":1}}`)
	gives(t, "$i:In", `{"i":{"c":{"b":[null],"a":2,"k":null},"a":1,"l":"A","k":"B"}}`, `{"i":{"c":{"b":[null],"a":2,"k":null},"a":1,"l":[["A"]],"k":"B"}}`)
	gives(t, "$i:[In!]", `{"i":{"a":1,"l":["A",["B","A"],null]}}`, `{"i":[{"a":1,"l":[["A"],["B","A"],null]}]}`)
	gives(t, "$i:[[In]]", `{"i":[{"a":1},null,[{"a":2}]]}`, `{"i":[[{"a":1}],null,[{"a":2}]]}`)
	gives(t, "$o:Opt!", `{"o":{}}`, `{"o":{}}`)
	gives(t, "$o:Opt", `{"o":{"d":{"a":1}}}`, `{"o":{"d":[[{"a":1}]]}}`)
	gives(t, "$o:Opt", `{"o":{"__typename":5}}`, `{"o":{"__typename":[5]}}`)
	givesNone(t, "$i:In", `{"i":{}}`, `{"i":{"b":[]}}`, `{"i":{"a":null}}`, `{"i":{"a":1,"z":1}}`, `{"i":{"a":1,"c":{}}}`, `{"i":{"a":1,"k":"C"}}`, `{"i":5}`, `{"i":[]}`, `{"i":[{"a":1}]}`, `{"i":{"a":1,"b":[1]}}`)
}

// P22: an Else, with Has, of nothing and of something, with Must and without.
func TestGivenElses(t *testing.T) {
	gives(t, "$a:Int=5", `{}`, `{"a":5}`)
	gives(t, "$a:Int=5", `{"a":6}`, `{"a":6}`)
	gives(t, "$a:Int=5", `{"a":null}`, `{"a":null}`)
	gives(t, "$a:Int!=5", `{}`, `{"a":5}`)
	gives(t, "$a:Int=null", `{}`, `{"a":null}`)
	gives(t, "$a:[[Int!]]=5,$b:Int,$c:[K]=A,$k:K!=A", `{}`, `{"a":[[5]],"c":["A"],"k":"A"}`)
	gives(t, "$k:K=B,$t:K=\"true\"", `{}`, `{"k":"B","t":"true"}`)
	gives(t, "$i:In={a:1,k:A,l:B,b:\"x\"},$j:[In]={a:2,c:{a:3,k:B}}", `{}`, `{"i":{"a":1,"k":"A","l":[["B"]],"b":["x"]},"j":[{"a":2,"c":{"a":3,"k":"B"}}]}`)
	gives(t, "$a:Int=5,$b:Int=6", `{"b":1}`, `{"a":5,"b":1}`)
	givesNone(t, "$a:Int!=5", `{"a":null}`, `{"a":"x"}`)
	givesNone(t, "$a:Int!=null", `{}`, `{"a":5}`, `{"a":null}`)
	givesNone(t, "$a:Int=x", `{}`, `{"a":5}`)
	givesNone(t, "$a:Int=\"5\"", `{}`, `{"a":5}`)
	givesNone(t, "$a:Int=$b,$b:Int=1", `{}`, `{"a":5}`, `{"a":5,"b":1}`)
	givesNone(t, "$a:[Int]=[$b]", `{"a":5}`)
	givesNone(t, "$i:In={}", `{}`, `{"i":{"a":1}}`)
	givesNone(t, "$k:K=C", `{"k":"A"}`)
	givesNone(t, "$a:Int,$k:K=C", `{}`)
}

// P22: each thing that Given asks, broken.
func TestGivenOfOthers(t *testing.T) {
	list := readSchema(t, givenSchema)
	op, v := opWith(t, "$a:Int"), tree("a", num(1))
	none := func(what string, list []impl.Def, op impl.Op, v impl.Value) {
		t.Helper()
		if got, ok := impl.Given(list, op, v); ok || !alike(got, null()) {
			t.Errorf("%s: %v", what, got)
		}
	}
	if _, ok := impl.Given(list, op, v); !ok {
		t.Fatal("it is right")
	}
	for _, wrong := range wrongSchemas(t, list) {
		none("a schema that is not fine", wrong, op, v)
	}
	for what, x := range map[string]impl.Value{"nothing": null(), "a list": {Kind: impl.IsList}, "a number": num(1), "a variable": named("a"), "a word": word("a"), "a variable within": tree("a b", num(1), named("a")), "a word within": tree("b", word("A")), "a name twice": tree("a a", num(1), num(1)),
		"a number too great": tree("a b", num(1), num(impl.NumMax+1)), "a tree too deep": tree("a b", num(1), nested(num(1), impl.DeepMax-1)), "a part of another kind": {Kind: impl.IsTree, Num: 1}, "a name that is none": tree("a 1", num(1), num(1)), "endless": tree("b", endless(2)),
		"too many names": {Kind: impl.IsTree, Names: manyNames(impl.ListMax + 1), List: many(impl.ListMax + 1)}} {
		none(what, list, op, x)
	}
	with := func(change func(op *impl.Op)) impl.Op {
		out := bare(op)
		change(&out)
		return out
	}
	a := op.Vars[0]
	for what, x := range map[string]impl.Op{"nothing": {}, "no Sels": with(func(op *impl.Op) { op.Sels = nil }), "a name that is none": with(func(op *impl.Op) { op.Name = "1" }), "a variable twice": with(func(op *impl.Op) { op.Vars = append(op.Vars, a) }),
		"a variable without a name": with(func(op *impl.Op) { op.Vars[0].Name = "" }), "five variables": with(func(op *impl.Op) {
			for _, name := range []string{"b", "c", "d", "e"} {
				op.Vars = append(op.Vars, impl.Var{Name: name, Type: a.Type})
			}
		}), "a type without a form": with(func(op *impl.Op) { op.Vars[0].Type = impl.Type{} }), "a type that is not there": with(func(op *impl.Op) { op.Vars[0].Type.Name = "None" }), "an object": with(func(op *impl.Op) { op.Vars[0].Type.Name = "Query" }), "a union": with(func(op *impl.Op) { op.Vars[0].Type.Name = "U" }),
		"a list of objects": with(func(op *impl.Op) { op.Vars = append(op.Vars, impl.Var{Name: "q", Type: mustType(t, "[Query]")}) }), "an Else without Has": with(func(op *impl.Op) { op.Vars[0].Else = num(1) }), "an Else too deep": with(func(op *impl.Op) { op.Vars[0].Has, op.Vars[0].Else = true, nested(num(1), 3) }),
		"a Sel of no kind": with(func(op *impl.Op) { op.Sels[0].Kind = 0 }), "a word that is none": with(func(op *impl.Op) { op.Vars[0].Type.Name, op.Vars[0].Has, op.Vars[0].Else = "K", true, word("true") })} {
		none(what, list, x, v)
		none(what, list, x, tree(""))
	}
	if got, ok := impl.Given(list, with(func(op *impl.Op) { op.Change, op.Name, op.Vars = true, "x", nil }), v); !ok || !alike(got, tree("")) {
		t.Errorf("no variables: %v", got)
	}
}

// P22: what could not be given again, as it would be too deep, is not told.
func TestGivenAsDeepAsMayBe(t *testing.T) {
	gives(t, "$i:In", `{"i":{"a":1,"c":{"a":1,"c":{"a":1,"c":{"a":1}}}}}`, `{"i":{"a":1,"c":{"a":1,"c":{"a":1,"c":{"a":1}}}}}`)
	gives(t, "$i:In", `{"i":{"a":1,"c":{"a":1,"c":{"a":1,"b":"x"}}}}`, `{"i":{"a":1,"c":{"a":1,"c":{"a":1,"b":["x"]}}}}`)
	givesNone(t, "$i:In", `{"i":{"a":1,"c":{"a":1,"c":{"a":1,"c":{"a":1,"b":"x"}}}}}`)
	givesNone(t, "$o:Opt", `{"o":{"d":{"d":{}}}}`)
}

// takes asks for what the arguments of a field, as a schema has them, are by what they are given, and by variables.
func takes(t *testing.T, args string, given string, vars string, want string) {
	t.Helper()
	list, asked, v := fieldWith(t, args), givesOf(t, given), readValue(t, vars)
	f := list[0].Fields[0]
	got, ok := impl.ArgsOf(list, f, asked, v)
	if !ok || written(got) != want {
		t.Errorf("(%s) given (%s) by %s: %s, %v", args, given, vars, written(got), ok)
		return
	}
	for _, a := range f.Args {
		within, ok := member(got, a.Name)
		if !ok && (a.Has || a.Type.Must) || ok && !(giver{list: list}).fits(a.Type, within) {
			t.Errorf("(%s) given (%s) by %s: %s is %v", args, given, vars, a.Name, within)
		}
	}
	isNew(t, "ArgsOf", got, f, asked, v)
}

// takesNone asks that a field's arguments cannot be what they are given, by variables.
func takesNone(t *testing.T, args string, given string, vars ...string) {
	t.Helper()
	list := fieldWith(t, args)
	for _, s := range vars {
		if v, ok := impl.ArgsOf(list, list[0].Fields[0], givesOf(t, given), readValue(t, s)); ok || !alike(v, null()) {
			t.Errorf("(%s) given (%s) by %s: %s, %v", args, given, s, impl.JsonPut(v), ok)
		}
	}
}

// fieldWith is the schema whose first field has these arguments.
func fieldWith(t *testing.T, args string) []impl.Def {
	t.Helper()
	return readSchema(t, strings.Replace(givenSchema, "{n:", "{n("+args+"):", 1))
}

// givesOf is what a field is given, by its text.
func givesOf(t *testing.T, s string) []impl.Give {
	t.Helper()
	if s == "" {
		return nil
	}
	return readDoc(t, "{n("+s+")}").Ops[0].Sels[0].Args
}

// P23: what is given, in the order of the arguments; the first of two; what is no argument.
func TestArgsOf(t *testing.T) {
	takes(t, "a:Int", "a:1", `{}`, `{"a":1}`)
	takes(t, "a:Int", "", `{}`, `{}`)
	takes(t, "a:Int", "a:null", `{}`, `{"a":null}`)
	takes(t, "a:Int,b:String!,c:Boolean,d:ID", `d:5,c:false,b:"x",a:-1`, `{}`, `{"a":-1,"b":"x","c":false,"d":5}`)
	takes(t, "a:Int,b:Int", "b:1", `{}`, `{"b":1}`)
	takes(t, "a:Int", "a:1,a:2", `{}`, `{"a":1}`)
	takes(t, "a:Int", `a:1,a:"x"`, `{}`, `{"a":1}`)
	takes(t, "a:Int", `z:"x",a:1,A:2`, `{}`, `{"a":1}`)
	takes(t, "a:K,b:[K],c:[[K!]]", `a:A,b:"B",c:[A,["B"]]`, `{}`, `{"a":"A","b":["B"],"c":[["A"],["B"]]}`)
	takes(t, "a:[Int],b:[[Int]],c:[Int!]!", `a:1,b:[1,[2],null],c:[]`, `{}`, `{"a":[1],"b":[[1],[2],null],"c":[]}`)
	takes(t, "i:In,j:[In]", `i:{b:"x",a:1,k:B,l:A},j:{a:1}`, `{}`, `{"i":{"b":["x"],"a":1,"k":"B","l":[["A"]]},"j":[{"a":1}]}`)
	takesNone(t, "a:Int", `a:"x"`, `{}`)
	takesNone(t, "a:Int", `a:A`, `{}`)
	takesNone(t, "a:Int", `a:"x",a:1`, `{}`)
	takesNone(t, "a:Int!", `a:null`, `{}`, `{"a":1}`)
	takesNone(t, "a:Int!", ``, `{}`, `{"a":1}`)
	takesNone(t, "a:Int,b:Int!", `a:1`, `{}`)
	takesNone(t, "a:K", `a:C`, `{}`)
	takesNone(t, "a:[Int!]", `a:[1,null]`, `{}`)
	takesNone(t, "i:In", `i:{}`, `{}`)
	takesNone(t, "i:In", `i:{a:1,z:1}`, `{}`)
	takesNone(t, "i:In", `i:{a:1,c:{k:A}}`, `{}`)
}

// P23: an Else, with Has, of nothing and of something.
func TestArgsOfElses(t *testing.T) {
	takes(t, "a:Int=5", "", `{}`, `{"a":5}`)
	takes(t, "a:Int=5", "a:6", `{}`, `{"a":6}`)
	takes(t, "a:Int=5", "a:null", `{}`, `{"a":null}`)
	takes(t, "a:Int!=5", "", `{}`, `{"a":5}`)
	takes(t, "a:Int=null", "", `{}`, `{"a":null}`)
	takes(t, "a:K=A,b:[[K]]=B,c:In={a:1,b:\"x\",k:A},d:Int", "", `{}`, `{"a":"A","b":[["B"]],"c":{"a":1,"b":["x"],"k":"A"}}`)
	takes(t, "a:Int=5,b:Int!=6", "a:$v,b:$w", `{}`, `{"a":5,"b":6}`)
	takes(t, "a:Int=5,b:Int!=6", "a:$v,b:$w", `{"v":null,"w":1}`, `{"a":null,"b":1}`)
	takesNone(t, "a:Int!=5", "a:null", `{}`)
	takesNone(t, "a:Int!=5", "a:$v", `{"v":null}`, `{"v":"x"}`)
}

// P23: variables that vars has, and that it has not: alone, within a list, within a tree.
func TestArgsOfVariables(t *testing.T) {
	takes(t, "a:Int", "a:$v", `{"v":1}`, `{"a":1}`)
	takes(t, "a:Int", "a:$v", `{}`, `{}`)
	takes(t, "a:Int", "a:$v", `{"a":1,"V":2}`, `{}`)
	takes(t, "a:Int", "a:$v", `{"v":null}`, `{"a":null}`)
	takes(t, "a:Int", "a:$v,a:1", `{}`, `{}`)
	takes(t, "a:[Int]", "a:$v", `{"v":[1,2]}`, `{"a":[1,2]}`)
	takes(t, "a:[Int]", "a:$v", `{"v":1}`, `{"a":[1]}`)
	takes(t, "a:[Int]", "a:[$v,1,$w,$v]", `{"v":2}`, `{"a":[2,1,null,2]}`)
	takes(t, "a:[[Int]]", "a:[$v,[$v,$w],$w]", `{"v":2}`, `{"a":[[2],[2,null],null]}`)
	takes(t, "a:[[Int]]", "a:[$v,$w]", `{"v":[1,2],"w":[]}`, `{"a":[[1,2],[]]}`)
	takes(t, "i:In", "i:{a:$v,b:$w,k:$k}", `{"v":2,"k":"A"}`, `{"i":{"a":2,"k":"A"}}`)
	takes(t, "i:In", "i:{b:[$w,$x],a:$v,c:{a:1,b:$w,k:$x}}", `{"v":2,"w":"x"}`, `{"i":{"b":["x",null],"a":2,"c":{"a":1,"b":["x"]}}}`)
	takes(t, "i:In", "i:$v", `{"v":{"a":1,"b":"x","l":"A"}}`, `{"i":{"a":1,"b":["x"],"l":[["A"]]}}`)
	takes(t, "i:[In]", "i:[$v,{a:1,c:$v},$w]", `{"v":{"a":2}}`, `{"i":[{"a":2},{"a":1,"c":{"a":2}},null]}`)
	takes(t, "k:K", "k:$k", `{"k":"B"}`, `{"k":"B"}`)
	takesNone(t, "a:Int!", "a:$v", `{}`, `{"v":null}`, `{"v":"x"}`, `{"v":[1]}`)
	takesNone(t, "a:Int!", "a:$v,a:1", `{}`)
	takesNone(t, "a:[Int!]", "a:[1,$v]", `{}`, `{"v":null}`, `{"v":[1]}`)
	takesNone(t, "i:In", "i:{a:$v}", `{}`, `{"v":null}`, `{"v":"x"}`)
	takesNone(t, "k:K", "k:$k", `{"k":"C"}`, `{"k":1}`)
}

// P23: each thing that ArgsOf asks, broken.
func TestArgsOfOthers(t *testing.T) {
	list := fieldWith(t, "a:Int,b:Int=1")
	f, asked, vars := list[0].Fields[0], givesOf(t, "a:$v"), tree("v", num(1))
	none := func(what string, list []impl.Def, f impl.Field, args []impl.Give, vars impl.Value) {
		t.Helper()
		if got, ok := impl.ArgsOf(list, f, args, vars); ok || !alike(got, null()) {
			t.Errorf("%s: %v", what, got)
		}
	}
	if got, ok := impl.ArgsOf(list, f, asked, vars); !ok || !alike(got, tree("a b", num(1), num(1))) {
		t.Fatalf("it is right: %v", got)
	}
	for _, wrong := range wrongSchemas(t, list) {
		none("a schema that is not fine", wrong, f, asked, vars)
	}
	for what, x := range map[string]impl.Value{"nothing": null(), "a list": {Kind: impl.IsList}, "a number": num(1), "a variable within": tree("v b", num(1), named("a")), "a word within": tree("v b", num(1), word("A")), "a name twice": tree("v v", num(1), num(1)),
		"a number too great": tree("v b", num(1), num(impl.NumMax+1)), "too deep": tree("v b", num(1), nested(num(1), impl.DeepMax-1)), "a part of another kind": {Kind: impl.IsTree, Text: "a"}, "endless": tree("b", endless(2))} {
		none(what, list, f, asked, x)
	}
	for what, x := range map[string][]impl.Give{"no name": {{Value: num(1)}}, "a name that is none": {{Name: "1", Value: num(1)}}, "a value too deep": {{Name: "a", Value: num(1)}, {Name: "z", Value: nested(num(1), 3)}}, "a number too great": {{Name: "z", Value: num(impl.NumMax + 1)}},
		"a word that is none": {{Name: "z", Value: word("true")}}, "a variable that is no name": {{Name: "z", Value: named("1")}}, "five": times(impl.ArgMax+1, impl.Give{Name: "a", Value: num(1)}), "a name in a tree twice": {{Name: "z", Value: tree("a a", num(1), num(1))}}} {
		none(what, list, f, x, vars)
	}
	with := func(change func(f *impl.Field)) impl.Field {
		out := bare(f)
		change(&out)
		return out
	}
	for what, x := range map[string]impl.Field{"no name": with(func(f *impl.Field) { f.Args[1].Name = "" }), "twice": with(func(f *impl.Field) { f.Args[1].Name = "a" }), "no type": with(func(f *impl.Field) { f.Args[1].Type = impl.Type{} }), "a type too deep": with(func(f *impl.Field) { f.Args[0].Type = impl.Type{Of: []impl.Type{mustType(t, "[[Int]]")}} }),
		"an Else without Has": with(func(f *impl.Field) { f.Args[0].Else = num(1) }), "an Else too deep": with(func(f *impl.Field) { f.Args[0].Has, f.Args[0].Else = true, nested(num(1), 3) }), "an Else that does not fit": with(func(f *impl.Field) { f.Args[1].Else = text("x") }), "an Else of nothing, with Must": with(func(f *impl.Field) { f.Args[1].Type.Must, f.Args[1].Else = true, null() }),
		"an Else that is a variable": with(func(f *impl.Field) { f.Args[1].Else = named("v") }), "an Else that is a word": with(func(f *impl.Field) { f.Args[1].Else = word("A") }), "five": with(func(f *impl.Field) {
			f.Args = append(f.Args, arg(t, "c", "Int"), arg(t, "d", "Int"), arg(t, "e", "Int"))
		}),
		"a type that is not there": with(func(f *impl.Field) { f.Args[0].Type.Name = "None" }), "an object": with(func(f *impl.Field) { f.Args[0].Type.Name = "Query" }), "a union": with(func(f *impl.Field) { f.Args[0].Type.Name = "U" }), "a list of objects": with(func(f *impl.Field) { f.Args[0].Type = mustType(t, "[Query]") })} {
		none(what, list, x, asked, vars)
	}
	for what, x := range map[string]impl.Field{"an Else that does not fit, where something is given": with(func(f *impl.Field) { f.Args[0].Has, f.Args[0].Else = true, text("x") }), "another name and type of the field": with(func(f *impl.Field) { f.Name, f.Type = "", impl.Type{} }), "an argument more of a type that is not there, not given": with(func(f *impl.Field) { f.Args = append(f.Args, arg(t, "c", "None")) })} {
		if got, ok := impl.ArgsOf(list, x, asked, vars); !ok || !alike(got, tree("a b", num(1), num(1))) {
			t.Errorf("%s: %v, %v", what, got, ok)
		}
	}
	for _, name := range []string{"Query", "U", "None"} {
		x := with(func(f *impl.Field) { f.Args[1].Type.Name, f.Args[1].Else = name, null() })
		if got, ok := impl.ArgsOf(list, x, asked, vars); !ok || !alike(got, tree("a b", num(1), null())) {
			t.Errorf("nothing of %s: %v, %v", name, got, ok)
		}
	}
	if got, ok := impl.ArgsOf(list, impl.Field{}, asked, vars); !ok || !alike(got, tree("")) {
		t.Errorf("no arguments: %v, %v", got, ok)
	}
}

// P22, P23: what is handed in stays as it was, also behind its end.
func TestGivenStays(t *testing.T) {
	list, listStays := roomy(fieldWith(t, "i:[In]={a:1},l:[[Int]]"))
	op, opStays := roomy(opWith(t, "$v:[In]={a:1,b:\"x\"},$w:[[Int]]"))
	v, valueStays := roomy(readValue(t, `{"w":[1,[2]]}`))
	asked, askedStays := roomy(givesOf(t, "i:{a:1,b:[$x]},l:$w"))
	got, ok := impl.Given(list, op, v)
	args, argsOk := impl.ArgsOf(list, list[0].Fields[0], asked, v)
	if !ok || !argsOk || !listStays() || !opStays() || !valueStays() || !askedStays() {
		t.Errorf("%v %v; %v %v %v %v", ok, argsOk, listStays(), opStays(), valueStays(), askedStays())
	}
	isNew(t, "both", []impl.Value{got, args}, list, op, v, asked)
	twice := op
	twice.Vars = slices.Clone(op.Vars)
	twice.Vars[1].Type, twice.Vars[1].Has, twice.Vars[1].Else = op.Vars[0].Type, true, op.Vars[0].Else
	if got, ok := impl.Given(list, twice, tree("")); !ok {
		t.Error("one Else of two variables")
	} else {
		isNew(t, "one Else of two variables", got, twice)
	}
	one := tree("v", impl.Value{Kind: impl.IsList, List: many(3)})
	if got, ok := impl.ArgsOf(list, list[0].Fields[0], givesOf(t, "l:[$v,$v]"), one); !ok {
		t.Error("one variable in two places")
	} else {
		isNew(t, "one variable in two places", got, one)
	}
}
