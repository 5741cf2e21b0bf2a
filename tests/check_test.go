package tests

import (
	"slices"
	"strings"
	"testing"

	"loop.example/pergola/impl"
)

// checks asks for the code of each document of some texts, by a schema.
func checks(t *testing.T, list []impl.Def, want int, texts ...string) {
	t.Helper()
	for _, s := range texts {
		d := readDoc(t, s)
		if got := impl.DocCheck(list, d); got != want {
			t.Errorf("%s: %d, not %d", s, got, want)
		}
	}
}

// plainSchema has no Mutation.
const plainSchema = "type Query{a:Int b(x:Int!):Int q:Query}"

// P17: documents that are fine.
func TestDocFine(t *testing.T) {
	fine := readSchema(t, checkSchema)
	checks(t, fine, impl.DocFine, "{me{name}}", "query q{me{name age pet{name owner{name}}}}", "{it{...on P{age} ...on Q{name}}}", "{all{__typename} n(m:1)}", "{q{q{q{q{q{__typename}}}}}}",
		"mutation{me{name} set(x:1,y:false)}", "query a{me{name}} mutation b{set} query c{l}", "{me{...F}} fragment F on P{name}",
		"query($v:Int!){n(m:$v)}", "{it{...T}} fragment T on T{__typename ...P ...on Q{name}} fragment P on P{age}", "{u{...on R{pet{name}}}}")
	checks(t, readSchema(t, plainSchema), impl.DocFine, "{a}", "{q{a b(x:1)}}", "query Query{Query:a}")
}

// P17: DocForm, if the schema is not fine, or the document not ok, whatever else is wrong.
func TestDocForm(t *testing.T) {
	fine := readSchema(t, checkSchema)
	texts := []string{"{me{name}}", "{none}", "query a{...F} query a{none} fragment G on K{a}", "mutation{set}"}
	for _, list := range wrongSchemas(t, fine) {
		checks(t, list, impl.DocForm, texts...)
	}
	me := field("me", field("name"))
	for what, d := range map[string]impl.Doc{"nothing": {}, "no Ops": {Pieces: []impl.Piece{{Name: "F", On: "P", Sels: []impl.Sel{field("name")}}}}, "no Sels": asks(), "too many Sels": asks(times(impl.SelMax+1, me)...),
		"too many Ops": {Ops: times(impl.OpMax+1, impl.Op{Sels: []impl.Sel{me}})}, "no kind": asks(impl.Sel{Name: "me"}), "too deep": asks(field("q", field("q", field("q", field("q", field("q", field("q", field("__typename"))))))))} {
		if got := impl.DocCheck(fine, d); got != impl.DocForm {
			t.Errorf("%s: %d", what, got)
		}
		if got := impl.DocCheck(nil, d); got != impl.DocForm {
			t.Errorf("%s, and no schema: %d", what, got)
		}
	}
}

// P17: DocNames.
func TestDocNames(t *testing.T) {
	list := readSchema(t, plainSchema)
	checks(t, list, impl.DocNames, "query a{a} query a{a}", "{a} {a}", "{a} query b{a}", "query b{a} {a}", "query a{a} query b{a} query a{q{a}}", "query a{a} query b{a} {a}", "query{a} query a{a} query b{a}", "query b{a} mutation b{a}",
		"query a{a} query b{a} query b{a}")
	checks(t, list, impl.DocFine, "{a}", "query a{a}", "query a{a} query b{a}", "query a{a} query A{a} query aa{a}", "query query{a} query on{a}")
}

// P17: DocPieces, in each of its ways.
func TestDocPieces(t *testing.T) {
	fine := readSchema(t, checkSchema)
	checks(t, fine, impl.DocPieces,
		"{me{...F}} fragment F on P{name} fragment F on P{name}",                           // twice
		"{me{...F ...G}} fragment F on P{name} fragment G on P{name} fragment F on P{age}", // twice, not side by side
		"{me{...F}} fragment F on K{name}", "{me{...F}} fragment F on In{a}",               // no objects: an enum, an input
		"{me{...F}} fragment F on Int{name}", "{me{...F}} fragment F on None{name}", // one of the four, none
		"{me{name}} fragment F on P{name}",                                                           // nobody leads to it
		"{me{...F}} fragment F on P{name} fragment G on P{name}",                                     // nobody leads to the second
		"{me{name}} fragment F on P{...G} fragment G on P{name}",                                     // only a piece that nobody leads to leads to it
		"{me{name}} fragment F on P{...F}", "{me{name}} fragment F on P{...G} fragment G on P{...F}", // only itself, or one another
		"{me{...F}} fragment F on P{...F}", "{me{...F}} fragment F on P{friends{pet{owner{...F}}}}", // it leads to itself
		"{me{...F}} fragment F on P{...G} fragment G on P{...F}",                                // through another one
		"{me{...F}} fragment F on P{...G} fragment G on P{...H} fragment H on P{...on P{...F}}", // through two
		"{me{...F}} fragment F on P{...G} fragment G on P{friends{...G}}",                       // the second to itself
		"{me{...F}}", "{...None}", "query a{me{name}} query b{none{...F}}", // not there
		"{me{...F}} fragment F on P{...G}",                                     // not there, through another one
		"{me{...F}} fragment F on P{...G} fragment G on P{name ...on Q{...H}}", // through two
		"query a{me{...F}} query b{me{name ...G}} fragment F on P{name}",       // the second Op
		"{me{...f}} fragment F on P{name}",
	)
	checks(t, fine, impl.DocFine,
		"query a{me{name}} query b{me{...F}} fragment F on P{name}",
		"query a{me{...F}} query b{me{...F}} fragment F on P{name}",
		"query a{me{...F}} query b{me{...G}} fragment F on P{name} fragment G on P{...H} fragment H on P{age}",
		"{me{...F ...F} all{...F}} fragment F on P{name}",
		"{all{...F}} fragment F on T{...on P{age}}", "{all{...H}} fragment F on P{name} fragment G on P{...F friends{...F}} fragment H on T{...G ...F}")
}

// P17: DocRoot.
func TestDocRoot(t *testing.T) {
	plain := readSchema(t, plainSchema)
	checks(t, plain, impl.DocRoot, "mutation{a}", "mutation m{none}", "query a{a} mutation b{a}", "mutation{q}", "mutation($x:Int){a}", "mutation{__typename}")
	checks(t, readSchema(t, checkSchema), impl.DocFine, "mutation{set}", "mutation{__typename}", "query a{l} mutation b{set}")
	checks(t, readSchema(t, checkSchema), impl.DocField, "mutation{l}", "{set}", "mutation{...F} fragment F on Query{l}")
}

// P17: DocField of fields, and of what is within them.
func TestDocField(t *testing.T) {
	fine := readSchema(t, checkSchema)
	checks(t, fine, impl.DocField,
		"{none}", "{me{none}}", "{me{name} none}", "{me{pet{owner{none}}}}", "{Me{name}}", "{name:none}", "{me{a}}", // fields that are none
		"{me}", "{it}", "{all}", "{me{pet}}", "{me{friends}}", "{q{q}}", // no Sels where there are objects
		"{l{name}}", "{me{name{name}}}", "{me{kind{A}}}", "{me{kind{__typename}}}", "{l{__typename}}", // Sels where there are none
		"{it{name}}", "{all{name}}", "{all{__typename age}}", "{it{T}}", "{it{P}}", // a union has just one field
		"{me{__typename{a}}}", "{it{__typename{__typename}}}", "{__typename{l}}",
		"query a{l} query b{none}", "query a{none} query b{l}")
	checks(t, fine, impl.DocFine, "{__typename}", "{me{__typename}}", "{it{__typename}}", "{x:__typename}", "mutation{__typename}", "{q{__typename}}", "{me{on:name A:kind}}")
}

// P17: DocField of SelInlines and SelSpreads that do not meet what they are in.
func TestDocFieldOfParts(t *testing.T) {
	fine := readSchema(t, checkSchema)
	checks(t, fine, impl.DocField,
		"{...on P{name}}", "{...on Mutation{set}}", "{me{...on Q{name}}}", "{it{...on R{name}}}", "{u{...on P{name}}}", "{me{...on U{__typename}}}", "{all{...on Query{l}}}",
		"{me{...on K{name}}}", "{me{...on In{a}}}", "{me{...on None{name}}}", "{me{...on String{name}}}", "{me{...on p{name}}}",
		"{me{...on P{none}}}", "{me{...on T{name}}}", "{me{...on P{pet}}}", "{it{...on T{...on U{...on P{name}}}}}", "{it{...on P{...on Q{name}}}}", "{it{...on Q{owner{...on Q{name}}}}}",
		"{...F} fragment F on P{name}", "{me{...F}} fragment F on Q{name}", "{me{...F}} fragment F on U{__typename}", "{me{...F}} fragment F on Query{l}", "{me{pet{...F}}} fragment F on R{name}", "{me{...on T{...F}}} fragment F on R{name}",
		"{me{...F}} fragment F on P{none}", "{me{...F}} fragment F on P{pet}", "{it{...F}} fragment F on T{name}", "{me{...F}} fragment F on P{...on Q{name}}",
		"{me{...F}} fragment F on P{pet{...G}} fragment G on P{name}", "{me{...F}} fragment F on P{...G} fragment G on P{name{a}}",
		"query a{me{...F}} query b{it{...on U{...F}}} fragment F on P{name}")
	checks(t, fine, impl.DocFine,
		"{...on Query{l}}", "{me{...on P{name}}}", "{me{...on T{__typename}}}", "{me{...on T{...on P{name}}}}", "{me{...on T{...on Q{name}}}}", "{it{...on T{...on U{...on R{name}}}}}", "{it{...on U{...on T{...on P{name}}}}}",
		"{me{...F}} fragment F on T{...on Q{name}}", "{it{...F}} fragment F on U{...on R{age}}", "{it{...F}} fragment F on P{...on T{...G}} fragment G on Q{name}", "{...F} fragment F on Query{...on Query{l}}")
}

// P17: DocArgs of names: none, twice, not given.
func TestDocArgsOfNames(t *testing.T) {
	fine := readSchema(t, checkSchema)
	checks(t, fine, impl.DocArgs,
		"{n(m:1,none:1)}", "{l(x:1)}", "{me(a:1){name}}", "{l(A:1)}", "{all(first:1,last:1){__typename}}", "{__typename(a:1)}", "{it{__typename(first:1)}}", "{me{name(x:1)}}",
		"{n(m:1,m:1)}", "{l(a:1,b:1,a:1)}", "{n(m:1,i:{a:1},m:2)}", "{l(a:null,a:null)}", "{n(i:null,i:null,m:1)}",
		"{n}", "{n(i:{a:1})}", "{q{q{n}}}", "{n(m:null)}", "{...on Query{n}}",
		"{...F} fragment F on Query{n}", "{...F} fragment F on Query{q{...G}} fragment G on Query{l(x:1)}",
		"query a{l} query b{n}", "{me{likes(k:A,y:1){__typename}}}", "{u{...on R{likes(k:A){name}}}}")
	checks(t, fine, impl.DocFine,
		"{n(m:1)}", "{n(i:{a:1},m:1)}", "{n(m:1,i:null)}", "{l}", "{e}", "{l(d:[],c:[],b:[],a:[])}", "mutation{set}", "{me{likes{__typename}}}", "{me{...on P{likes(x:1,k:B){__typename}}}}")
}

// P17: DocArgs of values without variables, which fit, or do not.
func TestDocArgsOfValues(t *testing.T) {
	fine := readSchema(t, checkSchema)
	for _, c := range []struct{ ask, right, wrong string }{
		{"{n(m:1,i:VALUE)}", `null;{a:1};{a:1,b:"x",c:{a:2}};{k:A,a:0};{a:1,k:"B",b:["x",null]};{a:1,b:[]};{b:null,c:null,a:1}`, `{};{a:null};{a:"1"};{a:1,d:1};[{a:1}];1;A;{a:1,c:{}};{a:1,b:[1]};{a:1,k:C}`},
		{"{n(m:VALUE)}", "0;-5;2147483647", `null;"1";true;[1];A;{a:1};{}`},
		{"{l(a:VALUE)}", "null;1;[];[1,2]", "[null];[1,null];[[1]];A;true"},
		{"{l(b:VALUE)}", "1;[];[1,null];[[1],[null],null,2]", `null;[["1"]];[[[]]];["1"]`},
		{"{l(c:VALUE)}", "null;{a:1};[];[{a:1},null]", "{};[{}];[1];[[{}]];[[]]"},
		{"{l(d:VALUE)}", `null;A;"A";[A,[B]];[]`, "[null];[[null]];C;[[C]];1"},
		{"{e(d:VALUE)}", "2", `null;"x"`}, {"{e(k:VALUE)}", `A;[A,"B"];null`, `[null];[A,C];"C";true`}, {"{e(o:VALUE)}", `1;"x";null`, "true;A;[1];{}"}, {"{e(s:VALUE)}", `"x";"";null`, "1;A;x;false"},
		{"mutation{set(y:VALUE)}", "true;false", "null;1;[true];A"}, {"{all(k:VALUE){__typename}}", `A;B;"A";null`, `C;a;"a";1;[A]`},
		{"{...F} fragment F on Query{q{e(s:VALUE)}}", `"x"`, "1"},
		{"{l @skip(if:VALUE)}", "true;false", `null;1;"true";[];{};A`}, {"{me @include(if:VALUE){name}}", "true;false", `null;0;"";TRUE`}, {"{me{...F @skip(if:VALUE)}} fragment F on P{name}", "true", "null;1"},
		{"{me{...on P @include(if:VALUE){name}}}", "false", "null;A"}, {"{l @skip(if:true) @include(if:VALUE)}", "true", `"x";null`}, {"{me{...F}} fragment F on P{pet{name @skip(if:VALUE)}}", "true", "3"},
	} {
		for _, v := range strings.Split(c.right, ";") {
			checks(t, fine, impl.DocFine, strings.ReplaceAll(c.ask, "VALUE", v))
		}
		for _, v := range strings.Split(c.wrong, ";") {
			checks(t, fine, impl.DocArgs, strings.ReplaceAll(c.ask, "VALUE", v))
		}
	}
}

// P17: DocVars.
func TestDocVars(t *testing.T) {
	fine := readSchema(t, checkSchema)
	checks(t, fine, impl.DocVars,
		"query($v:Int,$v:Int){l(a:[$v])}", "query($v:Int!,$w:Int!,$v:Int!){n(m:$v,i:{a:$w})}", "query($v:Int!,$v:String){n(m:$v)}", // twice
		"query($v:P){l(a:$v)}", "query($v:T){l(a:$v)}", "query($v:[Query!]!){l(a:$v)}", "query($v:None){l(a:$v)}", "query($v:int){l(a:$v)}", "query($v:[[None]]){l(a:$v)}", // a base that is not given in
		`query($v:Int="1"){all(first:$v){__typename}}`, "query($v:Int!=null){n(m:$v)}", "query($v:K=C){all(k:$v){__typename}}", "query($v:In={}){n(m:1,i:$v)}", "query($v:[Int!]=[null]){l(a:$v)}", "query($v:[Int!]=[1,A]){l(a:$v)}", "query($v:Int=[1]){all(first:$v){__typename}}", // an Else that does not fit
		"query($v:Int=$v){all(first:$v){__typename}}", "query($w:Int!,$v:Int=$w){all(first:$v){__typename} n(m:$w)}", "query($v:[Int!]=[$v]){l(a:$v)}", "query($v:In={a:$v}){n(m:1,i:$v)}", "query($v:[Int]=[[$v]]){l(a:$v)}", // an Else that has variables
		"query($v:Int){l}", "query($v:Int!,$w:Int){n(m:$v)}", "query($v:Int=1){l}", "query a($v:Int!){l} query b($v:Int!){n(m:$v)}", "query($v:Int,$w:Int=$v){all(first:$w){__typename}}", // nothing has it
		"{n(m:$v)}", "query($v:Int!){n(m:$v,i:{a:$w})}", "{l @skip(if:$v)}", "{l(a:[1,$v])}", "{l(b:[[$v]])}", "{me @include(if:$v){name}}", "{...on Query @skip(if:$v){l}}", "query a($v:Int!){n(m:$v)} query b{n(m:$v)}", // one that is none
		"{...F} fragment F on Query{n(m:$v)}", "{...F} fragment F on Query{q{...G}} fragment G on Query{l @skip(if:$v)}", "{...F @skip(if:$v)} fragment F on Query{l}", "query($V:Int!){n(m:$v)}",
		"query a($v:Int!){...F} query b{...F} fragment F on Query{n(m:$v)}")
	checks(t, fine, impl.DocFine,
		"query($v:Int!){n(m:$v)}", "query($v:Int){all(first:$v){__typename}}", "query($v:K=A){all(k:$v){__typename}}", `query($v:K="B"){all(k:$v){__typename}}`, "query($v:Int=null){all(first:$v){__typename}}", "query($v:[Int!]=1){l(a:$v)}", "query($v:In={a:1,c:{a:2}}){n(m:1,i:$v)}",
		"query($v:Int!){...F} fragment F on Query{n(m:$v)}", "query a($v:Int!){...F} query b($v:Int=3){...F} fragment F on Query{n(m:$v)}", "query($v:Boolean!){l @skip(if:$v)}", "query($a:Int!,$b:Int!,$c:Boolean!,$d:K){n(m:$a,i:{a:$b,k:$d}) @skip(if:$c)}",
		"mutation($v:Boolean!){set(y:$v)}", "query($v:ID){e(o:$v)}", "query($v:String){e(s:$v)}")
}

// P17: which variables may stand where a type is wanted.
func TestDocArgsOfVariables(t *testing.T) {
	fine := readSchema(t, checkSchema)
	for _, c := range []struct{ ask, right, wrong string }{
		{"{all(first:$v){__typename}}", "Int;Int!;Int=1;Int=null;Int!=1", "String;ID;Boolean;K;In;[Int];[Int!]!;[Int]=1"}, // without Must
		{"{n(m:$v)}", "Int!;Int=1;Int!=1;Int=0", "Int;Int=null;String!;ID!;[Int!]!;[Int]=[1]"},                            // with Must
		{"{e(d:$v)}", "Int;Int!;Int=null;Int=1", "String;[Int];ID!"},                                                      // with Must, and an Else
		{"mutation{set(y:$v)}", "Boolean;Boolean!;Boolean=null;Boolean=true", "Int;[Boolean]"},
		{"{l(a:$v)}", "[Int!];[Int!]!;[Int!]=1;[Int!]=null", "Int;Int!;[Int];[Int]!;[ID!];[[Int!]];[Int]=1;[Int]=[1]"}, // a list
		{"{l(b:$v)}", "[[Int]];[[Int]]!;[[Int!]!]!;[[Int!]];[[Int]!]=null", "[Int];Int;[Int]!;[[ID]]"},                 // of lists
		{"{l(d:$v)}", "[[K!]!];[[K!]!]!", "[[K]!];[[K!]];[[K]];[K!];K;[[L!]!];[[K]!]=A"},
		{"{l(a:[$v])}", "Int!;Int=1", "Int;Int=null;[Int!];[Int!]!;ID!"}, // within a list
		{"{l(a:[1,$v,2])}", "Int!;Int=1", "Int;Int=null;K!"},
		{"{l(b:[$v])}", "[Int];[Int]!;[Int!];[Int]=1;[Int]=null", "Int;Int!;[[Int]];[[Int]]!;[ID]"},
		{"{l(b:[[$v]])}", "Int;Int!;Int=1;Int=null", "[Int];ID;[Int!]!"},
		{"{l(b:[1,[2,$v],null])}", "Int;Int!", "[Int];String"},
		{"{l(c:$v)}", "[In];[In!];[In]!", "In;In!;[[In]];[K]"}, {"{l(c:[$v])}", "In;In!", "[In];K"},
		{"{l(c:{a:$v})}", "Int!;Int=1", "Int;Int=null;[Int!];ID!"}, // a tree where a list is wanted
		{"{l(c:[{a:1,c:$v}])}", "In;In!;In=null", "Int;[In];K"},
		{"{n(m:1,i:$v)}", "In;In!;In={a:1}", "[In];Int"},
		{"{n(m:1,i:{a:$v})}", "Int!;Int=1", "Int;Int=null;String!"}, // within a tree
		{"{n(m:1,i:{a:1,b:$v})}", "[String];[String!]!;[String]=null", "String;String!;[Int];[[String]]"},
		{"{n(m:1,i:{a:1,b:[$v]})}", "String;String!;String=null", "[String];ID"},
		{"{n(m:1,i:{a:1,b:[\"x\",$v]})}", "String;String!", "[String];Int"},
		{"{n(m:1,i:{a:1,c:{a:$v}})}", "Int!;Int=7", "Int;Int=null;In"},
		{"{n(m:1,i:{a:1,k:$v})}", "K;K!;K=A", "L;String;Int"},
		{"{e(k:$v)}", "[K!];[K!]!", "K;K!;[K];[L!]"}, {"{e(k:[$v,A])}", "K!;K=A", "K;L!;String!"},
		{"{e(o:$v)}", "ID;ID!", "Int;String;Int!"},
		{"{l @skip(if:$v)}", "Boolean!;Boolean=true;Boolean=false", "Boolean;Boolean=null;Int!;[Boolean!]!;String!"}, // a When
		{"{me{name @include(if:$v)}}", "Boolean!;Boolean=true", "Boolean;K!"},
		{"{me{...on P @include(if:$v){name}}}", "Boolean!;Boolean=true", "Boolean;Boolean=null"},
		{"{...F @skip(if:$v)} fragment F on Query{l}", "Boolean!", "Boolean"},
		{"{...F} fragment F on Query{n(m:$v)}", "Int!;Int=1", "Int;Int=null;ID!"}, // in a piece
		{"{...F} fragment F on Query{q{...G}} fragment G on Query{l @skip(if:$v)}", "Boolean!", "Boolean"},
	} {
		for _, typ := range strings.Split(c.right, ";") {
			checks(t, fine, impl.DocFine, withVariable(c.ask, typ))
		}
		for _, typ := range strings.Split(c.wrong, ";") {
			checks(t, fine, impl.DocArgs, withVariable(c.ask, typ))
		}
	}
}

// withVariable is a document whose question has a variable of a type.
func withVariable(ask string, typ string) string {
	change, ok := strings.CutPrefix(ask, "mutation")
	if ok {
		return "mutation($v:" + typ + ")" + change
	}
	return "query($v:" + typ + ")" + ask
}

// P17: a value with variables must fit in all else, too.
func TestDocArgsOfValuesWithVariables(t *testing.T) {
	fine := readSchema(t, checkSchema)
	checks(t, fine, impl.DocArgs,
		"query($v:Int!){n(m:[$v])}", "query($v:Int!){n(m:{a:$v})}", "query($v:Int!){n(m:1,i:{a:$v,d:1})}", "query($v:[String]){n(m:1,i:{b:$v})}", "query($v:K){n(m:1,i:{k:$v,a:null})}", "query($v:Int!){l(a:[$v,null])}", `query($v:Int!){l(a:[$v,"x"])}`,
		"query($v:Int!){l(a:[[$v]])}", "query($v:In){l(c:[$v,{}])}", "query($v:Int!){n(m:1,i:[{a:$v}])}", "query($v:Int!){all(first:[$v]){__typename}}", "query($v:Int!){n(m:1,i:{a:1,none:$v})}", "query($v:Boolean!){l @skip(if:$v) @skip(if:1)}", "query($v:Int!){__typename(x:$v)}",
		"query($v:Int!){n(m:$v,m:$v)}", "query($v:[Int]){l(b:[[$v]])}", "query($v:K!){e(k:[[$v]])}")
	checks(t, fine, impl.DocFine,
		`query($v:Int!){n(m:1,i:{a:$v,b:"x"})}`, "query($v:In){l(c:[$v,null,{a:1}])}", "query($v:Int){l(b:[null,1,[$v]])}", "query($v:K!){e(k:[$v,A,\"B\"])}", "query($v:K!){l(d:[[$v],B,[A,$v]])}", "query($v:Int!,$w:K){n(m:$v,i:{k:$w,c:{a:$v,b:[]},a:1})}")
}

// P17: a variable is held against the types of each question that has it.
func TestDocVarsOfEachOp(t *testing.T) {
	fine := readSchema(t, checkSchema)
	const piece = " fragment F on Query{n(m:$v)}"
	checks(t, fine, impl.DocFine, "query a($v:Int!){...F} query b($v:Int=1){l ...F}"+piece, "query a{l} query b($v:Int!){...F}"+piece)
	checks(t, fine, impl.DocArgs, "query a($v:Int!){...F} query b($v:Int){...F}"+piece, "query a($v:ID!){...F} query b($v:Int!){...F}"+piece)
	checks(t, fine, impl.DocVars, "query a($v:Int!){...F} query b{...F}"+piece, "query a($v:Int!){...F l} query b($v:P){...F}"+piece)
}

// P17: of several things that are wrong the first is told.
func TestDocCheckFirstOfSeveral(t *testing.T) {
	plain := readSchema(t, plainSchema)
	checks(t, plain, impl.DocNames, "query a{...G} mutation a($v:P){none} fragment F on None{x}")
	checks(t, plain, impl.DocPieces, "mutation a{...F} fragment F on Query{none ...G}", "query($v:P){none} fragment F on Query{a}", "mutation{...F} fragment F on Query{...F}", "query a{x:a x:q{a}} query b{...F}", "mutation{...F}")
	checks(t, plain, impl.DocField, "mutation{...F} fragment F on Query{none}", "query a{x:a x:b(x:1)} mutation b{...F} fragment F on Query{q}", "query($v:P){none}", "query($v:Int){b none}", "{x:a x:none}", "{b(y:1){c}}", "query($v:Int){...F b} fragment F on Query{none}",
		"query a{b} query b{...F} fragment F on Query{q}")
	checks(t, plain, impl.DocRoot, "mutation{none}", "mutation($v:P){b(y:$w)}", "mutation{x:a x:b(x:1)}", "mutation a{a} query b{none}", "mutation{...F} fragment F on Query{b}")
	checks(t, plain, impl.DocVars, "query($v:Int){b}", "query($v:Int){x:b(x:1) x:b(x:2)}", "query($v:P){b(x:$v)}", "{b(x:$v,y:1)}", "query a{b(x:$v)} query b{none}", "query a{b(x:$v)} mutation b{a}", "query($v:Int!=null){b(x:1,y:$v)}")
	checks(t, plain, impl.DocArgs, "{x:b x:b(x:1)}", "{x:b(x:1) x:b(x:true)}", "query a{b} query b{none}", "query a{b} mutation b{a}", "query a{b} query b($v:Int){a}", "{x:a x:q{b}}")
	checks(t, plain, impl.DocMerge, "{x:a x:b(x:1)}", "query a{x:a x:b(x:1)} query b{none}", "query a{x:a x:b(x:1)} mutation b{a}", "query a{x:a x:b(x:1)} query b($v:Int){a}", "query a{x:a x:b(x:1)} query b{b}")
	checks(t, plain, impl.DocField, "query b{none} query a{x:a x:b(x:1)}", "query a{none} mutation b{a}")
	checks(t, plain, impl.DocRoot, "mutation b{a} query a{x:a x:b(x:1)}", "query a{a} mutation b{none}")
}

// P17: what each name has stands ahead of a field of an object that has the same name.
func TestDocFieldOfTypename(t *testing.T) {
	list := readSchema(t, "type Query{__typename(x:Int!):Query a:String! q:Query}")
	checks(t, list, impl.DocFine, "{__typename}", "{x:__typename q{__typename x:a}}")
	checks(t, list, impl.DocField, "{__typename{a}}")
	checks(t, list, impl.DocArgs, "{__typename(x:1)}")
}

// P17: nothing is written to what is handed in, and the answer is the same again.
func TestDocCheckStays(t *testing.T) {
	list := readSchema(t, "type Query{n(x:X):Query a:Int} type P{a:Int} input X{a:Int b:[Int!]}")
	list, listStays := withRoom(list, enum("mark", "A"))
	d, stays := wideDoc(t)
	before := impl.DocPut(d)
	for range 2 {
		if got := impl.DocCheck(list, d); got != impl.DocPieces || !stays() || !listStays() || impl.DocPut(d) != before {
			t.Errorf("%d; %v %v", got, stays(), listStays())
		}
	}
	d.Pieces = d.Pieces[:0]
	gives, givesStay := withRoom([]impl.Give{{Name: "x", Value: tree("b a", named("v"), num(1))}}, impl.Give{Name: "mark"})
	vars, varsStay := withRoom([]impl.Var{{Name: "v", Type: mustType(t, "[Int!]")}}, impl.Var{Name: "mark"})
	sels, selsStay := withRoom([]impl.Sel{{Kind: impl.SelField, Name: "n", Args: gives, Sels: []impl.Sel{field("a")}}, {Kind: impl.SelField, Name: "n", Args: slices.Clone(gives), Sels: []impl.Sel{field("a")}}}, field("mark"))
	d.Ops = []impl.Op{{Vars: vars, Sels: sels}}
	if got := impl.DocCheck(list, d); got != impl.DocFine || !givesStay() || !varsStay() || !selsStay() || !listStays() {
		t.Errorf("%d; %v %v %v", got, givesStay(), varsStay(), selsStay())
	}
}
