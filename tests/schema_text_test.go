package tests

import (
	"math/rand"
	"reflect"
	"strings"
	"testing"

	"loop.example/pergola/impl"
)

// schemaPutAs asks for the text of a schema, and for the schema of the text.
func schemaPutAs(t *testing.T, list []impl.Def, want string) {
	t.Helper()
	if got := impl.SchemaPut(list); got != want {
		t.Errorf("written %q, not %q", got, want)
	}
	if got, ok := impl.SchemaGet(want); !ok || !equal(got, list) {
		t.Errorf("%q is read as %v, %v", want, got, ok)
	}
}

// schemaReadAs asks for how the schema of a text is written.
func schemaReadAs(t *testing.T, s string, want string) {
	t.Helper()
	list, ok := impl.SchemaGet(s)
	if !ok {
		t.Errorf("%q is not read", s)
		return
	}
	schemaPutAs(t, list, want)
}

func notASchema(t *testing.T, s string) {
	t.Helper()
	if list, ok := impl.SchemaGet(s); ok || len(list) > 0 {
		t.Errorf("%q is read as %v, %v", s, list, ok)
	}
}

// P7: each kind of definition.
func TestSchemaTexts(t *testing.T) {
	schemaPutAs(t, []impl.Def{query(t)}, "type Query{n:Int}\n")
	schemaPutAs(t, []impl.Def{enum("K", "A"), query(t), enum("L", "A B true on")}, "enum K{A}\ntype Query{n:Int}\nenum L{A B true on}\n")
	schemaPutAs(t, []impl.Def{object(t, "Query", "me:P! all:[T!] n:[[Int!]!]!"), object(t, "P", "name:String"), union("T", "P Query"), union("U", "P")},
		"type Query{me:P! all:[T!] n:[[Int!]!]!}\ntype P{name:String}\nunion T=P|Query\nunion U=P\n")
	schemaPutAs(t, []impl.Def{query(t), input(t, "In", "a:Int! b:[String] c:In d:[In!]!")}, "type Query{n:Int}\ninput In{a:Int! b:[String] c:In d:[In!]!}\n")
	schemaPutAs(t, []impl.Def{object(t, "Query", "type:type input:enum enum:Int union:Query"), object(t, "type", "type:Int"), enum("enum", "type enum"), union("union", "type"), input(t, "input", "input:Int")},
		"type Query{type:type input:enum enum:Int union:Query}\ntype type{type:Int}\nenum enum{type enum}\nunion union=type\ninput input{input:Int}\n")
	schemaPutAs(t, fineSchema(t), "union Thing=Person|Query\nenum Kind{CAT DOG}\ninput In{a:Int! b:[String] c:In d:[In!] k:Kind}\n"+
		"type Query{me:Person! all(first:Int=1):[Person!] find(id:ID!,kind:Kind=CAT,in:[In!]={a:1},x:Int=null):Thing n:Int! k:Kind id:ID ok:Boolean words:[[String!]]}\n"+
		"type Mutation{n:Int}\ntype Person{name:String! friends:[Person]}\n")
}

// elseCase is a type of values that are given, a value that fits, and how that is written.
type elseCase struct {
	typ  string
	v    impl.Value
	want string
}

func elses() []elseCase {
	return []elseCase{
		{"Int", null(), "null"}, {"Int!", num(1), "1"}, {"ID", num(-impl.NumMax), "-2147483647"}, {"Boolean", yes(true), "true"}, {"[Boolean!]", yes(false), "false"},
		{"String!", text(""), `""`}, {"ID!", text("a,#\"\\\n\xff}"), `"a,#\"\\\n\u00ff}"`}, {"K", text("true"), `"true"`}, {"K!", text("A"), `"A"`}, {"K!", word("A"), "A"}, {"[K]", word("on"), "on"},
		{"[Int!]!", list(), "[]"}, {"[Int]", list(num(1), null()), "[1,null]"}, {"[[Int]!]!", list(list(num(1)), list()), "[[1],[]]"}, {"[K!]", list(word("A"), text("B")), `[A,"B"]`},
		{"Free", tree(""), "{}"}, {"In!", tree("a", num(1)), "{a:1}"}, {"[In!]", tree("a k in", num(1), word("B"), tree("a", num(2))), "{a:1,k:B,in:{a:2}}"},
		{"[In!]!", list(tree("a", num(1)), tree("k a", word("A"), num(3))), "[{a:1},{k:A,a:3}]"}, {"Free", tree("true", list(yes(true))), "{true:[true]}"},
	}
}

// elseSchema has the types that elses are of, and a field with these arguments.
func elseSchema(t *testing.T, args ...impl.Arg) []impl.Def {
	t.Helper()
	return []impl.Def{queryWith(t, args...), enum("K", "A B on true"), input(t, "In", "a:Int! k:K in:In"), input(t, "Free", "true:[Boolean]")}
}

const elseRest = "enum K{A B on true}\ninput In{a:Int! k:K in:In}\ninput Free{true:[Boolean]}\n"

// P7: arguments, with and without Else.
func TestSchemaTextsOfElses(t *testing.T) {
	for _, e := range elses() {
		want := e.want
		a := argElse(t, "x", e.typ, e.v)
		b := arg(t, "y", e.typ)
		schemaPutAs(t, elseSchema(t, b), "type Query{n(y:"+e.typ+"):Int}\n"+elseRest)
		schemaPutAs(t, elseSchema(t, a), "type Query{n(x:"+e.typ+"="+want+"):Int}\n"+elseRest)
		schemaPutAs(t, elseSchema(t, b, a), "type Query{n(y:"+e.typ+",x:"+e.typ+"="+want+"):Int}\n"+elseRest)
	}
	q := object(t, "Query", "a:Int b:Int c:Int")
	q.Fields[0].Args = []impl.Arg{arg(t, "x", "Int"), argElse(t, "y", "Int", null()), argElse(t, "z", "[Int]", list(num(1), num(2))), arg(t, "on", "ID!")}
	q.Fields[2].Args = []impl.Arg{arg(t, "x", "Int")}
	schemaPutAs(t, []impl.Def{q}, "type Query{a(x:Int,y:Int=null,z:[Int]=[1,2],on:ID!):Int b:Int c(x:Int):Int}\n")
}

// P7: a schema that is not fine has no text, whatever is wrong with it.
func TestSchemasNotFineHaveNoText(t *testing.T) {
	for code, list := range map[int][]impl.Def{
		impl.SchemaForm: {query(t), {Name: "E", Kind: impl.DefEnum}}, impl.SchemaTwice: {query(t), query(t)}, impl.SchemaNone: {object(t, "Query", "a:A")}, impl.SchemaPlace: {query(t), union("U", "U")},
		impl.SchemaRoot: {object(t, "A", "a:Int")}, impl.SchemaElse: {queryWith(t, argElse(t, "x", "Int", yes(true)))}, impl.SchemaRound: {query(t), input(t, "I", "i:I!")}} {
		wantCode(t, "not fine", list, code)
		if s := impl.SchemaPut(list); s != "" {
			t.Errorf("%d: %q", code, s)
		}
	}
	if impl.SchemaPut(nil) != "" {
		t.Error("no schema has a text")
	}
	for _, s := range []string{"", " ", "#", "enum E{A}", "type A{a:Int}", "enum Query{A}", "type Query{n:Int} type Query{n:Int}", "type Query{n:A}", "type Query{n:Int} union U=U", "type Query{n(x:Int=true):Int}", "type Query{n(x:Int!=null):Int}",
		"type Query{n(x:Int=$x):Int}", "type Query{n(x:Int=A):Int}", "type Query{n:Int} input I{i:I!}", "type Query{n:Int n:Int}", "type Query{n(x:Int,x:Int):Int}", "type Query{n:Int} enum E{A A}", "type Query{n:Int} enum Int{A}", "type Query{n:Int} input I{n(x:Int):Int}",
		"type Query{n(x:K=true):Int} enum K{true}"} {
		notASchema(t, s)
	}
}

// P7: texts that are no schemas.
func TestSchemasNotRead(t *testing.T) {
	for _, s := range []string{"type", "type Query", "type Query{", "type Query{}", "type Query{n}", "type Query{n:}", "type Query{n:Int", "type Query{n Int}", "type Query n:Int", "type{n:Int}", "Query{n:Int}", "object Query{n:Int}", "Type Query{n:Int}", "type Query{n:Int}}", "type Query{n:Int};",
		"type Query{n():Int}", "type Query{n(:Int}", "type Query{n(x):Int}", "type Query{n(x:):Int}", "type Query{n(x:Int:Int}", "type Query{n(x:Int=):Int}", "type Query{n(x:Int=1=1):Int}", "type Query{n(x=1):Int}", "type Query{n($x:Int):Int}", "type Query{n(x:Int)(y:Int):Int}", "type Query{n(x:Int)}", "type Query{n:Int=1}", "type Query{(x:Int):Int}",
		"type Query{n:Int!!}", "type Query{n:!}", "type Query{n:[]}", "type Query{n:[Int}", "type Query{n:Int]}", "type Query{n:[Int]]}", "type Query{n:[Int Int]}", "type Query{n:[[[Int]]]}", "type Query{n:1}", "type Query{n:\"Int\"}", "type Query{\"n\":Int}", "type Query{1:Int}", "type Query{n::Int}", "type Query{n:Int|ID}", "type Query{n:$Int}",
		"type Query{n(x:[Int]=[1):Int}", "type Query{n(x:[Int]=1]):Int}", "type Query{n(x:In={a}):Int} input In{a:Int}", "type Query{n(x:In={\"a\":1}):Int} input In{a:Int}", "type Query{n(x:In={a:1):Int} input In{a:Int}", "type Query{n(x:Int=01):Int}", "type Query{n(x:String='a'):Int}",
		"type Query{n:Int} enum", "type Query{n:Int} enum E", "type Query{n:Int} enum E{}", "type Query{n:Int} enum E{A", "type Query{n:Int} enum E{A|B}", "type Query{n:Int} enum E{A:Int}", "type Query{n:Int} enum E{\"A\"}", "type Query{n:Int} enum E{1}", "type Query{n:Int} enum E=A", "type Query{n:Int} enum E A", "type Query{n:Int} enum E{A}{B}",
		"type Query{n:Int} union", "type Query{n:Int} union U", "type Query{n:Int} union U=", "type Query{n:Int} union U=|Query", "type Query{n:Int} union U=Query|", "type Query{n:Int} union U={Query}", "type Query{n:Int} union U{Query}", "type Query{n:Int} union U=Query Query", "type Query{n:Int} union U:Query", "type Query{n:Int} union U=Query||Query", "type Query{n:Int} union U==Query", "type Query{n:Int} union =Query",
		"type Query{n:Int} input", "type Query{n:Int} input I", "type Query{n:Int} input I{}", "type Query{n:Int} input I{a}", "type Query{n:Int} input I{a:Int=1}", "type Query{n:Int} input I{a():Int}", "type Query{n:Int} {a}", "type Query{n:Int} query{n}", "{type Query{n:Int}}", "type Query{...F n:Int}", "type Query{n:Int @skip(if:true)}", "type Query{n:Int} .", "type Query{n:Int} \x00"} {
		notASchema(t, s)
	}
	whole := strings.TrimSpace(impl.SchemaPut(fineSchema(t)))
	for i := range len(whole) {
		list, ok := impl.SchemaGet(whole[:i])
		if ok && impl.SchemaCheck(list) != impl.SchemaFine || !ok && len(list) > 0 {
			t.Errorf("%q is read as %v", whole[:i], list)
		}
	}
}

// P7: blanks, commas and notes between words, wherever they are, and commas that are left out.
func TestSchemasWithBlanksBetween(t *testing.T) {
	schemaReadAs(t, "type Query{n:Int}", "type Query{n:Int}\n")
	schemaReadAs(t, "type Query{n:Int}enum K{A}union U=Query input I{a:Int}", "type Query{n:Int}\nenum K{A}\nunion U=Query\ninput I{a:Int}\n")
	schemaReadAs(t, "# a schema\n\ttype Query {\r\n  n ( a : Int = 1 b : [ Int ! ] ! = [ 1 2 ] ) : Int, m : Int # m\n}\n# end", "type Query{n(a:Int=1,b:[Int!]!=[1,2]):Int m:Int}\n")
	schemaReadAs(t, "type Query{n:Int,m:Int,}enum K{A,B,}", "type Query{n:Int m:Int}\nenum K{A B}\n")
	schemaReadAs(t, "type Query{n:Int}union U = Query\n|\nP type P{n:Int}", "type Query{n:Int}\nunion U=Query|P\ntype P{n:Int}\n")
	schemaReadAs(t, `type Query{n(a:String="\u0041\/"):Int}`, "type Query{n(a:String=\"A/\"):Int}\n")
	r := rand.New(rand.NewSource(5))
	for _, list := range someSchemas(t) {
		want := impl.SchemaPut(list)
		words, ok := impl.Words(want)
		for range 20 {
			s := anyBetween(r)
			for _, word := range words {
				s += word + anyBetween(r)
			}
			if ok && len(s) <= impl.DocMax {
				schemaReadAs(t, s, want)
			}
		}
	}
}

// someSchemas is schemas that are fine, some with arguments at random (always the same ones).
func someSchemas(t *testing.T) [][]impl.Def {
	t.Helper()
	out := [][]impl.Def{{query(t)}, fineSchema(t), fitsSchema(t)}
	var all []impl.Arg
	for i, e := range elses() {
		a := argElse(t, "x"+string(rune('a'+i)), e.typ, e.v)
		all = append(all, a, arg(t, "y"+string(rune('a'+i)), e.typ))
	}
	r := rand.New(rand.NewSource(6))
	for range 100 {
		r.Shuffle(len(all), func(i, j int) { all[i], all[j] = all[j], all[i] })
		list := elseSchema(t, all[:r.Intn(impl.ArgMax+1)]...)
		r.Shuffle(len(list), func(i, j int) { list[i], list[j] = list[j], list[i] })
		out = append(out, bare(list))
	}
	return out
}

// P7: any schema that is fine is read back from its text.
func TestSchemasReadBack(t *testing.T) {
	for _, list := range someSchemas(t) {
		wantCode(t, "some schema", list, impl.SchemaFine)
		schemaPutAs(t, list, impl.SchemaPut(list))
	}
}

// schemaOfSize is a schema with a text of just so many bytes: of long names letters are left out until it has.
func schemaOfSize(t *testing.T, bytes int) []impl.Def {
	t.Helper()
	list := []impl.Def{query(t)}
	for len(list) < impl.DefMax {
		rest := ""
		for i := range impl.FieldMax {
			rest += " f" + string(rune('a'+i)) + "_a_long_na:[[String!]!]!"
		}
		list = append(list, object(t, "Object"+string(rune('A'+len(list))), rest))
	}
	for _, d := range list {
		for i := range d.Fields {
			f := &d.Fields[i]
			for len(impl.SchemaPut(list)) > bytes && len(f.Name) > 2 {
				f.Name = f.Name[:len(f.Name)-1]
			}
		}
	}
	if got := len(impl.SchemaPut(list)); got != bytes {
		t.Fatalf("%d bytes, not %d", got, bytes)
	}
	return list
}

// P7: texts of DocMax bytes, and of one more.
func TestSchemaTextLimits(t *testing.T) {
	full := schemaOfSize(t, impl.DocMax)
	schemaPutAs(t, full, impl.SchemaPut(full))
	more := impl.SchemaPut(schemaOfSize(t, impl.DocMax+1))
	notASchema(t, more)
	if list, ok := impl.SchemaGet(strings.TrimSpace(more)); !ok || impl.SchemaPut(list) != more {
		t.Error("a text of DocMax bytes is not read, or not written again")
	}
	const least = "type Query{n:Int}"
	for _, fill := range []string{" ", ",", "\n", "#"} {
		schemaReadAs(t, least+strings.Repeat(fill, impl.DocMax-len(least)), least+"\n")
		notASchema(t, least+strings.Repeat(fill, impl.DocMax-len(least)+1))
	}
	notASchema(t, "type Query{n:"+strings.Repeat("[", impl.DocMax-13))
	notASchema(t, "type Query{n(x:Int="+strings.Repeat("[", impl.DocMax-19))
}

// P7: as many arguments, fields, words and definitions as may be, and one more.
func TestSchemaTextsOfMany(t *testing.T) {
	schemaReadAs(t, "type Query{n(a:Int b:Int c:Int d:Int):Int}", "type Query{n(a:Int,b:Int,c:Int,d:Int):Int}\n")
	notASchema(t, "type Query{n(a:Int b:Int c:Int d:Int e:Int):Int}")
	schemaReadAs(t, "type Query{a:ID b:ID c:ID d:ID e:ID f:ID g:ID h:ID}", "type Query{a:ID b:ID c:ID d:ID e:ID f:ID g:ID h:ID}\n")
	notASchema(t, "type Query{a:ID b:ID c:ID d:ID e:ID f:ID g:ID h:ID i:ID}")
	schemaReadAs(t, "type Query{a:ID}enum E{a b c d e f g h}", "type Query{a:ID}\nenum E{a b c d e f g h}\n")
	notASchema(t, "type Query{a:ID}enum E{a b c d e f g h i}")
	s := "type Query{a:ID}\n"
	for i := range impl.DefMax - 1 {
		s += "enum E" + string(rune('a'+i)) + "{A}\n"
	}
	schemaReadAs(t, s, s)
	notASchema(t, s+"enum F{A}")
	schemaReadAs(t, "type Query{n(x:[[Int]]=[[1]]):Int}", "type Query{n(x:[[Int]]=[[1]]):Int}\n")
	notASchema(t, "type Query{n(x:In={in:{in:{in:1}}}):Int} input In{in:In a:Int}")
	schemaReadAs(t, "type Query{n(x:In={in:{in:null}}):Int} input In{in:In a:Int}", "type Query{n(x:In={in:{in:null}}):Int}\ninput In{in:In a:Int}\n")
	notASchema(t, "type Query{n(x:In={in:{in:{in:null}}}):Int} input In{in:In a:Int}")
}

// What is read is new memory, and what is written stays.
func TestSchemaTextsAreNewMemory(t *testing.T) {
	s := impl.SchemaPut(fineSchema(t))
	a, _ := impl.SchemaGet(s)
	b, _ := impl.SchemaGet(s)
	scribble(reflect.ValueOf(a))
	if impl.SchemaPut(b) != s {
		t.Errorf("two answers share a list: %q", impl.SchemaPut(b))
	}
	for i := range b {
		scribble(reflect.ValueOf(b[i].Fields))
		scribble(reflect.ValueOf(b[i].Words))
		c, _ := impl.SchemaGet(s)
		if !equal(b[i+1:], c[i+1:]) {
			t.Errorf("two lists of an answer share memory, at %d", i)
		}
	}
	args, argsStay := withRoom([]impl.Arg{argElse(t, "a", "[Int]", list(num(1)))}, arg(t, "mark", "Int"))
	words, wordsStay := withRoom([]string{"A"}, "mark")
	defs, defsStay := withRoom([]impl.Def{queryWith(t, args...), {Name: "E", Kind: impl.DefEnum, Words: words}}, enum("mark", "A"))
	defs[0].Fields[0].Args = args
	if impl.SchemaPut(defs) != "type Query{n(a:[Int]=[1]):Int}\nenum E{A}\n" || !argsStay() || !wordsStay() || !defsStay() {
		t.Error("an argument was written to")
	}
}
