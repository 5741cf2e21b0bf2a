package tests

import (
	"reflect"
	"slices"
	"strings"
	"testing"

	"loop.example/pergola/impl"
)

// def is a definition of fields, each `NAME:TYPE`, or of words.
func def(t *testing.T, kind int, name string, rest string) impl.Def {
	t.Helper()
	d := impl.Def{Name: name, Kind: kind}
	if kind == impl.DefEnum || kind == impl.DefUnion {
		d.Words = strings.Fields(rest)
		return d
	}
	for _, s := range strings.Fields(rest) {
		field, typ, _ := strings.Cut(s, ":")
		d.Fields = append(d.Fields, impl.Field{Name: field, Type: mustType(t, typ)})
	}
	return d
}

func object(t *testing.T, name, rest string) impl.Def {
	t.Helper()
	return def(t, impl.DefObject, name, rest)
}

func input(t *testing.T, name, rest string) impl.Def {
	t.Helper()
	return def(t, impl.DefInput, name, rest)
}

func enum(name, words string) impl.Def {
	return impl.Def{Name: name, Kind: impl.DefEnum, Words: strings.Fields(words)}
}

func union(name, words string) impl.Def {
	return impl.Def{Name: name, Kind: impl.DefUnion, Words: strings.Fields(words)}
}

// arg is an argument without a value by itself; argElse one with it.
func arg(t *testing.T, name, typ string) impl.Arg {
	t.Helper()
	return impl.Arg{Name: name, Type: mustType(t, typ)}
}

func argElse(t *testing.T, name, typ string, v impl.Value) impl.Arg {
	t.Helper()
	return impl.Arg{Name: name, Type: mustType(t, typ), Has: true, Else: v}
}

func query(t *testing.T) impl.Def {
	t.Helper()
	return object(t, "Query", "n:Int")
}

// queryWith is a Query whose one field has these arguments.
func queryWith(t *testing.T, args ...impl.Arg) impl.Def {
	t.Helper()
	q := query(t)
	q.Fields[0].Args = args
	return q
}

// fineSchema has each kind of definition, each place for a name, and each kind of Else.
func fineSchema(t *testing.T) []impl.Def {
	t.Helper()
	q := object(t, "Query", "me:Person! all:[Person!] find:Thing n:Int! k:Kind id:ID ok:Boolean words:[[String!]]")
	q.Fields[1].Args = []impl.Arg{argElse(t, "first", "Int", num(1))}
	q.Fields[2].Args = []impl.Arg{arg(t, "id", "ID!"), argElse(t, "kind", "Kind", word("CAT")), argElse(t, "in", "[In!]", tree("a", num(1))), argElse(t, "x", "Int", null())}
	return []impl.Def{union("Thing", "Person Query"), enum("Kind", "CAT DOG"), input(t, "In", "a:Int! b:[String] c:In d:[In!] k:Kind"),
		q, object(t, "Mutation", "n:Int"), object(t, "Person", "name:String! friends:[Person]")}
}

func wantCode(t *testing.T, what string, list []impl.Def, want int) {
	t.Helper()
	if got := impl.SchemaCheck(list); got != want {
		t.Errorf("%s: %d, not %d", what, got, want)
	}
}

// P8: schemas that are fine.
func TestSchemaFine(t *testing.T) {
	fine := fineSchema(t)
	wantCode(t, "all", fine, impl.SchemaFine)
	wantCode(t, "the least", []impl.Def{query(t)}, impl.SchemaFine)
	wantCode(t, "an enum more", append(slices.Clone(fine), enum("More", "A")), impl.SchemaFine)
	wantCode(t, "its first once more", append(slices.Clone(fine), fine[0]), impl.SchemaTwice)
	slices.Reverse(fine)
	wantCode(t, "from the last to the first", fine, impl.SchemaFine)
	wantCode(t, "names within each other's places", []impl.Def{object(t, "Query", "Query:Query Int:Int"), enum("query", "Query query Int")}, impl.SchemaFine)
}

// P8: what has no form.
func TestSchemaForm(t *testing.T) {
	q := query(t)
	for _, name := range []string{"", "1a", "a b", "abcdefghijklm", "Int", "String", "Boolean", "ID"} {
		wantCode(t, "object "+name, []impl.Def{q, object(t, name, "a:Int")}, impl.SchemaForm)
		wantCode(t, "enum "+name, []impl.Def{enum(name, "A"), q}, impl.SchemaForm)
		wantCode(t, "field "+name, []impl.Def{{Name: "Query", Kind: impl.DefObject, Fields: []impl.Field{{Name: name, Type: impl.Type{Name: "Int"}}}}}, formCode(name))
		wantCode(t, "word "+name, []impl.Def{q, {Name: "E", Kind: impl.DefEnum, Words: []string{name}}}, formCode(name))
		a := impl.Arg{Name: name, Type: impl.Type{Name: "Int"}}
		wantCode(t, "argument "+name, []impl.Def{queryWith(t, a)}, formCode(name))
	}
	for i, d := range []impl.Def{{Name: "A"}, {Name: "A", Kind: 5, Words: []string{"A"}}, {Name: "A", Kind: -1, Fields: q.Fields}, {Name: "A", Fields: q.Fields}, {Name: "A", Words: []string{"A"}},
		object(t, "A", ""), input(t, "A", ""), enum("A", ""), union("A", ""), object(t, "A", "a:Int a:Int"), input(t, "A", "a:Int b:Int a:ID"), enum("A", "A A"), union("A", "Query Query"),
		{Name: "A", Kind: impl.DefObject, Fields: q.Fields, Words: []string{"A"}}, {Name: "A", Kind: impl.DefInput, Fields: q.Fields, Words: []string{"A"}},
		{Name: "A", Kind: impl.DefEnum, Fields: q.Fields, Words: []string{"A"}}, {Name: "A", Kind: impl.DefUnion, Fields: q.Fields, Words: []string{"Query"}},
		{Name: "A", Kind: impl.DefUnion, Words: []string{"1"}},
		{Name: "A", Kind: impl.DefInput, Fields: []impl.Field{{Name: "a", Type: mustType(t, "Int"), Args: []impl.Arg{arg(t, "a", "Int")}}}}} {
		wantCode(t, d.Name, []impl.Def{q, d}, impl.SchemaForm)
		wantCode(t, "ahead", []impl.Def{d, q}, impl.SchemaForm)
		if t.Failed() {
			t.Fatalf("definition %d", i)
		}
	}
	for i, x := range formless() {
		wantCode(t, "a field's type", []impl.Def{{Name: "Query", Kind: impl.DefObject, Fields: []impl.Field{{Name: "a", Type: x}}}}, impl.SchemaForm)
		wantCode(t, "an input's type", []impl.Def{q, {Name: "In", Kind: impl.DefInput, Fields: []impl.Field{{Name: "a", Type: x}}}}, impl.SchemaForm)
		wantCode(t, "an argument's type", []impl.Def{queryWith(t, impl.Arg{Name: "a", Type: x})}, impl.SchemaForm)
		if t.Failed() {
			t.Fatalf("type %d", i)
		}
	}
	wantCode(t, "an argument twice", []impl.Def{queryWith(t, arg(t, "a", "Int"), arg(t, "b", "Int"), arg(t, "a", "ID"))}, impl.SchemaForm)
}

// formCode is what a name of a field, a word or an argument makes of a schema: the four may stand there.
func formCode(name string) int {
	if slices.Contains([]string{"Int", "String", "Boolean", "ID"}, name) {
		return impl.SchemaFine
	}
	return impl.SchemaForm
}

// P8: an Else without a form, and one that there is not.
func TestSchemaElseForm(t *testing.T) {
	for i, v := range []impl.Value{{Kind: 9}, {Kind: impl.IsNull, Text: "a"}, num(impl.NumMax + 1), text(strings.Repeat("x", impl.TextMax+1)), word("1"), word(""), named("a b"), named("abcdefghijklm"),
		tree("a a", many(2)...), nested(num(1), 3), list(many(impl.ListMax + 1)...), list(tree("1", num(1)))} {
		if got := impl.SchemaCheck([]impl.Def{queryWith(t, argElse(t, "a", "[[Int]]", v))}); got != impl.SchemaForm {
			t.Errorf("%d: %v: %d", i, v, got)
		}
	}
	wantCode(t, "three deep", []impl.Def{queryWith(t, argElse(t, "a", "[[Int]]", nested(num(1), 2)))}, impl.SchemaFine)
	for i, v := range []impl.Value{num(0), yes(false), text(""), list(), tree(""), word("a"), named("a"), {Num: 1}, {Text: "a"}, {List: many(1)}, {Names: []string{"a"}}} {
		a := arg(t, "a", "Int")
		a.Else = v
		if got := impl.SchemaCheck([]impl.Def{queryWith(t, a)}); got != impl.SchemaForm {
			t.Errorf("without Has %d: %d", i, got)
		}
	}
	a := arg(t, "a", "Int!")
	a.Else = impl.Value{List: []impl.Value{}, Names: []string{}}
	wantCode(t, "nothing without Has", []impl.Def{queryWith(t, a)}, impl.SchemaFine)
}

// P8: each limit met exactly, and one more.
func TestSchemaLimits(t *testing.T) {
	fields := func(n int) string { return strings.Join(manyNames(n), ":Int ") + ":Int" }
	words := func(n int) string { return strings.Join(manyNames(n), " ") }
	args := func(n int) []impl.Arg {
		var out []impl.Arg
		for _, name := range manyNames(n) {
			out = append(out, arg(t, name, "Int"))
		}
		return out
	}
	defs := func(n int) []impl.Def {
		out := []impl.Def{query(t)}
		for _, name := range manyNames(n - 1) {
			out = append(out, enum(name, "A"))
		}
		return out
	}
	objects := func(n int) []impl.Def {
		out := defs(1)
		for _, name := range manyNames(n) {
			out = append(out, object(t, name, "a:Int"))
		}
		return append(out, union("U", words(n)))
	}
	for _, c := range []struct {
		what string
		make func(n int) []impl.Def
		most int
	}{{"fields", func(n int) []impl.Def { return []impl.Def{object(t, "Query", fields(n))} }, impl.FieldMax},
		{"fields of an input", func(n int) []impl.Def { return []impl.Def{query(t), input(t, "In", fields(n))} }, impl.FieldMax},
		{"words", func(n int) []impl.Def { return []impl.Def{query(t), enum("E", words(n))} }, impl.FieldMax},
		{"arguments", func(n int) []impl.Def { return []impl.Def{queryWith(t, args(n)...)} }, impl.ArgMax},
		{"words of a union", objects, impl.FieldMax}, {"definitions", defs, impl.DefMax}} {
		wantCode(t, c.what, c.make(c.most), impl.SchemaFine)
		wantCode(t, c.what+" and one more", c.make(c.most+1), impl.SchemaForm)
	}
	wantCode(t, "far more", defs(26), impl.SchemaForm)
}

// P8: a name twice.
func TestSchemaTwice(t *testing.T) {
	q := query(t)
	wantCode(t, "Query", []impl.Def{q, q}, impl.SchemaTwice)
	wantCode(t, "of two kinds", []impl.Def{q, enum("A", "A"), object(t, "B", "a:Int"), union("A", "B")}, impl.SchemaTwice)
	wantCode(t, "large and small", []impl.Def{q, enum("A", "A"), enum("a", "A")}, impl.SchemaFine)
	full := []impl.Def{q}
	for _, name := range manyNames(impl.DefMax - 1) {
		full = append(full, enum(name, "A"))
	}
	wantCode(t, "twice, and too many", append(full, q), impl.SchemaForm)
}

// P8: a name that is not there.
func TestSchemaNone(t *testing.T) {
	q := query(t)
	for what, list := range map[string][]impl.Def{
		"a word of a union":      {q, union("U", "Query A")},
		"a base of a field":      {object(t, "Query", "n:Int a:A")},
		"a base in a list":       {object(t, "Query", "n:Int a:[[A!]!]!")},
		"a base of an input":     {q, input(t, "In", "a:A")},
		"a base of an argument":  {queryWith(t, arg(t, "a", "Int"), arg(t, "b", "[A]"))},
		"large and small":        {object(t, "Query", "a:int")},
		"a field of the last":    {q, object(t, "B", "a:Query b:Bb")},
		"an argument with Has":   {queryWith(t, argElse(t, "a", "A", named("x")))},
		"no Query, and a field":  {object(t, "A", "a:B")},
		"no Query, and a word":   {union("U", "A")},
		"a second field's first": {object(t, "Query", "a:Int b:Query c:C")},
	} {
		wantCode(t, what, list, impl.SchemaNone)
	}
	wantCode(t, "a word of an enum need not be there", []impl.Def{q, enum("E", "A B")}, impl.SchemaFine)
}

// P8: a name that may not stand where it stands.
func TestSchemaPlace(t *testing.T) {
	q := query(t)
	e, in, u := enum("E", "A"), input(t, "In", "a:Int"), union("U", "Query")
	for what, list := range map[string][]impl.Def{
		"a union of an enum":        {q, e, union("W", "Query E")},
		"a union of an input":       {q, in, union("W", "In")},
		"a union of a union":        {q, u, union("W", "U")},
		"a union of itself":         {q, union("W", "W")},
		"a union of the four":       {q, union("W", "Int")},
		"an input of an object":     {q, input(t, "X", "a:Int q:Query")},
		"an input of a union":       {q, u, input(t, "X", "q:[U]")},
		"an argument of an object":  {queryWith(t, arg(t, "a", "Query"))},
		"an argument of a union":    {queryWith(t, arg(t, "b", "Int"), arg(t, "a", "[[U!]]")), u},
		"a field of an input":       {object(t, "Query", "a:Int b:In"), in},
		"a field of many inputs":    {object(t, "Query", "b:[In!]!"), in},
		"an argument of the last":   {q, {Name: "A", Kind: impl.DefObject, Fields: queryWith(t, argElse(t, "a", "Query", num(1))).Fields}},
		"no Query, a wrong place":   {in, object(t, "A", "b:In")},
		"a field, no Query, a root": {in, e, object(t, "A", "b:In"), enum("Mutation", "A")},
	} {
		wantCode(t, what, list, impl.SchemaPlace)
	}
}

// P8: what questions begin with.
func TestSchemaRoot(t *testing.T) {
	q := query(t)
	for what, list := range map[string][]impl.Def{
		"nothing":                {},
		"nil":                    nil,
		"no Query":               {object(t, "query", "n:Int")},
		"an enum":                {enum("Query", "A")},
		"an input":               {input(t, "Query", "n:Int")},
		"a union":                {object(t, "A", "n:Int"), union("Query", "A")},
		"just a Mutation":        {object(t, "Mutation", "n:Int")},
		"an enum Mutation":       {q, enum("Mutation", "A")},
		"an input Mutation":      {q, input(t, "Mutation", "n:Int")},
		"a union Mutation":       {q, union("Mutation", "Query")},
		"a wrong Else":           {{Name: "A", Kind: impl.DefObject, Fields: queryWith(t, argElse(t, "a", "Int", text(""))).Fields}},
		"an input within itself": {input(t, "In", "a:In!")},
	} {
		wantCode(t, what, list, impl.SchemaRoot)
	}
	wantCode(t, "both", []impl.Def{object(t, "Mutation", "n:Int"), q}, impl.SchemaFine)
}

// P8: what an argument is by itself fits its type.
func TestSchemaElse(t *testing.T) {
	e, in := enum("E", "A B"), input(t, "In", "a:Int! b:[In!]")
	for _, c := range []struct {
		typ  string
		v    impl.Value
		fits bool
	}{{"Int", num(1), true}, {"Int", text("1"), false}, {"Int!", null(), false}, {"Int", null(), true}, {"Int", named("a"), false}, {"[Int]", num(1), true}, {"[Int]", list(named("a")), false},
		{"E", word("A"), true}, {"E", text("B"), true}, {"E", word("C"), false}, {"String", word("A"), false}, {"In", tree("a", num(1)), true}, {"In", tree(""), false}, {"In", tree("a c", many(2)...), false},
		{"In", tree("a b", num(1), tree("a", num(2))), true}, {"In", tree("a b", num(1), tree("a", text(""))), false}} {
		want := impl.SchemaFine
		if !c.fits {
			want = impl.SchemaElse
		}
		wantCode(t, c.typ, []impl.Def{queryWith(t, arg(t, "z", "Int!"), argElse(t, "a", c.typ, c.v)), e, in}, want)
		m := queryWith(t, argElse(t, "a", c.typ, c.v))
		m.Name = "Last"
		wantCode(t, "the last "+c.typ, []impl.Def{query(t), e, in, m}, want)
	}
	wantCode(t, "ahead of a round", []impl.Def{queryWith(t, argElse(t, "a", "Int", text(""))), input(t, "In", "a:In!")}, impl.SchemaElse)
}

// P8: an input that needs itself.
func TestSchemaRound(t *testing.T) {
	q := query(t)
	for what, list := range map[string][]impl.Def{
		"directly":             {q, input(t, "A", "n:Int! a:A!")},
		"through another":      {q, input(t, "A", "b:B!"), input(t, "B", "n:Int a:A!")},
		"through two":          {input(t, "A", "b:B!"), input(t, "B", "c:C!"), q, input(t, "C", "n:Int! a:A!")},
		"not the first":        {q, input(t, "A", "b:B!"), input(t, "B", "b:B!")},
		"by a second way":      {q, input(t, "A", "n:B! m:C!"), input(t, "B", "n:Int"), input(t, "C", "a:A!")},
		"through one that two": {q, input(t, "A", "b:B! c:C!"), input(t, "B", "d:D!"), input(t, "C", "d:D!"), input(t, "D", "b:C!")},
	} {
		wantCode(t, what, list, impl.SchemaRound)
	}
	for what, list := range map[string][]impl.Def{
		"without Must":         {q, input(t, "A", "a:A")},
		"a list":               {q, input(t, "A", "a:[A!]!")},
		"a list of lists":      {q, input(t, "A", "a:[[A!]!]!")},
		"through one without":  {q, input(t, "A", "b:B!"), input(t, "B", "a:A")},
		"through a list":       {q, input(t, "A", "b:B!"), input(t, "B", "c:[C!]!"), input(t, "C", "a:A!")},
		"two ways, no round":   {q, input(t, "A", "b:B! c:C!"), input(t, "B", "d:D!"), input(t, "C", "d:D!"), input(t, "D", "n:Int!")},
		"objects":              {object(t, "Query", "q:Query! a:A!"), object(t, "A", "q:Query!")},
		"an enum of its names": {q, input(t, "A", "e:E!"), enum("E", "A E")},
	} {
		wantCode(t, what, list, impl.SchemaFine)
	}
}

// P8: the first of several codes is told, wherever they stand.
func TestSchemaFirstOfSeveral(t *testing.T) {
	wrong := []impl.Def{
		enum("Int", "A"),
		enum("Twice", "A"),
		object(t, "Lacks", "a:None"),
		object(t, "Place", "a:In"),
		enum("Mutation", "A"),
		{Name: "Else", Kind: impl.DefObject, Fields: queryWith(t, argElse(t, "a", "Int", text(""))).Fields},
		input(t, "In", "in:In!"),
	}
	codes := []int{impl.SchemaForm, impl.SchemaTwice, impl.SchemaNone, impl.SchemaPlace, impl.SchemaRoot, impl.SchemaElse, impl.SchemaRound}
	for i, code := range codes {
		list := append([]impl.Def{query(t)}, wrong[i:]...)
		if i <= 1 {
			list = append(list, wrong[1])
		}
		for range 2 {
			wantCode(t, list[1].Name, list, code)
			slices.Reverse(list)
		}
	}
}

// P8: a schema is only read.
func TestSchemasStay(t *testing.T) {
	q := fineSchema(t)
	before := fineSchema(t)
	list, stay := withRoom(q, enum("mark", "A"))
	impl.SchemaCheck(list)
	impl.ValueFits(list, mustType(t, "[In]"), tree("a", num(1)))
	if !stay() || !reflect.DeepEqual(list, before) {
		t.Error("a schema was written to")
	}
}
