package tests

import (
	"math/rand"
	"slices"
	"strconv"
	"strings"
	"testing"

	"loop.example/pergola/impl"
)

// growsPut writes what breaks, each as its code, its name and its field, with commas between.
func growsPut(list []impl.Grow) string {
	var out []string
	for _, g := range list {
		out = append(out, strings.TrimSpace(strconv.Itoa(g.Code)+" "+g.Name+" "+g.Field))
	}
	return strings.Join(out, ", ")
}

// growsBy asks for what breaks from a schema to another one.
func growsBy(t *testing.T, old []impl.Def, fresh []impl.Def, want string) {
	t.Helper()
	wideOld, oldStays := roomy(old)
	wideFresh, freshStays := roomy(fresh)
	got := impl.Grows(wideOld, wideFresh)
	if growsPut(got) != want || impl.Grew(wideOld, wideFresh) != (want == "") || !oldStays() || !freshStays() {
		t.Errorf("from %s to %s: %s, not %s", impl.SchemaPut(old), impl.SchemaPut(fresh), growsPut(got), want)
	}
}

// grows asks for what breaks from the schema of a text to that of another one; each has an object and an enum more.
func grows(t *testing.T, old string, fresh string, want string) {
	t.Helper()
	growsBy(t, readSchema(t, old+growRest), readSchema(t, fresh+growRest), want)
}

const growRest = " type Query{n:Int} enum K{A B}"

// P56: from a schema to itself nothing breaks.
func TestGrowsToItself(t *testing.T) {
	for _, list := range append(someSchemas(t), readSchema(t, checkSchema), readSchema(t, runSchema), readSchema(t, sessionSchema)) {
		growsBy(t, list, list, "")
		back := slices.Clone(list)
		slices.Reverse(back)
		growsBy(t, list, back, "")
		growsBy(t, back, list, "")
	}
}

// P56: a schema that is not fine, on each side, is all that is told.
func TestGrowsOfWhatIsNotFine(t *testing.T) {
	fine := readSchema(t, checkSchema)
	for _, list := range wrongSchemas(t, fine) {
		growsBy(t, fine, list, "1")
		growsBy(t, list, fine, "1")
		growsBy(t, list, list, "1")
	}
	for _, x := range formless() {
		list := []impl.Def{{Name: "Query", Kind: impl.DefObject, Fields: []impl.Field{{Name: "a", Type: x}}}}
		if got := impl.Grows(list, fine); growsPut(got) != "1" || impl.Grew(list, fine) || impl.Grew(fine, list) {
			t.Errorf("%s", growsPut(got))
		}
	}
}

// P56: a definition that is gone, or is of another kind; one that is more, or stands elsewhere.
func TestGrowsOfDefinitions(t *testing.T) {
	grows(t, "type P{a:Int}", "", "2 P")
	grows(t, "enum P{A}", "", "2 P")
	grows(t, "", "type P{a:Int}", "")
	grows(t, "", "enum P{A} input I{a:Int!} union U=Query", "")
	grows(t, "type P{a:Int}", "type p{a:Int}", "2 P")
	kinds := []string{"type P{a:Int}", "enum P{a}", "input P{a:Int}", "union P=Query"}
	for _, a := range kinds {
		for _, b := range kinds {
			want := "2 P"
			if a == b {
				want = ""
			}
			grows(t, a, b, want)
		}
	}
	grows(t, "type P{a:Int} enum E{A} input I{a:Int} union U=Query type Mutation{a:Int}", "", "2 P, 2 E, 2 I, 2 U, 2 Mutation")
	grows(t, "type P{a:Int} enum E{A} input I{a:Int}", "input I{a:Int} enum P{a} enum E{A}", "2 P")
}

// P56: a field that is gone, or is of another type; one that is more, or stands elsewhere.
func TestGrowsOfFields(t *testing.T) {
	for _, kind := range []string{"type", "input"} {
		grows(t, kind+" P{a:Int b:Int c:Int}", kind+" P{b:Int}", "3 P a, 3 P c")
		grows(t, kind+" P{a:Int b:Int}", kind+" P{b:Int a:Int c:[Int!]}", "")
		grows(t, kind+" P{a:Int}", kind+" P{A:Int}", "3 P a")
		types := []string{"Int", "Int!", "[Int]", "[Int!]", "[Int]!", "[Int!]!", "[[Int]]", "[[Int!]]", "[[Int]!]", "ID", "String", "Boolean", "K", "K!", "[K]"}
		for _, a := range types {
			for _, b := range types {
				want := "4 P a"
				if a == b {
					want = ""
				}
				grows(t, kind+" P{a:"+a+" z:Int}", kind+" P{z:Int a:"+b+"}", want)
			}
		}
	}
	grows(t, "type P{q:Query r:P u:U} union U=P", "type P{q:P r:U u:Query} union U=P", "4 P q, 4 P r, 4 P u")
}

// P56: a field more of an input breaks, if it must be there; of an object it does not.
func TestGrowsOfFieldsMore(t *testing.T) {
	grows(t, "input P{a:Int}", "input P{a:Int b:Int! c:Int d:[Int]! e:[Int!]}", "3 P b, 3 P d")
	grows(t, "input P{a:Int}", "input P{b:Int! a:Int}", "3 P b")
	grows(t, "type P{a:Int}", "type P{a:Int b:Int! c:[Int!]!}", "")
	grows(t, "input P{a:Int! b:Int!}", "input P{a:Int! b:Int!}", "")
	grows(t, "input P{c:Int a:Int d:Int}", "input P{x:Int! a:ID z:Int! y:Int!}", "3 P c, 4 P a, 3 P d, 3 P x, 3 P z, 3 P y")
	grows(t, "", "input P{a:Int!}", "")
}

// P56: an argument that is gone, of another type, with or without a value by itself as it was not; one that is more.
func TestGrowsOfArguments(t *testing.T) {
	for _, c := range []struct{ was, is, want string }{
		{"", "(x:Int)", ""}, {"", "(x:Int!)", "5 P a"}, {"", "(x:Int!=1)", ""}, {"", "(x:Int=1)", ""}, {"", "(x:Int=null)", ""}, {"", "(x:[Int!])", ""}, {"", "(x:[Int]!)", "5 P a"}, {"", "(x:Int,y:Int!)", "5 P a"}, {"", "(y:Int!,x:Int)", "5 P a"},
		{"(x:Int)", "", "5 P a"}, {"(x:Int!)", "", "5 P a"}, {"(x:Int=1)", "", "5 P a"}, {"(x:Int)", "(y:Int)", "5 P a"}, {"(x:Int)", "(X:Int)", "5 P a"}, {"(x:Int,y:Int)", "(x:Int)", "5 P a"}, {"(x:Int,y:Int)", "(y:Int)", "5 P a"},
		{"(x:Int)", "(x:Int!)", "5 P a"}, {"(x:Int!)", "(x:Int)", "5 P a"}, {"(x:Int)", "(x:ID)", "5 P a"}, {"(x:Int)", "(x:[Int])", "5 P a"}, {"(x:[Int])", "(x:[Int!])", "5 P a"}, {"(x:K)", "(x:String)", "5 P a"},
		{"(x:Int)", "(x:Int=1)", "5 P a"}, {"(x:Int=1)", "(x:Int)", "5 P a"}, {"(x:Int)", "(x:Int=null)", "5 P a"}, {"(x:Int=null)", "(x:Int)", "5 P a"}, {"(x:Int!=1)", "(x:Int!)", "5 P a"}, {"(x:Int!)", "(x:Int!=1)", "5 P a"},
		{"(x:Int=1)", "(x:Int=2)", ""}, {"(x:Int=1)", "(x:Int=null)", ""}, {"(x:Int=null)", "(x:Int=1)", ""}, {"(x:[Int]=1)", "(x:[Int]=[1])", ""}, {"(x:K=A)", "(x:K=B)", ""},
		{"(x:Int,y:ID!)", "(y:ID!,x:Int)", ""}, {"(x:Int,y:ID)", "(y:Int,x:ID)", "5 P a"}, {"(x:Int)", "(z:Int,x:Int,y:Int!=1)", ""}, {"(x:Int,y:Int,z:Int)", "(u:Int!)", "5 P a"},
	} {
		grows(t, "type P{a"+c.was+":Int}", "type P{a"+c.is+":Int}", c.want)
		grows(t, "type P{b:Int a"+c.was+":Int c(x:Int):Int}", "type P{c(x:Int):Int a"+c.is+":Int b:Int d:Int}", c.want)
		grows(t, "type P{a"+c.was+":Int}", "type P{a"+c.is+":Int!}", "4 P a")
		grows(t, "type P{a"+c.was+":Int}", "type P{b"+c.is+":Int}", "3 P a")
	}
}

// P56: a word that is gone; one that is more, which breaks just of a union.
func TestGrowsOfWords(t *testing.T) {
	grows(t, "enum E{A B C}", "enum E{B}", "6 E A, 6 E C")
	grows(t, "enum E{A B}", "enum E{C B A D}", "")
	grows(t, "enum E{A}", "enum E{a}", "6 E A")
	objects := " type P{a:Int} type R{a:Int}"
	grows(t, "union U=P|R"+objects, "union U=P"+objects, "6 U R")
	grows(t, "union U=P"+objects, "union U=R|P|Query"+objects, "6 U R, 6 U Query")
	grows(t, "union U=P|Query"+objects, "union U=Query|P"+objects, "")
	grows(t, "union U=P|Query"+objects, "union U=R"+objects, "6 U P, 6 U Query, 6 U R")
	grows(t, "union U=P|Query"+objects, "enum U{P}"+objects, "2 U")
}

// P56: of several they are told in the order of the elder schema.
func TestGrowsInOrder(t *testing.T) {
	grows(t, "enum E{A B} input I{a:Int b:Int} type P{a:Int b(x:Int):Int c:Int} union U=P|Query type Z{a:Int}", "union U=P type P{d:Int c:ID b:Int} input I{c:Int! b:ID} enum E{C}",
		"6 E A, 6 E B, 3 I a, 4 I b, 3 I c, 3 P a, 5 P b, 4 P c, 6 U Query, 2 Z")
	list := readSchema(t, "type Query{a:Int b:Int}")
	growsBy(t, list, readSchema(t, "type Query{b:Int}"), "3 Query a")
	growsBy(t, readSchema(t, "type Query{n:Int} type Mutation{a:Int}"), readSchema(t, "type Query{n:Int} type Mutation{b:Int}"), "3 Mutation a")
}

// growsByHand is what breaks, by the definitions of each name.
func growsByHand(old []impl.Def, fresh []impl.Def) []impl.Grow {
	if impl.SchemaCheck(old) != impl.SchemaFine || impl.SchemaCheck(fresh) != impl.SchemaFine {
		return []impl.Grow{{Code: impl.GrowBad}}
	}
	var out []impl.Grow
	for _, d := range old {
		e := pairer{list: fresh}.def(d.Name)
		if e.Name == "" || e.Kind != d.Kind {
			out = append(out, impl.Grow{Code: impl.GrowDef, Name: d.Name})
			continue
		}
		tell := func(code int, field string) { out = append(out, impl.Grow{Code: code, Name: d.Name, Field: field}) }
		was, is := fieldsOf(d), fieldsOf(e)
		for _, f := range d.Fields {
			g, ok := is[f.Name]
			switch {
			case !ok:
				tell(impl.GrowField, f.Name)
			case !equal(f.Type, g.Type):
				tell(impl.GrowType, f.Name)
			case argsBreakByHand(f.Args, g.Args):
				tell(impl.GrowArg, f.Name)
			}
		}
		for _, f := range e.Fields {
			if _, ok := was[f.Name]; !ok && f.Type.Must && d.Kind == impl.DefInput {
				tell(impl.GrowField, f.Name)
			}
		}
		for _, w := range d.Words {
			if !slices.Contains(e.Words, w) {
				tell(impl.GrowWord, w)
			}
		}
		for _, w := range e.Words {
			if d.Kind == impl.DefUnion && !slices.Contains(d.Words, w) {
				tell(impl.GrowWord, w)
			}
		}
	}
	return out
}

func fieldsOf(d impl.Def) map[string]impl.Field {
	out := map[string]impl.Field{}
	for _, f := range d.Fields {
		out[f.Name] = f
	}
	return out
}

func argsBreakByHand(was []impl.Arg, is []impl.Arg) bool {
	known := map[string]impl.Arg{}
	for _, a := range is {
		known[a.Name] = a
	}
	for _, a := range was {
		b, ok := known[a.Name]
		if !ok || !equal(a.Type, b.Type) || a.Has != b.Has {
			return true
		}
		delete(known, a.Name)
	}
	for _, b := range known {
		if b.Type.Must && !b.Has {
			return true
		}
	}
	return false
}

// otherSchema makes a schema another one, by a few changes at random; mostly it is fine.
func otherSchema(t *testing.T, r *rand.Rand, list []impl.Def) []impl.Def {
	t.Helper()
	list = bare(list)
	for range 1 + r.Intn(3) {
		i := r.Intn(len(list))
		d := &list[i]
		switch {
		case r.Intn(12) == 0:
			list = slices.Delete(list, i, i+1)
		case r.Intn(8) == 0:
			j := r.Intn(len(list))
			list[i], list[j] = list[j], list[i]
		case len(d.Words) > 0:
			otherWords(r, d)
		case len(d.Fields) > 0:
			otherFields(t, r, d)
		}
		if len(list) == 0 {
			return nil
		}
	}
	return list
}

func otherWords(r *rand.Rand, d *impl.Def) {
	switch i := r.Intn(len(d.Words)); r.Intn(3) {
	case 0:
		d.Words = slices.Delete(d.Words, i, i+1)
	case 1:
		d.Words = slices.Insert(d.Words, i, []string{"New", "R", "P", "A"}[r.Intn(4)])
	default:
		d.Words[0], d.Words[i] = d.Words[i], d.Words[0]
	}
}

func otherFields(t *testing.T, r *rand.Rand, d *impl.Def) {
	t.Helper()
	types := []string{"Int", "Int!", "String", "[Int]", "K"}
	i := r.Intn(len(d.Fields))
	f := &d.Fields[i]
	switch r.Intn(8) {
	case 0:
		d.Fields = slices.Delete(d.Fields, i, i+1)
	case 1, 2:
		d.Fields = slices.Insert(d.Fields, i, impl.Field{Name: "new", Type: mustType(t, types[r.Intn(5)])})
	case 3:
		f.Type.Must = !f.Type.Must
	case 4, 5:
		f.Args = append(f.Args, impl.Arg{Name: "new" + strconv.Itoa(r.Intn(2)), Type: mustType(t, types[r.Intn(5)])})
	default:
		if len(f.Args) == 0 {
			d.Fields[0], d.Fields[i] = d.Fields[i], d.Fields[0]
			return
		}
		otherArg(r, f, r.Intn(len(f.Args)))
	}
}

func otherArg(r *rand.Rand, f *impl.Field, i int) {
	switch a := &f.Args[i]; r.Intn(4) {
	case 0:
		f.Args = slices.Delete(f.Args, i, i+1)
	case 1:
		a.Has, a.Else = !a.Has, null()
	case 2:
		a.Type.Must = !a.Type.Must
	default:
		f.Args[0], f.Args[i] = f.Args[i], f.Args[0]
	}
}

// P56, P80: what breaks is as by hand; two schemas of which each grew from the other have as many of all, and use the same.
func TestGrowsByHand(t *testing.T) {
	r := rand.New(rand.NewSource(46))
	found := map[int]int{}
	both := 0
	for range 4000 {
		old := readSchema(t, checkSchema)
		fresh := otherSchema(t, r, old)
		if r.Intn(3) == 0 {
			old, fresh = fresh, old
		}
		got := impl.Grows(old, fresh)
		if want := growsByHand(old, fresh); !equal(got, want) || impl.Grew(old, fresh) != (len(want) == 0) {
			t.Fatalf("from %s to %s: %s, not %s", impl.SchemaPut(old), impl.SchemaPut(fresh), growsPut(got), growsPut(want))
		}
		if len(got) == 0 {
			found[impl.GrowFine]++
		}
		for _, g := range got {
			found[g.Code]++
			if g.Code != impl.GrowBad && (pairer{list: old}).def(g.Name).Name == "" {
				t.Errorf("%s is no name of the elder schema", g.Name)
			}
		}
		if impl.Grew(old, fresh) && impl.Grew(fresh, old) {
			both++
			if counts(old) != counts(fresh) || !slices.Equal(impl.SchemaUsed(old), impl.SchemaUsed(fresh)) {
				t.Errorf("from %s to %s and back", impl.SchemaPut(old), impl.SchemaPut(fresh))
			}
		}
	}
	for code := impl.GrowFine; code <= impl.GrowWord; code++ {
		if found[code] < 20 {
			t.Errorf("too few: %v", found)
		}
	}
	if both < 50 {
		t.Errorf("only %d grew from each other", both)
	}
}

// counts is how many definitions, fields and words there are.
func counts(list []impl.Def) [3]int {
	out := [3]int{len(list)}
	for _, d := range list {
		out[1] += len(d.Fields)
		out[2] += len(d.Words)
	}
	return out
}

// P57, P58: a document that was right is right by a schema that grew, and costs the same.
func TestDocsOfASchemaThatGrew(t *testing.T) {
	old, docs := fineOnes(t)
	r := rand.New(rand.NewSource(47))
	grew := 0
	for range 400 {
		fresh := otherSchema(t, r, old)
		if !impl.Grew(old, fresh) {
			continue
		}
		grew++
		for range 40 {
			d := docs[r.Intn(len(docs))]
			if got := impl.DocCheck(fresh, d); got != impl.DocFine {
				t.Fatalf("%s by %s: %d", impl.DocPut(d), impl.SchemaPut(fresh), got)
			}
			for _, op := range d.Ops {
				if was, is := impl.CostOf(old, d, op.Name), impl.CostOf(fresh, d, op.Name); was != is || was == 0 {
					t.Fatalf("%s by %s: %d, not %d", impl.DocPut(d), op.Name, is, was)
				}
			}
		}
	}
	if grew < 50 {
		t.Errorf("only %d grew", grew)
	}
}

// withField asks for a schema with a field more of a definition; the empty text, if it is as it was.
func withField(t *testing.T, list []impl.Def, name string, f impl.Field, want string) {
	t.Helper()
	wideList, listStays := roomy(list)
	wideField, fieldStays := roomy(f)
	got, ok := impl.SchemaWith(wideList, name, wideField)
	isGrown(t, "a field more of "+name, list, got, ok, want)
	if !listStays() || !fieldStays() {
		t.Errorf("a field more of %s: an argument was written to", name)
	}
	isNew(t, "a field more of "+name, got, wideList, wideField)
}

// withWord asks for a schema with a word more of a definition; the empty text, if it is as it was.
func withWord(t *testing.T, list []impl.Def, name string, word string, want string) {
	t.Helper()
	wide, stays := roomy(list)
	got, ok := impl.SchemaWords(wide, name, word)
	isGrown(t, "a word more of "+name, list, got, ok, want)
	if !stays() {
		t.Errorf("a word more of %s: an argument was written to", name)
	}
	isNew(t, "a word more of "+name, got, wide)
}

func isGrown(t *testing.T, what string, list []impl.Def, got []impl.Def, ok bool, want string) {
	t.Helper()
	if ok != (want != "") {
		t.Errorf("%s: %v", what, ok)
	}
	if want == "" && !equal(got, list) || want != "" && impl.SchemaPut(got) != want {
		t.Errorf("%s: %s", what, impl.SchemaPut(got))
	}
}

const smallSchema = "type Query{n(x:[In!]={a:1}):Int}\nenum K{A B}\ninput In{a:Int}\nunion U=Query\n"

// P59: a field more of an object and of an input, behind all.
func TestSchemaWith(t *testing.T) {
	list := readSchema(t, smallSchema)
	plain := impl.Field{Name: "more", Type: mustType(t, "Int")}
	withField(t, list, "Query", plain, strings.Replace(smallSchema, ":Int}", ":Int more:Int}", 1))
	withField(t, list, "In", plain, strings.Replace(smallSchema, "a:Int}", "a:Int more:Int}", 1))
	full := impl.Field{Name: "a", Args: []impl.Arg{argElse(t, "k", "[[K!]]", nested(word("A"), 2)), arg(t, "i", "In!")}, Type: mustType(t, "[[U!]]!")}
	withField(t, list, "Query", full, strings.Replace(smallSchema, ":Int}", ":Int a(k:[[K!]]=[[A]],i:In!):[[U!]]!}", 1))
	withField(t, list, "In", impl.Field{Name: "in", Type: mustType(t, "[In!]!")}, "")
	withField(t, list, "In", impl.Field{Name: "in", Type: mustType(t, "[In!]")}, strings.Replace(smallSchema, "a:Int}", "a:Int in:[In!]}", 1))
}

// P59: a definition that is none, an enum, a union; a name that is there; what would not be fine.
func TestSchemaWithRefuses(t *testing.T) {
	list := readSchema(t, smallSchema)
	plain := impl.Field{Name: "more", Type: mustType(t, "Int")}
	for _, name := range []string{"K", "U", "None", "", "query", "Int", "n"} {
		withField(t, list, name, plain, "")
	}
	withField(t, list, "Query", impl.Field{Name: "n", Type: mustType(t, "Int")}, "")
	withField(t, list, "In", impl.Field{Name: "a", Type: mustType(t, "Int")}, "")
	for _, typ := range []string{"None", "In", "[In]"} {
		withField(t, list, "Query", impl.Field{Name: "more", Type: mustType(t, typ)}, "")
	}
	for _, typ := range []string{"None", "Query", "U", "In!", "Int!"} {
		withField(t, list, "In", impl.Field{Name: "more", Type: mustType(t, typ)}, "")
	}
	for _, name := range []string{"", "1", "a b", "abcdefghijklm"} {
		withField(t, list, "Query", impl.Field{Name: name, Type: plain.Type}, "")
	}
	with := func(args ...impl.Arg) impl.Field { return impl.Field{Name: "more", Type: plain.Type, Args: args} }
	withField(t, list, "In", with(arg(t, "x", "Int")), "")
	withField(t, list, "Query", with(arg(t, "x", "Int"), arg(t, "x", "Int")), "")
	withField(t, list, "Query", with(arg(t, "x", "Query")), "")
	withField(t, list, "Query", with(argElse(t, "x", "Int", text("a"))), "")
	withField(t, list, "Query", with(argElse(t, "x", "Int", nested(num(1), 3))), "")
	for i, x := range formless() {
		for _, f := range []impl.Field{{Name: "more", Type: x}, with(impl.Arg{Name: "x", Type: x})} {
			if got, ok := impl.SchemaWith(list, "Query", f); ok || !equal(got, list) {
				t.Errorf("type %d: %v", i, ok)
			}
		}
	}
	for i, v := range []impl.Value{endless(1), endless(12), twofold(num(1), 100), ring(1, 2)} {
		if got, ok := impl.SchemaWith(list, "Query", with(argElse(t, "x", "Int", v))); ok || !equal(got, list) {
			t.Errorf("value %d: %v", i, ok)
		}
	}
}

// P59, P60: limits are met exactly, and passed by one.
func TestSchemaGrowsToItsLimits(t *testing.T) {
	names := manyNames(impl.FieldMax + 1)
	list := []impl.Def{object(t, "Query", names[0]+":Int"), input(t, "In", names[0]+":Int"), enum("K", names[0])}
	plain := func(name string) impl.Field { return impl.Field{Name: name, Type: mustType(t, "Int")} }
	for i, name := range names[1:] {
		for _, d := range []string{"Query", "In"} {
			got, ok := impl.SchemaWith(list, d, plain(name))
			if ok != (i+2 <= impl.FieldMax) || ok != (len(pairer{list: got}.def(d).Fields) == i+2) || !ok && !equal(got, list) {
				t.Errorf("field %d of %s: %v", i, d, ok)
			}
			list = got
		}
		got, ok := impl.SchemaWords(list, "K", name)
		if ok != (i+2 <= impl.FieldMax) || ok != (len(got[2].Words) == i+2) || !ok && !equal(got, list) {
			t.Errorf("word %d: %v", i, ok)
		}
		list = got
	}
	for _, count := range []int{impl.ArgMax, impl.ArgMax + 1} {
		f := plain("x")
		for _, name := range manyNames(count) {
			f.Args = append(f.Args, arg(t, name, "Int"))
		}
		if got, ok := impl.SchemaWith([]impl.Def{query(t)}, "Query", f); ok != (count == impl.ArgMax) || len(got[0].Fields) == 2 != ok {
			t.Errorf("%d arguments: %v", count, ok)
		}
	}
}

// P60: a word more of an enum, behind all; no other definition, no word that is there, or is none.
func TestSchemaWords(t *testing.T) {
	list := readSchema(t, smallSchema)
	for _, word := range []string{"C", "a", "_", "K", "Int", "true", "abcdefghijkl"} {
		withWord(t, list, "K", word, strings.Replace(smallSchema, "A B}", "A B "+word+"}", 1))
	}
	for _, word := range []string{"A", "B", "", "1", "a b", "A ", "abcdefghijklm", "\xff"} {
		withWord(t, list, "K", word, "")
	}
	for _, name := range []string{"Query", "In", "None", "", "k", "Int"} {
		withWord(t, list, name, "C", "")
	}
	two := readSchema(t, "type Query{n:Int} type P{n:Int} union U=Query")
	withWord(t, two, "U", "P", "")
	withWord(t, two, "U", "C", "")
}

// P59, P60: nothing of a schema that is not fine.
func TestSchemaGrowsOfWhatIsNotFine(t *testing.T) {
	for i, list := range wrongSchemas(t, readSchema(t, checkSchema)) {
		for _, name := range []string{"Query", "K", "P", "None"} {
			with, one := impl.SchemaWith(list, name, impl.Field{Name: "more", Type: mustType(t, "Int")})
			words, two := impl.SchemaWords(list, name, "C")
			if one || two || len(with)+len(words) > 0 {
				t.Errorf("schema %d, %s: %v %v", i, name, one, two)
			}
		}
		if got := impl.SchemaUsed(list); len(got) > 0 {
			t.Errorf("schema %d uses %q", i, got)
		}
	}
	wrong := []impl.Def{query(t), {Name: "K", Kind: impl.DefEnum}}
	if got, ok := impl.SchemaWords(wrong, "K", "A"); ok || len(got) > 0 {
		t.Error("a schema that would be fine with a word more")
	}
}

// P59, P60: a schema with a field or a word more grew, but with a field that must be given in; the other way round just that breaks.
func TestSchemasThatGrew(t *testing.T) {
	done := 0
	for _, list := range append(someSchemas(t), readSchema(t, checkSchema), readSchema(t, sessionSchema)) {
		for _, d := range list {
			for _, typ := range []string{"Int", "Int!", "[Int!]"} {
				x, ok := impl.SchemaWith(list, d.Name, impl.Field{Name: "more", Type: mustType(t, typ)})
				if !ok {
					continue
				}
				done++
				want := ""
				if d.Kind == impl.DefInput && typ == "Int!" {
					want = "3 " + d.Name + " more"
				}
				wantCode(t, "with a field more", x, impl.SchemaFine)
				growsBy(t, list, x, want)
				growsBy(t, x, list, "3 "+d.Name+" more")
			}
			if x, ok := impl.SchemaWords(list, d.Name, "MORE"); ok {
				done++
				wantCode(t, "with a word more", x, impl.SchemaFine)
				growsBy(t, list, x, "")
				growsBy(t, x, list, "6 "+d.Name+" MORE")
			}
		}
	}
	if done < 500 {
		t.Errorf("only %d", done)
	}
}

// uses asks for the names that the root of a schema leads to, with blanks between.
func uses(t *testing.T, s string, want string) {
	t.Helper()
	list, stays := roomy(readSchema(t, s))
	got := impl.SchemaUsed(list)
	if strings.Join(got, " ") != want || !stays() {
		t.Errorf("%s uses %q, not %s", s, got, want)
	}
	isNew(t, s, got, list)
	slices.Reverse(list)
	if back := impl.SchemaUsed(list); !slices.Equal(back, got) {
		t.Errorf("%s the other way round uses %q", s, back)
	}
}

// P61: what Query and Mutation lead to, through lists, arguments, unions and inputs; what nothing leads to.
func TestSchemaUsed(t *testing.T) {
	uses(t, "type Query{n:Int}", "Query")
	uses(t, "type Query{n:Int s:String b:Boolean i:ID}", "Query")
	uses(t, "type Query{n:Int! kind:Kind} enum Kind{A B} enum Spare{C}", "Kind Query")
	uses(t, "type Query{n:Int} type Mutation{n:Int}", "Mutation Query")
	uses(t, "type Query{n:Int} type Mutation{p:P} type P{k:K} enum K{A} enum L{A}", "K Mutation P Query")
	uses(t, "type Query{p:[[P!]]!} type P{a:Int}", "P Query")
	uses(t, "type Query{n(i:[I!]):Int} input I{j:J k:[K!]! a:Int} input J{i:I} enum K{A} input X{i:I}", "I J K Query")
	uses(t, "type Query{u:U} union U=P|R type P{k:K} type R{a:Int} enum K{Z} enum Z{K}", "K P Query R U")
	uses(t, "type Query{p:P} type P{r:R} type R{s:S} type S{p:P k(z:Z):Int} enum Z{A}", "P Query R S Z")
	uses(t, "type Query{q:Query p:P} type P{p:P q:Query} type Alone{p:P a:Alone} union U=Alone|P", "P Query")
	uses(t, "type Query{n:Int} type A{m:Mutation} type Mutation{q:Query} enum B{Query Mutation A}", "Mutation Query")
	uses(t, "type Query{a(k:K=A):a b:b} type a{n:Int} type b{n:aa} type aa{n:B} type B{n:_b} type _b{n:Int} enum K{A}", "B K Query _b a aa b")
	uses(t, checkSchema, "In K L Mutation P Q Query R T U")
	uses(t, sessionSchema, "Kind Mutation Person Pet Query Thing")
}

// P61: all that is used are definitions, ascending, Query among them; what is used uses no more.
func TestSchemaUsedAreDefinitions(t *testing.T) {
	r := rand.New(rand.NewSource(48))
	for range 500 {
		list := otherSchema(t, r, readSchema(t, checkSchema))
		if impl.SchemaCheck(list) != impl.SchemaFine {
			continue
		}
		used := impl.SchemaUsed(list)
		if !hasAll(used, []string{"Query"}) {
			t.Errorf("%s uses %q", impl.SchemaPut(list), used)
		}
		var rest []impl.Def
		for _, name := range used {
			d := pairer{list: list}.def(name)
			if d.Name == "" {
				t.Errorf("%s is no definition", name)
			}
			rest = append(rest, d)
		}
		wantCode(t, "what is used", rest, impl.SchemaFine)
		if !slices.Equal(impl.SchemaUsed(rest), used) {
			t.Errorf("%s uses %q", impl.SchemaPut(rest), impl.SchemaUsed(rest))
		}
	}
}
