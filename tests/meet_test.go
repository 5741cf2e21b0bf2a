package tests

import (
	"slices"
	"testing"

	"loop.example/pergola/impl"
)

// checkSchema has objects that are much alike, unions that have one in common, and arguments of each kind.
const checkSchema = `type Query{me:P! it:T all(first:Int=3,k:K):[T!] n(m:Int!,i:In):Int l(a:[Int!],b:[[Int]]!=[],c:[In],d:[[K!]!]):Int e(d:Int!=1,k:[K!],o:ID,s:String):String q:Query! u:U}
type Mutation{me:P set(x:Int,y:Boolean!=true):Int q:Query}
type P{name:String! age:Int pet:Q friends:[P!] likes(k:K,x:Int,l:[Int],i:In):T nick:String kind:K other:T}
type Q{name:String! age:String owner:P! nick:String pet:Q friends:[Q!] kind:L other:P}
type R{name:String! age:ID pet:Q! likes(x:Int):R nick(x:Int):String}
union T=P|Q
union U=Q|R
enum K{A B}
enum L{A B}
input In{a:Int! b:[String] c:In k:K}`

// readSchema is the schema of a text.
func readSchema(t *testing.T, s string) []impl.Def {
	t.Helper()
	list, ok := impl.SchemaGet(s)
	if !ok {
		t.Fatalf("no schema: %q", s)
	}
	return list
}

// wrongSchemas is schemas of which none is fine; each has the objects and unions of the one that it is made of.
func wrongSchemas(t *testing.T, fine []impl.Def) [][]impl.Def {
	t.Helper()
	more := func(d impl.Def) []impl.Def { return append(slices.Clone(fine[1:]), d) }
	out := [][]impl.Def{nil, {}, fine[1:], append(slices.Clone(fine), fine[1]), more(enum("Int", "A")), more(object(t, "Query", "a:None")), more(object(t, "Query", "a:In")), more(enum("Query", "A")),
		more(queryWith(t, argElse(t, "a", "Int", text("")))), more(impl.Def{Name: "Query"})}
	for i, list := range out {
		if impl.SchemaCheck(list) == impl.SchemaFine {
			t.Fatalf("schema %d is fine", i)
		}
	}
	return out
}

// someNames is all names of checkSchema, the four, and some that are not there.
func someNames(list []impl.Def) []string {
	names := []string{"Int", "String", "Boolean", "ID", "None", "p", "", "P!", "[P]", "__typename", "abcdefghijklm"}
	for _, d := range list {
		names = append(names, d.Name)
	}
	return names
}

// P14: just these meet, both ways.
func TestTypesMeet(t *testing.T) {
	fine := readSchema(t, checkSchema)
	meeting := []string{"Query Query", "Mutation Mutation", "P P", "Q Q", "R R", "T T", "U U", "P T", "T P", "Q T", "T Q", "Q U", "U Q", "R U", "U R", "T U", "U T"}
	for _, a := range someNames(fine) {
		for _, b := range someNames(fine) {
			want := slices.Contains(meeting, a+" "+b)
			if got := impl.TypesMeet(fine, a, b); got != want {
				t.Errorf("%q and %q: %v", a, b, got)
			}
		}
	}
}

// P14: a union of one, of as many as may be, and of none that another one has.
func TestTypesMeetThroughUnions(t *testing.T) {
	list := []impl.Def{query(t), union("Most", "a b c d e f g Query"), union("Other", "g f e d c b a")}
	objects := []string{"a", "b", "c", "d", "e", "f", "g"}
	for _, name := range objects {
		list = append(list, object(t, name, "n:Int"))
	}
	for _, a := range []string{"Most", "Other"} {
		for _, b := range append(objects, "Most", "Other") {
			if !impl.TypesMeet(list, a, b) || !impl.TypesMeet(list, b, a) {
				t.Errorf("%s and %s do not meet", a, b)
			}
		}
	}
	if impl.TypesMeet(list, "Other", "Query") || impl.TypesMeet(list, "Query", "Other") || !impl.TypesMeet(list, "Query", "Most") || impl.TypesMeet(list, "a", "g") {
		t.Error("objects")
	}
	apart := []impl.Def{query(t), union("One", "Query"), object(t, "A", "n:Int"), union("Two", "A")}
	if impl.TypesMeet(apart, "One", "Two") || impl.TypesMeet(apart, "Two", "One") || !impl.TypesMeet(apart, "One", "One") {
		t.Error("unions of one each")
	}
}

// P14: of a schema that is not fine nothing meets.
func TestTypesMeetOfWrongSchemas(t *testing.T) {
	fine := readSchema(t, checkSchema)
	for i, list := range wrongSchemas(t, fine) {
		for _, name := range []string{"Query", "P", "T", "U", "Q"} {
			if impl.TypesMeet(list, name, name) || impl.TypesMeet(list, "Q", name) || impl.TypesMeet(list, name, "T") {
				t.Errorf("schema %d: %s", i, name)
			}
		}
	}
}

// P45: nothing fits just what is given in; just what has objects meets itself.
func TestNamesAreKnown(t *testing.T) {
	fine := readSchema(t, checkSchema)
	givenIn := []string{"Int", "String", "Boolean", "ID", "K", "L", "In"}
	objects := []string{"Query", "Mutation", "P", "Q", "R", "T", "U"}
	for _, name := range someNames(fine) {
		for _, typ := range []impl.Type{{Name: name}, {Of: []impl.Type{{Name: name, Must: true}}}} {
			if got := impl.ValueFits(fine, typ, null()); got != slices.Contains(givenIn, name) {
				t.Errorf("nothing fits %q: %v", name, got)
			}
		}
		if got := impl.TypesMeet(fine, name, name); got != slices.Contains(objects, name) {
			t.Errorf("%q meets itself: %v", name, got)
		}
	}
	for i, list := range wrongSchemas(t, fine) {
		for _, name := range someNames(fine) {
			if impl.ValueFits(list, impl.Type{Name: name}, null()) || impl.TypesMeet(list, name, name) {
				t.Errorf("schema %d knows %q", i, name)
			}
		}
	}
}
