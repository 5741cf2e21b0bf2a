package tests

import (
	"math/rand"
	"slices"
	"testing"

	"loop.example/pergola/impl"
)

// P18: fields that are answered under one name, of one object.
func TestDocMergeOfOneObject(t *testing.T) {
	fine := readSchema(t, checkSchema)
	checks(t, fine, impl.DocFine,
		"{me{name name}}", "{me{name} me{name}}", "{me{name} me{age}}", "{me{x:name x:name}}", "{me{name:name name}}", "{me{name nick:name}}", "{me{name:nick x:name}}", "{l l l l l l}",
		"{me{pet{name} pet{age}} me{pet{nick}}}", "{a:l(a:1) b:l(a:2)}", "{__typename __typename}", "{me{name @skip(if:true) name @include(if:false)}}", "{x:me{name} me{x:name}}")
	checks(t, fine, impl.DocMerge,
		"{me{x:name x:nick}}", "{me{name nick:name name:nick}}", "{me{name:nick name}}", "{me{x:age x:name}}", "{me{x:nick x:__typename}}", "{me{__typename:name __typename}}", "{me{x:pet{name} x:name}}", "{l x:l x:e}",
		"{me{x:nick y:name x:nick x:name}}", "{me{age name:age age name}}", "{x:me{name} x:q{l}}", "{x:me{name} x:it{__typename}}", "{me{x:friends{name} x:pet{name}}}", "{me{x:pet{name} x:other{__typename}}}")
}

// P18: what fields are given.
func TestDocMergeOfArgs(t *testing.T) {
	fine := readSchema(t, checkSchema)
	checks(t, fine, impl.DocFine,
		"{n(m:1) n(m:1)}", "{n(m:1,i:{a:1}) n(i:{a:1},m:1)}", "{l(a:[1,2],b:[[1]],c:{a:1},d:A) l(d:A,c:{a:1},b:[[1]],a:[1,2])}", "query($v:Int!){n(m:$v) n(m:$v)}", `{e(k:"A") e(k:"A")}`, "{all(k:A,first:1){__typename} all(first:1,k:A){...on P{name}}}",
		"{me{likes(l:[1,2]){__typename} likes(l:[1,2]){...on P{age}}}}")
	checks(t, fine, impl.DocMerge,
		"{n(m:1) n(m:2)}", "{n(m:1) n(m:1,i:null)}", "{l(a:1) l}", "{l l(a:1)}", "{l(a:1) l(b:1)}", "{l(a:[1]) l(a:1)}", "{l(a:[1,2]) l(a:[2,1])}", `{e(k:A) e(k:"A")}`, "{all{__typename} all(first:3){__typename}}",
		"query($v:Int!){n(m:$v) n(m:1)}", "query($v:Int!,$w:Int!){n(m:$v) n(m:$w)}", "{n(m:1,i:{a:1}) n(m:1,i:{a:1,b:null})}", "{n(m:1,i:{a:1,k:A}) n(m:1,i:{a:1,k:B})}", "{l(a:1,b:2) l(a:2,b:1)}", "{me{likes(k:A){__typename} likes(k:B){__typename}}}",
		"{all(first:1){__typename} x:all(first:2){__typename} all(first:2){__typename}}", "{l(a:null) l}", "{n(m:1,i:{a:1,b:null}) n(m:1,i:{b:null,a:1})}", "{e(o:1) e(o:\"1\")}")
}

// P18: fields of unlike objects need have one shape only.
func TestDocMergeOfUnlikeObjects(t *testing.T) {
	fine := readSchema(t, checkSchema)
	within := func(p, q string) string { return "{it{...on P{" + p + "} ...on Q{" + q + "}}}" }
	checks(t, fine, impl.DocFine,
		within("name", "name"), within("x:name", "x:name"), within("x:age", "y:age"), within("x:nick", "x:age"), within("x:name", "x:__typename"), within("x:pet{name}", "x:pet{name}"), within("x:pet{name}", "x:other{name}"), within("x:other{__typename}", "x:pet{name}"),
		within("x:likes(k:A){__typename}", "x:pet{name}"), within("friends{name}", "friends{name}"), within("x:friends{name}", "x:friends{age}"), within("x:pet{a:name}", "x:pet{b:age}"))
	checks(t, fine, impl.DocMerge,
		within("age", "age"), within("x:age", "x:nick"), within("x:name", "x:nick"), within("x:nick", "x:name"), within("kind", "kind"), within("x:kind", "x:nick"), within("x:pet{name}", "x:owner{name}"), within("x:pet{name}", "x:friends{name}"), within("x:friends{name}", "x:name"),
		within("x:pet{name}", "x:nick"), within("y:nick x:age", "y:nick x:age"), within("x:__typename", "x:nick"))
	checks(t, fine, impl.DocFine, "{u{...on Q{pet{name}} ...on R{x:pet{name}}}}", "{u{...on Q{x:nick} ...on R{x:nick(x:1)}}}")
	checks(t, fine, impl.DocMerge, "{u{...on Q{pet{name}} ...on R{pet{name}}}}", "{u{...on Q{age} ...on R{age}}}", "{u{...on R{nick(x:2)} ...on R{nick(x:1)}}}")
}

// P18: names that meet, one of them a union.
func TestDocMergeOfUnions(t *testing.T) {
	fine := readSchema(t, checkSchema)
	checks(t, fine, impl.DocFine, "{it{__typename ...on P{__typename}}}", "{it{...on P{x:name} ...on U{...on Q{x:name} ...on R{x:name}}}}", "{it{...on U{x:__typename} ...on P{x:name}}}", "{it{...on T{x:__typename} ...on U{...on R{x:name}}}}", "{me{...on T{...on Q{x:name} ...on P{x:name}}}}")
	checks(t, fine, impl.DocMerge, "{it{x:__typename ...on P{x:name}}}", "{it{...on P{x:name} x:__typename}}", "{it{...on U{x:__typename} ...on Q{x:name}}}", "{it{...on T{x:__typename} ...on U{...on Q{x:name}}}}", "{it{...on U{x:__typename} ...on T{x:__typename ...on P{y:age} ...on Q{y:nick}}}}",
		"{me{...on T{...on Q{x:name}} x:age}}", "{me{...on T{...on Q{x:nick}} x:name}}")
}

// P18: through SelInlines and Pieces, and within each other.
func TestDocMergeThroughParts(t *testing.T) {
	fine := readSchema(t, checkSchema)
	checks(t, fine, impl.DocFine,
		"{me{name ...on P{name} ...F}} fragment F on P{name ...on T{...on P{name}}}", "{...F ...F ...on Query{...F}} fragment F on Query{l(a:1)}", "{me{...F} x:me{...G}} fragment F on P{x:name} fragment G on P{x:nick}",
		"{it{...F ...G}} fragment F on P{x:name} fragment G on Q{x:name}", "{me{pet{name}} ...F} fragment F on Query{me{pet{age} name}}", "{...F q{...F}} fragment F on Query{l(a:1)}")
	checks(t, fine, impl.DocMerge,
		"{me{x:name ...on P{x:nick}}}", "{me{...on P{x:name} ...on P{x:nick}}}", "{me{...on P{...on P{...on P{x:name}}} x:age}}", "{me{x:name ...F}} fragment F on P{x:nick}", "{me{...F ...G}} fragment F on P{x:name} fragment G on P{x:nick}",
		"{me{...F}} fragment F on P{x:name x:nick}", "{me{...F ...G}} fragment F on P{...H} fragment G on P{x:nick} fragment H on P{x:name}", "{it{...F ...G}} fragment F on P{x:age} fragment G on Q{x:age}", "{l ...F} fragment F on Query{l(a:1)}", "{...F} fragment F on Query{...on Query{l(a:2)} l(a:1)}",
		"{me{pet{x:name}} me{pet{x:nick}}}", "{me{pet{x:name} ...F}} fragment F on P{pet{...on Q{x:nick}}}", "{me{pet{owner{pet{x:name}}}} ...F} fragment F on Query{me{pet{owner{...G}}}} fragment G on P{pet{x:age}}", "{q{l} q{q{l}} q{l(a:1)}}",
		"{q{q{q{q{q{x:__typename}}}}} q{q{q{q{q{x:l}}}}}}", "{me{friends{x:name}} me{...on T{...on P{friends{x:nick}}}}}", "query a{me{name}} query b{me{...F x:name}} fragment F on P{x:nick}")
	checks(t, fine, impl.DocFine, "query a{x:me{name}} query b{x:l}", "query a{me{x:name}} query b{me{...F}} fragment F on P{x:nick}")
}

// P18: within fields of unlike objects, too, each two can be.
func TestDocMergeWithinUnlikeObjects(t *testing.T) {
	fine := readSchema(t, checkSchema)
	within := func(p, q string) string { return "{it{...on P{x:pet{" + p + "}} ...on Q{x:pet{" + q + "}}}}" }
	checks(t, fine, impl.DocFine, within("y:name", "y:name"), within("y:name", "z:nick"), within("y:owner{z:name}", "y:owner{z:name}"), within("y:owner{name}", "y:owner{age}"),
		"{it{...on P{x:pet{y:name}} ...on Q{x:other{y:name}}}}", "{it{...on P{x:pet{y:nick}} ...on Q{x:other{y:nick}}}}", "{it{...on P{x:pet{y:age}} ...on Q{x:other{y:nick}}}}")
	checks(t, fine, impl.DocMerge, within("y:name", "y:nick"), within("y:name", "y:pet{name}"), within("y:owner{z:name}", "y:owner{z:age}"), within("y:owner{z:pet{w:name}}", "y:owner{z:pet{w:age}}"), within("y:nick", "y:age"),
		"{it{...on P{x:pet{y:name}} ...on Q{x:other{y:nick}}}}", "{it{...on P{x:pet{y:age}} ...on Q{x:other{y:age}}}}")
}

// fieldAsked is a field that is chosen of a name, and its type.
type fieldAsked struct {
	impl.Sel
	of  string
	typ impl.Type
}

// pairer holds all fields against each other two by two, just as the document says it.
type pairer struct {
	list  []impl.Def
	meets map[[2]string]bool
	doc   impl.Doc
}

// pairerOf knows which names of a schema meet.
func pairerOf(list []impl.Def) pairer {
	p := pairer{list: list, meets: map[[2]string]bool{}}
	for _, a := range list {
		for _, b := range list {
			p.meets[[2]string{a.Name, b.Name}] = impl.TypesMeet(list, a.Name, b.Name)
		}
	}
	return p
}

func (p pairer) meet(a, b string) bool {
	return p.meets[[2]string{a, b}]
}

func (p pairer) def(name string) impl.Def {
	i := slices.IndexFunc(p.list, func(d impl.Def) bool { return d.Name == name })
	if i < 0 {
		return impl.Def{}
	}
	return p.list[i]
}

func (p pairer) fields(sels []impl.Sel, of string) []fieldAsked {
	var out []fieldAsked
	for _, s := range sels {
		switch s.Kind {
		case impl.SelInline:
			out = append(out, p.fields(s.Sels, s.Name)...)
		case impl.SelSpread:
			piece := p.doc.Pieces[slices.IndexFunc(p.doc.Pieces, func(x impl.Piece) bool { return x.Name == s.Name })]
			out = append(out, p.fields(piece.Sels, piece.On)...)
		default:
			f := fieldAsked{Sel: s, of: of, typ: impl.Type{Name: "String", Must: true}}
			for _, x := range p.def(of).Fields {
				if x.Name == s.Name {
					f.typ = x.Type
				}
			}
			out = append(out, f)
		}
	}
	return out
}

func base(t impl.Type) string {
	for len(t.Of) > 0 {
		t = t.Of[0]
	}
	return t.Name
}

func (p pairer) within(f fieldAsked) []fieldAsked {
	return p.fields(f.Sels, base(f.typ))
}

func underOneName(a, b fieldAsked) bool {
	name := func(f fieldAsked) string {
		if f.Alias == "" {
			return f.Name
		}
		return f.Alias
	}
	return name(a) == name(b)
}

func (p pairer) oneShape(a, b impl.Type) bool {
	if a.Must != b.Must || len(a.Of) != len(b.Of) {
		return false
	}
	if len(a.Of) > 0 {
		return p.oneShape(a.Of[0], b.Of[0])
	}
	return a.Name == b.Name || p.meet(a.Name, a.Name) && p.meet(b.Name, b.Name)
}

func givenTheSame(a, b []impl.Give) bool {
	if len(a) != len(b) {
		return false
	}
	for _, x := range a {
		if !slices.ContainsFunc(b, func(y impl.Give) bool { return x.Name == y.Name && impl.ValueSame(x.Value, y.Value) }) {
			return false
		}
	}
	return true
}

func (p pairer) twoCanBe(a, b fieldAsked) bool {
	if !p.oneShape(a.typ, b.typ) || p.meet(a.of, b.of) && (a.Name != b.Name || !givenTheSame(a.Args, b.Args)) {
		return false
	}
	for _, x := range p.within(a) {
		for _, y := range p.within(b) {
			if underOneName(x, y) && !p.twoCanBe(x, y) {
				return false
			}
		}
	}
	return true
}

func (p pairer) canBeOne(fields []fieldAsked) bool {
	for i, a := range fields {
		for _, b := range fields[:i] {
			if underOneName(a, b) && !p.twoCanBe(a, b) {
				return false
			}
		}
		if !p.canBeOne(p.within(a)) {
			return false
		}
	}
	return true
}

// rightAsker makes documents that are right, but for what can be one.
type rightAsker struct {
	*rand.Rand
	pairer
}

// meeting is names of those that meet one.
func (a rightAsker) meeting(of string) []string {
	var out []string
	for _, d := range a.list {
		if a.meet(of, d.Name) {
			out = append(out, d.Name)
		}
	}
	return out
}

// values is values that may be given where a type is wanted.
func (a rightAsker) values(typ string) []impl.Value {
	switch typ {
	case "Int", "Int!":
		return []impl.Value{num(1), num(1), num(2), named("i")}
	case "String!":
		return []impl.Value{text("age"), text("name"), text("me"), text("1")}
	case "K":
		return []impl.Value{word("A"), text("A"), null(), named("k")}
	case "In":
		return []impl.Value{tree("a", num(1)), tree("a", named("i")), tree("a k", named("i"), named("k"))}
	case "[Int]", "[Int!]":
		return []impl.Value{num(1), list(num(1)), list(num(1), named("i")), null(), named("l")}
	}
	return nil
}

func (a rightAsker) gives(args []impl.Arg) []impl.Give {
	var out []impl.Give
	for _, i := range a.Perm(len(args)) {
		values := a.values(impl.TypePut(args[i].Type))
		if len(values) > 0 && (a.Intn(3) == 0 || args[i].Type.Must && !args[i].Has) {
			out = append(out, impl.Give{Name: args[i].Name, Value: values[a.Intn(len(values))]})
		}
	}
	return out
}

func (a rightAsker) field(of string, deep int) impl.Sel {
	s := field("__typename")
	fields := a.def(of).Fields
	if i := a.Intn(len(fields) + 1); i < len(fields) {
		f := fields[i]
		if a.meet(base(f.Type), base(f.Type)) {
			if deep < 2 {
				return s
			}
			s.Sels = a.sels(base(f.Type), deep-1)
		}
		s.Name, s.Args = f.Name, a.gives(f.Args)
	}
	s.Alias = []string{"", "", "x", "y", "name"}[a.Intn(5)]
	return s
}

func (a rightAsker) sel(of string, deep int) impl.Sel {
	s := a.field(of, deep)
	switch on := a.meeting(of); a.Intn(6) {
	case 0:
		if deep > 1 {
			name := on[a.Intn(len(on))]
			s = inline(name, a.sels(name, deep-1)...)
		}
	case 1:
		for _, p := range a.doc.Pieces {
			if slices.Contains(on, p.On) {
				s = spread(p.Name)
			}
		}
	}
	if a.Intn(8) == 0 {
		s = only(s, named("b"))
	}
	return s
}

func (a rightAsker) sels(of string, deep int) []impl.Sel {
	return some(a.Rand, 1, 3, func() impl.Sel { return a.sel(of, deep) })
}

// ask is a document in which each piece leads to those ahead of it, without those that nothing leads to.
func (a rightAsker) ask(t *testing.T) impl.Doc {
	t.Helper()
	objects := []string{"Query", "P", "Q", "T", "U", "P"}
	for _, name := range []string{"F", "G", "H"}[:a.Intn(4)] {
		on := objects[a.Intn(len(objects))]
		a.doc.Pieces = append(a.doc.Pieces, impl.Piece{Name: name, On: on, Sels: a.sels(on, 2)})
	}
	for _, name := range []string{"a", "b", "c"}[:1+a.Intn(3)] {
		op := impl.Op{Name: name, Sels: a.sels("Query", 2+a.Intn(3))}
		if a.Intn(4) == 0 {
			op = impl.Op{Name: name, Change: true, Sels: a.sels("Mutation", 2)}
		}
		a.doc.Ops = append(a.doc.Ops, op)
	}
	var led []string
	for i, op := range a.doc.Ops {
		led = append(led, impl.PiecesOf(a.doc, op.Sels)...)
		for _, name := range impl.VarsOf(a.doc, op.Sels) {
			typ := map[string]string{"i": "Int!", "k": "K", "l": "[Int!]", "b": "Boolean!"}[name]
			a.doc.Ops[i].Vars = append(a.doc.Ops[i].Vars, impl.Var{Name: name, Type: mustType(t, typ)})
		}
	}
	a.doc.Pieces = slices.DeleteFunc(a.doc.Pieces, func(p impl.Piece) bool { return !slices.Contains(led, p.Name) })
	return a.doc
}

// someRight is many documents that are right, but for what can be one; always the same ones.
func someRight(t *testing.T) ([]impl.Def, []impl.Doc) {
	t.Helper()
	list := readSchema(t, checkSchema)
	a := rightAsker{rand.New(rand.NewSource(11)), pairerOf(list)}
	var out []impl.Doc
	for range 3000 {
		out = append(out, a.ask(t))
	}
	return list, out
}

// P18: what can be one, two by two.
func TestDocMergeTwoByTwo(t *testing.T) {
	list, docs := someRight(t)
	found := [2]int{}
	p := pairerOf(list)
	for _, d := range docs {
		p.doc = d
		want := impl.DocFine
		for _, op := range d.Ops {
			root := "Query"
			if op.Change {
				root = "Mutation"
			}
			if !p.canBeOne(p.fields(op.Sels, root)) {
				want = impl.DocMerge
			}
		}
		if got := impl.DocCheck(list, d); got != want {
			t.Errorf("%s: %d, not %d", impl.DocPut(d), got, want)
		}
		found[min(want, 1)]++
	}
	if found[0] < 500 || found[1] < 500 {
		t.Errorf("too few: %v", found)
	}
}

// fineOnes is documents that are fine.
func fineOnes(t *testing.T) ([]impl.Def, []impl.Doc) {
	t.Helper()
	list, docs := someRight(t)
	return list, slices.DeleteFunc(docs, func(d impl.Doc) bool { return impl.DocCheck(list, d) != impl.DocFine })
}

// withSel is the document with one more chosen by an Op, behind all.
func withSel(d impl.Doc, op int, s impl.Sel) impl.Doc {
	d.Ops = slices.Clone(d.Ops)
	d.Ops[op].Sels = append(slices.Clone(d.Ops[op].Sels), s)
	return d
}

// P17: Ops from the last to the first; a field that is none, wherever it is.
func TestDocsThatAreFine(t *testing.T) {
	list, docs := fineOnes(t)
	for _, d := range docs {
		back := d
		back.Ops = slices.Clone(d.Ops)
		slices.Reverse(back.Ops)
		if got := impl.DocCheck(list, back); got != impl.DocFine {
			t.Errorf("%s: %d", impl.DocPut(back), got)
		}
		for i := range d.Ops {
			none := withSel(d, i, field("none"))
			if got := impl.DocCheck(list, none); got != impl.DocField {
				t.Errorf("%s: %d", impl.DocPut(none), got)
			}
		}
		for i, p := range d.Pieces {
			none := d
			none.Pieces = slices.Clone(d.Pieces)
			none.Pieces[i].Sels = append(slices.Clone(p.Sels), field("none"))
			if got := impl.DocCheck(list, none); got != impl.DocField {
				t.Errorf("%s: %d", impl.DocPut(none), got)
			}
		}
		full := withSel(d, 0, field("none"))
		full.Ops[0].Sels = append(full.Ops[0].Sels, times(impl.SelMax, field("none"))...)
		if got := impl.DocCheck(list, full); got != impl.DocForm {
			t.Errorf("too many: %d", got)
		}
	}
}

// P18: the first that is chosen once more.
func TestDocsChosenOnceMore(t *testing.T) {
	list, docs := fineOnes(t)
	for _, d := range docs {
		for i, op := range d.Ops {
			again := withSel(d, i, op.Sels[0])
			if got := impl.DocCheck(list, again); got != impl.DocFine {
				t.Errorf("%s: %d", impl.DocPut(again), got)
			}
		}
		for i, p := range d.Pieces {
			again := d
			again.Pieces = slices.Clone(d.Pieces)
			again.Pieces[i].Sels = append([]impl.Sel{p.Sels[0]}, p.Sels...)
			if got := impl.DocCheck(list, again); got != impl.DocFine {
				t.Errorf("%s: %d", impl.DocPut(again), got)
			}
		}
	}
}

// P46: a Piece more is one too many; with a spread of it on Query it is fine, or cannot be one.
func TestDocsWithAPieceMore(t *testing.T) {
	list, docs := fineOnes(t)
	found := map[int]int{}
	for i, d := range docs {
		more := d
		sels := []impl.Sel{[]impl.Sel{field("__typename"), {Kind: impl.SelField, Alias: "x", Name: "l"}, field("it", field("__typename"))}[i%3]}
		more.Pieces = append(slices.Clone(d.Pieces), impl.Piece{Name: "More", On: "Query", Sels: sels})
		want := impl.DocPieces
		if len(more.Pieces) > impl.OpMax {
			want = impl.DocForm
		}
		if got := impl.DocCheck(list, more); got != want {
			t.Errorf("%s: %d, not %d", impl.DocPut(more), got, want)
		}
		if want == impl.DocForm || d.Ops[0].Change {
			continue
		}
		led := withSel(more, 0, spread("More"))
		got := impl.DocCheck(list, led)
		found[got]++
		if got != impl.DocFine && got != impl.DocMerge {
			t.Errorf("%s: %d", impl.DocPut(led), got)
		}
	}
	if found[impl.DocFine] < 100 || found[impl.DocMerge] < 10 {
		t.Errorf("too few: %v", found)
	}
}

// fullSels is as much as may be chosen, so deep: fields under names, each a letter; where nothing is within the last is another one.
func fullSels(deep int, names string, last impl.Sel) []impl.Sel {
	var out []impl.Sel
	for _, name := range names {
		s := impl.Sel{Kind: impl.SelField, Alias: string(name), Name: "q"}
		if deep == 1 {
			s.Alias, s.Name = "leaf"+string(name), "a"
		} else {
			s.Sels = fullSels(deep-1, names, last)
		}
		out = append(out, s)
	}
	if deep == 1 {
		out[len(out)-1] = last
	}
	return out
}

// P17, P18: documents as great as they may be, with pieces that are chosen very often.
func TestDocsOfVeryMany(t *testing.T) {
	list := readSchema(t, "type Query{q:Query a:Int b:Int}")
	for _, names := range []string{"abcdef", "xxxxxx", "xyxyxy", "xxxyyz"} {
		for want, first := range map[int]string{impl.DocFine: "a", impl.DocMerge: "b"} {
			d := impl.Doc{}
			last := impl.Sel{Kind: impl.SelField, Alias: "end", Name: "a"}
			for _, name := range []string{"F", "G", "H"} {
				d.Pieces = append(d.Pieces, impl.Piece{Name: name, On: "Query", Sels: fullSels(impl.DeepMax, names, last)})
				last = spread(name)
			}
			d.Ops = []impl.Op{{Sels: fullSels(impl.DeepMax, names, last)}}
			if first == "b" {
				end := d.Pieces[0].Sels
				for end[0].Name == "q" {
					end = end[0].Sels
				}
				end[0].Alias, end[0].Name = "end", "b"
			}
			if got := impl.DocCheck(list, d); got != want {
				t.Errorf("%q: %d, not %d", names, got, want)
			}
			if got := impl.PiecesOf(d, d.Ops[0].Sels); !slices.Equal(got, []string{"F", "G", "H"}) {
				t.Errorf("%q", got)
			}
		}
	}
}

// P18: two that cannot be one are found wherever they are, also where other lists are one.
func TestDocMergeAnywhere(t *testing.T) {
	list := readSchema(t, "type Query{q:Query a:Int b:Int}")
	for _, names := range []string{"aabbcd", "abcdef", "aabbbc", "abcc"} {
		end := field("a")
		d := asks(fullSels(4, names, end)...)
		if got := impl.DocCheck(list, d); got != impl.DocFine {
			t.Errorf("%q: %d", names, got)
		}
		for _, leaf := range leaves(d.Ops[0].Sels) {
			leaf[0].Alias, leaf[0].Name = "a", "b"
			if got := impl.DocCheck(list, d); got != impl.DocMerge {
				t.Fatalf("%s: %d", impl.DocPut(d), got)
			}
			leaf[0].Alias, leaf[0].Name = "other", "b"
		}
		if got := impl.DocCheck(list, d); got != impl.DocFine {
			t.Errorf("%q: %d", names, got)
		}
	}
}

// leaves is all lists that have nothing within.
func leaves(sels []impl.Sel) [][]impl.Sel {
	if len(sels[0].Sels) == 0 {
		return [][]impl.Sel{sels}
	}
	var out [][]impl.Sel
	for _, s := range sels {
		out = append(out, leaves(s.Sels)...)
	}
	return out
}
