package tests

import (
	"math/big"
	"slices"
	"strings"
	"testing"

	"loop.example/pergola/impl"
)

// costSchema has lists of lists, inputs that are given, unions, and a change.
const costSchema = `type Query{me:P n:Int all:[P] grid:[[Int]] ps:[[P]] u:U q:Query qs:[Query]}
type Mutation{me:P ns:[Int]}
type P{name:String friends:[P] tags:[String!]! must:[P!]! u:U us:[U] kinds:[[K]] k(x:[Int],y:I):[K!]!}
type R{name:String p:P}
union U=P|R
enum K{A B}
input I{a:[Int]}`

// costs asks how deep a question of a document is, how many fields it chooses, and what it costs by costSchema.
func costs(t *testing.T, doc string, name string, deep int, count int, cost int) {
	t.Helper()
	costsBy(t, readSchema(t, costSchema), readDoc(t, doc), name, deep, count, cost)
}

// costsBy asks the same by any schema, and that nothing is written to what is handed in.
func costsBy(t *testing.T, list []impl.Def, d impl.Doc, name string, deep int, count int, cost int) {
	t.Helper()
	wideList, listStays := roomy(list)
	wideDoc, docStays := roomy(d)
	costsJust(t, wideList, wideDoc, name, deep, count, cost)
	if !listStays() || !docStays() {
		t.Errorf("%s: an argument was written to", impl.DocPut(d))
	}
}

func costsJust(t *testing.T, list []impl.Def, d impl.Doc, name string, deep int, count int, cost int) {
	t.Helper()
	if got := impl.SelDeep(d, name); got != deep {
		t.Errorf("%.200s by %q: %d deep, not %d", impl.DocPut(d), name, got, deep)
	}
	if got := impl.SelCount(d, name); got != count {
		t.Errorf("%.200s by %q: %d fields, not %d", impl.DocPut(d), name, got, count)
	}
	if got := impl.CostOf(list, d, name); got != cost {
		t.Errorf("%.200s by %q: costs %d, not %d", impl.DocPut(d), name, got, cost)
	}
}

// P62, P63: fields by their types, and what is within them.
func TestCosts(t *testing.T) {
	costs(t, "{n}", "", 1, 1, 2)
	costs(t, "{__typename}", "", 1, 1, 2)
	costs(t, "{n x:n n}", "", 1, 3, 4)
	costs(t, "{me{name} n}", "", 2, 3, 4)
	costs(t, "{me{__typename name}}", "", 2, 3, 4)
	costs(t, "{all{name}}", "", 2, 2, 1+1+12*2)
	costs(t, "{me{must{name __typename}}}", "", 3, 4, 1+1+1+12*3)
	costs(t, "{grid}", "", 1, 1, 1+1+12*(1+12))
	costs(t, "{ps{name}}", "", 2, 2, 1+1+12*(1+12*2))
	costs(t, "{ps{tags kinds}}", "", 2, 3, 1+1+12*(1+12*(1+1+12+1+12*(1+12))))
	costs(t, "{me{k}}", "", 2, 2, 1+1+1+12)
	costs(t, "{me{k(x:[1,2,3],y:{a:[1]})}}", "", 2, 2, 1+1+1+12)
	costs(t, "{all{friends{name}}}", "", 3, 3, 1+1+12*(1+1+12*2))
	costs(t, "{all{friends{friends{friends{friends{name}}}}}}", "", 6, 6, 1+1+12*(1+1+12*(1+1+12*(1+1+12*(1+1+12*2)))))
	costs(t, "{q{q{q{q{q{n}}}}}}", "", 6, 6, 7)
	costs(t, "mutation{me{name} ns}", "", 2, 3, 1+2+13)
	costs(t, "{n q{all{name}} me{friends{name}}}", "", 3, 7, 1+1+(1+25)+(1+25))
}

// P62, P63: parts, pieces, and what is chosen of a union, each on its type; a piece as often as it is chosen.
func TestCostsOfPartsAndPieces(t *testing.T) {
	costs(t, "{me{__typename ...on P{name}}}", "", 2, 3, 4)
	costs(t, "{...on Query{...on Query{n}}}", "", 1, 1, 2)
	costs(t, "{me{...F}} fragment F on P{name friends{name}}", "", 3, 4, 28)
	costs(t, "{me{...F} x:me{...F} ...G} fragment F on P{tags} fragment G on Query{all{...F}}", "", 2, 6, 1+14+14+(1+12*14))
	costs(t, "{...F ...F ...F} fragment F on Query{n x:n}", "", 1, 6, 7)
	costs(t, "{...F} fragment F on Query{q{...G ...G}} fragment G on Query{...H q{...H}} fragment H on Query{all{name}}", "", 4, 11, 1+1+2*(25+1+25))
	costs(t, "{u{__typename ...on P{name tags} ...on R{p{name}}}}", "", 3, 6, 1+1+1+1+13+2)
	costs(t, "{me{us{...on U{...on P{x:name} ...on R{x:name}}}}}", "", 3, 4, 1+1+1+12*3)
	costs(t, "{me{us{...F}}} fragment F on U{...on P{u{...on R{name}}} ...on R{p{u{__typename}}}}", "", 5, 7, 1+1+1+12*(1+2+3))
	costs(t, "{n @skip(if:true) x:n @include(if:false)}", "", 1, 2, 3)
	costs(t, "query($v:Boolean!){...F @include(if:$v) q @skip(if:$v){n}} fragment F on Query{n}", "", 2, 3, 4)
}

// P62: each question of a document by its name, as Run finds it.
func TestCostsByName(t *testing.T) {
	doc := "query a{n} mutation b{ns} query c{all{...F}} fragment F on P{name}"
	costs(t, doc, "a", 1, 1, 2)
	costs(t, doc, "b", 1, 1, 14)
	costs(t, doc, "c", 2, 2, 26)
	for _, name := range []string{"", "d", "A", "F", "a ", "1"} {
		costs(t, doc, name, 0, 0, 0)
	}
	costs(t, "query a{n}", "", 1, 1, 2)
	costs(t, "query a{n}", "a", 1, 1, 2)
	costs(t, "query a{n}", "b", 0, 0, 0)
	costs(t, "{n}", "a", 0, 0, 0)
	costs(t, "query a{n q{n}} query a{n}", "a", 2, 3, 0)
	costs(t, "query a{n} {q{n}}", "a", 1, 1, 0)
	costs(t, "query a{n} {q{n}}", "", 0, 0, 0)
}

// P62, P63: a document that is open, but not right, has a depth, and fields, and costs nothing.
func TestCostsOfWhatIsNotRight(t *testing.T) {
	costs(t, "{none}", "", 1, 1, 0)
	costs(t, "{n{none}}", "", 2, 2, 0)
	costs(t, "{n} fragment F on P{name}", "", 1, 1, 0)
	costs(t, "{...F} fragment F on None{a{b{c}}}", "", 3, 3, 0)
	costs(t, "{...F} fragment F on Query{n x:n} fragment F on Query{n}", "", 1, 2, 0)
	costs(t, "{x:n x:all{name}}", "", 2, 3, 0)
	costs(t, "query($v:Int){n}", "", 1, 1, 0)
	costs(t, "query a{n} query b{none}", "a", 1, 1, 0)
	fine := readDoc(t, "{n}")
	for _, list := range wrongSchemas(t, readSchema(t, checkSchema)) {
		costsBy(t, list, fine, "", 1, 1, 0)
	}
}

// P62: a document that is not open: a piece that is not there, or leads to itself, wherever it is; one that is not ok.
func TestCostsOfWhatIsNotOpen(t *testing.T) {
	for _, doc := range []string{"{...F}", "{n q{...F}}", "{...on Query{n ...F}}", "{...F} fragment G on Query{n}", "{...F} fragment F on Query{...G}", "{n} fragment F on Query{...G}", "{n} fragment F on Query{q{...on Query{...G}}}", "{...F ...G} fragment F on Query{n}",
		"{...F} fragment F on Query{...F}", "{n} fragment F on Query{...F}", "{n} fragment F on Query{q{...F}}", "{...F} fragment F on Query{n ...G} fragment G on Query{n ...F}", "{n} fragment F on Query{...G} fragment G on Query{...F}",
		"{...F} fragment F on Query{...G} fragment G on Query{...H} fragment H on Query{...F}", "{...F} fragment F on Query{...G} fragment G on Query{q{...G}}", "{n ...H} fragment F on Query{...F} fragment H on Query{n}"} {
		costs(t, doc, "", 0, 0, 0)
	}
	costs(t, "query a{n} query b{...F}", "a", 0, 0, 0)
	list := readSchema(t, costSchema)
	ring := []impl.Sel{field("q")}
	ring[0].Sels = ring
	for _, d := range []impl.Doc{{}, asks(), asks(impl.Sel{Name: "n"}), asks(field("1")), asks(times(impl.SelMax+1, field("n"))...), asks(within(impl.DeepMax)), {Ops: times(impl.OpMax+1, impl.Op{Sels: []impl.Sel{field("n")}})}} {
		costsBy(t, list, d, "", 0, 0, 0)
	}
	for _, d := range []impl.Doc{asks(ring...), {Pieces: []impl.Piece{{Name: "F", On: "Query", Sels: ring}}, Ops: asks(field("n")).Ops}} {
		if deep, count, cost := impl.SelDeep(d, ""), impl.SelCount(d, ""), impl.CostOf(list, d, ""); deep+count+cost != 0 {
			t.Errorf("what holds itself: %d, %d, %d", deep, count, cost)
		}
	}
}

// P62: fields within each other up to DeepMax, and through pieces far beyond it.
func TestCostsOfDeepQuestions(t *testing.T) {
	list := readSchema(t, costSchema)
	deep := func(last impl.Sel) []impl.Sel {
		for range impl.DeepMax - 1 {
			last = field("q", last)
		}
		return []impl.Sel{last}
	}
	costsBy(t, list, asks(deep(field("n"))...), "", 6, 6, 7)
	d := asks(deep(spread("F"))...)
	d.Pieces = []impl.Piece{{Name: "F", On: "Query", Sels: deep(spread("G"))}, {Name: "G", On: "Query", Sels: deep(spread("H"))}, {Name: "H", On: "Query", Sels: deep(field("n"))}}
	costsBy(t, list, d, "", 21, 21, 22)
	costsBy(t, list, asks(inline("Query", inline("Query", inline("Query", inline("Query", inline("Query", field("n"))))))), "", 1, 1, 2)
}

// crowd is a document in which all that is chosen is chosen so often, so many levels deep, in each of its pieces.
func crowd(name string, wide int, deep int) impl.Doc {
	level := func(last impl.Sel) []impl.Sel {
		sels := times(wide, last)
		for range deep - 1 {
			sels = times(wide, field(name, sels...))
		}
		return sels
	}
	last := field("n")
	d := impl.Doc{}
	for _, name := range []string{"F", "G", "H"} {
		d.Pieces = append(d.Pieces, impl.Piece{Name: name, On: "Query", Sels: level(last)})
		last = spread(name)
	}
	d.Ops = []impl.Op{{Sels: level(last)}}
	return d
}

// P62, P63: many beyond CostMax; not one is told.
func TestCostsBeyondTheGreatest(t *testing.T) {
	list := readSchema(t, costSchema)
	for _, c := range []struct{ wide, deep int }{{6, 6}, {6, 5}, {5, 6}, {6, 4}, {1, 6}, {2, 3}, {3, 2}, {6, 1}, {1, 1}, {2, 6}, {3, 4}} {
		for _, name := range []string{"q", "qs"} {
			d := crowd(name, c.wide, c.deep)
			deep, count, cost := costsByHand(list, d, d.Ops[0])
			costsJust(t, list, d, "", deep, count, cost)
		}
	}
	d := crowd("q", 6, 6)
	costsJust(t, list, d, "", 21, impl.CostMax, impl.CostMax)
}

// P62, P63: costs, and counts, just below CostMax, just it, and beyond.
func TestCostsAtTheGreatest(t *testing.T) {
	list := readSchema(t, "type Query{list:[Query] q:Query n:Int}")
	for _, more := range []int{-1000, -13, -12, -2, -1, 0, 1, 2, 12, 13, 1000} {
		size := impl.CostMax + more
		d := ofSize(size-1, leveler{name: "list", often: 1, fixed: 1 + impl.ListMax, factor: impl.ListMax})
		deep, count, cost := costsByHand(list, d, d.Ops[0])
		costsJust(t, list, d, "", deep, count, cost)
		if cost != min(size, impl.CostMax) {
			t.Errorf("what costs %d costs %d", size, cost)
		}
		d = ofSize(size, leveler{name: "q", often: 5, fixed: 5, factor: 5})
		deep, count, cost = costsByHand(list, d, d.Ops[0])
		costsJust(t, list, d, "", deep, count, cost)
		if count != min(size, impl.CostMax) || cost != min(size+1, impl.CostMax) {
			t.Errorf("%d fields are %d, and cost %d", size, count, cost)
		}
	}
}

// leveler makes a document of levels: a field so often, all the rest within it, and beside it what is left over. A level comes to what is fixed, and so often what is within.
type leveler struct {
	name   string
	often  int
	fixed  int
	factor int
	doc    impl.Doc
}

// ofSize is a document of levels that comes to just so much.
func ofSize(size int, x leveler) impl.Doc {
	sels := x.level(size, impl.DeepMax-2)
	x.doc.Ops = asks(sels...).Ops
	return x.doc
}

// level goes on in a piece where it would be too deep.
func (x *leveler) level(size int, deep int) []impl.Sel {
	if size <= 41 {
		return flatOf(size)
	}
	if deep == 0 {
		i := len(x.doc.Pieces)
		name := []string{"F", "G", "H"}[i]
		x.doc.Pieces = append(x.doc.Pieces, impl.Piece{Name: name, On: "Query"})
		sels := x.level(size, impl.DeepMax-2)
		x.doc.Pieces[i].Sels = sels
		return []impl.Sel{spread(name)}
	}
	within := x.level((size-x.fixed)/x.factor, deep-1)
	return append(times(x.often, field(x.name, within...)), flatOf((size-x.fixed)%x.factor)...)
}

// flatOf is so many fields, side by side and within one.
func flatOf(count int) []impl.Sel {
	full := field("q", times(impl.SelMax, field("n"))...)
	out := times(count/(impl.SelMax+1), full)
	switch rest := count % (impl.SelMax + 1); rest {
	case 0:
	case 1:
		out = append(out, field("n"))
	default:
		out = append(out, field("q", times(rest-1, field("n"))...))
	}
	return out
}

// costsByHand is how deep a question is, how many fields it chooses, and what it costs, in numbers that have no end.
func costsByHand(list []impl.Def, d impl.Doc, op impl.Op) (deep int, count int, cost int) {
	x := coster{pairer{list: list, doc: d}, map[string][3]*big.Int{}}
	all := x.sels(op.Sels, root(op))
	all[2].Add(all[2], big.NewInt(1))
	most := big.NewInt(impl.CostMax)
	for i := range all {
		if all[i].Cmp(most) > 0 {
			all[i] = most
		}
	}
	return int(all[0].Int64()), int(all[1].Int64()), int(all[2].Int64())
}

// coster counts depth, fields and costs of a document whose pieces are right.
type coster struct {
	pairer
	known map[string][3]*big.Int
}

func (x coster) sels(sels []impl.Sel, of string) [3]*big.Int {
	sum := [3]*big.Int{new(big.Int), new(big.Int), new(big.Int)}
	for _, s := range sels {
		one := x.sel(s, of)
		if one[0].Cmp(sum[0]) > 0 {
			sum[0] = one[0]
		}
		sum[1].Add(sum[1], one[1])
		sum[2].Add(sum[2], one[2])
	}
	return sum
}

func (x coster) sel(s impl.Sel, of string) [3]*big.Int {
	switch s.Kind {
	case impl.SelInline:
		return x.sels(s.Sels, s.Name)
	case impl.SelSpread:
		if _, ok := x.known[s.Name]; !ok {
			p := x.doc.Pieces[slices.IndexFunc(x.doc.Pieces, func(p impl.Piece) bool { return p.Name == s.Name })]
			x.known[s.Name] = x.sels(p.Sels, p.On)
		}
		return x.known[s.Name]
	}
	typ := impl.Type{Name: "String"}
	for _, f := range x.def(of).Fields {
		if f.Name == s.Name {
			typ = f.Type
		}
	}
	within := x.sels(s.Sels, base(typ))
	one := big.NewInt(1)
	cost := new(big.Int).Add(within[2], one)
	for ; len(typ.Of) > 0; typ = typ.Of[0] {
		cost.Mul(cost, big.NewInt(impl.ListMax)).Add(cost, one)
	}
	return [3]*big.Int{new(big.Int).Add(within[0], one), new(big.Int).Add(within[1], one), cost}
}

// P58, P62, P63: documents made at random, as by hand; an answer has no more values than it costs, and that is more than its fields.
func TestCostsByHand(t *testing.T) {
	p, questions := someQuestions(t, 500)
	sized := 0
	for _, q := range questions {
		deep, count, cost := costsByHand(p.list, q.doc, q.op)
		costsBy(t, p.list, q.doc, q.op.Name, deep, count, cost)
		if deep > count || count >= cost {
			t.Errorf("%s by %s: %d, %d, %d", impl.DocPut(q.doc), q.op.Name, deep, count, cost)
		}
		_, a := q.run(t, p.list)
		if sizeByHand(a.Data) > cost || impl.ValueSize(a.Data) > cost {
			t.Errorf("%s by %s: %d values cost %d", impl.DocPut(q.doc), q.op.Name, sizeByHand(a.Data), cost)
		}
		if sizeByHand(a.Data) > 10 {
			sized++
		}
	}
	if sized < 50 {
		t.Errorf("only %d", sized)
	}
}

// P62, P81: within one field more it is one more deep, and one field more; all within a part on the root it is the same.
func TestCostsWithinMore(t *testing.T) {
	p, questions := someQuestions(t, 300)
	for _, q := range questions {
		if selDeep(q.op.Sels) >= impl.DeepMax {
			continue
		}
		deep, count, cost := impl.SelDeep(q.doc, q.op.Name), impl.SelCount(q.doc, q.op.Name), impl.CostOf(p.list, q.doc, q.op.Name)
		x := q.choosing(inline(root(q.op), q.op.Sels...))
		costsBy(t, p.list, x.doc, q.op.Name, deep, count, cost)
		x = q.choosing(field("q", q.op.Sels...))
		if got := impl.SelDeep(x.doc, q.op.Name); got != deep+1 || impl.SelCount(x.doc, q.op.Name) != count+1 {
			t.Errorf("%s by %s: %d deep", impl.DocPut(x.doc), q.op.Name, got)
		}
	}
}

// limits asks for the code of a question that may cost so much, and that it is answered as Run does.
func limits(t *testing.T, w world, d impl.Doc, name string, given impl.Value, most int, costly bool) {
	t.Helper()
	wide, stays := roomy(w.nodes)
	nodes, a, code := impl.Limited(w.list, wide, d, name, given, most)
	wantNodes, want, wantCode := impl.Run(w.list, w.nodes, d, name, given)
	if costly {
		wantNodes, want, wantCode = nil, impl.Answer{}, 9
	}
	if code != wantCode || !equal(nodes, wantNodes) || !equal(a, want) || !stays() {
		t.Errorf("%s by %q of %d: %d, not %d; %s", impl.DocPut(d), name, most, code, wantCode, impl.AnswerPut(a))
	}
	isNew(t, impl.DocPut(d), nodes, wide, w.list, d)
	isNew(t, impl.DocPut(d), a, wide, w.list, d, nodes)
}

// P64: just as much as the cost, one less, and far from it.
func TestLimited(t *testing.T) {
	p, questions := someQuestions(t, 100)
	for _, q := range questions {
		w := world{p.list, q.nodes}
		cost := impl.CostOf(p.list, q.doc, q.op.Name)
		for _, most := range []int{cost, cost + 1, impl.CostMax, 1 << 60} {
			limits(t, w, q.doc, q.op.Name, q.given, most, false)
		}
		for _, most := range []int{cost - 1, 1, 0, -1, -impl.CostMax, -1 << 63} {
			limits(t, w, q.doc, q.op.Name, q.given, most, true)
		}
	}
}

// P64: what is not answered by Run costs nothing, or as much as it would; below 0 nothing is answered.
func TestLimitedOfWhatIsNotAnswered(t *testing.T) {
	w := runWorld(t)
	for _, c := range []struct {
		doc, name, given string
		code             int
		cost             int
	}{{"{none}", "", "{}", impl.RunBad, 0}, {"{...F}", "", "{}", impl.RunBad, 0}, {"{n}", "a", "{}", impl.RunName, 0}, {"query a{n} query b{n}", "", "{}", impl.RunName, 0}, {"query($m:Int!){n(m:$m)}", "", "{}", impl.RunGiven, 2}, {"{n}", "", "[]", impl.RunGiven, 2}} {
		d, given := readDoc(t, c.doc), readValue(t, c.given)
		if _, _, code := impl.Limited(w.list, w.nodes, d, c.name, given, c.cost); code != c.code {
			t.Errorf("%s: %d", c.doc, code)
		}
		limits(t, w, d, c.name, given, c.cost, false)
		limits(t, w, d, c.name, given, c.cost-1, true)
		limits(t, w, d, c.name, given, -1, true)
	}
	limits(t, w, impl.Doc{}, "", null(), 0, false)
	limits(t, w, impl.Doc{}, "", null(), -1, true)
	for what, nodes := range wrongStores(t) {
		if !strings.HasPrefix(what, "endless") {
			limits(t, world{w.list, nodes}, readDoc(t, "{n}"), "", tree(""), 2, false)
			limits(t, world{w.list, nodes}, readDoc(t, "{n}"), "", tree(""), 1, true)
		}
	}
}

// P64: a change that costs too much is not done.
func TestLimitedOfChanges(t *testing.T) {
	w := runWorld(t)
	d := readDoc(t, `mutation{set(id:2,cell:"age",value:5){...on P{age}}}`)
	for _, most := range []int{2, 3} {
		limits(t, w, d, "", tree(""), most, most < 3)
	}
	nodes, _, _ := impl.Limited(w.list, w.nodes, d, "", tree(""), 3)
	if got := impl.StoreGet(nodes, 2, "age"); !alike(got, num(5)) {
		t.Errorf("%v", got)
	}
}
