package tests

import (
	"math/rand"
	"slices"
	"strconv"
	"testing"

	"loop.example/pergola/impl"
)

// byHand answers questions just as the document says it, one step behind the other, by what stands ahead of chapter 6, and by Given and ArgsOf.
type byHand struct {
	pairer
	nodes  []impl.Node
	vars   impl.Value
	change bool
	errs   []impl.Err
}

// asked is a field under its name, and all Sels of that name.
type asked struct {
	name string
	sel  impl.Sel
	sels []impl.Sel
}

// lacks says whether something is nothing where it must be there: that takes all that it is within away.
func lacks(v impl.Value, t impl.Type) bool {
	return t.Must && v.Kind == impl.IsNull
}

func (b *byHand) filled(v impl.Value) impl.Value {
	if v.Kind != impl.IsVar {
		return v
	}
	x, _ := impl.TreeGet(b.vars, v.Text)
	return x
}

func (b *byHand) leftOut(s impl.Sel) bool {
	for _, w := range s.Whens {
		if v := b.filled(w.Value); (v.Kind == impl.IsBool && v.Num == 1) == w.Not {
			return true
		}
	}
	return false
}

// chosen is the fields of an object, one by one, in order, through all that is on it.
func (b *byHand) chosen(of string, sels []impl.Sel, seen map[string]bool) []impl.Sel {
	var out []impl.Sel
	for _, s := range sels {
		if b.leftOut(s) {
			continue
		}
		on, within := s.Name, s.Sels
		switch s.Kind {
		case impl.SelField:
			out = append(out, s)
			continue
		case impl.SelSpread:
			if seen[s.Name] {
				continue
			}
			seen[s.Name] = true
			p := b.doc.Pieces[slices.IndexFunc(b.doc.Pieces, func(p impl.Piece) bool { return p.Name == s.Name })]
			on, within = p.On, p.Sels
		}
		if on == of || slices.Contains(b.def(on).Words, of) {
			out = append(out, b.chosen(of, within, seen)...)
		}
	}
	return out
}

func (b *byHand) byName(of string, sels []impl.Sel) []asked {
	var out []asked
	for _, s := range b.chosen(of, sels, map[string]bool{}) {
		name := s.Alias
		if name == "" {
			name = s.Name
		}
		i := slices.IndexFunc(out, func(x asked) bool { return x.name == name })
		if i < 0 {
			i = len(out)
			out = append(out, asked{name: name, sel: s})
		}
		out[i].sels = append(out[i].sels, s.Sels...)
	}
	return out
}

func (b *byHand) wrong(path string, code int) impl.Value {
	if len(b.errs) < impl.ErrMax {
		b.errs = append(b.errs, impl.Err{Path: path, Code: code})
	}
	return null()
}

func (b *byHand) node(id int) (impl.Node, bool) {
	i := slices.IndexFunc(b.nodes, func(n impl.Node) bool { return n.Id == id })
	if i < 0 {
		return impl.Node{}, false
	}
	return b.nodes[i], true
}

// ofNode is what is chosen of a node.
func (b *byHand) ofNode(n impl.Node, sels []impl.Sel, path string) impl.Value {
	out, all := impl.Value{Kind: impl.IsTree}, true
	for _, x := range b.byName(n.Type, sels) {
		way := x.name
		if path != "" {
			way = path + "." + x.name
		}
		v, typ := text(n.Type), impl.Type{Name: "String", Must: true}
		if x.sel.Name != "__typename" {
			f := b.def(n.Type).Fields[slices.IndexFunc(b.def(n.Type).Fields, func(f impl.Field) bool { return f.Name == x.sel.Name })]
			v, typ = b.ofField(n, f, x, way), f.Type
		}
		out.Names, out.List = append(out.Names, x.name), append(out.List, v)
		all = all && !lacks(v, typ)
	}
	if !all {
		return null()
	}
	return out
}

func (b *byHand) ofField(n impl.Node, f impl.Field, x asked, path string) impl.Value {
	args, ok := impl.ArgsOf(b.list, f, x.sel.Args, b.vars)
	if !ok {
		return b.wrong(path, impl.ErrArgs)
	}
	v := impl.StoreGet(b.nodes, n.Id, f.Name)
	if first, _ := member(args, "first"); first.Kind == impl.IsNum && first.Num >= 0 && v.Kind == impl.IsList {
		v.List = v.List[:min(first.Num, len(v.List))]
	}
	given := slices.Contains(args.Names, "id") && slices.Contains(args.Names, "cell") && slices.Contains(args.Names, "value")
	if b.change && n.Type == "Mutation" && f.Name == "set" && given {
		v = b.set(args)
	}
	return b.byType(v, f.Type, x.sels, path)
}

func (b *byHand) set(args impl.Value) impl.Value {
	id, _ := member(args, "id")
	cell, _ := member(args, "cell")
	v, _ := member(args, "value")
	if id.Kind != impl.IsNum || cell.Kind != impl.IsText {
		return null()
	}
	nodes, ok := impl.StoreSet(b.nodes, id.Num, cell.Text, v)
	if !ok {
		return null()
	}
	b.nodes = nodes
	return impl.RefTo(id.Num)
}

// byType is a value as it is answered by a type.
func (b *byHand) byType(v impl.Value, t impl.Type, sels []impl.Sel, path string) impl.Value {
	if v.Kind == impl.IsNull {
		if t.Must {
			b.wrong(path, impl.ErrMust)
		}
		return v
	}
	if len(t.Of) > 0 {
		if v.Kind != impl.IsList {
			return b.wrong(path, impl.ErrKind)
		}
		out, all := impl.Value{Kind: impl.IsList}, true
		for i, x := range v.List {
			one := b.byType(x, t.Of[0], sels, path+"."+strconv.Itoa(i))
			out.List = append(out.List, one)
			all = all && !lacks(one, t.Of[0])
		}
		if !all {
			return null()
		}
		return out
	}
	if b.meet(t.Name, t.Name) {
		n, ok := b.node(impl.RefOf(v))
		if !ok || n.Type != t.Name && !slices.Contains(b.def(t.Name).Words, n.Type) {
			return b.wrong(path, impl.ErrKind)
		}
		return b.ofNode(n, sels, path)
	}
	if !impl.ValueFits(b.list, t, v) {
		return b.wrong(path, impl.ErrKind)
	}
	return v
}

// run answers a question by hand.
func (p pairer) run(nodes []impl.Node, d impl.Doc, op impl.Op, vars impl.Value) ([]impl.Node, impl.Answer) {
	b := byHand{pairer: p, nodes: nodes, vars: vars, change: op.Change}
	b.doc = d
	id := 0
	if op.Change {
		id = 1
	}
	n, _ := b.node(id)
	data := b.ofNode(n, op.Sels, "")
	return b.nodes, impl.Answer{Data: data, Errs: b.errs}
}

// anyCell is a value for a field of a type: mostly a right one.
func anyCell(r *rand.Rand, t impl.Type, nodes []impl.Node) impl.Value {
	if r.Intn(10) == 0 {
		return []impl.Value{null(), num(1), text("x"), list(), impl.RefTo(r.Intn(9)), list(null(), text("A"))}[r.Intn(6)]
	}
	if len(t.Of) > 0 {
		out := impl.Value{Kind: impl.IsList}
		for range r.Intn(4) {
			out.List = append(out.List, anyCell(r, t.Of[0], nodes))
		}
		if impl.ValueDeep(out) > 3 {
			return list()
		}
		return out
	}
	switch t.Name {
	case "Int", "ID":
		return num(r.Intn(9))
	case "String":
		return text("s")
	case "K", "L":
		return text("A")
	}
	var ids []int
	for _, n := range nodes {
		if n.Type == t.Name || t.Name == "T" && (n.Type == "P" || n.Type == "Q") || t.Name == "U" && (n.Type == "Q" || n.Type == "R") {
			ids = append(ids, n.Id)
		}
	}
	return impl.RefTo(ids[r.Intn(len(ids))])
}

// anyNodes is nodes of runSchema with any cells.
func anyNodes(r *rand.Rand, p pairer) []impl.Node {
	var nodes []impl.Node
	for i, typ := range []string{"Query", "Mutation", "P", "P", "Q", "Q", "R"} {
		nodes = append(nodes, impl.Node{Id: i, Type: typ, Cells: tree("")})
	}
	for i, n := range nodes {
		for _, f := range p.def(n.Type).Fields {
			if r.Intn(8) > 0 {
				nodes[i].Cells.Names = append(nodes[i].Cells.Names, f.Name)
				nodes[i].Cells.List = append(nodes[i].Cells.List, anyCell(r, f.Type, nodes))
			}
		}
	}
	return nodes
}

// question is a question that is answered: a document that is fine, one of its Ops, what it is given, and nodes.
type question struct {
	doc   impl.Doc
	op    impl.Op
	given impl.Value
	nodes []impl.Node
}

// someQuestions is the questions of so many documents of runSchema that are fine, always the same ones.
func someQuestions(t *testing.T, count int) (pairer, []question) {
	t.Helper()
	p := pairerOf(readSchema(t, runSchema))
	a := rightAsker{rand.New(rand.NewSource(31)), p}
	var out []question
	for done := 0; done < count; {
		d := a.ask(t)
		if impl.DocCheck(p.list, d) != impl.DocFine {
			continue
		}
		done++
		given := tree("i k l b", num(a.Intn(5)), text("B"), list(num(1)), yes(a.Intn(2) == 0))
		if a.Intn(3) == 0 {
			given = tree("b l i", yes(true), null(), num(1))
		}
		nodes := anyNodes(a.Rand, p)
		if !impl.StoreOk(nodes) {
			t.Fatalf("nodes are not ok: %q", cellsOf(nodes))
		}
		for _, op := range d.Ops {
			out = append(out, question{d, op, given, nodes})
		}
	}
	return p, out
}

// run answers a question, which can be.
func (q question) run(t *testing.T, list []impl.Def) ([]impl.Node, impl.Answer) {
	t.Helper()
	nodes, a, code := impl.Run(list, q.nodes, q.doc, q.op.Name, q.given)
	if code != impl.RunFine {
		t.Fatalf("%s by %s: %d", impl.DocPut(q.doc), q.op.Name, code)
	}
	return nodes, a
}

// with is the question with another Op in the place of its own.
func (q question) with(op impl.Op) question {
	i := slices.IndexFunc(q.doc.Ops, func(x impl.Op) bool { return x.Name == q.op.Name })
	q.doc.Ops = slices.Clone(q.doc.Ops)
	q.doc.Ops[i] = op
	q.op = op
	return q
}

// choosing is the question with other Sels.
func (q question) choosing(sels ...impl.Sel) question {
	op := q.op
	op.Sels = sels
	return q.with(op)
}

// P24, P25: all questions are answered as by hand, in their shape, and the same again; without a change nodes stay, without errors there is a tree.
func TestRunByHand(t *testing.T) {
	p, questions := someQuestions(t, 2000)
	found := map[string]int{}
	for _, q := range questions {
		nodes, a := q.run(t, p.list)
		vars, _ := impl.Given(p.list, q.op, q.given)
		wantNodes, want := p.run(q.nodes, q.doc, q.op, vars)
		if !equal(nodes, wantNodes) || !equal(a, want) {
			t.Fatalf("%s by %s of %s:\n%s, not\n%s\n%q, not\n%q", impl.DocPut(q.doc), q.op.Name, impl.JsonPut(q.given), impl.AnswerPut(a), impl.AnswerPut(want), cellsOf(nodes), cellsOf(wantNodes))
		}
		if !impl.ShapeOk(p.list, q.doc, q.op.Name, vars, a.Data) {
			t.Errorf("%s by %s: not in its shape: %s", impl.DocPut(q.doc), q.op.Name, impl.AnswerPut(a))
		}
		if !q.op.Change && !equal(nodes, q.nodes) || len(a.Errs) == 0 && a.Data.Kind != impl.IsTree {
			t.Errorf("%s by %s: %s", impl.DocPut(q.doc), q.op.Name, impl.AnswerPut(a))
		}
		if again, b := q.run(t, p.list); !equal(again, nodes) || !equal(a, b) {
			t.Errorf("%s by %s again: %s", impl.DocPut(q.doc), q.op.Name, impl.AnswerPut(b))
		}
		found["all"]++
		for _, e := range a.Errs {
			found[strconv.Itoa(e.Code)]++
		}
		if a.Data.Kind == impl.IsNull {
			found["nothing"]++
		}
		if !equal(nodes, q.nodes) {
			found["changed"]++
		}
		if len(a.Errs) == impl.ErrMax {
			found["many"]++
		}
	}
	if found["all"] < 1000 || found["1"] < 200 || found["2"] < 100 || found["nothing"] < 100 || found["changed"] < 30 {
		t.Errorf("too few: %v", found)
	}
}
