package tests

import (
	"slices"
	"strings"
	"testing"

	"loop.example/pergola/impl"
)

// same asks that another question is answered as one was.
func (q question) same(t *testing.T, list []impl.Def, what string, other question) {
	t.Helper()
	nodes, a := q.run(t, list)
	otherNodes, b := other.run(t, list)
	if !equal(a, b) || !equal(nodes, otherNodes) {
		t.Errorf("%s:\n%s by %s: %s\n%s by %s: %s", what, impl.DocPut(q.doc), q.op.Name, impl.AnswerPut(a), impl.DocPut(other.doc), other.op.Name, impl.AnswerPut(b))
	}
}

// P26: the first that is chosen once more.
func TestRunOfTheFirstOnceMore(t *testing.T) {
	p, questions := someQuestions(t, 300)
	for _, q := range questions {
		q.same(t, p.list, "the first behind all", q.choosing(append(slices.Clone(q.op.Sels), q.op.Sels[0])...))
		q.same(t, p.list, "the first twice ahead", q.choosing(append([]impl.Sel{q.op.Sels[0]}, q.op.Sels...)...))
	}
}

// more is a field more of each root, under a name that nothing else has.
func more() impl.Sel {
	return under("more", field("n"))
}

// P27: a field more that is left out, ahead or behind, and one that is not.
func TestRunOfAFieldMore(t *testing.T) {
	p, questions := someQuestions(t, 300)
	found := map[int]int{}
	for _, q := range questions {
		s := more()
		for _, out := range []impl.Sel{unless(s, yes(true)), only(s, yes(false)), only(unless(s, yes(true)), yes(true)), only(unless(s, yes(false)), yes(false))} {
			q.same(t, p.list, "left out", q.choosing(append(slices.Clone(q.op.Sels), out)...))
			q.same(t, p.list, "left out ahead", q.choosing(append([]impl.Sel{out}, q.op.Sels...)...))
		}
		for value, keeps := range map[bool]impl.Sel{true: unless(s, named("left")), false: only(s, named("left"))} {
			x := q.choosing(append(slices.Clone(q.op.Sels), keeps)...)
			op := x.op
			op.Vars = append(slices.Clone(op.Vars), impl.Var{Name: "left", Type: mustType(t, "Boolean!")})
			x = x.with(op)
			x.given = tree(strings.Join(append(slices.Clone(q.given.Names), "left"), " "), append(slices.Clone(q.given.List), yes(value))...)
			if len(op.Vars) <= impl.ArgMax {
				q.same(t, p.list, "left out by a variable", x)
			}
		}
		_, a := q.run(t, p.list)
		x := q.choosing(append(slices.Clone(q.op.Sels), only(s, yes(true)))...)
		_, b := x.run(t, p.list)
		if a.Data.Kind == impl.IsNull || b.Data.Kind == impl.IsNull {
			found[b.Data.Kind]++
			if b.Data.Kind != impl.IsNull {
				t.Errorf("%s: %s", impl.DocPut(x.doc), impl.AnswerPut(b))
			}
			continue
		}
		found[b.Data.Kind]++
		last := len(a.Data.List)
		if len(b.Data.List) != last+1 || b.Data.Names[last] != "more" || !equal(b.Data.List[:last], a.Data.List) || !equal(b.Data.Names[:last], a.Data.Names) {
			t.Errorf("%s: %s", impl.DocPut(x.doc), impl.AnswerPut(b))
		}
	}
	if found[impl.IsTree] < 200 || found[impl.IsNull] < 20 {
		t.Errorf("too few: %v", found)
	}
}

// root is the object that an Op begins with.
func root(op impl.Op) string {
	if op.Change {
		return "Mutation"
	}
	return "Query"
}

// selDeep is how many Sels are within each other.
func selDeep(sels []impl.Sel) int {
	deep := 0
	for _, s := range sels {
		deep = max(deep, 1+selDeep(s.Sels))
	}
	return deep
}

// P35: all that is chosen on its own type; and some of it.
func TestRunOnItsOwnType(t *testing.T) {
	p, questions := someQuestions(t, 300)
	for _, q := range questions {
		if selDeep(q.op.Sels) >= impl.DeepMax {
			continue
		}
		on := root(q.op)
		q.same(t, p.list, "on its own type", q.choosing(inline(on, q.op.Sels...)))
		q.same(t, p.list, "on its own type, only then", q.choosing(only(inline(on, q.op.Sels...), yes(true))))
		if len(q.op.Sels) > 1 {
			q.same(t, p.list, "the first on its own type", q.choosing(append([]impl.Sel{inline(on, q.op.Sels[0])}, q.op.Sels[1:]...)...))
			q.same(t, p.list, "all but the first on its own type", q.choosing(q.op.Sels[0], inline(on, q.op.Sels[1:]...)))
		}
	}
}

// P36: all that is chosen through a piece, once and twice.
func TestRunThroughAPiece(t *testing.T) {
	p, questions := someQuestions(t, 300)
	done := 0
	for _, q := range questions {
		if len(q.doc.Pieces) == impl.OpMax {
			continue
		}
		done++
		x := q.choosing(spread("All"))
		x.doc.Pieces = append(slices.Clone(q.doc.Pieces), impl.Piece{Name: "All", On: root(q.op), Sels: q.op.Sels})
		q.same(t, p.list, "through a piece", x)
		q.same(t, p.list, "through a piece twice", x.choosing(spread("All"), inline(root(q.op), spread("All"))))
		q.same(t, p.list, "through a piece, left out at first", x.choosing(unless(spread("All"), yes(true)), spread("All")))
	}
	if done < 100 {
		t.Errorf("only %d", done)
	}
}

// ofRoot is some fields of the root of a question, each as it may be chosen by itself.
func ofRoot(op impl.Op) []impl.Sel {
	if op.Change {
		return []impl.Sel{field("n"), field("q", field("n"), field("grid")), field("me", field("name"))}
	}
	return []impl.Sel{field("n"), field("me", field("name"), field("age")), field("all", field("__typename"))}
}

// alone is the question with just these Sels, and no others in its document.
func (q question) alone(sels ...impl.Sel) question {
	q.op = impl.Op{Change: q.op.Change, Sels: sels}
	q.doc = impl.Doc{Ops: []impl.Op{q.op}}
	return q
}

// under is the Sel under another name.
func under(alias string, s impl.Sel) impl.Sel {
	s.Alias = alias
	return s
}

// P37: the only field once more under another Alias has its value twice.
func TestRunUnderAnotherName(t *testing.T) {
	p, questions := someQuestions(t, 300)
	for _, q := range questions {
		for _, s := range ofRoot(q.op) {
			_, a := q.alone(s).run(t, p.list)
			_, b := q.alone(s, under("other", s)).run(t, p.list)
			if a.Data.Kind == impl.IsNull {
				if b.Data.Kind != impl.IsNull || len(b.Errs) != min(2*len(a.Errs), impl.ErrMax) {
					t.Errorf("%s: %s", s.Name, impl.AnswerPut(b))
				}
				continue
			}
			want := tree(s.Name+" other", a.Data.List[0], a.Data.List[0])
			if !alike(b.Data, want) || len(b.Errs) != min(2*len(a.Errs), impl.ErrMax) {
				t.Errorf("%s: %s", s.Name, impl.AnswerPut(b))
			}
			for i, e := range b.Errs[len(a.Errs):] {
				if e.Code != a.Errs[i].Code || e.Path != "other"+strings.TrimPrefix(a.Errs[i].Path, s.Name) {
					t.Errorf("%s: %s", s.Name, impl.AnswerPut(b))
				}
			}
		}
	}
}

// P38: two fields the other way round.
func TestRunTheOtherWayRound(t *testing.T) {
	p, questions := someQuestions(t, 300)
	for _, q := range questions {
		sels := ofRoot(q.op)
		for i, s := range sels {
			other := under("x", sels[(i+1)%len(sels)])
			_, a := q.alone(s, other).run(t, p.list)
			_, b := q.alone(other, s).run(t, p.list)
			if a.Data.Kind != b.Data.Kind {
				t.Fatalf("%s, %s", impl.AnswerPut(a), impl.AnswerPut(b))
			}
			if a.Data.Kind == impl.IsTree && !alike(b.Data, tree("x "+s.Name, a.Data.List[1], a.Data.List[0])) {
				t.Errorf("%s, %s", impl.AnswerPut(a), impl.AnswerPut(b))
			}
		}
	}
}

// P39: another Op in the document.
func TestRunWithAnotherOp(t *testing.T) {
	p, questions := someQuestions(t, 300)
	done := 0
	for _, q := range questions {
		if len(q.doc.Ops) == impl.OpMax {
			continue
		}
		done++
		for _, other := range []impl.Op{{Name: "z", Sels: []impl.Sel{field("n")}}, {Name: "z", Change: true, Sels: []impl.Sel{field("n")}}} {
			x := q
			x.doc.Ops = append([]impl.Op{other}, q.doc.Ops...)
			q.same(t, p.list, "another Op ahead", x)
			x.op = other
			_, a := x.run(t, p.list)
			_, b := x.alone(field("n")).run(t, p.list)
			if !equal(a, b) {
				t.Errorf("%s by z: %s", impl.DocPut(x.doc), impl.AnswerPut(a))
			}
			x.op, x.doc.Ops = q.op, append(slices.Clone(q.doc.Ops), other)
			q.same(t, p.list, "another Op behind", x)
		}
	}
	if done < 100 {
		t.Errorf("only %d", done)
	}
}

// P40, P41: a name given that is no variable; all that Given tells.
func TestRunOfWhatIsGiven(t *testing.T) {
	p, questions := someQuestions(t, 300)
	for _, q := range questions {
		for _, v := range []impl.Value{null(), num(1), tree("b", list())} {
			x := q
			x.given = tree(strings.Join(append([]string{"none"}, q.given.Names...), " "), append([]impl.Value{v}, q.given.List...)...)
			q.same(t, p.list, "a name that is no variable", x)
		}
		x := q
		var ok bool
		x.given, ok = impl.Given(p.list, q.op, q.given)
		if !ok {
			t.Fatal(impl.DocPut(q.doc))
		}
		q.same(t, p.list, "all that Given tells", x)
	}
	w := runWorld(t)
	for _, doc := range []string{"query($m:Int=2,$i:In={a:1,b:\"x\"},$y:Boolean!=true){n(m:$m,i:$i) @include(if:$y)}", "query($k:K=A,$f:Int){all(k:$k,first:$f){__typename}}"} {
		d := readDoc(t, doc)
		q := question{d, d.Ops[0], tree(""), w.nodes}
		x := q
		x.given, _ = impl.Given(w.list, q.op, q.given)
		q.same(t, w.list, "all that Given tells", x)
		x.given = tree("none z", num(1), word("x"))
		if _, _, code := impl.Run(w.list, w.nodes, d, "", x.given); code != impl.RunGiven {
			t.Errorf("a word is given: %d", code)
		}
	}
}
