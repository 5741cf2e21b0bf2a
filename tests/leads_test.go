package tests

import (
	"math/rand"
	"slices"
	"strings"
	"testing"

	"loop.example/pergola/impl"
)

// readDoc is the document of a text.
func readDoc(t *testing.T, s string) impl.Doc {
	t.Helper()
	d, ok := impl.DocGet(s)
	if !ok {
		t.Fatalf("no document: %q", s)
	}
	return d
}

// leads asks for the pieces, and the variables, that the first question of a text leads to, both as names with blanks between.
func leads(t *testing.T, s string, pieces string, vars string) {
	t.Helper()
	d := readDoc(t, s)
	if got := impl.PiecesOf(d, d.Ops[0].Sels); !slices.Equal(got, strings.Fields(pieces)) {
		t.Errorf("%s leads to pieces %q", s, got)
	}
	if got := impl.VarsOf(d, d.Ops[0].Sels); !slices.Equal(got, strings.Fields(vars)) {
		t.Errorf("%s leads to variables %q", s, got)
	}
}

// P15: names of pieces, ascending, each once, wherever they are.
func TestPiecesOf(t *testing.T) {
	leads(t, "{a}", "", "")
	leads(t, "{a} fragment F on P{a}", "", "")
	leads(t, "{...F} fragment F on P{a}", "F", "")
	leads(t, "{...F}", "F", "")
	leads(t, "{...b ...a ...B ..._ ...aa ...b}", "B _ a aa b", "")
	leads(t, "{a{b{...F}} ... on P{...E ... on Q{c:d{...D}}}}", "D E F", "")
	leads(t, "{...F @skip(if:true)}", "F", "")
	leads(t, "{a} query b{...F}", "", "")
}

// P15: pieces lead on to pieces, in whatever order they stand, and to themselves.
func TestPiecesOfPieces(t *testing.T) {
	leads(t, "{...F} fragment F on P{...G} fragment G on P{a{...H}} fragment H on P{a}", "F G H", "")
	leads(t, "{...H} fragment F on P{a} fragment G on P{...F} fragment H on P{...G}", "F G H", "")
	leads(t, "{...G} fragment F on P{...H} fragment G on P{a} fragment H on P{a}", "G", "")
	leads(t, "{...F} fragment F on P{...F}", "F", "")
	leads(t, "{...F} fragment F on P{a{...F ...X}}", "F X", "")
	leads(t, "{...F} fragment F on P{...G} fragment G on P{...F}", "F G", "")
	leads(t, "{...F} fragment F on P{...G} fragment G on P{...H} fragment H on P{...F ...Z}", "F G H Z", "")
	leads(t, "{...G} fragment F on P{...G} fragment G on P{...H} fragment H on P{...G}", "G H", "")
	leads(t, "{...F} fragment F on P{...X ...W}", "F W X", "")
}

// P15, P16: of two Pieces of one name the first counts.
func TestLeadsToTheFirstPiece(t *testing.T) {
	leads(t, "{...F} fragment F on P{...A a(x:$a)} fragment F on P{...B a(x:$b)}", "A F", "a")
	leads(t, "{...F} fragment F on P{a} fragment F on P{...B a(x:$b)}", "F", "")
	leads(t, "{...G} fragment F on P{...A} fragment G on Q{...F} fragment F on P{...B}", "A F G", "")
}

// P16: variables of Args and Whens, within lists and trees, of all kinds of what is chosen.
func TestVarsOf(t *testing.T) {
	leads(t, "{a(x:$v)}", "", "v")
	leads(t, "{a(x:$v,y:$u,x:$w) b(z:$v)}", "", "u v w")
	leads(t, "{a(x:[$b,[1,$a],{c:$c}],y:{a:$d,b:[$e]})}", "", "a b c d e")
	leads(t, "{a @skip(if:$s) @include(if:$i)}", "", "i s")
	leads(t, "{... on P @skip(if:$s){a}}", "", "s")
	leads(t, "{...F @include(if:$s)}", "F", "s")
	leads(t, "{a{b{c(x:$deep)}} ... on P{d(x:$inl)}}", "", "deep inl")
	leads(t, `{a(x:"$v",y:v,z:{v:1}) v:v}`, "", "")
	leads(t, "query($v:Int=$w){a}", "", "")
	leads(t, "{a(x:$v)} query b($z:Int){a(x:$z)}", "", "v")
	leads(t, "{a(x:$b,y:$B,z:$_) b(x:$a1,y:$a)}", "", "B _ a a1 b")
}

// P16: through pieces, but not of pieces that are not led to.
func TestVarsOfPieces(t *testing.T) {
	leads(t, "{...F a(x:$z)} fragment F on P{a(x:$v) ...G} fragment G on P{a{b @skip(if:$u)}} fragment H on P{a(x:$h)}", "F G", "u v z")
	leads(t, "{...F} fragment F on P{a(x:$v) ...F}", "F", "v")
	leads(t, "{...F} fragment F on P{...G @skip(if:$f)} fragment G on P{...F @skip(if:$g)}", "F G", "f g")
	leads(t, "{a} fragment F on P{a(x:$v)}", "", "")
}

// leadsNowhere asks that nothing is led to.
func leadsNowhere(t *testing.T, what string, d impl.Doc, sels []impl.Sel) {
	t.Helper()
	if p, v := impl.PiecesOf(d, sels), impl.VarsOf(d, sels); len(p)+len(v) > 0 {
		t.Errorf("%s: %q %q", what, p, v)
	}
}

// P15, P16: Sels need not be of the document; none lead nowhere.
func TestLeadsOfOtherSels(t *testing.T) {
	d := readDoc(t, "{a} fragment F on P{a(x:$v)}")
	sels := []impl.Sel{spread("F"), only(field("b"), named("w"))}
	if p, v := impl.PiecesOf(d, sels), impl.VarsOf(d, sels); !slices.Equal(p, []string{"F"}) || !slices.Equal(v, []string{"v", "w"}) {
		t.Errorf("%q %q", p, v)
	}
	leadsNowhere(t, "no Sels", d, nil)
	leadsNowhere(t, "empty Sels", d, []impl.Sel{})
	full := append(times(impl.SelMax-1, field("a")), spread("F"))
	deep := []impl.Sel{spread("F")}
	for range impl.DeepMax - 1 {
		deep = []impl.Sel{field("a", deep...)}
	}
	for what, sels := range map[string][]impl.Sel{"as many as may be": full, "as deep as may be": deep} {
		if p, v := impl.PiecesOf(d, sels), impl.VarsOf(d, sels); !slices.Equal(p, []string{"F"}) || !slices.Equal(v, []string{"v"}) {
			t.Errorf("%s: %q %q", what, p, v)
		}
	}
	leadsNowhere(t, "one more", d, append(full, field("a")))
	leadsNowhere(t, "one deeper", d, []impl.Sel{field("a", deep...)})
}

// P15, P16: nothing of a document that is not ok, nor of Sels that are not.
func TestLeadsOfWhatIsNotOk(t *testing.T) {
	sels := []impl.Sel{spread("F"), only(field("b"), named("w"))}
	piece := impl.Piece{Name: "F", On: "P", Sels: sels}
	for what, d := range map[string]impl.Doc{"nothing": {}, "no Ops": {Pieces: []impl.Piece{piece}}, "four Ops": {Ops: times(impl.OpMax+1, impl.Op{Name: "a", Sels: sels})},
		"no Sels": {Ops: []impl.Op{{}}}, "four Pieces": {Ops: asks(sels...).Ops, Pieces: times(impl.OpMax+1, piece)}, "a Piece without a name": {Ops: asks(sels...).Ops, Pieces: []impl.Piece{{On: "P", Sels: sels}}},
		"a Sel of no kind": asks(impl.Sel{Name: "a"})} {
		leadsNowhere(t, what, d, sels)
		leadsNowhere(t, what, d, nil)
	}
	ok := asks(sels...)
	ring := []impl.Sel{field("a"), spread("F")}
	ring[0].Sels = ring
	for what, s := range map[string]impl.Sel{"no kind": {Name: "F"}, "a kind more": {Kind: 4, Name: "F"}, "no name": spread(""), "on": spread("on"), "a wrong value": only(spread("F"), num(impl.NumMax+1)), "a word": only(spread("F"), word("true")),
		"three Whens": only(only(only(spread("F"), named("a")), named("b")), named("c")), "a spread with Sels": {Kind: impl.SelSpread, Name: "F", Sels: sels}, "an inline without": inline("P"), "a wrong value within": only(field("a", sels...), named("1")), "a ring": ring[0],
		"an Alias": {Kind: impl.SelSpread, Alias: "a", Name: "F"}} {
		leadsNowhere(t, what, ok, []impl.Sel{s})
		leadsNowhere(t, what+" behind", ok, append(slices.Clone(sels), s))
		leadsNowhere(t, what+" within", ok, append(slices.Clone(sels), field("a", s)))
		leadsNowhere(t, what+" in the document", asks(s), sels)
	}
}

// hasAll says whether a list, ascending, has all of another one.
func hasAll(list []string, all []string) bool {
	for i := 1; i < len(list); i++ {
		if list[i-1] >= list[i] {
			return false
		}
	}
	for _, name := range all {
		if !slices.Contains(list, name) {
			return false
		}
	}
	return true
}

// P15, P16: whatever is chosen leads to all that the first Piece leads to, if it leads to that.
func TestLeadsOn(t *testing.T) {
	r := rand.New(rand.NewSource(7))
	led := 0
	for range 3000 {
		d := anyDoc(r)
		sels := d.Ops[r.Intn(len(d.Ops))].Sels
		pieces, vars := impl.PiecesOf(d, sels), impl.VarsOf(d, sels)
		seen := map[string]bool{}
		for _, p := range d.Pieces {
			if seen[p.Name] || !slices.Contains(pieces, p.Name) {
				continue
			}
			seen[p.Name] = true
			led++
			if !hasAll(pieces, impl.PiecesOf(d, p.Sels)) || !hasAll(vars, impl.VarsOf(d, p.Sels)) {
				t.Fatalf("%s: %q %q", impl.DocPut(d), pieces, vars)
			}
		}
		if !hasAll(pieces, nil) || !hasAll(vars, nil) {
			t.Fatalf("%s: %q %q", impl.DocPut(d), pieces, vars)
		}
	}
	if led < 200 {
		t.Errorf("only %d were led to", led)
	}
}

// P15, P16: answers are new memory each time, and nothing is written to what is handed in.
func TestLeadsStay(t *testing.T) {
	d, stays := wideDoc(t)
	sels, selsStay := withRoom(d.Ops[0].Sels, field("mark"))
	p, v := impl.PiecesOf(d, sels), impl.VarsOf(d, sels)
	if !slices.Equal(p, []string{"F"}) || !slices.Equal(v, []string{"v"}) || !stays() || !selsStay() {
		t.Errorf("%q %q %v %v", p, v, stays(), selsStay())
	}
	clear(p[:cap(p)])
	clear(v[:cap(v)])
	if p, v := impl.PiecesOf(d, sels), impl.VarsOf(d, sels); !slices.Equal(p, []string{"F"}) || !slices.Equal(v, []string{"v"}) || !stays() {
		t.Errorf("an answer was shared: %q %q", p, v)
	}
}
