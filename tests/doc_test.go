package tests

import (
	"math/rand"
	"reflect"
	"slices"
	"strings"
	"testing"

	"loop.example/pergola/impl"
)

func field(name string, within ...impl.Sel) impl.Sel {
	return impl.Sel{Kind: impl.SelField, Name: name, Sels: within}
}

func spread(name string) impl.Sel {
	return impl.Sel{Kind: impl.SelSpread, Name: name}
}

func inline(name string, within ...impl.Sel) impl.Sel {
	return impl.Sel{Kind: impl.SelInline, Name: name, Sels: within}
}

// given is a field that is given a value under the name `x`.
func given(v impl.Value) impl.Sel {
	return impl.Sel{Kind: impl.SelField, Name: "n", Args: []impl.Give{{Name: "x", Value: v}}}
}

// unless is the Sel, left out if a value is yes; only is it, there only then.
func unless(s impl.Sel, v impl.Value) impl.Sel {
	s.Whens = append(slices.Clone(s.Whens), impl.When{Not: true, Value: v})
	return s
}

func only(s impl.Sel, v impl.Value) impl.Sel {
	s.Whens = append(slices.Clone(s.Whens), impl.When{Value: v})
	return s
}

// asks is a document of one question, without a name.
func asks(sels ...impl.Sel) impl.Doc {
	return impl.Doc{Ops: []impl.Op{{Sels: sels}}}
}

// asksWith is a document of one question with variables.
func asksWith(vars ...impl.Var) impl.Doc {
	return impl.Doc{Ops: []impl.Op{{Vars: vars, Sels: []impl.Sel{field("a")}}}}
}

// within is a field in so many others.
func within(times int) impl.Sel {
	s := field("a")
	for range times {
		s = field("a", s)
	}
	return s
}

// times is so many of one thing.
func times[T any](count int, x T) []T {
	return slices.Repeat([]T{x}, count)
}

// putAs asks for the text of a document, and for the document of the text.
func putAs(t *testing.T, d impl.Doc, want string) {
	t.Helper()
	if got := impl.DocPut(d); got != want || !impl.DocOk(d) {
		t.Errorf("written %q, not %q", got, want)
	}
	if got, ok := impl.DocGet(want); !ok || !equal(got, d) {
		t.Errorf("%q is read as %v, %v", want, got, ok)
	}
}

// notOk asks that a document is not ok, and not written.
func notOk(t *testing.T, what string, d impl.Doc) {
	t.Helper()
	if impl.DocOk(d) || impl.DocPut(d) != "" {
		t.Errorf("%s is ok: %q", what, impl.DocPut(d))
	}
}

func notADoc(t *testing.T, s string) {
	t.Helper()
	if d, ok := impl.DocGet(s); ok || !equal(d, impl.Doc{}) {
		t.Errorf("%q is read as %v, %v", s, d, ok)
	}
}

// readAs asks for how the document of a text is written.
func readAs(t *testing.T, s string, want string) {
	t.Helper()
	d, ok := impl.DocGet(s)
	if !ok {
		t.Errorf("%q is not read", s)
		return
	}
	putAs(t, d, want)
}

// P12: what is chosen.
func TestDocsOfWhatIsChosen(t *testing.T) {
	putAs(t, asks(field("a")), "query{a}")
	putAs(t, asks(field("a"), field("b"), field("a")), "query{a b a}")
	putAs(t, asks(field("me", field("name"), field("pet", field("x")), field("age"))), "query{me{name pet{x} age}}")
	putAs(t, asks(impl.Sel{Kind: impl.SelField, Alias: "x", Name: "n"}), "query{x:n}")
	putAs(t, asks(impl.Sel{Kind: impl.SelField, Alias: "on", Name: "on", Sels: []impl.Sel{field("on")}}), "query{on:on{on}}")
	putAs(t, asks(spread("F"), field("a")), "query{...F a}")
	putAs(t, asks(inline("P", field("a")), field("b")), "query{... on P{a} b}")
	putAs(t, asks(inline("on", field("a"))), "query{... on on{a}}")
	putAs(t, asks(inline("P", inline("Q", spread("F"), field("a", spread("G"))))), "query{... on P{... on Q{...F a{...G}}}}")
	putAs(t, asks(field("query"), field("mutation"), field("fragment"), field("true"), field("if"), spread("query")), "query{query mutation fragment true if ...query}")
}

// P12: what fields are given, and when they are there.
func TestDocsOfWhatIsGiven(t *testing.T) {
	full := impl.Sel{Kind: impl.SelField, Alias: "x", Name: "n", Args: []impl.Give{{Name: "a", Value: num(1)}, {Name: "b", Value: text("q")}}, Sels: []impl.Sel{field("c")}}
	putAs(t, asks(full), `query{x:n(a:1,b:"q"){c}}`)
	putAs(t, asks(unless(full, yes(true))), `query{x:n(a:1,b:"q") @skip(if:true){c}}`)
	putAs(t, asks(only(unless(full, named("v")), yes(false)), field("d")), `query{x:n(a:1,b:"q") @skip(if:$v) @include(if:false){c} d}`)
	putAs(t, asks(only(spread("F"), named("v")), unless(field("a"), num(3))), "query{...F @include(if:$v) a @skip(if:3)}")
	putAs(t, asks(unless(unless(inline("P", field("a")), null()), text(""))), `query{... on P @skip(if:null) @skip(if:""){a}}`)
	putAs(t, asks(only(field("a"), list()), unless(field("a"), tree("")), only(field("a"), word("w"))), "query{a @include(if:[]) a @skip(if:{}) a @include(if:w)}")
	putAs(t, asks(impl.Sel{Kind: impl.SelField, Name: "n", Args: []impl.Give{{Name: "a", Value: num(1)}, {Name: "a", Value: num(2)}}}), "query{n(a:1,a:2)}")
}

// P12: values, with variables and words.
func TestDocsOfValues(t *testing.T) {
	for want, v := range map[string]impl.Value{"null": null(), "true": yes(true), "false": yes(false), "0": num(0), "-2147483647": num(-impl.NumMax), `"a\"b"`: text(`a"b`),
		"$v": named("v"), "$true": named("true"), "w": word("w"), "True": word("True"), "nulls": word("nulls"), "on": word("on"), "[]": list(), "{}": tree(""),
		"[1,$v,w,[null]]": list(num(1), named("v"), word("w"), list(null())), "{a:1,b:$b,c:{d:c}}": tree("a b c", num(1), named("b"), tree("d", word("c"))),
		"{true:true,null:[false]}": tree("true null", yes(true), list(yes(false))), "[{a:$a},{},[]]": list(tree("a", named("a")), tree(""), list()),
		`{on:"\u0000\u00ff\n"}`: tree("on", text("\x00\xff\n"))} {
		putAs(t, asks(given(v)), "query{n(x:"+want+")}")
		if impl.ValueDeep(v) == 1 {
			putAs(t, asks(only(field("n"), v)), "query{n @include(if:"+want+")}")
		}
		x := impl.Var{Name: "v", Type: mustType(t, "Int"), Has: true, Else: v}
		putAs(t, asksWith(x), "query($v:Int="+want+"){a}")
	}
}

// P12: questions, changes, variables and pieces.
func TestDocsOfQuestions(t *testing.T) {
	one := []impl.Sel{field("a")}
	putAs(t, impl.Doc{Ops: []impl.Op{{Name: "q", Sels: one}}}, "query q{a}")
	putAs(t, impl.Doc{Ops: []impl.Op{{Change: true, Sels: one}}}, "mutation{a}")
	putAs(t, impl.Doc{Ops: []impl.Op{{Change: true, Name: "m", Sels: one}, {Sels: one}, {Name: "on", Sels: one}}}, "mutation m{a} query{a} query on{a}")
	putAs(t, impl.Doc{Ops: []impl.Op{{Name: "q", Sels: one}, {Name: "q", Sels: one}}}, "query q{a} query q{a}")
	putAs(t, impl.Doc{Ops: []impl.Op{{Name: "query", Sels: one}, {Name: "mutation", Change: true, Sels: one}, {Name: "fragment", Sels: one}}}, "query query{a} mutation mutation{a} query fragment{a}")
	a := impl.Var{Name: "a", Type: mustType(t, "Int")}
	b := impl.Var{Name: "b", Type: mustType(t, "[[K!]!]!"), Has: true, Else: list(word("A"), named("c"))}
	n := impl.Var{Name: "n", Type: mustType(t, "K"), Has: true}
	putAs(t, asksWith(a), "query($a:Int){a}")
	putAs(t, asksWith(a, b, n, a), "query($a:Int,$b:[[K!]!]!=[A,$c],$n:K=null,$a:Int){a}")
	putAs(t, impl.Doc{Ops: []impl.Op{{Change: true, Name: "m", Vars: []impl.Var{n}, Sels: one}}}, "mutation m($n:K=null){a}")
	f := impl.Piece{Name: "F", On: "P", Sels: one}
	g := impl.Piece{Name: "fragment", On: "on", Sels: []impl.Sel{spread("F"), inline("P", field("b"))}}
	putAs(t, impl.Doc{Ops: []impl.Op{{Sels: one}}, Pieces: []impl.Piece{f}}, "query{a} fragment F on P{a}")
	putAs(t, impl.Doc{Ops: []impl.Op{{Sels: one}, {Name: "q", Sels: one}}, Pieces: []impl.Piece{f, g, f}}, "query{a} query q{a} fragment F on P{a} fragment fragment on on{...F ... on P{b}} fragment F on P{a}")
}

// P12: Pieces ahead of, between and behind Ops; an Op that is just what it chooses.
func TestDocsInAnyOrder(t *testing.T) {
	readAs(t, "{a}", "query{a}")
	readAs(t, "{a}{b}{c}", "query{a} query{b} query{c}")
	readAs(t, "query{a}{b}mutation{c}", "query{a} query{b} mutation{c}")
	readAs(t, "fragment F on P{a} {b}", "query{b} fragment F on P{a}")
	readAs(t, "fragment F on P{a} {b} fragment G on Q{c} query q{d} fragment H on R{e}", "query{b} query q{d} fragment F on P{a} fragment G on Q{c} fragment H on R{e}")
	readAs(t, "query fragment{a} fragment F on P{a}", "query fragment{a} fragment F on P{a}")
	readAs(t, "{ me { name, age } }", "query{me{name age}}")
	readAs(t, "{...on P{a} ... F}", "query{... on P{a} ...F}")
	readAs(t, "query q ( $a : [ Int ! ] ! = [ 1 , 2 ] $b : Int ) { x : n ( i : { a : $a b : [ \"q\" ] } j : 1 ) @ skip ( if : true ) { c } }", `query q($a:[Int!]!=[1,2],$b:Int){x:n(i:{a:$a,b:["q"]},j:1) @skip(if:true){c}}`)
	readAs(t, `{n(x:"\u0041\/\t`+"\x7f\xff"+`")}`, `query{n(x:"A/\u0009\u007f\u00ff")}`)
}

// P12: each limit met exactly, and one more.
func TestDocLimits(t *testing.T) {
	op := impl.Op{Sels: []impl.Sel{field("a")}}
	piece := impl.Piece{Name: "F", On: "P", Sels: op.Sels}
	v := impl.Var{Name: "v", Type: mustType(t, "[[Int]]")}
	g := impl.Give{Name: "g", Value: num(1)}
	w := impl.When{Value: yes(true)}
	sel := func(s impl.Sel) impl.Doc { return asks(field("b"), s) }
	for what, make := range map[string]func(more int) impl.Doc{
		"Ops":    func(more int) impl.Doc { return impl.Doc{Ops: times(impl.OpMax+more, op)} },
		"Pieces": func(more int) impl.Doc { return impl.Doc{Ops: times(1, op), Pieces: times(impl.OpMax+more, piece)} },
		"Vars":   func(more int) impl.Doc { return asksWith(times(impl.ArgMax+more, v)...) },
		"Args": func(more int) impl.Doc {
			return sel(impl.Sel{Kind: impl.SelField, Name: "a", Args: times(impl.ArgMax+more, g)})
		},
		"Whens": func(more int) impl.Doc {
			return sel(impl.Sel{Kind: impl.SelField, Name: "a", Whens: times(2+more, w)})
		},
		"Whens of a spread": func(more int) impl.Doc {
			return sel(impl.Sel{Kind: impl.SelSpread, Name: "F", Whens: times(2+more, w)})
		},
		"Whens of an inline": func(more int) impl.Doc {
			return sel(impl.Sel{Kind: impl.SelInline, Name: "P", Whens: times(2+more, w), Sels: op.Sels})
		},
		"Sels":              func(more int) impl.Doc { return asks(times(impl.SelMax+more, field("a"))...) },
		"Sels within":       func(more int) impl.Doc { return sel(field("c", times(impl.SelMax+more, field("a"))...)) },
		"Sels of an inline": func(more int) impl.Doc { return sel(inline("P", times(impl.SelMax+more, spread("F"))...)) },
		"Sels of a piece": func(more int) impl.Doc {
			return impl.Doc{Ops: times(1, op), Pieces: []impl.Piece{piece, {Name: "G", On: "P", Sels: times(impl.SelMax+more, field("a"))}}}
		},
		"deep": func(more int) impl.Doc { return sel(within(impl.DeepMax - 1 + more)) },
		"deep in a piece": func(more int) impl.Doc {
			return impl.Doc{Ops: times(1, op), Pieces: []impl.Piece{{Name: "G", On: "P", Sels: []impl.Sel{within(impl.DeepMax - 1 + more)}}}}
		},
		"deep in inlines": func(more int) impl.Doc {
			return sel(inline("P", inline("P", within(impl.DeepMax-3+more))))
		},
		"a name": func(more int) impl.Doc { return sel(field(strings.Repeat("x", 12+more))) },
		"an Alias": func(more int) impl.Doc {
			return sel(impl.Sel{Kind: impl.SelField, Name: "a", Alias: strings.Repeat("x", 12+more)})
		},
		"an Arg's depth": func(more int) impl.Doc { return sel(given(nested(num(1), 2+more))) },
		"a tree's depth": func(more int) impl.Doc { return sel(given(tree("a", nested(word("w"), 1+more)))) },
		"a When's depth": func(more int) impl.Doc { return sel(only(field("a"), nested(list(), more))) },
		"an Else's depth": func(more int) impl.Doc {
			return asksWith(impl.Var{Name: "v", Type: v.Type, Has: true, Else: nested(named("v"), 2+more)})
		},
		"a type's depth": func(more int) impl.Doc {
			x := v.Type
			if more > 0 {
				x = impl.Type{Of: []impl.Type{x}}
			}
			return asksWith(impl.Var{Name: "v", Type: x})
		},
		"a list":   func(more int) impl.Doc { return sel(given(list(many(impl.ListMax + more)...))) },
		"a number": func(more int) impl.Doc { return sel(given(num(impl.NumMax + more))) },
		"a text":   func(more int) impl.Doc { return sel(given(text(strings.Repeat("x", impl.TextMax+more)))) },
		"a tree": func(more int) impl.Doc {
			return sel(given(impl.Value{Kind: impl.IsTree, Names: manyNames(impl.ListMax + more), List: many(impl.ListMax + more)}))
		},
	} {
		full := make(0)
		s := impl.DocPut(full)
		if got, ok := impl.DocGet(s); !ok || !equal(got, full) {
			t.Errorf("%s: %q is read as %v", what, s, got)
		}
		notOk(t, what+", one more", make(1))
	}
}

// P12: the same limits in texts.
func TestDocTextLimits(t *testing.T) {
	in := func(times int) string { return strings.Repeat("{a", times) + strings.Repeat("}", times) }
	for what, c := range map[string][2]string{
		"Ops":            {"{a}{a}{a}", "{a}{a}{a}{a}"},
		"Pieces":         {"{a}" + strings.Repeat("fragment F on P{a}", 3), "{a}" + strings.Repeat("fragment F on P{a}", 4)},
		"Vars":           {"query($a:A $b:A $c:A $d:A){a}", "query($a:A $b:A $c:A $d:A $e:A){a}"},
		"Args":           {"{a(a:1 b:2 c:3 d:4)}", "{a(a:1 b:2 c:3 d:4 e:5)}"},
		"Whens":          {"{a@skip(if:1)@skip(if:1)}", "{a@skip(if:1)@skip(if:1)@skip(if:1)}"},
		"Sels":           {"{a b c d e f}", "{a b c d e f g}"},
		"deep":           {in(impl.DeepMax), in(impl.DeepMax + 1)},
		"an Arg's depth": {"{a(a:[[1]])}", "{a(a:[[[1]]])}"},
		"a When's depth": {"{a@skip(if:{})}", "{a@skip(if:{a:1})}"},
		"a type's depth": {"query($a:[[A]]){a}", "query($a:[[[A]]]){a}"},
		"a number":       {"{a(a:2147483647)}", "{a(a:2147483648)}"},
		"a text":         {`{a(a:"` + strings.Repeat("x", 40) + `")}`, `{a(a:"` + strings.Repeat("x", 41) + `")}`},
		"a name":         {"{abcdefghijkl}", "{abcdefghijklm}"},
		"a word":         {"{a(a:abcdefghijkl)}", "{a(a:abcdefghijklm)}"},
		"true and more":  {"{a(a:truetruetrue)}", "{a(a:truetruetruet)}"},
		"a tree's names": {"{a(a:{a:1 b:1})}", "{a(a:{a:1 a:1})}"},
		"bytes":          {"{a}" + strings.Repeat(" ", impl.DocMax-3), "{a}" + strings.Repeat(" ", impl.DocMax-2)},
		"bytes of notes": {"{a}#" + strings.Repeat("x", impl.DocMax-4), "{a}#" + strings.Repeat("x", impl.DocMax-3)},
	} {
		if _, ok := impl.DocGet(c[0]); !ok {
			t.Errorf("%s: %q is not read", what, c[0])
		}
		notADoc(t, c[1])
	}
	notADoc(t, strings.Repeat("{a", impl.DocMax/2))
	notADoc(t, "{a(a:"+strings.Repeat("[", impl.DocMax-5))
	notADoc(t, "query($a:"+strings.Repeat("[", impl.DocMax-9))
}

// P12: parts that are not as they must be, or that a kind does not have.
func TestDocsNotOk(t *testing.T) {
	notOk(t, "nothing", impl.Doc{})
	one := []impl.Sel{field("a")}
	piece := impl.Piece{Name: "F", On: "P", Sels: one}
	notOk(t, "just a piece", impl.Doc{Pieces: []impl.Piece{piece}})
	notOk(t, "an Op that chooses nothing", impl.Doc{Ops: []impl.Op{{Sels: one}, {}}})
	for _, name := range []string{"1", "a b", "abcdefghijklm", "a-", "ä", "$a"} {
		notOk(t, "Op "+name, impl.Doc{Ops: []impl.Op{{Name: name, Sels: one}}})
		notOk(t, "Alias "+name, asks(field("b"), impl.Sel{Kind: impl.SelField, Name: "a", Alias: name}))
	}
	for _, name := range []string{"", "1", "a b", "abcdefghijklm", "a-", "ä", "$a"} {
		notOk(t, "Var "+name, asksWith(impl.Var{Name: name, Type: mustType(t, "Int")}))
		notOk(t, "type "+name, asksWith(impl.Var{Name: "a", Type: impl.Type{Name: name}}))
		notOk(t, "Piece "+name, impl.Doc{Ops: []impl.Op{{Sels: one}}, Pieces: []impl.Piece{{Name: name, On: "P", Sels: one}}})
		notOk(t, "On "+name, impl.Doc{Ops: []impl.Op{{Sels: one}}, Pieces: []impl.Piece{piece, {Name: "G", On: name, Sels: one}}})
		notOk(t, "field "+name, asks(field(name)))
		notOk(t, "field within "+name, asks(field("a", field(name))))
		notOk(t, "spread "+name, asks(spread(name)))
		notOk(t, "inline "+name, asks(inline(name, field("a"))))
		notOk(t, "Arg "+name, asks(impl.Sel{Kind: impl.SelField, Name: "a", Args: []impl.Give{{Name: name}}}))
		notOk(t, "variable "+name, asks(given(named(name))))
		notOk(t, "word "+name, asks(given(word(name))))
	}
	notOk(t, "Piece on", impl.Doc{Ops: []impl.Op{{Sels: one}}, Pieces: []impl.Piece{{Name: "on", On: "P", Sels: one}}})
	notOk(t, "Piece that chooses nothing", impl.Doc{Ops: []impl.Op{{Sels: one}}, Pieces: []impl.Piece{{Name: "F", On: "P"}}})
	notOk(t, "Piece that chooses what is none", impl.Doc{Ops: []impl.Op{{Sels: one}}, Pieces: []impl.Piece{{Name: "F", On: "P", Sels: []impl.Sel{{}}}}})
	notOk(t, "spread on", asks(spread("on")))
	for _, kind := range []int{-1, 0, 4, 5} {
		notOk(t, "a kind that is none", asks(impl.Sel{Kind: kind, Name: "a", Sels: one}))
		notOk(t, "a kind that is none", asks(impl.Sel{Kind: kind, Name: "a"}))
	}
	gives := []impl.Give{{Name: "a", Value: num(1)}}
	notOk(t, "spread with Alias", asks(impl.Sel{Kind: impl.SelSpread, Name: "F", Alias: "a"}))
	notOk(t, "spread with Args", asks(impl.Sel{Kind: impl.SelSpread, Name: "F", Args: gives}))
	notOk(t, "spread with Sels", asks(impl.Sel{Kind: impl.SelSpread, Name: "F", Sels: one}))
	notOk(t, "inline with Alias", asks(impl.Sel{Kind: impl.SelInline, Name: "P", Alias: "a", Sels: one}))
	notOk(t, "inline with Args", asks(impl.Sel{Kind: impl.SelInline, Name: "P", Args: gives, Sels: one}))
	notOk(t, "inline without Sels", asks(inline("P")))
	notOk(t, "wrong behind right", asks(field("a"), inline("P", field("a"), field("b", field("1")))))
}

// P12: values that may not stand in a document.
func TestDocValuesNotOk(t *testing.T) {
	typ := mustType(t, "Int")
	for _, v := range []impl.Value{{Kind: 9}, {Kind: -1}, {Num: 1}, {Kind: impl.IsBool, Num: 2}, num(impl.NumMax + 1), text(strings.Repeat("x", impl.TextMax+1)),
		{Kind: impl.IsVar, Text: "a", Num: 1}, word(""), named(""), word("true"), word("false"), word("null")} {
		for _, x := range []impl.Value{v, list(num(1), v), tree("a b", num(1), v), list(list(v)), tree("a", tree("a", v)), list(tree("a", v))} {
			notOk(t, "an Arg", asks(given(x)))
			notOk(t, "a When", asks(only(field("a"), x)))
			notOk(t, "a When of a spread", asks(unless(spread("a"), x)))
			notOk(t, "a When of an inline", asks(unless(inline("a", field("a")), x)))
			notOk(t, "a second When", asks(unless(only(field("a"), yes(true)), x)))
			notOk(t, "an Else", asksWith(impl.Var{Name: "a", Type: typ, Has: true, Else: x}))
			notOk(t, "an Else without Has", asksWith(impl.Var{Name: "a", Type: typ, Else: x}))
		}
	}
	for _, v := range []impl.Value{yes(false), num(0), num(1), text(""), list(), tree(""), word("a"), named("a")} {
		notOk(t, "an Else without Has", asksWith(impl.Var{Name: "a", Type: typ, Else: v}))
	}
	for _, v := range []impl.Value{tree("a a", num(1), num(2)), tree("a", num(1), num(2)), tree("1", num(1)), endless(1), endless(3)} {
		notOk(t, "an Arg", asks(given(v)))
	}
}

// P12: texts that are no documents.
func TestDocsNotRead(t *testing.T) {
	for _, s := range []string{"", " ", "#", "a", "query", "mutation", "fragment", "{", "}", "{}", "{a", "a}", "{a}}", "{{a}}", "{a{}}", "{a}b", "query{a} x", "x{a}", "subscription{a}", "Query{a}",
		"query q", "query q q{a}", "query{}", "query(){a}", "query q(){a}", "query($a){a}", "query($a:){a}", "query(a:Int){a}", "query($:Int){a}", "query($a:Int=){a}", "query($a:Int{a}", "query($a:Int)",
		"query($a:Int!!){a}", "query($a:[Int){a}", "query($a:Int]){a}", "query($a:[]){a}", "query($a:!){a}", "query($a:1){a}", "query($a=1){a}", "query($a:Int=1=2){a}", "query($$a:Int){a}", "query:q{a}", "query \"q\"{a}", "query 1{a}",
		"query q($a:Int)($b:Int){a}", "($a:Int){a}", "q{a}", "mutation query{a} b",
		"fragment F on P{a}", "{a} fragment", "{a} fragment F", "{a} fragment F on", "{a} fragment F on P", "{a} fragment F P{a}", "{a} fragment F on P{}", "{a} fragment on P{a}", "{a} fragment on on P{a}", "{a} fragment F on P", "{a} fragment F($a:Int) on P{a}", "{a} Fragment F on P{a}",
		"{...}", "{... a{b}}", "{...on}", "{...on P}", "{...on P{}}", "{...on{a}}", "{...{a}}", "{...F{a}}", "{...F(a:1)}", "{...F:a}", "{a:...F}", "{...on P(a:1){a}}", "{...on:P{a}}", "{....F}", "{... on P Q{a}}",
		"{a:}", "{:a}", "{a:b:c}", "{a::b}", "{a:1}", "{1}", "{\"a\"}", "{$a}", "{n(}", "{n)}", "{n()}", "{n(a)}", "{n(a:)}", "{n(:1)}", "{n(a:1}", "{n(a:1)(b:2)}", "{n(a=1)}", "{n($a:1)}", "{n(\"a\":1)}", "{n(a:1a)}", "{n(a:b c)}",
		"{n(a:$)}", "{n(a:$1)}", "{n(a:$$a)}", "{n(a:[)}", "{n(a:[1)}", "{n(a:])}", "{n(a:{)}", "{n(a:{a})}", "{n(a:{a:})}", "{n(a:{\"a\":1})}", "{n(a:{a=1})}", "{n(a:{1:1})}", "{n(a:{$a:1})}", "{n(a:[a:1])}", "{n(a:})}", "{n(a:...)}", "{n(a:@)}", "{n(a:!)}", "{n(a:(1))}", "{n(a:1|2)}",
		"{a @}", "{a @skip}", "{a @skip()}", "{a @skip(if)}", "{a @skip(if:)}", "{a @skip(if:true}", "{a @skip(true)}", "{a @skip(If:true)}", "{a @skip(if=true)}", "{a @skip(if:true if:true)}", "{a @skip(if:true,)(if:true)}", "{a @Skip(if:true)}", "{a @if(if:true)}", "{a @include(iff:true)}",
		"{@skip(if:true)}", "{@skip(if:true) a}", "{a @skip(if:true)(b:1)}", "{a{b} @skip(if:true)}", "{a{b}{c}}", "{a{b}(c:1)}", "{a skip(if:true) @}", "{a @@skip(if:true)}", "{a @skip(if:[1])}", "{a @skip(if:{a:1})}", "query @skip(if:true){a}", "{a} @skip(if:true)",
		"{a|b}", "{a!}", "{a=b}", "{a[b]}", "[a]", "(a)", "{a(b:{c:1)}}", "{a.b}", "{a&b}", "{a;b}", "{a(b:01)}", "{a(b:-0)}", "{a(b:1.0)}", "{a(b:'c')}", "{a(b:\"c)}"} {
		notADoc(t, s)
	}
}

// anyAsked is a value of a question, at most so deep.
func anyAsked(r *rand.Rand, deep int) impl.Value {
	switch r.Intn(4) {
	case 0:
		return named([]string{"a", "v", "true", "_1"}[r.Intn(4)])
	case 1:
		return word([]string{"A", "on", "nul", "True"}[r.Intn(4)])
	}
	v := anyValue(r, deep)
	for i := range v.List {
		v.List[i] = anyAsked(r, deep-1)
	}
	return v
}

func anyName(r *rand.Rand) string {
	names := []string{"a", "b", "me", "on", "query", "mutation", "fragment", "true", "null", "if", "skip", "__typename", "A_9", "abcdefghijkl"}
	return names[r.Intn(len(names))]
}

// notOn is a name for what may not be called `on`.
func notOn(name string) string {
	return strings.Replace(name, "on", "F", 1)
}

// some is a few of what is made, at least and at most so many.
func some[T any](r *rand.Rand, least int, most int, make func() T) []T {
	var out []T
	for range least + r.Intn(most-least+1) {
		out = append(out, make())
	}
	return out
}

func anySels(r *rand.Rand, deep int) []impl.Sel {
	return some(r, 1, 2, func() impl.Sel { return anySel(r, deep) })
}

func anySel(r *rand.Rand, deep int) impl.Sel {
	s := impl.Sel{Kind: 1 + r.Intn(3), Name: anyName(r)}
	if deep == 1 && s.Kind == impl.SelInline {
		s.Kind = impl.SelField
	}
	s.Whens = some(r, 0, 2, func() impl.When { return impl.When{Not: r.Intn(2) == 0, Value: anyAsked(r, 1)} })
	switch s.Kind {
	case impl.SelSpread:
		s.Name = notOn(s.Name)
	case impl.SelInline:
		s.Sels = anySels(r, deep-1)
	case impl.SelField:
		s.Args = some(r, 0, 2, func() impl.Give { return impl.Give{Name: anyName(r), Value: anyAsked(r, 3)} })
		if r.Intn(2) == 0 {
			s.Alias = anyName(r)
		}
		if deep > 1 && r.Intn(2) == 0 {
			s.Sels = anySels(r, deep-1)
		}
	}
	return s
}

func anyVar(r *rand.Rand) impl.Var {
	types := someTypes(anyName(r))
	v := impl.Var{Name: anyName(r), Type: types[r.Intn(len(types))], Has: r.Intn(2) == 0}
	if v.Has {
		v.Else = anyAsked(r, 3)
	}
	return v
}

func anyDoc(r *rand.Rand) impl.Doc {
	return impl.Doc{
		Ops: some(r, 1, impl.OpMax, func() impl.Op {
			op := impl.Op{Change: r.Intn(2) == 0, Sels: anySels(r, 1+r.Intn(3))}
			op.Vars = some(r, 0, 2, func() impl.Var { return anyVar(r) })
			if r.Intn(2) == 0 {
				op.Name = anyName(r)
			}
			return op
		}),
		Pieces: some(r, 0, impl.OpMax, func() impl.Piece {
			return impl.Piece{Name: notOn(anyName(r)), On: anyName(r), Sels: anySels(r, 1+r.Intn(3))}
		}),
	}
}

// P12, P13: any document is read back from its text, also from its words with whatever may be between.
func TestDocsReadBack(t *testing.T) {
	r := rand.New(rand.NewSource(3))
	read := 0
	for range 3000 {
		d := anyDoc(r)
		s := impl.DocPut(d)
		if s == "" || !impl.DocOk(d) {
			t.Fatalf("not ok: %v", d)
		}
		if len(s) > impl.DocMax {
			notADoc(t, s)
			continue
		}
		read++
		putAs(t, d, s)
		words, ok := impl.Words(s)
		if !ok {
			t.Fatalf("%q has no words", s)
		}
		loose := anyBetween(r)
		for _, word := range words {
			loose += word + anyBetween(r)
		}
		if len(loose) <= impl.DocMax {
			readAs(t, loose, s)
		}
	}
	if read < 500 {
		t.Errorf("only %d were read", read)
	}
}

// P12: whatever is read is written, and read as the same; what is cut off is not read.
func TestDocsOfBrokenTexts(t *testing.T) {
	r := rand.New(rand.NewSource(4))
	read := 0
	for range 3000 {
		words, _ := impl.Words(impl.DocPut(anyDoc(r)))
		if len(words) == 0 {
			continue
		}
		switch at := r.Intn(len(words)); r.Intn(4) {
		case 0:
			words = slices.Delete(words, at, at+1)
		case 1:
			words = slices.Insert(words, at, words[r.Intn(len(words))])
		case 2:
			words[at] = words[r.Intn(len(words))]
		case 3:
			other := r.Intn(len(words))
			words[at], words[other] = words[other], words[at]
		}
		d, ok := impl.DocGet(strings.Join(words, " "))
		if s := impl.DocPut(d); ok && len(s) <= impl.DocMax {
			read++
			putAs(t, d, s)
		}
		if !ok && !equal(d, impl.Doc{}) {
			t.Fatal("something beside a false")
		}
	}
	if read < 50 {
		t.Errorf("only %d were read", read)
	}
	const whole = `query q($a:[Int!]=[1]){x:n(i:{a:$k,b:["q"]}) @skip(if:true){...F ... on P{a}}} fragment F on P{a}`
	for i := range len(whole) {
		if _, ok := impl.DocGet(whole[:i]); ok != (i >= strings.LastIndex(whole, " fragment") && i <= strings.LastIndex(whole, "fragment")) {
			t.Errorf("%q: %v", whole[:i], ok)
		}
	}
}

// P13: blanks, commas and notes around do not matter; a note at the end has no newline.
func TestDocsWithBlanksAround(t *testing.T) {
	for _, s := range []string{"query{a}", `query q($a:Int=1){x:n(a:[1,2]){...F}} fragment F on P{a}`, `mutation{a(b:"# , \n")}`} {
		for _, around := range []string{" ", "\t", "\n", "\r\n", ",", ",,,", "# note\n", "#\n#\n", " , # {} \" \n,"} {
			readAs(t, around+s, s)
			readAs(t, s+around, s)
			readAs(t, around+s+around, s)
		}
		for _, end := range []string{"#", "# note", "#}", " #{a}", "\n# a # b", ",#\r", "#\xff\x00"} {
			readAs(t, s+end, s)
		}
		notADoc(t, "# "+s)
		notADoc(t, s+"\n.")
		notADoc(t, s+"\x00")
	}
	readAs(t, "query#a\n{#b\na#c\n:#d\nb#e\n}#f", "query{a:b}")
	readAs(t, ",,query,q,(,$,a,:,[,Int,!,],=,[,1,2,,3,],),{,a,b,},,", "query q($a:[Int!]=[1,2,3]){a b}")
	readAs(t, "{a(a:\"x\"b:[1-2]c:$d)}", `query{a(a:"x",b:[1,-2],c:$d)}`)
}

// P12: what holds itself is too deep, and nothing hangs on it.
func TestDocsThatHoldThemselves(t *testing.T) {
	for _, kind := range []int{impl.SelField, impl.SelInline} {
		for _, wide := range []int{1, 2, impl.SelMax, impl.SelMax + 1} {
			sels := times(wide, impl.Sel{Kind: kind, Name: "a"})
			for i := range sels {
				sels[i].Sels = sels
			}
			notOk(t, "a ring", asks(sels...))
			notOk(t, "a ring in a piece", impl.Doc{Ops: asks(field("a")).Ops, Pieces: []impl.Piece{{Name: "F", On: "P", Sels: sels}}})
		}
	}
	round := impl.Type{Of: make([]impl.Type, 1)}
	round.Of[0] = round
	notOk(t, "a type that holds itself", asksWith(impl.Var{Name: "a", Type: round}))
}

// wideDoc has a list in each place, each with room and a mark behind its end, and says whether all marks are there.
func wideDoc(t *testing.T) (impl.Doc, func() bool) {
	values, valuesStay := withRoom([]impl.Value{num(1), named("v")}, text("mark"))
	names, namesStay := withRoom([]string{"a", "b"}, "mark")
	gives, givesStay := withRoom([]impl.Give{{Name: "x", Value: impl.Value{Kind: impl.IsTree, List: values, Names: names}}}, impl.Give{Name: "mark"})
	whens, whensStay := withRoom([]impl.When{{Value: named("v")}}, impl.When{Not: true})
	inner, innerStay := withRoom([]impl.Sel{field("a"), spread("F")}, field("mark"))
	sels, selsStay := withRoom([]impl.Sel{{Kind: impl.SelField, Name: "n", Args: gives, Whens: whens, Sels: inner}}, field("mark"))
	of, ofStay := withRoom([]impl.Type{mustType(t, "Int!")}, impl.Type{Name: "mark"})
	vars, varsStay := withRoom([]impl.Var{{Name: "v", Type: impl.Type{Of: of}, Has: true, Else: impl.Value{Kind: impl.IsList, List: values}}}, impl.Var{Name: "mark"})
	ops, opsStay := withRoom([]impl.Op{{Name: "q", Vars: vars, Sels: sels}}, impl.Op{Name: "mark"})
	pieces, piecesStay := withRoom([]impl.Piece{{Name: "F", On: "P", Sels: sels}}, impl.Piece{Name: "mark"})
	return impl.Doc{Ops: ops, Pieces: pieces}, func() bool {
		return valuesStay() && namesStay() && givesStay() && whensStay() && innerStay() && selsStay() && ofStay() && varsStay() && opsStay() && piecesStay()
	}
}

// What is handed in stays as it was, also behind its end.
func TestDocsStay(t *testing.T) {
	d, stays := wideDoc(t)
	const want = "query q($v:[Int!]=[1,$v]){n(x:{a:1,b:$v}) @include(if:$v){a ...F}} fragment F on P{n(x:{a:1,b:$v}) @include(if:$v){a ...F}}"
	if !impl.DocOk(d) || impl.DocPut(d) != want || !stays() {
		t.Errorf("%q; an argument was written to: %v", impl.DocPut(d), !stays())
	}
}

// What is read is new memory: no list of it is another one, nor another answer's.
func TestDocGetIsNewMemory(t *testing.T) {
	const s = "query q($v:[Int!]=[1,[2]],$w:[Int!]=[1,[2]]){n(x:{a:1,b:[2]},y:{a:1,b:[2]}) @include(if:[]){a b} m{a b}} query r{n{a}} fragment F on P{n} fragment G on P{n}"
	a, _ := impl.DocGet(s)
	b, _ := impl.DocGet(s)
	if impl.DocPut(a) != s {
		t.Fatalf("%q", impl.DocPut(a))
	}
	scribble(reflect.ValueOf(&a).Elem().FieldByName("Ops"))
	if impl.DocPut(b) != s {
		t.Errorf("two answers share a list: %q", impl.DocPut(b))
	}
	scribble(reflect.ValueOf(b.Ops[0].Vars[0].Else.List))
	scribble(reflect.ValueOf(b.Ops[0].Vars[0].Type.Of))
	scribble(reflect.ValueOf(b.Ops[0].Sels[0].Args[0].Value.List))
	scribble(reflect.ValueOf(b.Ops[0].Sels[0].Args[0].Value.Names))
	scribble(reflect.ValueOf(b.Ops[0].Sels[0].Sels))
	scribble(reflect.ValueOf(b.Pieces[0].Sels))
	c, _ := impl.DocGet(s)
	if !equal(b.Ops[0].Vars[1], c.Ops[0].Vars[1]) || !equal(b.Ops[0].Sels[0].Args[1], c.Ops[0].Sels[0].Args[1]) || !equal(b.Ops[0].Sels[1], c.Ops[0].Sels[1]) || !equal(b.Ops[1], c.Ops[1]) || !equal(b.Pieces[1], c.Pieces[1]) {
		t.Error("two lists of an answer share memory")
	}
}
