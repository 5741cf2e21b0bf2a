package tests

import (
	"fmt"
	"math/rand"
	"slices"
	"strings"
	"testing"

	"loop.example/pergola/impl"
)

// deepArgs is a schema whose inputs hold themselves, alone and in lists.
const deepArgs = `type Query{n(i:In,l:[[In]],k:[K!],s:In={a:1,b:"x"}):Int} input In{a:Int! b:[String] c:In l:[[In]] k:K} enum K{A B}`

// giver tells what fields are given, one thing after the other, of what is ok.
type giver struct {
	list []impl.Def
	vars impl.Value
}

func (g giver) def(name string) impl.Def {
	i := slices.IndexFunc(g.list, func(d impl.Def) bool { return d.Name == name })
	if i < 0 {
		return impl.Def{}
	}
	return g.list[i]
}

// filled is a value with variables in their places, and whether it is given.
func (g giver) filled(v impl.Value) (impl.Value, bool) {
	if v.Kind == impl.IsVar {
		return member(g.vars, v.Text)
	}
	out := impl.Value{Kind: v.Kind, Num: v.Num, Text: v.Text}
	for i, x := range v.List {
		x, ok := g.filled(x)
		if v.Kind == impl.IsList {
			out.List = append(out.List, x)
		} else if ok {
			out.Names, out.List = append(out.Names, v.Names[i]), append(out.List, x)
		}
	}
	return out, true
}

// fits says whether a value fits a type, however deep it is.
func (g giver) fits(t impl.Type, v impl.Value) bool {
	if v.Kind == impl.IsNull {
		return !t.Must
	}
	if len(t.Of) > 0 {
		if v.Kind != impl.IsList {
			return g.fits(t.Of[0], v)
		}
		return !slices.ContainsFunc(v.List, func(x impl.Value) bool { return !g.fits(t.Of[0], x) })
	}
	d := g.def(t.Name)
	switch {
	case d.Kind == impl.DefEnum:
		return (v.Kind == impl.IsWord || v.Kind == impl.IsText) && slices.Contains(d.Words, v.Text)
	case d.Kind != impl.DefInput:
		return t.Name == "Int" && v.Kind == impl.IsNum || t.Name == "String" && v.Kind == impl.IsText || t.Name == "Boolean" && v.Kind == impl.IsBool || t.Name == "ID" && (v.Kind == impl.IsText || v.Kind == impl.IsNum)
	}
	known := 0
	for _, f := range d.Fields {
		x, ok := member(v, f.Name)
		if !ok && f.Type.Must || ok && !g.fits(f.Type, x) {
			return false
		}
		if ok {
			known++
		}
	}
	return v.Kind == impl.IsTree && known == len(v.List)
}

// turned is a value that fits a type, as one of that type.
func (g giver) turned(t impl.Type, v impl.Value) impl.Value {
	switch {
	case v.Kind == impl.IsNull:
		return v
	case len(t.Of) > 0 && v.Kind != impl.IsList:
		return list(g.turned(t.Of[0], v))
	case v.Kind == impl.IsWord:
		return text(v.Text)
	}
	out := impl.Value{Kind: v.Kind, Num: v.Num, Text: v.Text, Names: slices.Clone(v.Names)}
	for i, x := range v.List {
		var within impl.Type
		if len(t.Of) > 0 {
			within = t.Of[0]
		} else {
			fields := g.def(t.Name).Fields
			within = fields[slices.IndexFunc(fields, func(f impl.Field) bool { return f.Name == v.Names[i] })].Type
		}
		out.List = append(out.List, g.turned(within, x))
	}
	return out
}

// args is what a field is given.
func (g giver) args(f impl.Field, gives []impl.Give) (impl.Value, bool) {
	out := tree("")
	for _, a := range f.Args {
		v, ok := impl.Value{}, false
		if i := slices.IndexFunc(gives, func(x impl.Give) bool { return x.Name == a.Name }); i >= 0 {
			v, ok = g.filled(gives[i].Value)
		}
		if !ok && a.Has {
			v, ok = a.Else, true
		}
		if !ok && !a.Type.Must {
			continue
		}
		if !ok || !g.fits(a.Type, v) {
			return impl.Value{}, false
		}
		out.Names, out.List = append(out.Names, a.Name), append(out.List, g.turned(a.Type, v))
	}
	return out, true
}

// anyOf is a value for a type, so deep at most, mostly a right one; asked with variables and words.
func (g giver) anyOf(r *rand.Rand, t impl.Type, deep int, asked bool) impl.Value {
	if asked && (deep == 1 || r.Intn(4) == 0) {
		return named([]string{"i", "l", "k", "s", "z"}[r.Intn(5)])
	}
	if deep == 1 || r.Intn(12) == 0 {
		return []impl.Value{null(), num(1), text("A")}[r.Intn(3)]
	}
	if len(t.Of) > 0 {
		if r.Intn(2) == 0 {
			return g.anyOf(r, t.Of[0], deep, asked)
		}
		out := impl.Value{Kind: impl.IsList}
		for range r.Intn(3) {
			out.List = append(out.List, g.anyOf(r, t.Of[0], deep-1, asked))
		}
		return out
	}
	switch d := g.def(t.Name); {
	case d.Kind == impl.DefInput:
		out := tree("a", num(1))
		for _, f := range d.Fields[1:] {
			if r.Intn(3) == 0 || f.Name == "c" && r.Intn(2) == 0 {
				out.Names, out.List = append(out.Names, f.Name), append(out.List, g.anyOf(r, f.Type, deep-1, asked))
			}
		}
		return out
	case t.Name == "K" && asked:
		return word("A")
	}
	return text("B")
}

// P23: fields are given what they are given by hand, of values of all depths, also more than DeepMax.
func TestArgsOfByHand(t *testing.T) {
	fine := readSchema(t, deepArgs)
	f := fine[0].Fields[0]
	r := rand.New(rand.NewSource(7))
	found := map[string]int{}
	for range 20000 {
		g := giver{list: fine, vars: tree("")}
		var gives []impl.Give
		for _, a := range f.Args {
			if r.Intn(5) > 0 {
				g.vars.Names, g.vars.List = append(g.vars.Names, a.Name), append(g.vars.List, g.anyOf(r, a.Type, impl.DeepMax-1, false))
			}
			if r.Intn(3) > 0 {
				gives = append(gives, impl.Give{Name: a.Name, Value: g.anyOf(r, a.Type, 3, true)})
			}
		}
		want, wantOk := g.args(f, gives)
		got, ok := impl.ArgsOf(fine, f, gives, g.vars)
		if ok != wantOk || !alike(got, want) {
			t.Fatalf("%v by %s: %s, %v, not %s, %v", gives, impl.JsonPut(g.vars), written(got), ok, written(want), wantOk)
		}
		if !impl.ValueOk(g.vars) {
			t.Fatalf("variables are not ok: %s", written(g.vars))
		}
		found[fmt.Sprint(ok)]++
		if ok {
			isNew(t, "ArgsOf", got, gives, g.vars, fine)
			found[fmt.Sprint(impl.ValueDeep(got))]++
		}
	}
	if found["true"] < 1000 || found["false"] < 1000 || found["5"] < 100 || found["6"] < 100 || found["7"] < 100 || found["8"] < 100 || found["9"] < 20 {
		t.Errorf("too few: %v", found)
	}
}

// P23: one deeper than DeepMax, and more: variables in their places, in trees and in lists, and values that are turned.
func TestArgsOfDeeperThanDeepMax(t *testing.T) {
	takes(t, "i:In", "i:{a:1,c:{a:1,c:$v}}", `{"v":{"a":1,"c":{"a":1}}}`, `{"i":{"a":1,"c":{"a":1,"c":{"a":1,"c":{"a":1}}}}}`)
	takes(t, "i:In", "i:{a:1,c:{a:1,c:$v}}", `{"v":{"a":1,"c":{"a":1,"c":{"a":1}}}}`, `{"i":{"a":1,"c":{"a":1,"c":{"a":1,"c":{"a":1,"c":{"a":1}}}}}}`)
	takes(t, "i:In", "i:{a:1,c:{a:1,c:$v}}", `{"v":{"a":1,"c":{"a":1,"c":{"a":1,"c":{"a":1}}}}}`, `{"i":{"a":1,"c":{"a":1,"c":{"a":1,"c":{"a":1,"c":{"a":1,"c":{"a":1}}}}}}}`)
	takes(t, "i:In", "i:{a:1,c:{a:1,c:$v}}", `{"v":{"a":1,"c":{"a":1,"b":"x"}}}`, `{"i":{"a":1,"c":{"a":1,"c":{"a":1,"c":{"a":1,"b":["x"]}}}}}`)
	takes(t, "i:In", "i:{a:1,c:{a:1,c:$v}}", `{"v":{"a":1,"c":{"a":1,"c":{"a":1,"l":"A"}}}}`, `{"i":{"a":1,"c":{"a":1,"c":{"a":1,"c":{"a":1,"c":{"a":1,"l":[["A"]]}}}}}}`)
	takes(t, "i:In", "i:$v", `{"v":{"a":1,"c":{"a":1,"c":{"a":1,"c":{"a":1,"l":"A"}}}}}`, `{"i":{"a":1,"c":{"a":1,"c":{"a":1,"c":{"a":1,"l":[["A"]]}}}}}`)
	takes(t, "i:[[In]]", "i:[[$v]]", `{"v":{"a":1,"c":{"a":1,"c":{"a":1}}}}`, `{"i":[[{"a":1,"c":{"a":1,"c":{"a":1}}}]]}`)
	takes(t, "i:[[In]]", "i:$v", `{"v":{"a":1,"c":{"a":1,"c":{"a":1}}}}`, `{"i":[[{"a":1,"c":{"a":1,"c":{"a":1}}}]]}`)
	takes(t, "i:[[In]],j:In", "i:[[$v,$v],$v],j:$v", `{"v":{"a":1,"c":{"a":1,"c":{"a":1,"c":{"a":1}}}}}`,
		strings.ReplaceAll(`{"i":[[V,V],[V]],"j":V}`, "V", `{"a":1,"c":{"a":1,"c":{"a":1,"c":{"a":1}}}}`))
	takes(t, "o:Opt", "o:{d:[[]],a:$w}", `{"v":1}`, `{"o":{"d":[[]]}}`)
	takes(t, "o:Opt", "o:$v", `{"v":{"d":{"d":{"d":{"d":{}}}}}}`, `{"o":{"d":[[{"d":[[{"d":[[{"d":[[{}]]}]]}]]}]]}}`)
	takes(t, "o:[[Opt]]", "o:{d:{d:$v}}", `{"v":{"d":{"d":{"d":{"d":{}}}}}}`, `{"o":[[{"d":[[{"d":[[{"d":[[{"d":[[{"d":[[{"d":[[{}]]}]]}]]}]]}]]}]]}]]}`)
	takesNone(t, "i:In", "i:{a:1,c:{a:1,c:$v}}", `{"v":{"a":1,"c":{"a":1,"c":{"a":1,"c":{"b":[]}}}}}`, `{"v":{"a":1,"c":{"a":1,"c":{"a":1,"c":{"a":"1"}}}}}`, `{"v":{"a":1,"c":{"a":1,"c":{"a":1,"c":{"a":1,"z":1}}}}}`)
	takesNone(t, "o:[[Opt]]", "o:{d:{d:$v}}", `{"v":{"d":{"d":{"d":{"d":"x"}}}}}`)
}

// P23: what vars are is asked to be ok all the same.
func TestArgsOfVariablesTooDeep(t *testing.T) {
	v := readValue(t, `{"a":1,"c":{"a":1,"c":{"a":1,"c":{"a":1,"b":"x"}}}}`)
	fine := fieldWith(t, "i:In")
	if _, ok := impl.ArgsOf(fine, fine[0].Fields[0], givesOf(t, "i:$v"), tree("v", v)); !ok {
		t.Error("as deep as may be")
	}
	deeper := tree("a c", num(1), v)
	for _, asked := range []string{"i:$v", "i:{a:1}", ""} {
		if got, ok := impl.ArgsOf(fine, fine[0].Fields[0], givesOf(t, asked), tree("v", deeper)); ok || !alike(got, null()) {
			t.Errorf("(%s): %s", asked, written(got))
		}
	}
}

// P24: such a field is answered, and the first so many of its list.
func TestRunOfFieldsGivenMuch(t *testing.T) {
	w := world{readSchema(t, strings.Replace(deepArgs, "s:In={a:1,b:\"x\"}):Int", "first:Int):[Int]", 1)), []impl.Node{node(t, 0, "Query", `{"n":[1,2,3]}`)}}
	v := `{"v":{"a":1,"c":{"a":1,"c":{"a":1,"c":{"a":1}}}}}`
	w.answers(t, "query($v:In){n(i:{a:1,c:$v})}", v, `{"n":[1,2,3]}`, "")
	w.answers(t, "query($v:In){n(first:2,i:{a:1,c:{a:1,c:$v}})}", v, `{"n":[1,2]}`, "")
	w.answers(t, "query($v:[[In]]){n(first:1,i:{a:1,c:{a:1,l:$v}},l:$v)}", `{"v":{"a":1,"c":{"a":1}}}`, `{"n":[1]}`, "")
}
