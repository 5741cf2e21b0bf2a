package tests

import (
	"math/rand"
	"reflect"
	"slices"
	"strings"
	"testing"

	"loop.example/pergola/impl"
)

func null() impl.Value { return impl.Value{} }

func yes(is bool) impl.Value {
	if is {
		return impl.Value{Kind: impl.IsBool, Num: 1}
	}
	return impl.Value{Kind: impl.IsBool}
}

func num(n int) impl.Value      { return impl.Value{Kind: impl.IsNum, Num: n} }
func text(s string) impl.Value  { return impl.Value{Kind: impl.IsText, Text: s} }
func named(s string) impl.Value { return impl.Value{Kind: impl.IsVar, Text: s} }
func word(s string) impl.Value  { return impl.Value{Kind: impl.IsWord, Text: s} }

func list(within ...impl.Value) impl.Value {
	return impl.Value{Kind: impl.IsList, List: within}
}

// tree takes names with blanks between, and a value for each.
func tree(names string, within ...impl.Value) impl.Value {
	return impl.Value{Kind: impl.IsTree, Names: strings.Fields(names), List: within}
}

// member is what a name of a tree leads to, however deep the tree is.
func member(v impl.Value, name string) (impl.Value, bool) {
	i := slices.Index(v.Names, name)
	if v.Kind != impl.IsTree || i < 0 {
		return impl.Value{}, false
	}
	return v.List[i], true
}

// written is the text of a value, however deep it is.
func written(v impl.Value) string {
	s := strings.TrimPrefix(impl.AnswerPut(impl.Answer{Data: v}), `{"data":`)
	return strings.TrimSuffix(s, "}")
}

// nested puts a value into so many lists.
func nested(v impl.Value, times int) impl.Value {
	for range times {
		v = list(v)
	}
	return v
}

// many is so many numbers.
func many(count int) []impl.Value {
	out := make([]impl.Value, count)
	for i := range out {
		out[i] = num(i)
	}
	return out
}

// manyNames is so many names, each another one.
func manyNames(count int) []string {
	out := make([]string, count)
	for i := range out {
		out[i] = "n" + string(rune('a'+i))
	}
	return out
}

// endless is a list that holds itself, so many times.
func endless(wide int) impl.Value {
	within := make([]impl.Value, wide)
	for i := range within {
		within[i] = list(within...)
	}
	return list(within...)
}

// flat makes nil and empty lists alike, so that values can be held against each other by reflect.
func flat(v impl.Value) impl.Value {
	out := impl.Value{Kind: v.Kind, Num: v.Num, Text: v.Text}
	for _, x := range v.List {
		out.List = append(out.List, flat(x))
	}
	out.Names = append(out.Names, v.Names...)
	return out
}

func alike(a impl.Value, b impl.Value) bool {
	return reflect.DeepEqual(flat(a), flat(b))
}

// anyText is a text of few or as many bytes as may be, of all bytes.
func anyText(r *rand.Rand) string {
	b := make([]byte, r.Intn(impl.TextMax+1))
	for i := range b {
		b[i] = byte(r.Intn(256))
	}
	return string(b)
}

// anyValue is a value that is ok, at most so deep.
func anyValue(r *rand.Rand, deep int) impl.Value {
	kind := r.Intn(6)
	if deep < 2 {
		kind = r.Intn(4)
	}
	switch kind {
	case impl.IsBool:
		return yes(r.Intn(2) == 1)
	case impl.IsNum:
		return num(r.Intn(2*impl.NumMax+1) - impl.NumMax)
	case impl.IsText:
		return text(anyText(r))
	case impl.IsList, impl.IsTree:
		v := impl.Value{Kind: kind}
		for range r.Intn(4) {
			v.List = append(v.List, anyValue(r, deep-1))
		}
		if kind == impl.IsTree {
			v.Names = manyNames(len(v.List))
		}
		return v
	}
	return null()
}

// someValues is values that are ok, of each kind, some at random (always the same ones).
func someValues() []impl.Value {
	out := []impl.Value{null(), yes(false), yes(true), num(0), num(1), num(-1), num(impl.NumMax), num(-impl.NumMax),
		text(""), text("a"), text("1"), text("null"), text("true"), text(`"\/`), text("\x00\n\t\x1f \x7e\x7f\x80\xff"),
		list(), tree(""), list(null()), tree("a", null()), list(num(1), num(2)), list(num(2), num(1)),
		tree("a b", num(1), num(2)), tree("b a", num(1), num(2)), tree("b a", num(2), num(1)),
		list(list(), tree("")), tree("a b", list(), tree("a", num(1)))}
	r := rand.New(rand.NewSource(1))
	for range 300 {
		out = append(out, anyValue(r, impl.DeepMax))
	}
	return out
}

// withRoom is the list with a mark behind its end, and whether the mark is still there.
func withRoom[T any](list []T, mark T) ([]T, func() bool) {
	wide := append(slices.Clone(list), mark)
	before := slices.Clone(wide)
	return wide[:len(list)], func() bool { return reflect.DeepEqual(wide, before) }
}

func mustType(t *testing.T, s string) impl.Type {
	t.Helper()
	x, ok := impl.TypeGet(s)
	if !ok {
		t.Fatalf("no type: %q", s)
	}
	return x
}

// bare is a copy of something in which empty lists are nil, so that documents and schemas can be held against each other by reflect.
func bare[T any](x T) T {
	out := reflect.New(reflect.TypeOf(x)).Elem()
	bareInto(out, reflect.ValueOf(x))
	return out.Interface().(T)
}

func bareInto(to reflect.Value, from reflect.Value) {
	switch from.Kind() {
	case reflect.Slice:
		if from.Len() == 0 {
			return
		}
		to.Set(reflect.MakeSlice(from.Type(), from.Len(), from.Len()))
		for i := range from.Len() {
			bareInto(to.Index(i), from.Index(i))
		}
	case reflect.Struct:
		for i := range from.NumField() {
			bareInto(to.Field(i), from.Field(i))
		}
	default:
		to.Set(from)
	}
}

func equal[T any](a T, b T) bool {
	return reflect.DeepEqual(bare(a), bare(b))
}

// scribble writes over all lists of something, and behind their ends.
func scribble(x reflect.Value) {
	switch x.Kind() {
	case reflect.Slice:
		whole := x.Slice(0, x.Cap())
		for i := range whole.Len() {
			if i < x.Len() {
				scribble(whole.Index(i))
			}
			whole.Index(i).SetZero()
		}
	case reflect.Struct:
		for i := range x.NumField() {
			scribble(x.Field(i))
		}
	}
}
