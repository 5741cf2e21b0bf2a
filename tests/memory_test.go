package tests

import (
	"reflect"
	"slices"
	"testing"
)

// span is the memory of a list, its spare room included.
type span struct {
	from, to uintptr
}

// spans is the memory of all lists of something that does not hold itself.
func spans(x reflect.Value) []span {
	var out []span
	switch x.Kind() {
	case reflect.Slice:
		if size := uintptr(x.Cap()) * x.Type().Elem().Size(); size > 0 {
			out = append(out, span{x.Pointer(), x.Pointer() + size})
		}
		for i := range x.Len() {
			out = append(out, spans(x.Index(i))...)
		}
	case reflect.Struct:
		for i := range x.NumField() {
			out = append(out, spans(x.Field(i))...)
		}
	}
	return out
}

// meets says whether one of the spans has memory of another one.
func meets(list []span) bool {
	slices.SortFunc(list, func(a, b span) int {
		if a.from < b.from {
			return -1
		}
		return 1
	})
	for i := 1; i < len(list); i++ {
		if list[i].from < list[i-1].to {
			return true
		}
	}
	return false
}

// isNew asks that an answer shares no memory with what was handed in, and that no two of its lists share any.
func isNew(t *testing.T, what string, answer any, handed ...any) {
	t.Helper()
	own := spans(reflect.ValueOf(answer))
	if meets(slices.Clone(own)) {
		t.Errorf("%s: two lists of the answer share memory", what)
	}
	for i, x := range handed {
		for _, s := range spans(reflect.ValueOf(x)) {
			for _, a := range own {
				if s.from < a.to && a.from < s.to {
					t.Fatalf("%s: the answer shares memory with argument %d", what, i)
				}
			}
		}
	}
}

// roomy is a copy of something in which each list has room behind its end, with a mark there; and whether the copy, marks included, is still as it was.
func roomy[T any](x T) (T, func() bool) {
	out := reflect.New(reflect.TypeOf(x)).Elem()
	roomyInto(out, reflect.ValueOf(x))
	before := whole(out)
	return out.Interface().(T), func() bool { return reflect.DeepEqual(before, whole(out)) }
}

func roomyInto(to reflect.Value, from reflect.Value) {
	switch from.Kind() {
	case reflect.Slice:
		list := reflect.MakeSlice(from.Type(), from.Len()+1, from.Len()+1)
		for i := range from.Len() {
			roomyInto(list.Index(i), from.Index(i))
		}
		mark(list.Index(from.Len()))
		to.Set(list.Slice(0, from.Len()))
	case reflect.Struct:
		for i := range from.NumField() {
			roomyInto(to.Field(i), from.Field(i))
		}
	default:
		to.Set(from)
	}
}

// mark makes something other than nothing.
func mark(x reflect.Value) {
	switch x.Kind() {
	case reflect.String:
		x.SetString("mark")
	case reflect.Int:
		x.SetInt(77)
	case reflect.Bool:
		x.SetBool(true)
	case reflect.Struct:
		for i := range x.NumField() {
			mark(x.Field(i))
		}
	}
}

// whole is all that something holds, also behind the ends of its lists.
func whole(x reflect.Value) any {
	var out []any
	switch x.Kind() {
	case reflect.Slice:
		out = append(out, x.Len())
		all := x.Slice(0, x.Cap())
		for i := range all.Len() {
			out = append(out, whole(all.Index(i)))
		}
	case reflect.Struct:
		for i := range x.NumField() {
			out = append(out, whole(x.Field(i)))
		}
	default:
		return x.Interface()
	}
	return out
}
