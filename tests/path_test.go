package tests

import (
	"math/rand"
	"regexp"
	"slices"
	"strconv"
	"strings"
	"testing"

	"loop.example/pergola/impl"
)

// pathIs asks that a path is written as a text, and read back from it.
func pathIs(t *testing.T, path []string, want string) {
	t.Helper()
	wide, stays := roomy(path)
	if got := impl.PointerText(wide); got != want || !stays() {
		t.Errorf("%q is written %q, not %q", path, got, want)
	}
	got, ok := impl.PointerGet(want)
	if !ok || !slices.Equal(got, path) {
		t.Errorf("%q is read as %q, not %q", want, got, path)
	}
	isNew(t, want, got, path)
}

// P47: no names, empty ones, names with each sign that is written otherwise.
func TestPaths(t *testing.T) {
	for want, path := range map[string][]string{"": {}, "/": {""}, "//": {"", ""}, "///": {"", "", ""}, "/a": {"a"}, "/a/b": {"a", "b"}, "/a/": {"a", ""}, "//a": {"", "a"}, "/a//b": {"a", "", "b"}, "/0/12": {"0", "12"},
		"/~0": {"~"}, "/~1": {"/"}, "/~00": {"~0"}, "/~01": {"~1"}, "/~10": {"/0"}, "/~11": {"/1"}, "/~0~0": {"~~"}, "/~1~1": {"//"}, "/~0~1": {"~/"}, "/~1~0": {"/~"}, "/~00~01~10~11": {"~0~1/0/1"}, "/a~1b/~0/": {"a/b", "~", ""}, "/~0/~1/~01": {"~", "/", "~1"},
		"/~0a/a~1": {"~a", "a/"}, "/ /\n/\x00": {" ", "\n", "\x00"}, "/\xff\x80/ä": {"\xff\x80", "ä"}, "/\"\\": {`"\`}, "/-1/+/#": {"-1", "+", "#"}} {
		pathIs(t, path, want)
	}
	pathIs(t, nil, "")
	pathIs(t, times(1000, "~/"), strings.Repeat("/~0~1", 1000))
	pathIs(t, []string{strings.Repeat("/", 100000)}, "/"+strings.Repeat("~1", 100000))
	for b := range 256 {
		name := string([]byte{byte(b)})
		if name == "~" || name == "/" {
			continue
		}
		pathIs(t, []string{name, name + "x" + name}, "/"+name+"/"+name+"x"+name)
	}
}

// P47: texts that are no path.
func TestPathsNotRead(t *testing.T) {
	for _, s := range []string{"a", "a/", "a/b", "~", "~0", "~1", "0", " /a", "\n/", "\\a", "#/a", "/~", "/~/", "/a~", "/a~/b", "/~2", "/~a", "/~~", "/~~0", "/~~1", "/~0~", "/~1~", "/~0~2", "/a/~", "/a/b~x/c", "/~\x00", "/~\xff", "/~ 0", "/~-0", "~/", "~1a", strings.Repeat("/a", 1000) + "~"} {
		if path, ok := impl.PointerGet(s); ok || len(path) > 0 {
			t.Errorf("%q is read as %q", s, path)
		}
	}
}

// textsOf is all texts of these signs, at most so long.
func textsOf(signs string, most int) []string {
	out := []string{""}
	for i, last := 0, 0; i < most; i++ {
		next := len(out)
		for _, s := range out[last:next] {
			for _, sign := range signs {
				out = append(out, s+string(sign))
			}
		}
		last = next
	}
	return out
}

// P47: of all short texts just those are read that are written so, and what is read is written as it was.
func TestPathsOfAllShortTexts(t *testing.T) {
	right := regexp.MustCompile(`^(/([^~/]|~[01])*)*$`)
	seen := map[string]int{}
	for _, s := range textsOf("/~01a", 6) {
		path, ok := impl.PointerGet(s)
		if ok != right.MatchString(s) || ok && impl.PointerText(path) != s || !ok && len(path) > 0 {
			t.Fatalf("%q is read as %q, %v", s, path, ok)
		}
		if ok {
			seen[strconv.Itoa(len(path))+strings.Join(path, "\x00")]++
		}
	}
	for path, count := range seen {
		if count > 1 {
			t.Errorf("%q is read of %d texts", path, count)
		}
	}
}

// P47: paths of any bytes are read back.
func TestPathsReadBack(t *testing.T) {
	r := rand.New(rand.NewSource(41))
	for range 2000 {
		path := some(r, 0, 5, func() string { return strings.ReplaceAll(anyText(r), "a", []string{"~", "/", "~0", "~1"}[r.Intn(4)]) })
		pathIs(t, path, impl.PointerText(path))
	}
}

// at asks what is at the end of a path; the empty text, if there is nothing.
func at(t *testing.T, v impl.Value, want string, path ...string) {
	t.Helper()
	wideValue, valueStays := roomy(v)
	widePath, pathStays := roomy(path)
	got, ok := impl.ValueAt(wideValue, widePath)
	if ok != (want != "") || ok && impl.JsonPut(got) != want || !ok && !alike(got, null()) || !valueStays() || !pathStays() {
		t.Errorf("at %q: %s, %v, not %s", path, impl.JsonPut(got), ok, want)
	}
	isNew(t, strings.Join(path, "/"), got, wideValue, widePath)
}

// P48: each step of trees and of lists, and the empty path.
func TestValueAt(t *testing.T) {
	v := readValue(t, `{"b":1,"a":[1,{"c":null,"_0":2},[]],"_":{"a":{"a":[["x"]]}},"t":"abc"}`)
	at(t, v, impl.JsonPut(v))
	at(t, v, "1", "b")
	at(t, v, `[1,{"c":null,"_0":2},[]]`, "a")
	at(t, v, "1", "a", "0")
	at(t, v, `{"c":null,"_0":2}`, "a", "1")
	at(t, v, "null", "a", "1", "c")
	at(t, v, "2", "a", "1", "_0")
	at(t, v, "[]", "a", "2")
	at(t, v, `[["x"]]`, "_", "a", "a")
	at(t, v, `"x"`, "_", "a", "a", "0", "0")
	for _, path := range [][]string{{"c"}, {""}, {"B"}, {"bb"}, {"b", "b"}, {"b", ""}, {"b", "0"}, {"t", "0"}, {"t", ""}, {"a", "3"}, {"a", "c"}, {"a", ""}, {"a", "1", "0"}, {"a", "1", "b"}, {"a", "1", "c", "c"}, {"a", "1", "c", ""}, {"a", "2", "0"}, {"a", "2", "-1"}, {"0"}, {"-1"}, {"/a"}, {"a/0"}, {"_", "a", "a", "0", "0", "0"}, {"a", "0", "0"}} {
		at(t, v, "", path...)
	}
	at(t, v, "", times(100000, "a")...)
	for _, plain := range []impl.Value{null(), yes(true), num(0), text("a"), list(), tree("")} {
		at(t, plain, impl.JsonPut(plain))
		for _, step := range []string{"", "0", "a", "-1"} {
			at(t, plain, "", step)
		}
	}
}

// P48: places of lists, just as decimals are written.
func TestValueAtPlaces(t *testing.T) {
	for _, size := range []int{0, 1, 2, 9, 10, 11, impl.ListMax} {
		v := list(many(size)...)
		for i := range 14 {
			want := ""
			if i < size {
				want = strconv.Itoa(i)
			}
			at(t, v, want, strconv.Itoa(i))
			for _, step := range []string{"0" + strconv.Itoa(i), "+" + strconv.Itoa(i), "-" + strconv.Itoa(i), " " + strconv.Itoa(i), strconv.Itoa(i) + " ", strconv.Itoa(i) + ".0", "0x" + strconv.Itoa(i), strconv.Itoa(i) + "\n", "00", "-0", "+0", "-1", "", "-", "+", "a", "1e0", "1_0", "٠", "4294967296", "18446744073709551616", "9223372036854775808", "-18446744073709551615", strings.Repeat("0", 1000), strings.Repeat("9", 1000)} {
				at(t, v, "", step)
			}
		}
	}
	at(t, list(list(num(1), num(2)), list(num(3))), "2", "0", "1")
	at(t, list(list(num(1), num(2)), list(num(3))), "", "1", "1")
}

// P48: nothing of a value that is not ok, wherever it is not, and as deep as may be.
func TestValueAtOfWhatIsNotOk(t *testing.T) {
	for _, v := range notOkValues() {
		at(t, v, "")
		for _, step := range []string{"a", "0", ""} {
			at(t, v, "", step)
			at(t, list(num(1), v), "", "0")
			at(t, tree("a b", num(1), v), "", "a")
		}
	}
	deep := nested(num(1), impl.DeepMax-1)
	at(t, deep, "1", times(impl.DeepMax-1, "0")...)
	at(t, deep, "", times(impl.DeepMax, "0")...)
	at(t, list(deep), "", "0")
	for _, wide := range []int{1, 2, 12} {
		if v, ok := impl.ValueAt(endless(wide), []string{"0"}); ok || !alike(v, null()) {
			t.Errorf("%d wide: %v", wide, v)
		}
	}
}

// notOkValues is values of which none is ok: each in another way.
func notOkValues() []impl.Value {
	return []impl.Value{{Kind: -1}, {Kind: 8}, {Num: 1}, {Text: "a"}, named("a"), word("a"), {Kind: impl.IsBool, Num: 2}, num(impl.NumMax + 1), num(-impl.NumMax - 1), text(strings.Repeat("x", impl.TextMax+1)), list(many(impl.ListMax + 1)...),
		{Kind: impl.IsTree, Names: manyNames(impl.ListMax + 1), List: many(impl.ListMax + 1)}, tree("a a", num(1), num(2)), tree("a b", num(1)), tree("a", num(1), num(2)), tree("1a", num(1)), tree("abcdefghijklm", num(1)), nested(num(1), impl.DeepMax),
		{Kind: impl.IsList, Names: []string{"a"}, List: many(1)}, {Kind: impl.IsTree, Names: []string{""}, List: many(1)}, tree("a", named("a")), tree("a", list(word("a"))), {Kind: impl.IsNum, List: many(1)}}
}

// P48: what is at the end of a path is at the end of the rest, from what is at the first step.
func TestValueAtStepByStep(t *testing.T) {
	r := rand.New(rand.NewSource(42))
	there := 0
	for range 3000 {
		v := anyTree(r, impl.DeepMax)
		path := anyPath(r, v)
		x, ok := impl.ValueAt(v, path)
		first, isFirst := impl.ValueAt(v, path[:min(1, len(path))])
		rest := null()
		isRest := false
		if isFirst {
			rest, isRest = impl.ValueAt(first, path[min(1, len(path)):])
		}
		if ok != isRest || !impl.ValueSame(x, rest) {
			t.Fatalf("%s at %q: %s, %v, not %s, %v", impl.JsonPut(v), path, impl.JsonPut(x), ok, impl.JsonPut(rest), isRest)
		}
		if ok && len(path) > 1 {
			there++
		}
		if len(path) == 1 {
			if byName, has := impl.TreeGet(v, path[0]); v.Kind == impl.IsTree && (has != ok || !impl.ValueSame(x, byName)) {
				t.Errorf("%s at %q: %s", impl.JsonPut(v), path, impl.JsonPut(x))
			}
		}
	}
	if there < 500 {
		t.Errorf("only %d were there", there)
	}
}

// anyPath is a path within a value, sometimes one that leads nowhere.
func anyPath(r *rand.Rand, v impl.Value) []string {
	var path []string
	for len(v.List) > 0 && r.Intn(4) > 0 {
		i := r.Intn(len(v.List))
		step := strconv.Itoa(i)
		if v.Kind == impl.IsTree {
			step = v.Names[i]
		}
		path = append(path, step)
		v = v.List[i]
	}
	if r.Intn(6) == 0 {
		path = append(path, []string{"", "a", "b", "0", "1", "01", "none"}[r.Intn(7)])
	}
	return path
}
