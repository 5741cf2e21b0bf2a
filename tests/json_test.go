package tests

import (
	"fmt"
	"strings"
	"testing"

	"loop.example/pergola/impl"
)

// P3: how each kind is written.
func TestJsonPut(t *testing.T) {
	for _, c := range []struct {
		v    impl.Value
		want string
	}{{null(), "null"}, {yes(true), "true"}, {yes(false), "false"}, {num(0), "0"}, {num(-7), "-7"}, {num(120), "120"},
		{num(impl.NumMax), "2147483647"}, {num(-impl.NumMax), "-2147483647"}, {text(""), `""`}, {text("a b/c'"), `"a b/c'"`},
		{text(`"\`), `"\"\\"`}, {text("\n"), `"\n"`}, {text("\t\r\b\f\x00\x1f"), `"\u0009\u000d\u0008\u000c\u0000\u001f"`},
		{text(" ~\x7f\x80\xab\xff"), `" ~\u007f\u0080\u00ab\u00ff"`}, {text("ä"), `"\u00c3\u00a4"`},
		{list(), "[]"}, {list(num(1)), "[1]"}, {list(num(1), list(), text("x")), `[1,[],"x"]`}, {tree(""), "{}"},
		{tree("b a", null(), list(yes(true))), `{"b":null,"a":[true]}`}} {
		if got := impl.JsonPut(c.v); got != c.want {
			t.Errorf("%v: %s", c.v, got)
		}
	}
}

// P3: what is not ok is the empty text.
func TestJsonPutOfWhatIsNotOk(t *testing.T) {
	for i, v := range []impl.Value{{Kind: 9}, {Kind: -1}, {Kind: impl.IsNull, Num: 1}, {Kind: impl.IsBool, Num: 2}, num(impl.NumMax + 1), named("a"), word("a"),
		list(word("a")), tree("a", named("a")), tree("a a", many(2)...), tree("a b", num(1)), nested(num(1), impl.DeepMax), text(strings.Repeat("x", impl.TextMax+1)),
		list(many(impl.ListMax + 1)...)} {
		if got := impl.JsonPut(v); got != "" {
			t.Errorf("%d: %q", i, got)
		}
	}
}

// P3, P4: a value is read back from its text, with blanks around and between, and in brackets.
func TestJsonReadsBack(t *testing.T) {
	for _, v := range someValues() {
		put := impl.JsonPut(v)
		fits := len(put) <= impl.JsonMax
		got, ok := impl.JsonGet(put)
		if ok != fits || ok && !alike(got, v) || !ok && !alike(got, null()) {
			t.Errorf("%s", put)
		}
		around := " \t\n\r" + put + "\r\n\t "
		got, ok = impl.JsonGet(around)
		if ok != (len(around) <= impl.JsonMax) || ok && !alike(got, v) {
			t.Errorf("blanks around %s", put)
		}
		within := "[" + put + "]"
		got, ok = impl.JsonGet(within)
		if ok != (len(within) <= impl.JsonMax && impl.ValueDeep(v) < impl.DeepMax) || ok && !alike(got, list(v)) {
			t.Errorf("brackets around %s", put)
		}
	}
}

// P4: blanks stand between all signs, but not within one.
func TestJsonBlanks(t *testing.T) {
	want := tree("a b", list(num(1), num(-2), list(), tree("")), tree("c", text(" x ")))
	for _, b := range []string{" ", "\t", "\n", "\r", " \n\t\r "} {
		signs := []string{"", "{", `"a"`, ":", "[", "1", ",", "-2", ",", "[", "]", ",", "{", "}", "]", ",", `"b"`, ":", "{", `"c"`, ":", `" x "`, "}", "}", ""}
		got, ok := impl.JsonGet(strings.Join(signs, b))
		if !ok || !alike(got, want) {
			t.Errorf("with %q: %v", b, got)
		}
	}
	for _, s := range []string{"", " ", "\v1", "1\f", "\x00", "1\x00", "1\xa0", "- 1", "tr ue", "1 2", "nul l", "\xef\xbb\xbf1", "[1\x85]", "/**/1", "1#"} {
		notRead(t, s)
	}
}

func notRead(t *testing.T, s string) {
	t.Helper()
	if v, ok := impl.JsonGet(s); ok || !alike(v, null()) {
		t.Errorf("%q is read: %v", s, v)
	}
}

// P3: each escape that the document names, and those that it does not.
func TestJsonEscapes(t *testing.T) {
	for _, c := range []struct{ in, want string }{{`\"`, `"`}, {`\\`, `\`}, {`\/`, "/"}, {`/`, "/"}, {`\n`, "\n"}, {`\t`, "\t"}, {`\r`, "\r"}, {`\b`, "\b"}, {`\f`, "\f"},
		{`\u0041`, "A"}, {`\u0000`, "\x00"}, {`\u00ff`, "\xff"}, {`\u00FF`, "\xff"}, {`\u00A9`, "\xa9"}, {`\u00aB`, "\xab"}, {`\u00Cd`, "\xcd"}, {`\u00e0x`, "\xe0x"}, {`\u0009\u000a`, "\t\n"},
		{"\x7f\x80\xff", "\x7f\x80\xff"}, {" ~", " ~"}, {`\\n`, `\n`}, {`\\\"`, `\"`}, {"ä", "ä"}} {
		v, ok := impl.JsonGet(`"` + c.in + `"`)
		if !ok || v.Kind != impl.IsText || v.Text != c.want {
			t.Errorf("%q: %q", c.in, v.Text)
		}
	}
	for c := range 256 {
		if !strings.ContainsRune(`"\/ntrbfu`, rune(c)) {
			notRead(t, `"\`+string([]byte{byte(c)})+`"`)
			notRead(t, `"\`+string([]byte{byte(c)})+`0041"`)
		}
		if c < 32 {
			notRead(t, `"a`+string([]byte{byte(c)})+`b"`)
		}
	}
	for _, s := range []string{`\u`, `\u0`, `\u00`, `\u004`, `\u0100`, `\u1041`, `\u00g0`, `\u000g`, `\u00G0`, `\u-041`, `\u 041`, `\U0041`, "\\u00\x10\x11", "\\u004\x11", `\u00:0`, `\u00/0`, `\u00@0`, "\\u00`0", `\ud800`, `\uffff`} {
		notRead(t, `"`+s+`"`)
	}
	for _, s := range []string{`"`, `"a`, `"\`, `"\"`, `"\u`, `"\u004`, `"\u0041`, `a"`, `'a'`, `"a"b`, `"a""b"`, `\"a\"`} {
		notRead(t, s)
	}
}

// P3: numbers, and what is none.
func TestJsonNumbers(t *testing.T) {
	for _, n := range []int{0, 1, 9, 10, -1, -10, 907, impl.NumMax, -impl.NumMax} {
		s := fmt.Sprint(n)
		if v, ok := impl.JsonGet(s); !ok || !alike(v, num(n)) {
			t.Errorf("%s: %v", s, v)
		}
		for _, behind := range []string{"a", "Z", "_", ".", "e5", ".5", "x1", "E+1", "-1", "+", "\"", "\xb2"} {
			notRead(t, s+behind)
			notRead(t, "["+s+behind+"]")
		}
	}
	for _, s := range []string{"-0", "00", "01", "-01", "007", "-", "--1", "+1", "2147483648", "-2147483648", "4294967296", "9223372036854775808", "18446744073709551616", "-18446744073709551617",
		strings.Repeat("9", 1000), "1" + strings.Repeat("0", 64), ".5", "-a", "[-]", "1,", "1]", "NaN", "Infinity"} {
		notRead(t, s)
	}
}

// P3: what is no list, no tree, no word.
func TestJsonWrongShapes(t *testing.T) {
	for _, s := range []string{"[1,]", "[,1]", "[,]", "[1,,2]", "[1 2]", "[1;2]", "[", "]", "[1", "[1,", "[]]", "[[]", "[1}", "{]", "{1}", "{", "}", `{"a"}`, `{"a":}`, `{"a":1,}`, `{,"a":1}`, `{"a":1 "b":2}`, `{"a":1,,"b":2}`,
		`{"a" 1}`, `{"a"=1}`, `{"a":1`, `{"a":1]`, `{a:1}`, `{1:1}`, `{null:1}`, `{"a":1,"a":2}`, `{"a":1,"b":2,"a":1}`, `{"a":1,"\u0061":2}`, `{"":1}`, `{"1":1}`, `{"a b":1}`, `{"a-":1}`, `{"abcdefghijklm":1}`, `{"\n":1}`,
		"tru", "True", "TRUE", "truee", "nul", "nulll", "Null", "fals", "falsee", "true false", "[truefalse]", "$a", "WORD", "[a]", `[1]x`, "{}{}", `"a":1`, `{"a":1}}`, "\xff", "[1,\x002]"} {
		notRead(t, s)
	}
	for s, want := range map[string]impl.Value{"null": null(), "true": yes(true), "false": yes(false), `{"abcdefghijkl":null}`: tree("abcdefghijkl", null()), `{"a":{"a":1}}`: tree("a", tree("a", num(1))),
		"[null,true,false]": list(null(), yes(true), yes(false))} {
		if v, ok := impl.JsonGet(s); !ok || !alike(v, want) {
			t.Errorf("%s: %v", s, v)
		}
	}
}

// P3, P4: each limit met exactly, and one more.
func TestJsonLimits(t *testing.T) {
	numbers := func(n int) string { return "[" + strings.TrimSuffix(strings.Repeat("1,", n), ",") + "]" }
	names := func(n int) string { return `{"` + strings.Join(manyNames(n), `":1,"`) + `":1}` }
	deep := func(n int) string { return strings.Repeat("[", n) + strings.Repeat("]", n) }
	trees := func(n int) string { return strings.Repeat(`{"a":`, n-1) + "1" + strings.Repeat("}", n-1) }
	long := func(n int) string { return `"` + strings.Repeat("x", n) + `"` }
	escaped := func(n int) string { return `"` + strings.Repeat(`\u00ff`, n) + `"` }
	blanks := func(n int) string { return "1" + strings.Repeat(" ", n-1) }
	for _, c := range []struct {
		make func(n int) string
		most int
	}{{numbers, impl.ListMax}, {names, impl.ListMax}, {deep, impl.DeepMax}, {trees, impl.DeepMax}, {long, impl.TextMax}, {escaped, impl.TextMax}, {blanks, impl.JsonMax}} {
		if _, ok := impl.JsonGet(c.make(c.most)); !ok {
			t.Errorf("%s is not read", c.make(c.most))
		}
		notRead(t, c.make(c.most+1))
	}
	notRead(t, deep(impl.JsonMax/2))
	notRead(t, strings.Repeat("[", impl.JsonMax))
	notRead(t, strings.Repeat(" ", impl.JsonMax))
	notRead(t, strings.Repeat(" ", impl.JsonMax)+"1")
}

// P3: what is read again and again is new memory each time.
func TestJsonGetIsNewMemory(t *testing.T) {
	const s = `{"a":[1,2],"b":[3],"c":{"d":[]}}`
	a, _ := impl.JsonGet(s)
	b, _ := impl.JsonGet(s)
	a.Names[0], a.List[0].List[0] = "z", num(9)
	for i := range a.List {
		_ = append(a.List[i].List, num(9))
		_ = append(a.List[i].Names, "z")
	}
	_ = append(a.List, num(9))
	_ = append(a.Names, "z")
	if impl.JsonPut(b) != s || impl.JsonPut(a) != `{"z":[9,2],"b":[3],"c":{"d":[]}}` {
		t.Errorf("%s %s", impl.JsonPut(a), impl.JsonPut(b))
	}
}
