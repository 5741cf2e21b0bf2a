package tests

import (
	"math/rand"
	"slices"
	"strings"
	"testing"

	"loop.example/pergola/impl"
)

// wantWords asks for the words of a text, told here with one blank between.
func wantWords(t *testing.T, s string, want ...string) {
	t.Helper()
	got, ok := impl.Words(s)
	if !ok || !slices.Equal(got, want) {
		t.Errorf("%q: %q, %v", s, got, ok)
	}
}

func noWords(t *testing.T, s string) {
	t.Helper()
	if got, ok := impl.Words(s); ok || len(got) > 0 {
		t.Errorf("%q: %q, %v", s, got, ok)
	}
}

// eachWord is words of each kind, as short and as long as may be.
func eachWord() []string {
	out := []string{"...", "a", "_", "Z9", "on", "true", "null", "query", "__typename", strings.Repeat("x", 100), "a1b2_C3",
		"0", "7", "10", "-1", "-10", "2147483647", "-2147483647",
		`""`, `"a"`, `"a b,c#d"`, `"{}()"`, `"\"\\\/\n\t\r\b\f"`, `"\u0041\u00ff\u00FF"`, "\"\x7f\x80\xff\"", `"` + strings.Repeat("x", impl.TextMax) + `"`, `"` + strings.Repeat(`\u0041`, impl.TextMax) + `"`}
	for _, sign := range "{}()[]:=!$@|" {
		out = append(out, string(sign))
	}
	return out
}

// P11: each word alone, with something around, and beside each other one.
func TestWordsOfEachKind(t *testing.T) {
	wantWords(t, "")
	words := eachWord()
	for _, a := range words {
		wantWords(t, a, a)
		for _, around := range []string{" ", "\t", "\n", "\r", ",", " , ", "# note\n", "#\n", ",,\n \r#a#b \x00\xff\"\n#\n"} {
			wantWords(t, around+a, a)
			wantWords(t, a+around, a)
			for _, b := range words {
				wantWords(t, a+around+b, a, b)
			}
		}
	}
}

// P11: signs part words, and so do quotes and a sign ahead of a number.
func TestWordsSideBySide(t *testing.T) {
	wantWords(t, "{a(b:1)}", "{", "a", "(", "b", ":", "1", ")", "}")
	wantWords(t, "...on", "...", "on")
	wantWords(t, "a...b", "a", "...", "b")
	wantWords(t, "......", "...", "...")
	wantWords(t, "[Int!]!=[1,-2]", "[", "Int", "!", "]", "!", "=", "[", "1", "-2", "]")
	wantWords(t, "$a@b|c", "$", "a", "@", "b", "|", "c")
	wantWords(t, `"a""b"c"d"`, `"a"`, `"b"`, "c", `"d"`)
	wantWords(t, "a-5", "a", "-5")
	wantWords(t, "1-5", "1", "-5")
	wantWords(t, `1"a"2`, "1", `"a"`, "2")
	wantWords(t, "1:2", "1", ":", "2")
	wantWords(t, "_1", "_1")
	wantWords(t, `...on,$a!:-5 "x\"y" # no`+"\n z_1", "...", "on", "$", "a", "!", ":", "-5", `"x\"y"`, "z_1")
}

// P11: a note goes to the end of its line, or of the text; a sign of a note in a text is none.
func TestWordsNotes(t *testing.T) {
	wantWords(t, "#")
	wantWords(t, "# all of it")
	wantWords(t, "a#b", "a")
	wantWords(t, "a # b\nc", "a", "c")
	wantWords(t, "a # b\r c\nd", "a", "d")
	wantWords(t, "a # \"b\nc", "a", "c")
	wantWords(t, "a # . & 01 \x00 \xff \nc #", "a", "c")
	wantWords(t, "#a\n#b\n\n#c\nd#", "d")
	wantWords(t, `"#a" b`, `"#a"`, "b")
	wantWords(t, "1#2", "1")
}

// P11: what is no word.
func TestWordsNone(t *testing.T) {
	wrong := []string{".", "..", "....", ".....", ". . .", ".. .", "01", "00", "-0", "-01", "-", "--1", "- 1", "+1", "1a", "1_", "1.", "1.5", "1e5", "1...", "0x1", "2147483648", "-2147483648", "99999999999999999999",
		`"`, `"a`, `"a\"`, `"\"`, `"\x"`, `"\u12"`, `"\u0100"`, `"\u00g0"`, "\"\n\"", "\"\x1f\"", "\"\x00\"", "'a'", `"` + strings.Repeat("x", impl.TextMax+1) + `"`,
		"\x00", "\x0b", "\x0c", "\x7f", "\x80", "\xff", "ä", "\u00a0", "\ufeff"}
	for _, sign := range "%&*+-./;<>?\\^`~'" {
		wrong = append(wrong, string(sign))
	}
	for _, s := range wrong {
		noWords(t, s)
		noWords(t, "a "+s)
		noWords(t, s+" a")
		noWords(t, "{ "+s+"\n}")
	}
}

// P11: DocMax bytes, and one more.
func TestWordsLimits(t *testing.T) {
	full := impl.DocMax
	wantWords(t, strings.Repeat(" ", full))
	wantWords(t, strings.Repeat("x", full), strings.Repeat("x", full))
	wantWords(t, "#"+strings.Repeat("x", full-1))
	wantWords(t, "a"+strings.Repeat(",", full-2)+"b", "a", "b")
	for _, s := range []string{strings.Repeat(" ", full+1), strings.Repeat("x", full+1), "#" + strings.Repeat("x", full), "a" + strings.Repeat(",", full)} {
		noWords(t, s)
	}
	if got, ok := impl.Words(strings.Repeat("{", full)); !ok || len(got) != full {
		t.Error("as many signs as bytes")
	}
}

// anyBetween is something that may stand between words.
func anyBetween(r *rand.Rand) string {
	some := []string{" ", ",", "\n", "\t", "\r", "#\n", "# a \"note\" {\n", ", ", "  ", ",#,\n,"}
	out := some[r.Intn(len(some))]
	for r.Intn(3) == 0 {
		out += some[r.Intn(len(some))]
	}
	return out
}

// P11: the words of all words with blanks between are the same.
func TestWordsAgain(t *testing.T) {
	r := rand.New(rand.NewSource(2))
	words := eachWord()
	for range 2000 {
		var want []string
		s := ""
		for range r.Intn(12) {
			want = append(want, words[r.Intn(len(words))])
			s += want[len(want)-1] + anyBetween(r)
		}
		if len(s) <= impl.DocMax {
			wantWords(t, s, want...)
		}
	}
	const signs = "...{}()[]:=!$@|,# \n\t\r\"\\an0123-_uZ.#'&"
	read := 0
	for range 20000 {
		b := make([]byte, r.Intn(9))
		for i := range b {
			b[i] = signs[r.Intn(len(signs))]
		}
		if got, ok := impl.Words(string(b)); ok {
			read++
			wantWords(t, strings.Join(got, " "), got...)
			wantWords(t, strings.Join(got, "\n#\n"), got...)
		}
	}
	if read < 1000 {
		t.Errorf("only %d were read", read)
	}
}

// The list of words is new memory.
func TestWordsAreNewMemory(t *testing.T) {
	a, _ := impl.Words("a b c")
	b, _ := impl.Words("a b c")
	a[0] = "x"
	_ = append(a, "y")
	if !slices.Equal(b, []string{"a", "b", "c"}) {
		t.Error("two answers share a list")
	}
}
