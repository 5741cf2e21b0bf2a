package tests

import (
	"crypto/sha256"
	"encoding/hex"
	"math/rand"
	"slices"
	"strings"
	"testing"

	"loop.example/pergola/impl"
)

// sumByHand is how the sum of a text begins that the whole world knows.
func sumByHand(text string) string {
	sum := sha256.Sum256([]byte(text))
	return hex.EncodeToString(sum[:8])
}

// P65: sums of the standard's own examples.
func TestDocSumOfTheStandard(t *testing.T) {
	for text, want := range map[string]string{"": "e3b0c44298fc1c14", "abc": "ba7816bf8f01cfea", "abcdbcdecdefdefgefghfghighijhijkijkljklmklmnlmnomnopnopq": "248d6a61d20638b8", strings.Repeat("a", 1000000): "cdc76e5c9914fb92"} {
		if got := impl.DocSum(text); got != want {
			t.Errorf("%d bytes: %s, not %s", len(text), got, want)
		}
	}
}

// P65: sums of texts of each length up to several blocks, of all bytes, and of long ones.
func TestDocSumByHand(t *testing.T) {
	r := rand.New(rand.NewSource(71))
	var all []string
	for size := range 400 {
		any := make([]byte, size)
		r.Read(any)
		all = append(all, string(any), strings.Repeat("\x00", size), strings.Repeat("\xff", size), strings.Repeat("a", size), strings.Repeat("\x80", size))
	}
	for _, size := range []int{1499, 1500, 1501, 4095, 4096, 4097, 1<<16 - 9, 1<<16 - 8, 1 << 16, 1<<21 + 57} {
		all = append(all, strings.Repeat("0123456789abcdefg", size/17+1)[:size])
	}
	for _, text := range all {
		if got := impl.DocSum(text); got != sumByHand(text) || got != impl.DocSum(text) {
			t.Fatalf("%d bytes: %s, not %s", len(text), got, sumByHand(text))
		}
	}
}

// rightTexts is documents of the session's schema as they are written, each another one.
func rightTexts() []string {
	return []string{"query{n}", "query{me{name age}}", "query{all(first:1){name}}", "query a{n} query b{words}", `query($k:Kind=DOG){find(kind:$k){__typename ... on Pet{name}}}`, `mutation{set(id:3,cell:"age",value:5){name age}}`,
		"query{me{...F}} fragment F on Person{name pet{name}}", "query{words n @skip(if:true)}", "query c{x:n}", "mutation m{n}"}
}

// wrongTexts is texts under which nothing is saved by the session's schema: none is a document that is right, and short enough as it is written.
func wrongTexts() []string {
	return []string{"", "{", "{n", "n", "{}", "{none}", "{me}", "{n{x}}", "query a{n} query a{n}", "{all(first:\"x\"){name}}", "{n} fragment F on Pet{name}", "query($x:Int){n}", "subscription{n}", "{x:n x:words}", "\x00", "5", `{"n":1}`,
		strings.Repeat("{n}", 4), "{n}" + strings.Repeat(" ", impl.DocMax-2), longText(impl.DocMax+1, true), longText(impl.DocMax+400, true)}
}

// longText is a document of the session's schema that is so many bytes long as it is written: with bytes that are written longer than they need be read.
func longText(size int, raw bool) string {
	begin, end := `find(id:"`, `"){__typename}`
	left := size - len("query{}") - len(" a:")*6 + 1 - 6*len(begin+end)
	out := "query{"
	for i := range 6 {
		wide := min(left/6, impl.TextMax)
		left -= 6 * wide
		small := min(left, impl.TextMax-wide)
		left -= small
		one := "\\u00ff"
		if raw {
			one = "\xff"
		}
		out += strings.TrimLeft(" "+"abcdef"[i:i+1]+":", strings.Repeat(" ", 1-min(i, 1))) + begin + strings.Repeat(one, wide) + strings.Repeat("x", small) + end
	}
	return out + "}"
}

// otherWriting is a document in other blanks, commas and notes.
func otherWriting(t *testing.T, r *rand.Rand, text string) string {
	t.Helper()
	words, ok := impl.Words(text)
	if !ok {
		t.Fatalf("no words: %q", text)
	}
	out := ""
	for _, w := range words {
		out += []string{" ", "  ", ",", "\n", "\t", " # a note\n", ", ,\r\n"}[r.Intn(7)] + w
	}
	return out + []string{"", " ", "#", "\n", " # n"}[r.Intn(5)]
}

// bySum is texts by their sums, ascending, each once.
func bySum(texts ...string) []string {
	out := slices.Clone(texts)
	slices.SortFunc(out, func(a, b string) int { return strings.Compare(sumByHand(a), sumByHand(b)) })
	return slices.Compact(out)
}

// savedAs is what a text is saved as, if it is.
func savedAs(list []impl.Def, text string) (string, bool) {
	d, ok := impl.DocGet(text)
	if !ok || impl.DocCheck(list, d) != impl.DocFine {
		return "", false
	}
	is := impl.DocPut(d)
	back, ok := impl.DocGet(is)
	return is, ok && equal(back, d)
}

// savedOkByHand is SavedOk, just as the document says it.
func savedOkByHand(list []impl.Def, texts []string) bool {
	for i, text := range texts {
		is, ok := savedAs(list, text)
		if !ok || is != text || i > 0 && sumByHand(texts[i-1]) >= sumByHand(text) {
			return false
		}
	}
	return len(texts) <= 6 && impl.SchemaCheck(list) == impl.SchemaFine
}

// addByHand is SavedAdd, just as the document says it.
func addByHand(list []impl.Def, texts []string, text string) ([]string, string, bool) {
	if !savedOkByHand(list, texts) {
		return nil, "", false
	}
	is, ok := savedAs(list, text)
	if !ok || !slices.Contains(texts, is) && len(texts) == 6 {
		return texts, "", false
	}
	return bySum(append(slices.Clone(texts), is)...), sumByHand(is), true
}

// adds asks that a text is saved as by hand.
func adds(t *testing.T, list []impl.Def, s impl.Saved, text string) (impl.Saved, string, bool) {
	t.Helper()
	wide, stays := roomy(s)
	wideList, listStays := roomy(list)
	got, sum, ok := impl.SavedAdd(wideList, wide, text)
	want, wantSum, wantOk := addByHand(list, s.Texts, text)
	if !slices.Equal(got.Texts, want) || sum != wantSum || ok != wantOk || !stays() || !listStays() {
		t.Fatalf("%q to %q: %q, %q, %v, not %q, %q, %v", text, s.Texts, got.Texts, sum, ok, want, wantSum, wantOk)
	}
	isNew(t, text, got, wide, wideList)
	return got, sum, ok
}

// savedOk asks whether texts are ok, and that nothing is added to them if they are not.
func savedOk(t *testing.T, list []impl.Def, texts []string, want bool) {
	t.Helper()
	s, stays := roomy(impl.Saved{Texts: texts})
	if got := impl.SavedOk(list, s); got != want || got != savedOkByHand(list, texts) || !stays() {
		t.Errorf("%q: %v", texts, got)
	}
	for _, text := range []string{"{n}", "{none}", "query c{x:n}"} {
		if x, sum, ok := impl.SavedAdd(list, s, text); !want && (len(x.Texts) > 0 || sum != "" || ok) {
			t.Errorf("%q to %q: %q, %q, %v", text, texts, x.Texts, sum, ok)
		}
	}
}

// P66: texts are ok by their sums, each once, up to six; and just as they are written.
func TestSavedOk(t *testing.T) {
	list := readSchema(t, sessionSchema)
	right := rightTexts()
	for count := range len(right) + 1 {
		savedOk(t, list, bySum(right[:count]...), count <= impl.SavedMax)
	}
	savedOk(t, list, []string{}, true)
	full := bySum(right[:impl.SavedMax]...)
	for i := range full {
		savedOk(t, list, full[:i], true)
		savedOk(t, list, full[i:], true)
		savedOk(t, list, slices.Insert(slices.Clone(full[1:]), max(i-1, 0), full[max(i, 1)]), false)
		if i > 0 {
			other := slices.Clone(full)
			other[i-1], other[i] = other[i], other[i-1]
			savedOk(t, list, other, false)
		}
	}
	last := slices.Clone(full)
	slices.Reverse(last)
	savedOk(t, list, last, false)
	savedOk(t, list, []string{full[0], full[0]}, false)
	r := rand.New(rand.NewSource(72))
	for _, text := range right {
		for _, other := range []string{strings.TrimPrefix(text, "query"), text + " ", " " + text, text + "\n", text + "#", otherWriting(t, r, text)} {
			savedOk(t, list, []string{other}, other == text)
			savedOk(t, list, bySum(other, full[0], full[1]), other == text)
		}
	}
	for _, text := range wrongTexts() {
		savedOk(t, list, []string{text}, false)
		savedOk(t, list, bySum(text, full[0], full[1]), false)
	}
}

// P66: what is right by one schema need not be so by another one.
func TestSavedOkOfSchemas(t *testing.T) {
	list := readSchema(t, sessionSchema)
	full := bySum(rightTexts()[:impl.SavedMax]...)
	for _, wrong := range wrongSchemas(t, list) {
		for _, texts := range [][]string{nil, {}, {"query{n}"}, full} {
			savedOk(t, wrong, texts, false)
			adds(t, wrong, impl.Saved{Texts: texts}, "{n}")
		}
	}
	small := readSchema(t, "type Query{n:Int}")
	savedOk(t, small, []string{"query{n}"}, true)
	savedOk(t, small, full, false)
	savedOk(t, small, nil, true)
	savedOk(t, small, []string{"query{me{name age}}"}, false)
}

// P66: up to six documents; one more has no room, but one that is there, however it is written, is saved again.
func TestSavedAddUpToTheLimit(t *testing.T) {
	list, right := readSchema(t, sessionSchema), rightTexts()
	r := rand.New(rand.NewSource(73))
	var s impl.Saved
	for i, text := range right[:impl.SavedMax] {
		var sum string
		var ok bool
		if s, sum, ok = adds(t, list, s, text); !ok || sum != sumByHand(text) || len(s.Texts) != i+1 || !impl.SavedOk(list, s) {
			t.Errorf("%q: %q, %v", text, sum, ok)
		}
	}
	for _, text := range right[:impl.SavedMax] {
		for range 5 {
			if x, sum, ok := adds(t, list, s, otherWriting(t, r, text)); !ok || sum != sumByHand(text) || !equal(x, s) {
				t.Errorf("%q again: %q, %v", text, sum, ok)
			}
		}
	}
	for _, text := range right[impl.SavedMax:] {
		if x, sum, ok := adds(t, list, s, text); ok || sum != "" || !equal(x, s) {
			t.Errorf("%q has room: %q, %v", text, sum, ok)
		}
		one, gone := impl.SavedDrop(s, sumByHand(right[2]))
		if x, sum, ok := adds(t, list, one, text); !gone || !ok || sum != sumByHand(text) || len(x.Texts) != impl.SavedMax {
			t.Errorf("%q has no room: %q, %v", text, sum, ok)
		}
	}
}

// P66: what is not right, or too long as it is written, is not saved, and all stay.
func TestSavedAddOfWrongTexts(t *testing.T) {
	list := readSchema(t, sessionSchema)
	full := bySum(rightTexts()[:impl.SavedMax]...)
	for _, texts := range [][]string{nil, {"query{n}"}, full[:3], full} {
		for _, text := range wrongTexts() {
			s := impl.Saved{Texts: texts}
			if x, sum, ok := adds(t, list, s, text); ok || sum != "" || !equal(x, s) {
				t.Errorf("%q: %q, %v", text, sum, ok)
			}
		}
	}
}

// P66, P82: a document as long as may be as it is written, however short it was, and one byte more.
func TestSavedAddOfLongTexts(t *testing.T) {
	list := readSchema(t, sessionSchema)
	for size := impl.DocMax - 2; size <= impl.DocMax+2; size++ {
		for _, raw := range []bool{true, false} {
			text := longText(size, raw)
			if !raw && len(text) != size || raw && len(text) > 600 {
				t.Fatalf("%d bytes, not %d", len(text), size)
			}
			if raw && len(impl.DocPut(readDoc(t, text))) != size {
				t.Fatalf("%q is not written in %d bytes", text, size)
			}
			_, sum, ok := adds(t, list, impl.Saved{}, text)
			if ok != (size <= impl.DocMax) || ok && sum != sumByHand(longText(size, false)) {
				t.Errorf("%d bytes: %q, %v", size, sum, ok)
			}
			savedOk(t, list, []string{text}, ok && !raw)
		}
	}
}

// P82: a document that is written in another way is saved as one.
func TestSavedAddOfOtherWritings(t *testing.T) {
	list, docs := fineOnes(t)
	r := rand.New(rand.NewSource(74))
	saved := 0
	for i, d := range docs {
		text := impl.DocPut(d)
		if i%12 > 0 || len(text) > impl.DocMax-20 {
			continue
		}
		saved++
		s, sum, ok := adds(t, list, impl.Saved{}, text)
		if !ok || sum != sumByHand(text) {
			t.Fatalf("%q: %q, %v", text, sum, ok)
		}
		for _, other := range []string{text + "# a note", text + "\n", " " + text, ",\t" + text + "#", "#\n" + text, otherWriting(t, r, text)} {
			if len(other) > impl.DocMax {
				continue
			}
			x, same, again := adds(t, list, impl.Saved{}, other)
			if same != sum || !again || !equal(x, s) {
				t.Errorf("%q: %q, %v, not %q", other, same, again, sum)
			}
			if x, same, again = adds(t, list, s, other); same != sum || !again || !equal(x, s) {
				t.Errorf("%q once more: %q, %v, not %q", other, same, again, sum)
			}
		}
	}
	if saved < 100 {
		t.Errorf("just %d documents", saved)
	}
}

// P66, P67: the first text of a sum is got, and all of a sum go, whatever is saved.
func TestSavedGetAndDropOfAny(t *testing.T) {
	for _, texts := range [][]string{nil, {}, {""}, {"", ""}, {"a", "b", "a"}, {"b", "a", "", "b", "b"}, {"{n}", "query{n}"}, strings.Split("the quick brown fox jumps over the lazy dog", " "), times(100, "x")} {
		s, stays := roomy(impl.Saved{Texts: texts})
		for _, text := range append([]string{"", "none", "a", "b", "x", "the", "query{n}"}, texts...) {
			there := slices.Contains(texts, text)
			rest := slices.DeleteFunc(slices.Clone(texts), func(x string) bool { return x == text })
			if got, ok := impl.SavedGet(s, sumByHand(text)); ok != there || ok && got != text || !ok && got != "" {
				t.Errorf("%q of %q: %q, %v", text, texts, got, ok)
			}
			x, ok := impl.SavedDrop(s, sumByHand(text))
			if ok != there || !slices.Equal(x.Texts, rest) || !stays() {
				t.Errorf("without %q of %q: %q, %v", text, texts, x.Texts, ok)
			}
			isNew(t, text, x, s)
			if again, ok := impl.SavedDrop(x, sumByHand(text)); ok || !equal(again, x) {
				t.Errorf("without %q of %q again: %q, %v", text, texts, again.Texts, ok)
			}
			for _, sum := range []string{"", text, sumByHand(text)[:15], sumByHand(text) + "0", " " + sumByHand(text), strings.ToUpper(sumByHand(text)), sumByHand(text)[1:] + "0", "zz"} {
				if got, ok := impl.SavedGet(s, sum); ok || got != "" {
					t.Errorf("%q of %q: %q, %v", sum, texts, got, ok)
				}
				if x, ok := impl.SavedDrop(s, sum); ok || !slices.Equal(x.Texts, texts) {
					t.Errorf("without %q of %q: %q, %v", sum, texts, x.Texts, ok)
				}
			}
		}
	}
}

// P66, P67: documents that are saved and taken away at random are there just as by hand.
func TestSavedByHand(t *testing.T) {
	list, nodes := readSchema(t, sessionSchema), sessionNodes(t)
	r := rand.New(rand.NewSource(75))
	right, wrong := rightTexts(), wrongTexts()
	for range 40 {
		var s impl.Saved
		var want []string
		for range 30 {
			text := right[r.Intn(len(right))]
			switch r.Intn(8) {
			case 0:
				s, _, _ = adds(t, list, s, wrong[r.Intn(len(wrong))])
			case 1, 2:
				there := slices.Contains(want, text)
				want = slices.DeleteFunc(want, func(x string) bool { return x == text })
				var ok bool
				if s, ok = impl.SavedDrop(s, sumByHand(text)); ok != there {
					t.Fatalf("%q is gone: %v", text, ok)
				}
			default:
				s, _, _ = adds(t, list, s, otherWriting(t, r, text))
				if len(want) < impl.SavedMax {
					want = bySum(append(want, text)...)
				}
			}
			if !slices.Equal(s.Texts, want) || !impl.SavedOk(list, s) {
				t.Fatalf("%q, not %q", s.Texts, want)
			}
		}
		for _, text := range right {
			got, ok := impl.SavedGet(s, sumByHand(text))
			if ok != slices.Contains(want, text) || ok && got != text {
				t.Errorf("%q: %q, %v", text, got, ok)
			}
			asksSaved(t, list, s, nodes, said{given: `{"k":"CAT"}`}, sumByHand(text))
		}
	}
}

// asksSaved asks that a question by a sum, whose document is in its place, is answered as by the text of that sum.
func asksSaved(t *testing.T, list []impl.Def, s impl.Saved, nodes []impl.Node, q said, sum string) string {
	t.Helper()
	want, wantTold := nodes, `{"error":"none","code":0}`
	if i := slices.IndexFunc(s.Texts, func(text string) bool { return sumByHand(text) == sum }); i >= 0 {
		want, wantTold = impl.Ask(list, nodes, q.name, s.Texts[i], q.given)
	}
	wide, stays := roomy(nodes)
	after, told := impl.SavedAsk(list, s, wide, q.name, sum, q.given)
	if told != wantTold || !equal(after, want) || !stays() {
		t.Fatalf("%q by %q of %q: %s, not %s", sum, q.name, q.given, told, wantTold)
	}
	isNew(t, sum, after, wide)
	return told
}

// P68: a question of a document that is saved, of all kinds, right and wrong ones; also of texts that are not ok.
func TestSavedAsk(t *testing.T) {
	list, nodes := readSchema(t, sessionSchema), sessionNodes(t)
	begins := map[string]int{}
	for _, q := range saidOnes() {
		for _, texts := range [][]string{{q.doc}, {"query{n}", q.doc, q.doc}, {q.doc, "{n}", "{x"}, times(9, q.doc), {}} {
			told := asksSaved(t, list, impl.Saved{Texts: texts}, nodes, q, sumByHand(q.doc))
			begins[told[:min(len(told), 15)]]++
		}
		if s, sum, ok := impl.SavedAdd(list, impl.Saved{}, q.doc); ok {
			after, told := impl.SavedAsk(list, s, nodes, q.name, sum, q.given)
			if want, wantTold := impl.Ask(list, nodes, q.name, q.doc, q.given); told != wantTold || !equal(after, want) {
				t.Errorf("%q: %s, not %s", q, told, wantTold)
			}
		}
		for _, sum := range []string{"", "zz", q.doc, sumByHand("x"), strings.ToUpper(sumByHand(q.doc))} {
			if told := asksSaved(t, list, impl.Saved{Texts: []string{q.doc}}, nodes, q, sum); told != `{"error":"none","code":0}` {
				t.Errorf("%q: %s", sum, told)
			}
		}
	}
	if begins[`{"error":"none"`] < 15 || begins[`{"error":"form"`] < 10 || begins[`{"error":"check`] < 4 || begins[`{"data":{"n":7}`] < 4 {
		t.Errorf("%v", begins)
	}
}

// P68: by a schema, or of nodes, that are wrong: the error of Ask, or that there is none; nodes stay.
func TestSavedAskOfAWrongServer(t *testing.T) {
	fine, nodes := readSchema(t, sessionSchema), sessionNodes(t)
	asks := func(what string, list []impl.Def, nodes []impl.Node) {
		t.Helper()
		for sum, want := range map[string]string{sumByHand("query{n}"): `{"error":"server","code":0}`, "zz": `{"error":"none","code":0}`} {
			if told := asksSaved(t, list, impl.Saved{Texts: []string{"query{n}"}}, nodes, said{}, sum); told != want {
				t.Errorf("%s: %s", what, told)
			}
		}
	}
	for _, list := range wrongSchemas(t, fine) {
		asks("a schema that is not fine", list, nodes)
	}
	for what, x := range wrongStores(t) {
		if !strings.HasPrefix(what, "endless") {
			asks(what, fine, x)
		}
	}
	for _, typ := range []string{"Kind", "Thing", "In", "None"} {
		x := sessionNodes(t)
		x[3].Type = typ
		asks(typ, fine, x)
	}
	held := []impl.Node{{Id: -3, Type: "x", Cells: ring(1, 2, 3)}, {Cells: nested(num(1), 1<<16)}}
	if after, told := impl.SavedAsk(fine, impl.Saved{}, held, "", "zz", ""); told != `{"error":"none","code":0}` || !impl.ValueSame(after[0].Cells, held[0].Cells) || !impl.ValueSame(after[1].Cells, held[1].Cells) || &after[0].Cells.List[0] == &held[0].Cells.List[0] {
		t.Error("nodes that hold themselves:", told)
	}
}
