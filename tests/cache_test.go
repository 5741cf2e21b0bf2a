package tests

import (
	"fmt"
	"math/rand"
	"slices"
	"strings"
	"testing"

	"loop.example/pergola/impl"
)

// keyByHand is the key of a question, as the document says it.
func keyByHand(q said) string {
	out := ""
	for _, text := range []string{q.name, q.doc, q.given} {
		out += `"`
		for _, c := range []byte(text) {
			switch {
			case c == '"', c == '\\':
				out += `\` + string(rune(c))
			case c == 10:
				out += `\n`
			case c < 32, c > 126:
				out += fmt.Sprintf(`\u%04x`, c)
			default:
				out += string(rune(c))
			}
		}
		out += `"`
	}
	return out
}

// changes says whether a question, as it is found, is a change.
func changes(q said) bool {
	d, ok := impl.DocGet(q.doc)
	if !ok {
		return false
	}
	if q.name == "" {
		return len(d.Ops) == 1 && d.Ops[0].Change
	}
	i := slices.IndexFunc(d.Ops, func(op impl.Op) bool { return op.Name == q.name })
	return i >= 0 && d.Ops[i].Change
}

// cacheOkByHand is CacheOk, just as the document says it.
func cacheOkByHand(c impl.Cache) bool {
	for i, key := range c.Keys {
		if slices.Contains(c.Keys[:i], key) {
			return false
		}
	}
	return len(c.Keys) <= 4 && len(c.Answers) == len(c.Keys)
}

// cacheByHand is CacheAsk, just as the document says it.
func cacheByHand(list []impl.Def, c impl.Cache, nodes []impl.Node, q said) (impl.Cache, []impl.Node, string, bool) {
	i := slices.Index(c.Keys, keyByHand(q))
	if i >= 0 && cacheOkByHand(c) {
		return c, nodes, c.Answers[i], true
	}
	after, told := impl.Ask(list, nodes, q.name, q.doc, q.given)
	if changes(q) || !cacheOkByHand(c) {
		return impl.Cache{}, after, told, false
	}
	out := impl.Cache{Keys: append(slices.Clone(c.Keys), keyByHand(q)), Answers: append(slices.Clone(c.Answers), told)}
	if len(out.Keys) > 4 {
		out.Keys, out.Answers = out.Keys[1:], out.Answers[1:]
	}
	return out, after, told, false
}

// asksCache asks that a question is answered by a cache as by hand.
func asksCache(t *testing.T, list []impl.Def, c impl.Cache, nodes []impl.Node, q said) (impl.Cache, []impl.Node, string, bool) {
	t.Helper()
	wideList, listStays := roomy(list)
	wide, stays := roomy(c)
	wideNodes, nodesStay := roomy(nodes)
	got, after, told, hit := impl.CacheAsk(wideList, wide, wideNodes, q.name, q.doc, q.given)
	want, wantAfter, wantTold, wantHit := cacheByHand(list, c, nodes, q)
	if !equal(got, want) || !equal(after, wantAfter) || told != wantTold || hit != wantHit {
		t.Fatalf("%q of %q: %q, %s, %v, not %q, %s, %v", q, c, got, told, hit, want, wantTold, wantHit)
	}
	if !stays() || !listStays() || !nodesStay() {
		t.Fatalf("%q of %q: an argument was written to", q, c)
	}
	isNew(t, q.doc, struct {
		Cache impl.Cache
		Nodes []impl.Node
	}{got, after}, wide, wideNodes, wideList)
	return got, after, told, hit
}

// seen is questions of the session's schema, each another one, that change nothing.
func seen() []said {
	return []said{{"", "{n}", ""}, {"", "{n }", ""}, {"", "{n}", "{}"}, {"a", "query a{n}", ""}, {"", "query a{n}", ""}, {"", "{all{age}}", ""}, {"", "{me{name}}", ""}, {"", "query($n:Int){all(first:$n){age}}", `{"n":1}`}, {"", "query($n:Int){all(first:$n){age}}", `{"n":2}`},
		{"", "{none}", ""}, {"", "{n", ""}, {"zz", "{n}", ""}, {"", "{n}", "5"}, {"", "mutation{n", ""}, {"a", "query a{n} mutation b{n}", ""}, {"", "query a{n} mutation b{n}", ""}, {"zz", "query a{n} mutation b{n}", ""}, {"", "", ""}, {"\xff\n\\\"", "{n}", "\x00\t"}, {"b", "mutation{n}", ""}}
}

// changing is changes of the session's schema: some change nothing, some are not answered; each is one all the same.
func changing() []said {
	return []said{{"", `mutation{set(id:3,cell:"age",value:5){age}}`, ""}, {"", `mutation{set(id:3,cell:"age",value:6){age}}`, ""}, {"", `mutation($v:Int){set(id:2,cell:"age",value:$v){age}}`, `{"v":1}`}, {"", "mutation{n}", ""}, {"b", "query a{n} mutation b{n}", ""}, {"", `mutation{set(id:2,cell:"name",value:5){name}}`, ""},
		{"", `mutation{set(id:99,cell:"age",value:5){age}}`, ""}, {"", "mutation{none}", ""}, {"", "mutation{n}", "5"}, {"", `mutation($v:Int){set(id:2,cell:"age",value:$v){age}}`, `{"v":"x"}`}, {"c", "mutation c{n} query c{n}", ""}, {"", "mutation{n} fragment F on Pet{name}", "{"}}
}

// P71: a cache is ok with up to four keys, none twice, and as many answers.
func TestCacheOk(t *testing.T) {
	keys := strings.Fields("a b c d e f g")
	for i := range len(keys) + 1 {
		for j := range len(keys) + 1 {
			c, stays := roomy(impl.Cache{Keys: keys[:i], Answers: keys[:j]})
			if got := impl.CacheOk(c); got != (i == j && i <= impl.CacheMax) || !stays() {
				t.Errorf("%q: %v", c, got)
			}
		}
	}
	for _, same := range []string{"a a", "a b a", "a a b", "b a a", "a b c a", "a b c c", "a b b c", "a b c d a", "a a a a a"} {
		c := impl.Cache{Keys: strings.Fields(same), Answers: keys[:len(strings.Fields(same))]}
		if impl.CacheOk(c) {
			t.Errorf("%q is ok", c)
		}
	}
	for _, c := range []impl.Cache{{}, {Keys: []string{}, Answers: []string{}}, {Keys: []string{""}, Answers: []string{""}}, {Keys: []string{"", "\x00", " ", "a"}, Answers: times(4, "")}, {Keys: []string{"a", "A"}, Answers: times(2, "x")}} {
		if !impl.CacheOk(c) {
			t.Errorf("%q is not ok", c)
		}
	}
	if impl.CacheOk(impl.Cache{Keys: make([]string, 1<<20), Answers: make([]string, 1<<20)}) || impl.CacheOk(impl.Cache{Keys: []string{"", ""}, Answers: times(2, "")}) {
		t.Error("keys without end")
	}
}

// P69, P70: a question is answered as by Ask, and again out of the cache; a change never is, and empties it.
func TestCacheAskTwice(t *testing.T) {
	list, nodes := readSchema(t, sessionSchema), sessionNodes(t)
	for i, q := range append(seen(), changing()...) {
		isChange := i >= len(seen())
		want, wantTold := impl.Ask(list, nodes, q.name, q.doc, q.given)
		c, after, told, hit := asksCache(t, list, impl.Cache{}, nodes, q)
		if told != wantTold || hit || !equal(after, want) || isChange != (len(c.Keys) == 0) || !impl.CacheOk(c) {
			t.Errorf("%q: %s, %v, %q", q, told, hit, c)
		}
		again, afterAgain, toldAgain, hit := asksCache(t, list, c, after, q)
		if hit == isChange || !isChange && toldAgain != told || !equal(afterAgain, after) || !equal(again, c) {
			t.Errorf("%q again: %s, %v, %q", q, toldAgain, hit, again)
		}
		full := impl.Cache{Keys: strings.Fields("a b c d"), Answers: strings.Fields("A B C D")}
		if c, _, told, hit = asksCache(t, list, full, nodes, q); told != wantTold || hit || isChange && len(c.Keys) > 0 || !isChange && !slices.Equal(c.Keys, []string{"b", "c", "d", keyByHand(q)}) {
			t.Errorf("%q behind four: %s, %v, %q", q, told, hit, c)
		}
	}
	for _, q := range seen() {
		if changes(q) {
			t.Errorf("%q is a change", q)
		}
	}
	for _, q := range changing() {
		if !changes(q) {
			t.Errorf("%q is no change", q)
		}
	}
}

// P70: a change that is asked twice is done twice; what was asked ahead of it is asked anew.
func TestCacheAskOfAChangeTwice(t *testing.T) {
	list, nodes := readSchema(t, sessionSchema), sessionNodes(t)
	see := said{doc: "{me{age}}"}
	five, six := said{doc: `mutation{set(id:2,cell:"age",value:5){age}}`}, said{doc: `mutation{set(id:2,cell:"age",value:6){age}}`}
	var c impl.Cache
	var got []string
	for _, q := range []said{see, see, five, see, see, six, see, five, five, see, six, six, see, see} {
		var told string
		var hit bool
		c, nodes, told, hit = asksCache(t, list, c, nodes, q)
		got = append(got, fmt.Sprint(strings.Trim(told, `{}":adtemsg`), hit))
	}
	if want := []string{"30false", "30true", "5false", "5false", "5true", "6false", "6false", "5false", "5false", "5false", "6false", "6false", "6false", "6true"}; !slices.Equal(got, want) {
		t.Errorf("%q, not %q", got, want)
	}
}

// P83: behind five other questions the last is in the cache, and the first is not; what is found does not become later by that.
func TestCacheAskOfMany(t *testing.T) {
	list, nodes := readSchema(t, sessionSchema), sessionNodes(t)
	all := seen()
	var c impl.Cache
	for i, q := range all {
		c, _, _, _ = asksCache(t, list, c, nodes, q)
		from := max(i+1-impl.CacheMax, 0)
		var want []string
		for _, x := range all[from : i+1] {
			want = append(want, keyByHand(x))
		}
		if !slices.Equal(c.Keys, want) || !impl.CacheOk(c) {
			t.Fatalf("%d questions: %q, not %q", i+1, c.Keys, want)
		}
		for j, x := range all {
			if _, _, _, hit := asksCache(t, list, c, nodes, x); hit != (j >= from && j <= i) {
				t.Errorf("question %d behind %d: %v", j, i, hit)
			}
		}
		if i+1 >= impl.CacheMax {
			if same, _, _, _ := asksCache(t, list, c, nodes, all[from]); !equal(same, c) {
				t.Errorf("the first of %q, found: %q", c.Keys, same.Keys)
			}
		}
	}
}

// P69: questions are told apart by all three of their texts, and just by these.
func TestCacheAskByKeys(t *testing.T) {
	list, nodes := readSchema(t, sessionSchema), sessionNodes(t)
	wide := strings.Repeat("x", 5000)
	all := append(seen(), said{"a", "bc", ""}, said{"ab", "c", ""}, said{"a", "b", "c"}, said{"", "abc", ""}, said{"", "", "abc"}, said{"abc", "", ""}, said{`a""`, "b", ""}, said{"a", `""b`, ""}, said{`a"`, `"b`, ""}, said{`a\`, `"b`, ""}, said{`\n`, "", ""}, said{"\n", "", ""}, said{`\u000a`, "", ""},
		said{"", wide, ""}, said{"", wide + "x", ""}, said{"", "", wide}, said{wide, "", ""}, said{"", "\x1f\x7f\x80\xff~ !#[]", "\x00"}, said{"", "\u00e4", ""}, said{"", "\xe4", ""})
	for i, a := range all {
		c, _, told, _ := asksCache(t, list, impl.Cache{}, nodes, a)
		if changes(a) {
			t.Fatalf("%q is a change", a)
		}
		if len(c.Keys) != 1 || c.Keys[0] != keyByHand(a) || c.Answers[0] != told {
			t.Fatalf("%q: %q", a, c)
		}
		for j, b := range all {
			if _, _, _, hit := impl.CacheAsk(list, c, nodes, b.name, b.doc, b.given); hit != (i == j) {
				t.Errorf("%q behind %q: %v", b, a, hit)
			}
		}
	}
}

// P69: what a cache that is ok has under the key is the answer, whatever it is, and of whatever schema and nodes.
func TestCacheAskOfWhatIsKept(t *testing.T) {
	fine, nodes := readSchema(t, sessionSchema), sessionNodes(t)
	stores := wrongStores(t)
	stores["right ones"] = nodes
	for _, q := range []said{seen()[0], changing()[0], {"", "{none", ""}} {
		for _, answer := range []string{"", "x", "\xff", `{"data":null}`} {
			c := impl.Cache{Keys: []string{"a", keyByHand(q), "b"}, Answers: []string{"A", answer, "B"}}
			for what, x := range stores {
				if strings.HasPrefix(what, "endless") {
					continue
				}
				for _, list := range [][]impl.Def{fine, nil, fine[1:]} {
					if same, after, told, hit := asksCache(t, list, c, x, q); told != answer || !hit || !equal(after, x) || !equal(same, c) {
						t.Errorf("%q of %s: %q, %v", q, what, told, hit)
					}
				}
			}
		}
	}
	held := []impl.Node{{Id: -3, Type: "x", Cells: ring(1, 2, 3)}}
	for _, q := range []said{{"", "{n}", ""}, {"", "{words}", ""}} {
		c := impl.Cache{Keys: []string{keyByHand(said{"", "{n}", ""})}, Answers: []string{"x"}}
		if _, after, told, hit := impl.CacheAsk(fine, c, held, q.name, q.doc, q.given); hit != (told == "x") || hit != (q.doc == "{n}") || !impl.ValueSame(after[0].Cells, held[0].Cells) || &after[0].Cells.List[0] == &held[0].Cells.List[0] {
			t.Errorf("nodes that hold themselves: %s, %v", told, hit)
		}
	}
}

// P69, P71: of a cache that is not ok nothing is told, also not what it has; it is empty then, and nodes are as Ask leaves them.
func TestCacheAskOfAWrongCache(t *testing.T) {
	list, nodes := readSchema(t, sessionSchema), sessionNodes(t)
	for _, q := range append(seen(), changing()...) {
		key := keyByHand(q)
		for _, c := range []impl.Cache{{Keys: []string{key}}, {Answers: []string{"x"}}, {Keys: []string{key, key}, Answers: []string{"x", "x"}}, {Keys: []string{key, "a", "b", "a"}, Answers: times(4, "x")}, {Keys: []string{"a", "a", key}, Answers: times(3, "x")}, {Keys: []string{key}, Answers: times(2, "x")},
			{Keys: []string{key, "a", "b", "c", "d"}, Answers: times(5, "x")}, {Keys: []string{"a", "b", "c", "d", key}, Answers: times(5, "x")}, {Keys: []string{key, "a"}, Answers: []string{"x"}}, {Keys: []string{"a", key}, Answers: []string{"x"}}} {
			want, wantTold := impl.Ask(list, nodes, q.name, q.doc, q.given)
			got, after, told, hit := asksCache(t, list, c, nodes, q)
			if impl.CacheOk(c) || len(got.Keys) > 0 || len(got.Answers) > 0 || told != wantTold || hit || !equal(after, want) {
				t.Errorf("%q of %q: %q, %s, %v", q, c, got, told, hit)
			}
		}
	}
}

// P69: by a schema, or of nodes, that are wrong, the error of Ask is kept as any answer; a change empties the cache there, too.
func TestCacheAskOfAWrongServer(t *testing.T) {
	fine, nodes := readSchema(t, sessionSchema), sessionNodes(t)
	asks := func(list []impl.Def, nodes []impl.Node) {
		t.Helper()
		begun := impl.Cache{Keys: []string{"a"}, Answers: []string{"A"}}
		c, _, told, hit := asksCache(t, list, begun, nodes, seen()[0])
		if told != `{"error":"server","code":0}` || hit || len(c.Keys) != 2 {
			t.Errorf("%s, %v, %q", told, hit, c)
		}
		if c, _, told, hit = asksCache(t, list, c, nodes, changing()[0]); told != `{"error":"server","code":0}` || hit || len(c.Keys) > 0 {
			t.Errorf("a change: %s, %v, %q", told, hit, c)
		}
	}
	for _, list := range wrongSchemas(t, fine) {
		asks(list, nodes)
	}
	for what, x := range wrongStores(t) {
		if !strings.HasPrefix(what, "endless") {
			asks(fine, x)
		}
	}
}

// P69, P70, P71, P83: questions and changes at random are answered by a cache as by hand, and as by Ask.
func TestCacheByHand(t *testing.T) {
	list, first := readSchema(t, sessionSchema), sessionNodes(t)
	r := rand.New(rand.NewSource(76))
	questions, changes := seen(), changing()
	found := map[string]int{}
	for range 40 {
		var c impl.Cache
		nodes, some := first, 2+r.Intn(8)
		for range 40 {
			q := questions[r.Intn(some)]
			if r.Intn(9) == 0 {
				q = changes[r.Intn(len(changes))]
			}
			wantNodes, want := impl.Ask(list, nodes, q.name, q.doc, q.given)
			var told string
			var hit bool
			c, nodes, told, hit = asksCache(t, list, c, nodes, q)
			if told != want || !equal(nodes, wantNodes) || !impl.CacheOk(c) {
				t.Fatalf("%q: %s, not %s", q, told, want)
			}
			found[fmt.Sprint(hit)]++
			found[fmt.Sprint(len(c.Keys))]++
		}
	}
	for _, what := range []string{"true", "false", "0", "1", "2", "3", "4"} {
		if found[what] < 100 {
			t.Errorf("too few: %v", found)
		}
	}
}
