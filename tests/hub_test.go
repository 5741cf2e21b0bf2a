package tests

import (
	"fmt"
	"math/rand"
	"slices"
	"strings"
	"testing"

	"loop.example/pergola/impl"
)

// playMax is how many documents are played at most.
const playMax = 20

// serves says whether questions can be answered by a schema, of nodes.
func serves(list []impl.Def, nodes []impl.Node) bool {
	_, told := impl.Ask(list, nodes, "", "{__typename}", "")
	return told == `{"data":{"__typename":"Query"}}`
}

// watched is the question of somebody who watches.
func watched(w impl.Watch) said {
	return said{w.Name, w.Doc, w.Given}
}

// answered is the answer of a question.
func answered(list []impl.Def, nodes []impl.Node, q said) string {
	_, told := impl.Ask(list, nodes, q.name, q.doc, q.given)
	return told
}

// hubOkByHand is HubOk, just as the document says it.
func hubOkByHand(list []impl.Def, h impl.Hub) bool {
	ahead := -1
	for _, w := range h.Watches {
		if w.Id <= ahead || changes(watched(w)) || w.Last != answered(list, h.Nodes, watched(w)) {
			return false
		}
		ahead = w.Id
	}
	return serves(list, h.Nodes) && len(h.Watches) <= 5
}

// hubAddByHand is HubAdd, just as the document says it.
func hubAddByHand(list []impl.Def, h impl.Hub, id int, q said) (impl.Hub, string, bool) {
	if !hubOkByHand(list, h) {
		return impl.Hub{}, "", false
	}
	there := slices.ContainsFunc(h.Watches, func(w impl.Watch) bool { return w.Id == id })
	if there || id < 0 || len(h.Watches) == 5 || changes(q) {
		return h, "", false
	}
	told := answered(list, h.Nodes, q)
	out := impl.Hub{Nodes: h.Nodes, Watches: append(slices.Clone(h.Watches), impl.Watch{Id: id, Name: q.name, Doc: q.doc, Given: q.given, Last: told})}
	slices.SortFunc(out.Watches, func(a, b impl.Watch) int { return a.Id - b.Id })
	return out, told, true
}

// hubDoByHand is HubDo, just as the document says it.
func hubDoByHand(list []impl.Def, h impl.Hub, q said) (impl.Hub, string, []impl.Told) {
	if !hubOkByHand(list, h) {
		return impl.Hub{}, `{"error":"server","code":0}`, nil
	}
	nodes, text := impl.Ask(list, h.Nodes, q.name, q.doc, q.given)
	out := impl.Hub{Nodes: nodes, Watches: slices.Clone(h.Watches)}
	var told []impl.Told
	for i, w := range out.Watches {
		if now := answered(list, nodes, watched(w)); now != w.Last {
			out.Watches[i].Last = now
			told = append(told, impl.Told{Id: w.Id, Text: now})
		}
	}
	return out, text, told
}

// hubPlayByHand is HubPlay, just as the document says it.
func hubPlayByHand(list []impl.Def, h impl.Hub, docs []string) (impl.Hub, []impl.Told) {
	if !hubOkByHand(list, h) {
		return impl.Hub{}, nil
	}
	if len(docs) > 20 {
		return h, nil
	}
	var all []impl.Told
	for _, doc := range docs {
		var told []impl.Told
		h, _, told = hubDoByHand(list, h, said{doc: doc})
		all = append(all, told...)
	}
	return h, all
}

// hubAdds asks that somebody watches a question as by hand.
func hubAdds(t *testing.T, list []impl.Def, h impl.Hub, id int, q said) (impl.Hub, string, bool) {
	t.Helper()
	wideList, listStays := roomy(list)
	wide, stays := roomy(h)
	got, told, ok := impl.HubAdd(wideList, wide, id, q.name, q.doc, q.given)
	want, wantTold, wantOk := hubAddByHand(list, h, id, q)
	if !equal(got, want) || told != wantTold || ok != wantOk || !stays() || !listStays() {
		t.Fatalf("%d, %q, to %v: %v, %q, %v, not %v, %q, %v", id, q, h.Watches, got.Watches, told, ok, want.Watches, wantTold, wantOk)
	}
	isNew(t, q.doc, got, wide, wideList)
	return got, told, ok
}

// hubDoes asks that a question is answered, and told, as by hand.
func hubDoes(t *testing.T, list []impl.Def, h impl.Hub, q said) (impl.Hub, string, []impl.Told) {
	t.Helper()
	wideList, listStays := roomy(list)
	wide, stays := roomy(h)
	got, text, told := impl.HubDo(wideList, wide, q.name, q.doc, q.given)
	want, wantText, wantTold := hubDoByHand(list, h, q)
	if !equal(got, want) || text != wantText || !slices.Equal(told, wantTold) || !stays() || !listStays() {
		t.Fatalf("%v of %v: %v, %s, %v, not %v, %s, %v", q, h.Watches, got.Watches, text, told, want.Watches, wantText, wantTold)
	}
	isNew(t, q.doc, struct {
		Hub  impl.Hub
		Told []impl.Told
	}{got, told}, wide, wideList)
	return got, text, told
}

// hubPlays asks that documents are played as by hand.
func hubPlays(t *testing.T, list []impl.Def, h impl.Hub, docs []string) (impl.Hub, []impl.Told) {
	t.Helper()
	wideList, listStays := roomy(list)
	wide, stays := roomy(h)
	wideDocs, docsStay := roomy(docs)
	got, told := impl.HubPlay(wideList, wide, wideDocs)
	want, wantTold := hubPlayByHand(list, h, docs)
	if !equal(got, want) || !slices.Equal(told, wantTold) || !stays() || !listStays() || !docsStay() {
		t.Fatalf("%v of %v: %v, %v, not %v, %v", docs, h.Watches, got.Watches, told, want.Watches, wantTold)
	}
	isNew(t, strings.Join(docs, " "), struct {
		Hub  impl.Hub
		Told []impl.Told
	}{got, told}, wide, wideDocs, wideList)
	return got, told
}

// hubOk asks whether a hub is ok, and that nothing comes of it, if it is not.
func hubOk(t *testing.T, what string, list []impl.Def, h impl.Hub, want bool) {
	t.Helper()
	if got := impl.HubOk(list, h); got != want || got != hubOkByHand(list, h) {
		t.Errorf("%s: %v, %v", what, got, h.Watches)
	}
	if want {
		return
	}
	if x, told, ok := hubAdds(t, list, h, 77, seen()[0]); ok || told != "" || len(x.Nodes)+len(x.Watches) > 0 {
		t.Errorf("%s: watched, %q, %v", what, told, x.Watches)
	}
	for _, q := range []said{seen()[0], changing()[0]} {
		if x, text, told := hubDoes(t, list, h, q); text != `{"error":"server","code":0}` || len(told)+len(x.Nodes)+len(x.Watches) > 0 {
			t.Errorf("%s: done, %s, %v, %v", what, text, told, x.Watches)
		}
	}
	for _, docs := range [][]string{nil, {"{n}"}, {changing()[0].doc}, times(playMax+1, "{n}")} {
		if x, told := hubPlays(t, list, h, docs); len(told)+len(x.Nodes)+len(x.Watches) > 0 {
			t.Errorf("%s: played, %v, %v", what, told, x.Watches)
		}
	}
}

// hubOf is a hub of the session in which so many questions are watched, by 0, 2, 4 and so on.
func hubOf(t *testing.T, questions ...said) ([]impl.Def, impl.Hub) {
	t.Helper()
	list, nodes := readSchema(t, sessionSchema), sessionNodes(t)
	h := impl.Hub{Nodes: nodes}
	for i, q := range questions {
		h.Watches = append(h.Watches, impl.Watch{Id: 2 * i, Name: q.name, Doc: q.doc, Given: q.given, Last: answered(list, nodes, q)})
	}
	return list, h
}

// set is a change of a cell of the session, of which nothing is chosen but its type.
func set(id int, cell string, value string) string {
	return fmt.Sprintf(`mutation{set(id:%d,cell:"%s",value:%s){__typename}}`, id, cell, value)
}

// without is a hub in which one watches no more.
func without(h impl.Hub, i int) impl.Hub {
	h.Watches = slices.Delete(slices.Clone(h.Watches), i, i+1)
	return h
}

// changedWatch is a hub in which somebody watches in another way.
func changedWatch(h impl.Hub, i int, change func(w *impl.Watch)) impl.Hub {
	h.Watches = slices.Clone(h.Watches)
	change(&h.Watches[i])
	return h
}

// P72: a hub begins with its nodes, of whatever form, and nobody who watches.
func TestHubNew(t *testing.T) {
	list := readSchema(t, sessionSchema)
	all := wrongStores(t)
	delete(all, "endless")
	for what, nodes := range all {
		wide, stays := roomy(nodes)
		h := impl.HubNew(wide)
		if !equal(h.Nodes, nodes) || len(h.Watches) > 0 || !stays() {
			t.Errorf("%s: %v", what, h.Watches)
		}
		isNew(t, what, h, wide)
		hubOk(t, what, list, h, false)
	}
	hubOk(t, "right ones", list, impl.HubNew(sessionNodes(t)), true)
	held := []impl.Node{{Id: -3, Type: "x", Cells: ring(1, 2, 3)}}
	h := impl.HubNew(held)
	if x, ok := impl.HubDrop(h, 0); ok || !impl.ValueSame(h.Nodes[0].Cells, held[0].Cells) || !impl.ValueSame(x.Nodes[0].Cells, held[0].Cells) || &x.Nodes[0].Cells.List[0] == &held[0].Cells.List[0] || &h.Nodes[0].Cells.List[0] == &held[0].Cells.List[0] {
		t.Error("nodes that hold themselves")
	}
	if _, _, ok := impl.HubAdd(list, h, 0, "", "{n}", ""); ok || impl.HubOk(list, h) {
		t.Error("nodes that hold themselves are ok")
	}
}

// P72, P73: up to five watch, by their numbers from 0 on, each once, questions of all kinds that are no changes, and had the answer that there is.
func TestHubOk(t *testing.T) {
	all := seen()
	for count := range 8 {
		list, h := hubOf(t, all[:count]...)
		hubOk(t, fmt.Sprint(count, " watch"), list, h, count <= impl.WatchMax)
	}
	for i := range all {
		list, h := hubOf(t, all[i], all[(i+1)%len(all)])
		hubOk(t, all[i].doc, list, h, true)
	}
	list, h := hubOf(t, all[0], all[5], all[9], all[10], all[6])
	for i := range h.Watches {
		for _, last := range []string{"", "x", h.Watches[i].Last + " ", h.Watches[i].Last[1:], h.Watches[(i+1)%5].Last} {
			hubOk(t, "another answer", list, changedWatch(h, i, func(w *impl.Watch) { w.Last = last }), false)
		}
		for id := -2; id < 12; id++ {
			right := (i == 0 && id >= 0 || i > 0 && id > h.Watches[i-1].Id) && (i == 4 || id < h.Watches[i+1].Id)
			hubOk(t, "another number", list, changedWatch(h, i, func(w *impl.Watch) { w.Id = id }), right)
		}
		hubOk(t, "one less", list, without(h, i), true)
		for _, q := range changing() {
			hubOk(t, "a change", list, changedWatch(h, i, func(w *impl.Watch) {
				w.Name, w.Doc, w.Given, w.Last = q.name, q.doc, q.given, answered(list, h.Nodes, q)
			}), false)
		}
	}
	great := changedWatch(h, 4, func(w *impl.Watch) { w.Id = 1<<63 - 1 })
	hubOk(t, "a great number", list, great, true)
	hubOk(t, "below all", list, changedWatch(h, 0, func(w *impl.Watch) { w.Id = -1 << 63 }), false)
	slices.Reverse(great.Watches)
	hubOk(t, "the last first", list, great, false)
	hubOk(t, "very many", list, impl.Hub{Nodes: h.Nodes, Watches: times(1000, h.Watches[0])}, false)
}

// P72, P73: a hub is of a schema that is fine, and of nodes of it.
func TestHubOkOfAWrongServer(t *testing.T) {
	list, h := hubOf(t, seen()[0], seen()[9])
	server := `{"error":"server","code":0}`
	asked := changedWatch(changedWatch(h, 0, func(w *impl.Watch) { w.Last = server }), 1, func(w *impl.Watch) { w.Last = server })
	for _, wrong := range wrongSchemas(t, list) {
		for _, x := range []impl.Hub{h, asked, {Nodes: h.Nodes}} {
			hubOk(t, "a schema that is not fine", wrong, x, false)
		}
	}
	hubOk(t, "another schema", readSchema(t, runSchema), asked, false)
	for what, nodes := range wrongStores(t) {
		if !strings.HasPrefix(what, "endless") {
			hubOk(t, what, list, impl.Hub{Nodes: nodes, Watches: asked.Watches}, false)
			hubOk(t, what, list, impl.Hub{Nodes: nodes}, false)
		}
	}
	for _, typ := range []string{"Kind", "Thing", "In", "None", "Int"} {
		asked.Nodes = sessionNodes(t)
		asked.Nodes[3].Type = typ
		hubOk(t, typ, list, asked, false)
	}
}

// P73: whoever watches has the answer that there is, right ones and wrong ones; who watches no more leads back.
func TestHubAdd(t *testing.T) {
	for count := range impl.WatchMax + 1 {
		list, h := hubOf(t, seen()[2:2+count]...)
		for i, q := range seen() {
			for id := -2 + i%2; id < 12; id += 2 - count%2 {
				x, told, ok := hubAdds(t, list, h, id, q)
				if ok != (count < impl.WatchMax && id >= 0 && (id%2 > 0 || id >= 2*count)) || ok && (told != answered(list, h.Nodes, q) || !impl.HubOk(list, x)) || !ok && (told != "" || !equal(x, h)) {
					t.Errorf("%d, %q, to %d: %s, %v", id, q, count, told, ok)
				}
				if back, gone := impl.HubDrop(x, id); ok && (!gone || !equal(back, h)) {
					t.Errorf("%d of %d: %v, %v", id, count, back.Watches, gone)
				}
			}
		}
		for _, id := range []int{-1 << 63, 1<<63 - 1, impl.NumMax + 1} {
			hubAdds(t, list, h, id, seen()[0])
		}
		for _, q := range changing() {
			if x, told, ok := hubAdds(t, list, h, 9, q); ok || told != "" || !equal(x, h) {
				t.Errorf("a change is watched: %q, %s", q, told)
			}
		}
	}
}

// P84: two who watch, the one first or the other, in whatever order of their numbers.
func TestHubAddInAnyOrder(t *testing.T) {
	all := seen()
	list, h := hubOf(t, all[:3]...)
	for i, a := range all {
		for j, b := range all {
			idOfA, idOfB := (i*5+j)%9, (j*7+2)%9
			x, toldA, okA := impl.HubAdd(list, h, idOfA, a.name, a.doc, a.given)
			x, toldB, okB := impl.HubAdd(list, x, idOfB, b.name, b.doc, b.given)
			y, other, okOther := impl.HubAdd(list, h, idOfB, b.name, b.doc, b.given)
			y, one, okOne := impl.HubAdd(list, y, idOfA, a.name, a.doc, a.given)
			both := !slices.Contains([]int{0, 2, 4}, idOfA) && !slices.Contains([]int{0, 2, 4}, idOfB) && idOfA != idOfB
			if both != (okA && okB) || both != (okOther && okOne) || both && (!equal(x, y) || toldA != one || toldB != other || !impl.HubOk(list, x)) {
				t.Errorf("%d %q, %d %q: %v, %v", idOfA, a, idOfB, b, x.Watches, y.Watches)
			}
		}
	}
}

// P74: one who watches goes, or none, and all others stay; of any nodes.
func TestHubDrop(t *testing.T) {
	stores := wrongStores(t)
	delete(stores, "endless")
	stores["right ones"] = sessionNodes(t)
	for what, nodes := range stores {
		for _, ids := range [][]int{nil, {}, {0}, {3}, {0, 1}, {0, 2, 4, 6, 8}, {1, 5, 6, 1 << 40, 1<<63 - 1}, {0, 1, 2, 3, 4, 5, 6, 7, 8}, {0, 0}, {1, 1, 2}, {0, 1, 1}, {2, 1}, {0, 2, 1, 3}, {8, 6, 4, 2, 0}, {0, 5, 3}} {
			h := impl.Hub{Nodes: nodes}
			for _, id := range ids {
				h.Watches = append(h.Watches, impl.Watch{Id: id, Name: "a", Doc: fmt.Sprint(id), Given: "{", Last: "x"})
			}
			ascending := slices.IsSorted(ids) && len(slices.Compact(slices.Clone(ids))) == len(ids)
			for _, id := range append([]int{-1, 0, 1, 2, 3, 4, 5, 7, 9}, ids...) {
				want, place := h, slices.Index(ids, id)
				if ascending && place >= 0 {
					want = without(h, place)
				}
				wide, stays := roomy(h)
				got, ok := impl.HubDrop(wide, id)
				if ok != (ascending && place >= 0) || !equal(got, want) || !stays() {
					t.Fatalf("%s: %d of %v: %v, %v", what, id, ids, got.Watches, ok)
				}
				isNew(t, what, got, wide)
				if again, ok := impl.HubDrop(got, id); ok || !equal(again, got) {
					t.Fatalf("%s: %d of %v again: %v, %v", what, id, ids, again.Watches, ok)
				}
			}
		}
	}
}

// P75: just those whose answers are others are told, by their numbers.
func TestHubDo(t *testing.T) {
	list, h := hubOf(t, said{"", "{me{age}}", ""}, said{"", "{all{age}}", ""}, said{"", "{n}", ""}, said{"", "query($n:Int){all(first:$n){age}}", `{"n":1}`}, said{"", "{find(id:1){... on Pet{name}}}", ""})
	for _, c := range []struct {
		doc string
		ids []int
	}{{set(2, "age", "31"), []int{0, 2, 6}}, {set(2, "age", "30"), nil}, {set(3, "age", "5"), []int{2}}, {set(3, "age", "null"), []int{2}}, {set(2, "age", "null"), []int{0, 2, 6}}, {set(4, "age", "5"), nil}, {set(4, "name", "5"), []int{8}}, {set(2, "name", "5"), nil}, {set(0, "n", "8"), []int{4}}, {set(0, "n", "null"), []int{4}}, {set(0, "me", "3"), []int{0}},
		{set(0, "all", "1"), []int{2, 6}}, {set(1, "n", "8"), nil}, {set(9, "n", "8"), nil}, {"{n}", nil}, {"{none}", nil}, {"", nil}, {"{n", nil}, {"mutation{n}", nil}, {"mutation{none}", nil}, {"query a{n} query b{n}", nil},
		{`mutation{a:set(id:2,cell:"age",value:1){age} b:set(id:2,cell:"age",value:30){age}}`, nil}, {`mutation{a:set(id:3,cell:"age",value:1){age} b:set(id:0,cell:"n",value:30){__typename}}`, []int{2, 4}}, {`mutation{set(id:3,cell:"age",value:1){name @skip(if:5)}}`, nil}} {
		x, _, told := hubDoes(t, list, h, said{doc: c.doc})
		var ids []int
		for _, one := range told {
			ids = append(ids, one.Id)
		}
		if !slices.Equal(ids, c.ids) || !impl.HubOk(list, x) {
			t.Errorf("%s: told %v, not %v", c.doc, told, c.ids)
		}
		if y, _, told := hubDoes(t, list, x, said{doc: c.doc}); len(told) > 0 && !strings.HasPrefix(c.doc, "mutation{a:") || !impl.HubOk(list, y) {
			t.Errorf("%s again: told %v", c.doc, told)
		}
	}
	_, text, told := impl.HubDo(list, h, "", set(3, "age", "5"), "")
	if text != `{"data":{"set":{"__typename":"Person"}}}` || len(told) != 1 || told[0] != (impl.Told{Id: 2, Text: `{"data":{"all":[{"age":30},{"age":5}]}}`}) {
		t.Errorf("%s, %v", text, told)
	}
}

// P75: a change by its name, and by what it is given.
func TestHubDoByNameAndGiven(t *testing.T) {
	list, h := hubOf(t, said{"a", "query a{n} mutation b{n}", ""}, said{"", "{me{age}}", ""})
	doc := `query a{n} mutation b($v:Int){set(id:2,cell:"age",value:$v){age}}`
	for _, c := range []struct {
		name, given, text string
		told              []impl.Told
	}{{"b", `{"v":1}`, `{"data":{"set":{"age":1}}}`, []impl.Told{{Id: 2, Text: `{"data":{"me":{"age":1}}}`}}}, {"b", `{"v":30}`, `{"data":{"set":{"age":30}}}`, nil}, {"b", `{"v":"x"}`, `{"error":"run","code":3}`, nil}, {"b", "5", `{"error":"form","code":0}`, nil},
		{"a", `{"v":1}`, `{"data":{"n":7}}`, nil}, {"c", `{"v":1}`, `{"error":"run","code":2}`, nil}, {"", `{"v":1}`, `{"error":"run","code":2}`, nil}, {"b", "", `{"data":{"set":null}}`, nil}} {
		_, text, told := hubDoes(t, list, h, said{c.name, doc, c.given})
		if text != c.text || !slices.Equal(told, c.told) {
			t.Errorf("%v of %v: %s, %v", c.name, c.given, text, told)
		}
	}
}

// P76: what changes nothing tells nobody anything, and leaves the hub.
func TestHubDoOfNoChange(t *testing.T) {
	all := seen()
	for i, q := range all {
		list, h := hubOf(t, all[i], all[(i+3)%len(all)], all[(i+7)%len(all)])
		x, text, told := hubDoes(t, list, h, q)
		if text != answered(list, h.Nodes, q) || len(told) > 0 || !equal(x, h) {
			t.Errorf("%v: %s, %v, %v", q, text, told, x.Watches)
		}
		for _, q := range changing() {
			nodes, text := impl.Ask(list, h.Nodes, q.name, q.doc, q.given)
			x, got, told := hubDoes(t, list, h, q)
			if got != text || !equal(x.Nodes, nodes) || equal(nodes, h.Nodes) && (len(told) > 0 || !equal(x, h)) {
				t.Errorf("%v: %s, %v", q, got, told)
			}
		}
	}
}

// P77: up to twenty documents are played, and not one more; the last that each was told is the answer.
func TestHubPlayOfMany(t *testing.T) {
	list, h := hubOf(t, said{"", "{me{age}}", ""}, said{"", "{n}", ""})
	for count := range playMax + 4 {
		var docs []string
		for i := range count {
			docs = append(docs, set(2, "age", fmt.Sprint(100+i)))
		}
		x, told := hubPlays(t, list, h, docs)
		if count > playMax && (len(told) > 0 || !equal(x, h)) || count <= playMax && (len(told) != count || !impl.HubOk(list, x)) {
			t.Fatalf("%d documents: %v", count, told)
		}
		for i, one := range told {
			if want := (impl.Told{Id: 0, Text: fmt.Sprintf(`{"data":{"me":{"age":%d}}}`, 100+i)}); one != want {
				t.Errorf("%v, not %v", one, want)
			}
		}
	}
	for _, docs := range [][]string{times(playMax, "{n}"), times(playMax, set(2, "age", "30")), times(playMax+1, set(2, "age", "31")), times(1000, set(2, "age", "31")), times(playMax, ""), {}} {
		if x, told := hubPlays(t, list, h, docs); len(told) > 0 || !equal(x, h) {
			t.Errorf("%d of %v: %v", len(docs), docs[0], told)
		}
	}
	_, told := hubPlays(t, list, h, []string{set(2, "age", "1"), set(0, "n", "8"), "{n", set(2, "age", "1"), `mutation{a:set(id:2,cell:"age",value:30){age} b:set(id:0,cell:"n",value:7){__typename}}`})
	if want := []impl.Told{{Id: 0, Text: `{"data":{"me":{"age":1}}}`}, {Id: 2, Text: `{"data":{"n":8}}`}, {Id: 0, Text: `{"data":{"me":{"age":30}}}`}, {Id: 2, Text: `{"data":{"n":7}}`}}; !slices.Equal(told, want) {
		t.Errorf("%v, not %v", told, want)
	}
	nobody, told := hubPlays(t, list, impl.Hub{Nodes: h.Nodes}, []string{set(2, "age", "1")})
	if len(told) > 0 || equal(nobody.Nodes, h.Nodes) {
		t.Errorf("nobody watches: %v", told)
	}
}

// anySet is a change of any cell of the session, mostly to a right value.
func anySet(r *rand.Rand) string {
	cells := [][]string{{"n", "words", "me", "all"}, {"n"}, {"name", "age", "kind", "pet"}, {"name", "age", "friends"}, {"name", "owner"}, {"x"}}
	id := r.Intn(len(cells))
	return set(id, cells[id][r.Intn(len(cells[id]))], []string{"1", "2", "3", "null"}[r.Intn(4)])
}

// P73 to P77, P84: people come and go, and questions and changes are done, at random: all is as by hand, and whoever keeps what they were told last has the answer that there is.
func TestHubByHand(t *testing.T) {
	list := readSchema(t, sessionSchema)
	r := rand.New(rand.NewSource(77))
	questions := append(seen(), said{"", "{all{name}}", ""}, said{"", "{words n}", ""}, said{"", "{find(id:1){... on Pet{name owner{name age}}}}", ""}, said{"", "{me{friends{age}}}", ""}, said{"", "{me{name}}", ""}, said{"", "{all{age kind}}", ""})
	found := map[string]int{}
	for range 25 {
		h, last := impl.HubNew(sessionNodes(t)), map[int]string{}
		for range 25 {
			q, id := questions[r.Intn(len(questions))], r.Intn(8)-1
			switch r.Intn(5) {
			case 0, 1:
				x, told, ok := hubAdds(t, list, h, id, q)
				if h = x; ok {
					last[id] = told
					found["added"]++
				}
			case 2:
				there := last[id] != ""
				delete(last, id)
				var ok bool
				if h, ok = impl.HubDrop(h, id); ok != there {
					t.Fatalf("%d: %v", id, ok)
				}
			default:
				var docs []string
				for range 1 + r.Intn(6) {
					docs = append(docs, []string{anySet(r), anySet(r), q.doc}[r.Intn(3)])
				}
				x, told := hubPlays(t, list, h, docs)
				one, all := h, []impl.Told(nil)
				for _, doc := range docs {
					var more []impl.Told
					one, _, more = hubDoes(t, list, one, said{doc: doc})
					all = append(all, more...)
				}
				if !equal(one, x) || !slices.Equal(all, told) {
					t.Fatalf("%v: %v, one by one %v", docs, told, all)
				}
				h = x
				for _, one := range told {
					last[one.Id] = one.Text
					found["told"]++
				}
			}
			if len(h.Watches) != len(last) || !impl.HubOk(list, h) {
				t.Fatalf("%v: %v", h.Watches, last)
			}
			for _, w := range h.Watches {
				if last[w.Id] != w.Last || w.Last != answered(list, h.Nodes, watched(w)) {
					t.Fatalf("%d was told %s, and has %s", w.Id, last[w.Id], w.Last)
				}
			}
			found[fmt.Sprint(len(h.Watches))]++
		}
	}
	for _, what := range []string{"added", "told", "0", "1", "2", "3", "4", "5"} {
		if found[what] < 15 {
			t.Errorf("too few: %v", found)
		}
	}
}

// P75, P77: many hubs at a time tell what one does; when they have told, nobody works on for them.
func TestHubPlayAtATime(t *testing.T) {
	list, h := hubOf(t, said{"", "{me{age}}", ""}, said{"", "{all{age}}", ""}, said{"", "{n}", ""}, said{"", "{none}", ""}, said{"", "{me{name friends{age}}}", ""})
	docs := []string{set(2, "age", "1"), "{n}", set(3, "age", "1"), set(0, "n", "1"), "{", set(2, "age", "2")}
	want, wantTold := hubPlays(t, list, h, docs)
	if len(wantTold) < 6 {
		t.Fatalf("%v", wantTold)
	}
	atATime(t, func() {
		if got, told := impl.HubPlay(list, h, docs); !slices.Equal(told, wantTold) || !equal(got, want) {
			t.Errorf("%v, not %v", told, wantTold)
		}
		if !impl.HubOk(list, h) {
			t.Error("not ok")
		}
		impl.HubAdd(list, h, 9, "", "{n}", "")
		impl.HubDo(list, h, "", docs[0], "")
	})
}
