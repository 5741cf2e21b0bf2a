package tests

import (
	"math/rand"
	"regexp"
	"runtime"
	"strconv"
	"strings"
	"sync"
	"testing"
	"time"

	"loop.example/pergola/impl"
)

// said is a question that is told in texts.
type said struct {
	name, doc, given string
}

func (s said) put() string {
	return impl.AskPut(s.name, s.doc, s.given)
}

// saidOnes is questions and changes of the session's schema: right ones, and wrong ones of each kind.
func saidOnes() []said {
	return []said{{"", "{n}", ""}, {"", "", ""}, {"", "", "{}"}, {"", "{n", ""}, {"", "{n}", "5"}, {"a", "query a{x:n}", "{}"}, {"abcdefghijkl", "{n}", "{}"}, {"", "{none}", ""},
		{"", "query($n:Int){all(first:$n){\n\tname # a note\n} }\n\n", "{\n\"n\" : 1\n}\n"}, {"", "query($n:Int!){all(first:$n){name}}", "null"}, {"", "query($n:Int!){all(first:$n){name}}", ""}, {"", "{all{name age}}", ""},
		{"", `mutation{set(id:3,cell:"age",value:5){name age}}`, ""}, {"b", `query a{n} mutation b{set(id:3,cell:"age",value:9){age}}`, `{"x":[1,"\n"]}`}, {"", "ask  3 0\n{n}", "ask  3 0\n{n}"}, {"", "\n", "\n"}, {"", "\x00\xff", "\xff\x00"},
		{"", "{n}" + strings.Repeat(" ", impl.DocMax-3), "{}" + strings.Repeat("\n", impl.JsonMax-2)}, {"", strings.Repeat("\n", impl.DocMax), ""}, {"", "{n}", strings.Repeat("x", impl.JsonMax)}}
}

var headForm = regexp.MustCompile(`^ask ((?:[A-Za-z_][A-Za-z_0-9]{0,11})?) (0|[1-9][0-9]{0,3}) (0|[1-9][0-9]{0,3})$`)

// headByHand reads the head of a line.
func headByHand(line string) (name string, doc int, given int, ok bool) {
	m := headForm.FindStringSubmatch(line)
	if m == nil {
		return "", 0, 0, false
	}
	doc, _ = strconv.Atoi(m[2])
	given, _ = strconv.Atoi(m[3])
	return m[1], doc, given, doc <= impl.DocMax && given <= impl.JsonMax
}

// feedByHand is ConnFeed, just as the document says it.
func feedByHand(list []impl.Def, c impl.Conn, text string) (impl.Conn, string) {
	if c.Over {
		return c, ""
	}
	c.Buf += text
	told := ""
	for {
		end := strings.IndexByte(c.Buf, '\n')
		if end < 0 && len(c.Buf) <= impl.HeadMax {
			return c, told
		}
		name, doc, given, ok := headByHand(c.Buf[:max(end, 0)])
		if !ok || end > impl.HeadMax {
			return impl.Conn{Over: true, Nodes: c.Nodes}, told + "bad\n"
		}
		rest := c.Buf[end+1:]
		if len(rest) < doc+given {
			return c, told
		}
		nodes, answer := impl.Ask(list, c.Nodes, name, rest[:doc], rest[doc:doc+given])
		c = impl.Conn{Buf: rest[doc+given:], Nodes: nodes}
		told += answer + "\n"
	}
}

// feeds asks that a connection that takes a text is told the same, and is the same then, as by hand.
func feeds(t *testing.T, list []impl.Def, c impl.Conn, text string) (impl.Conn, string) {
	t.Helper()
	want, wantTold := feedByHand(list, c, text)
	got, told := impl.ConnFeed(list, c, text)
	if told != wantTold || !equal(got, want) {
		t.Fatalf("%q behind %q: told %q, not %q; left %q, %v, not %q, %v", text, c.Buf, told, wantTold, got.Buf, got.Over, want.Buf, want.Over)
	}
	isNew(t, text, got, c, list)
	return got, told
}

// feedsInPieces asks that a text that comes in pieces is answered as it is at once.
func feedsInPieces(t *testing.T, list []impl.Def, c impl.Conn, pieces ...string) {
	t.Helper()
	want, wantTold := impl.ConnFeed(list, c, strings.Join(pieces, ""))
	told := ""
	for _, p := range pieces {
		var more string
		c, more = impl.ConnFeed(list, c, p)
		told += more
	}
	if told != wantTold || !equal(c, want) {
		t.Fatalf("%q: told %q, not %q; left %q, %v, not %q, %v", pieces, told, wantTold, c.Buf, c.Over, want.Buf, want.Over)
	}
}

// someStreams is texts with several questions each, some with an end of all, some with a part of a question behind.
func someStreams() map[string]string {
	all := saidOnes()
	right, change, see, long := all[0].put(), all[12].put(), all[11].put(), all[8].put()
	return map[string]string{"one": right, "two": right + all[5].put(), "a change between": see + change + see, "newlines": long + right + long, "empty ones": all[1].put() + all[1].put() + all[2].put(), "a head in a document": all[14].put() + right,
		"a part of a head": right + "ask  3", "a head": right + "ask  3 0\n", "a part of a document": right + "ask  3 0\n{n", "a part of what is given": change + "ask  3 4\n{n}{}", "the end": right + "hello\n" + right, "the end at once": "\n" + right, "the end without a newline": change + strings.Repeat("x", impl.HeadMax+1) + right,
		"a newline too late": right + strings.Repeat("x", impl.HeadMax+3) + "\n" + right, "the end of a change": change + see + "ask  01 0\n" + see, "a wrong number": right + "ask  1501 0\n" + strings.Repeat("x", 30), "as long as a head": right + strings.Repeat("x", impl.HeadMax), "wrong questions": all[3].put() + all[4].put() + all[7].put() + see}
}

// P29: cut in two at every byte, and byte by byte.
func TestConnFeedInPieces(t *testing.T) {
	list, nodes := readSchema(t, sessionSchema), sessionNodes(t)
	for what, text := range someStreams() {
		c := impl.ConnNew(nodes)
		feeds(t, list, c, text)
		for i := range len(text) + 1 {
			feedsInPieces(t, list, c, text[:i], text[i:])
		}
		feedsInPieces(t, list, c, strings.Split(text, "")...)
		feedsInPieces(t, list, c, "", text, "", "")
		for i := range min(len(text), 60) {
			begun := impl.Conn{Buf: text[:i], Nodes: nodes}
			feedsInPieces(t, list, begun, strings.Split(text[i:], "")...)
			whole, told := impl.ConnFeed(list, c, text)
			if x, toldOf := feeds(t, list, begun, text[i:]); !equal(x, whole) || toldOf != told {
				t.Errorf("%s, with %d bytes there: told %q", what, i, toldOf)
			}
		}
	}
}

// P29, P30, P31, P43: texts made at random, in pieces at random, against ConnFeed by hand.
func TestConnFeedByHand(t *testing.T) {
	list, nodes := readSchema(t, sessionSchema), sessionNodes(t)
	r := rand.New(rand.NewSource(7))
	all := saidOnes()
	found := map[string]int{}
	for range 400 {
		text := ""
		for range 1 + r.Intn(6) {
			text += all[r.Intn(len(all))].put()
		}
		if r.Intn(3) == 0 {
			i := r.Intn(len(text))
			text = text[:i] + string("\n 0a9-"[r.Intn(6)]) + text[i+r.Intn(2):]
		}
		if r.Intn(4) == 0 {
			text = text[:r.Intn(len(text))]
		}
		c, told, all := impl.ConnNew(nodes), "", text
		for len(text) > 0 {
			n := 1 + r.Intn(min(len(text), 1+r.Intn(900)))
			var more string
			c, more = feeds(t, list, c, text[:n])
			text, told = text[n:], told+more
		}
		want, wantTold := feedByHand(list, impl.ConnNew(nodes), all)
		if told != wantTold || !equal(c, want) {
			t.Fatalf("%q: %q, not %q", all, told, wantTold)
		}
		found["lines"] += strings.Count(told, "\n")
		if c.Over {
			found["over"]++
		} else if c.Buf != "" {
			found["left"]++
		}
	}
	if found["lines"] < 800 || found["over"] < 50 || found["left"] < 20 {
		t.Errorf("too few: %v", found)
	}
}

// wrongHeads is lines that are no heads, each for another reason.
func wrongHeads() []string {
	return []string{"", "ask", "ask ", "ask  ", "ask   ", "hello", "Ask  3 0", "ASK  3 0", "asks  3 0", "as  3 0", "tell  3 0", " ask  3 0", "\task  3 0", "ask\t\t3\t0", "\x00ask  3 0",
		"ask 1 3 0", "ask 1a 3 0", "ask a-b 3 0", "ask a.b 3 0", "ask \xe4 3 0", "ask abcdefghijklm 3 0", "ask - 3 0", "ask $a 3 0", "ask a! 3 0", "ask \"a\" 3 0",
		"ask 3 0", "ask a 3", "ask  3", "ask  3 ", "ask a3 0", "ask a 30", "ask  3  0", "ask   3 0", "ask a  3 0", "ask  a 3 0", "ask  3 0 ", "ask  3 0\r", "ask  3 0\t", "ask  3 0 0", "ask  3 0x", "ask  3 0,", "ask  3,0",
		"ask  03 0", "ask  3 00", "ask  00 0", "ask  3 01", "ask  0003 0", "ask   0", "ask a  ", "ask  x 0", "ask  3 x", "ask  3x 0", "ask  0x3 0", "ask  3.0 0", "ask  3 0.", "ask  1e1 0", "ask  1_0 0", "ask  \xd9\xa3 0",
		"ask  12345 0", "ask  3 12345", "ask  00003 0", "ask  10000 0", "ask  3 99999", "ask  1501 0", "ask  3 2001", "ask  9999 0", "ask  3 9999", "ask  2000 0", "ask  99999999999999999999 0", "ask  3 18446744073709551616",
		"ask  +3 0", "ask  -3 0", "ask  3 -0", "ask  3 +0", "ask  3 -1", "ask  -1 0"}
}

// isOver asks that a connection told something, and is over then, with nodes, and that nothing is answered any more.
func isOver(t *testing.T, list []impl.Def, nodes []impl.Node, text string, want string) {
	t.Helper()
	c, told := impl.ConnFeed(list, impl.ConnNew(nodes), text)
	if told != want || !c.Over || c.Buf != "" || !equal(c.Nodes, nodes) {
		t.Errorf("%q: told %q, left %q, %v", text, told, c.Buf, c.Over)
	}
	for _, more := range []string{"", "\n", text, saidOnes()[0].put()} {
		if again, told := impl.ConnFeed(list, c, more); told != "" || !equal(again, c) {
			t.Errorf("%q and then %q: told %q", text, more, told)
		}
	}
}

// P30: each way in which a line is no head; at once, behind questions, with bytes behind.
func TestConnFeedOfNoHead(t *testing.T) {
	list, nodes := readSchema(t, sessionSchema), sessionNodes(t)
	right := saidOnes()[0].put()
	for _, line := range wrongHeads() {
		if len(line) > impl.HeadMax {
			t.Fatalf("%q is too long", line)
		}
		isOver(t, list, nodes, line+"\n", "bad\n")
		isOver(t, list, nodes, line+"\n{n}"+right+"hello\n", "bad\n")
		isOver(t, list, nodes, right+right+line+"\n"+right, strings.Repeat("{\"data\":{\"n\":7}}\n", 2)+"bad\n")
		if c, told := impl.ConnFeed(list, impl.ConnNew(nodes), line); told != "" || c.Over || c.Buf != line || !equal(c.Nodes, nodes) {
			t.Errorf("%q without a newline: told %q, left %q", line, told, c.Buf)
		}
		isOver(t, nil, nil, line+"\n", "bad\n")
	}
}

// P30: heads that are right, up to the limits: nothing is told until all is there.
func TestConnFeedOfHeads(t *testing.T) {
	list, nodes := readSchema(t, sessionSchema), sessionNodes(t)
	for _, c := range []struct {
		line string
		size int
	}{{"ask  0 0", 0}, {"ask  1 0", 1}, {"ask  0 1", 1}, {"ask a 9 0", 9}, {"ask _ 10 99", 109}, {"ask A1_ 100 999", 1099}, {"ask abcdefghijkl 1500 2000", 3500}, {"ask  1499 1999", 3498}, {"ask  1000 0", 1000}, {"ask  0 2000", 2000}, {"ask ask 3 0", 3}} {
		for _, n := range []int{0, 1, c.size / 2, c.size - 1} {
			if n < 0 || n >= c.size {
				continue
			}
			text := c.line + "\n" + strings.Repeat("x", n)
			if x, told := feeds(t, list, impl.ConnNew(nodes), text); told != "" || x.Over || x.Buf != text {
				t.Errorf("%s and %d bytes: told %q", c.line, n, told)
			}
		}
		for _, more := range []string{"", "a", "ask  3 0\n", "\n"} {
			x, told := feeds(t, list, impl.ConnNew(nodes), c.line+"\n"+strings.Repeat("x", c.size)+more)
			if !strings.HasPrefix(told, "{\"error\":\"form\",\"code\":0}\n") || more != "\n" && (x.Buf != more || x.Over) || more == "\n" && (x.Buf != "" || !x.Over) {
				t.Errorf("%s and %q behind: told %q, left %q", c.line, more, told, x.Buf)
			}
		}
	}
}

// P30: as many bytes as a head has at most, and more, with a newline and without.
func TestConnFeedOfLongHeads(t *testing.T) {
	list, nodes := readSchema(t, sessionSchema), sessionNodes(t)
	for _, begin := range []string{"", "ask  3 0", "ask abcdefghijkl 1500 2000", "ask  "} {
		for _, fill := range []string{"x", " ", "0", "\x00", "\xff"} {
			full := begin + strings.Repeat(fill, impl.HeadMax-len(begin))
			for n := len(begin); n <= impl.HeadMax; n++ {
				if c, told := impl.ConnFeed(list, impl.ConnNew(nodes), full[:n]); told != "" || c.Over || c.Buf != full[:n] {
					t.Errorf("%q: told %q", full[:n], told)
				}
			}
			for _, more := range []string{"\n", fill, fill + "\n", fill + fill + "\n", strings.Repeat(fill, 5000), strings.Repeat(fill, 5000) + "\n" + saidOnes()[0].put()} {
				isOver(t, list, nodes, full+more, "bad\n")
				feedsInPieces(t, list, impl.ConnNew(nodes), full, more)
			}
		}
	}
	for _, text := range []string{strings.Repeat("x", impl.HeadMax+1), "hello\n", "hello\n{n}"} {
		c := impl.Conn{Buf: text, Nodes: nodes}
		if x, told := feeds(t, list, c, ""); told != "bad\n" || !x.Over || x.Buf != "" {
			t.Errorf("%q is there: told %q", text, told)
		}
	}
}

// P30: a connection that is over stays as it is, whatever it is.
func TestConnFeedOfWhatIsOver(t *testing.T) {
	fine, right := readSchema(t, sessionSchema), saidOnes()[0].put()
	for _, buf := range []string{"", "a", right, "\n", strings.Repeat("x", 100), "hello\n"} {
		for what, nodes := range wrongStores(t) {
			if strings.HasPrefix(what, "endless") {
				continue
			}
			c := impl.Conn{Buf: buf, Over: true, Nodes: nodes}
			for _, text := range []string{"", right, "hello\n", "\n"} {
				got, told := impl.ConnFeed(fine, c, text)
				if told != "" || !equal(got, c) {
					t.Errorf("%q, %s: told %q, left %q", buf, what, told, got.Buf)
				}
				isNew(t, what, got, c)
			}
		}
	}
}

// P31: how a question is written.
func TestAskPut(t *testing.T) {
	for want, s := range map[string]said{"ask  3 0\n{n}": {"", "{n}", ""}, "ask  0 0\n": {}, "ask a 0 0\n": {name: "a"}, "ask abcdefghijkl 12 2\nquery a{x:n}{}": {"abcdefghijkl", "query a{x:n}", "{}"}, "ask _1 1 3\n\n\n\n\n": {"_1", "\n", "\n\n\n"}, "ask  0 4\n{\"\xff\"": {"", "", "{\"\xff\""}, "ask  0 2\n{}": {"", "", "{}"},
		"ask on 11 0\n\xe4\x00ask  3 0\n": {"on", "\xe4\x00ask  3 0\n", ""}} {
		if got := s.put(); got != want {
			t.Errorf("%q", got)
		}
	}
	doc, given := strings.Repeat("d", impl.DocMax), strings.Repeat("g", impl.JsonMax)
	for _, name := range []string{"", "abcdefghijkl"} {
		if got := impl.AskPut(name, doc, given); got != "ask "+name+" 1500 2000\n"+doc+given {
			t.Errorf("%d bytes", len(got))
		}
		for _, s := range []said{{name, doc + "d", given}, {name, doc, given + "g"}, {name, doc + doc, ""}, {name, "", given + "g"}, {name, doc + "d", given + "g"}} {
			if got := s.put(); got != "" {
				t.Errorf("%d and %d bytes: %d", len(s.doc), len(s.given), len(got))
			}
		}
	}
	for _, name := range []string{"1", "1a", "a b", " ", "-", "abcdefghijklm", "a\n", "\xe4", "$a", "a.b", "\x00"} {
		if got := impl.AskPut(name, "{n}", ""); got != "" {
			t.Errorf("%q: %q", name, got)
		}
	}
}

// P31: a connection to nodes, of whatever form, has nothing else.
func TestConnNew(t *testing.T) {
	all := wrongStores(t)
	delete(all, "endless")
	all["right ones"] = sessionNodes(t)
	shared := list(num(1), list(num(2)))
	all["shared lists"] = []impl.Node{{Cells: tree("a b", shared, shared)}, {Cells: shared}}
	for what, nodes := range all {
		wide, stays := roomy(nodes)
		c := impl.ConnNew(wide)
		if c.Buf != "" || c.Over || !equal(c.Nodes, nodes) || !stays() {
			t.Errorf("%s: %q, %v", what, c.Buf, c.Over)
		}
		isNew(t, what, c, wide)
	}
}

// P31: a question is answered as by itself, and nothing is left.
func TestConnFeedOfAskPut(t *testing.T) {
	list, nodes := readSchema(t, sessionSchema), sessionNodes(t)
	kinds := map[string]int{}
	for _, s := range saidOnes() {
		after, answer := impl.Ask(list, nodes, s.name, s.doc, s.given)
		wideList, listStays := roomy(list)
		wideConn, connStays := roomy(impl.ConnNew(nodes))
		c, told := impl.ConnFeed(wideList, wideConn, s.put())
		if told != answer+"\n" || c.Buf != "" || c.Over || !equal(c.Nodes, after) || !listStays() || !connStays() {
			t.Errorf("%q: told %q, not %q; left %q", s, told, answer, c.Buf)
		}
		isNew(t, s.doc, c, wideConn, wideList)
		kinds[answer[:7]]++
	}
	if kinds[`{"data"`] < 6 || kinds[`{"error`] < 6 {
		t.Errorf("%v", kinds)
	}
}

// P43: two and three questions one behind the other, and a change that is seen.
func TestConnFeedOfSeveral(t *testing.T) {
	list, nodes := readSchema(t, sessionSchema), sessionNodes(t)
	all := saidOnes()
	several := func(some ...said) {
		t.Helper()
		text, want, left := "", "", nodes
		for _, s := range some {
			var answer string
			left, answer = impl.Ask(list, left, s.name, s.doc, s.given)
			text, want = text+s.put(), want+answer+"\n"
		}
		c, told := impl.ConnFeed(list, impl.ConnNew(nodes), text)
		if told != want || !equal(c, impl.Conn{Nodes: left}) {
			t.Errorf("%q: told %q, not %q; left %q", some, told, want, c.Buf)
		}
	}
	several()
	for i, a := range all {
		for j, b := range all {
			several(a, b)
			several(a, b, all[(i+3*j)%len(all)])
		}
	}
	several(append(append([]said{}, all...), all...)...)
	_, told := impl.ConnFeed(list, impl.ConnNew(nodes), impl.AskPut("", "{all{age}}", "")+all[12].put()+impl.AskPut("", "{all{age}}", ""))
	if want := "{\"data\":{\"all\":[{\"age\":30},{\"age\":null}]},\"errors\":[{\"path\":\"all.1.age\",\"code\":1}]}\n{\"data\":{\"set\":{\"name\":\"bob\",\"age\":5}}}\n{\"data\":{\"all\":[{\"age\":30},{\"age\":5}]}}\n"; told != want {
		t.Errorf("a change: %s", told)
	}
}

// P31, P43: by a schema or of nodes that are wrong each question has the error for it, and nodes are as they are.
func TestConnFeedOfAWrongServer(t *testing.T) {
	fine, nodes := readSchema(t, sessionSchema), sessionNodes(t)
	refuses := func(what string, list []impl.Def, nodes []impl.Node) {
		t.Helper()
		c := impl.Conn{Nodes: nodes}
		for _, s := range saidOnes() {
			x, told := impl.ConnFeed(list, c, s.put()+s.put()+"ask")
			if told != strings.Repeat("{\"error\":\"server\",\"code\":0}\n", 2) || !equal(x, impl.Conn{Buf: "ask", Nodes: nodes}) {
				t.Errorf("%s: told %q, left %q", what, told, x.Buf)
			}
			isNew(t, what, x, c)
		}
		feeds(t, list, c, saidOnes()[0].put()+"hello\n")
	}
	for _, list := range wrongSchemas(t, fine) {
		refuses("a schema that is not fine", list, nodes)
	}
	for what, x := range wrongStores(t) {
		if !strings.HasPrefix(what, "endless") {
			refuses(what, fine, x)
		}
	}
	for _, typ := range []string{"Kind", "Thing", "In", "None", "Int"} {
		x := sessionNodes(t)
		x[4].Type = typ
		refuses(typ, fine, x)
	}
}

// P31: nodes that hold themselves, or are very many, do not hold it up, however many questions come.
func TestConnOfNodesThatHoldThemselves(t *testing.T) {
	fine := readSchema(t, sessionSchema)
	text := strings.Repeat(saidOnes()[0].put(), 500)
	for i, v := range []impl.Value{ring(1, 2, 3), endless(2), twofold(num(1), 200), nested(num(1), 1<<16), list(make([]impl.Value, 1<<18)...)} {
		c := impl.ConnNew([]impl.Node{{Id: -3, Type: "x", Cells: v}})
		for _, over := range []bool{false, true} {
			c.Over = over
			x, told := impl.ConnFeed(fine, c, text)
			if strings.Count(told, "server") != 500 && !over || told != "" && over || !impl.ValueSame(x.Nodes[0].Cells, v) || &x.Nodes[0].Cells.List[0] == &c.Nodes[0].Cells.List[0] {
				t.Errorf("%d, over %v: %d bytes", i, over, len(told))
			}
		}
	}
}

// P31, P43: very many questions at once, and very many bytes behind the end.
func TestConnFeedOfVeryMany(t *testing.T) {
	list, nodes := readSchema(t, sessionSchema), sessionNodes(t)
	const count = 3000
	c, told := impl.ConnFeed(list, impl.ConnNew(nodes), strings.Repeat(saidOnes()[0].put(), count)+"ask")
	if told != strings.Repeat("{\"data\":{\"n\":7}}\n", count) || c.Buf != "ask" {
		t.Errorf("%d bytes, left %q", len(told), c.Buf)
	}
	if c, told = impl.ConnFeed(list, c, "\n"+strings.Repeat(saidOnes()[0].put(), 1<<16)); told != "bad\n" || c.Buf != "" || !c.Over {
		t.Errorf("%d bytes", len(told))
	}
}

// P29, P43: many connections at a time are told what one is; when they are told, nobody works on for them.
func TestConnFeedAtATime(t *testing.T) {
	fine, nodes := readSchema(t, sessionSchema), sessionNodes(t)
	c := impl.ConnNew(nodes)
	for what, text := range someStreams() {
		want, wantTold := impl.ConnFeed(fine, c, text)
		atATime(t, func() {
			if got, told := impl.ConnFeed(fine, c, text); told != wantTold || !equal(got, want) {
				t.Errorf("%s: told %q, not %q", what, told, wantTold)
			}
		})
	}
}

// atATime does the same many times at a time; behind that nobody works on for it.
func atATime(t *testing.T, do func()) {
	t.Helper()
	before := runtime.NumGoroutine()
	var all sync.WaitGroup
	for range 20 {
		all.Go(do)
	}
	all.Wait()
	for wait := 0; runtime.NumGoroutine() > before && wait < 100; wait++ {
		time.Sleep(10 * time.Millisecond)
	}
	if now := runtime.NumGoroutine(); now > before {
		t.Errorf("%d more still work", now-before)
	}
}
