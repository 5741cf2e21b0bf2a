package tests

import (
	"math/rand"
	"slices"
	"strconv"
	"strings"
	"testing"

	"loop.example/pergola/impl"
)

// sessionMax is how many lines of a session are answered at most.
const sessionMax = 30

// sessionByHand is Session, line by line, by Ask.
func sessionByHand(t *testing.T, lines []string) string {
	t.Helper()
	list, nodes := readSchema(t, sessionSchema), sessionNodes(t)
	out := ""
	for i, line := range lines {
		if i == sessionMax {
			break
		}
		name, rest, one := strings.Cut(line, " ")
		given, doc, two := strings.Cut(rest, " ")
		if !one || !two {
			out += "what\n"
			continue
		}
		if name == "-" {
			name = ""
		}
		if given == "-" {
			given = ""
		}
		var answer string
		nodes, answer = impl.Ask(list, nodes, name, doc, given)
		out += answer + "\n"
	}
	return out
}

// answersLines asks for the answers of a session, each without its newline.
func answersLines(t *testing.T, lines []string, want ...string) {
	t.Helper()
	wide, stays := roomy(lines)
	got := impl.Session(wide)
	if got != sessionByHand(t, lines) || got != strings.Join(want, "\n")+strings.Repeat("\n", min(len(want), 1)) || !stays() {
		t.Errorf("%q: %s", lines, got)
	}
	if again := impl.Session(lines); again != got {
		t.Errorf("%q again: %s", lines, again)
	}
}

// P34: the example of chapter 7.
func TestSessionOfTheExample(t *testing.T) {
	answersLines(t, []string{"- - {me{name age pet{name}}}", "- - {n words all(first:1){name}}", "- - {all{name age friends{name}}}", `- {"k":"DOG"} query($k:Kind){find(kind:$k){__typename ... on Pet{name owner{name}}}}`, `- - mutation{set(id:3,cell:"age",value:5){name age}}`, "- - {all{age}}",
		`- - mutation{set(id:2,cell:"name",value:5){name}}`, "- - {me{name}}", "- - {none}", "zz - {n}", "- - {n", "what"},
		`{"data":{"me":{"name":"ann","age":30,"pet":{"name":"rex"}}}}`, `{"data":{"n":7,"words":[["a","b"],null],"all":[{"name":"ann"}]}}`,
		`{"data":{"all":[{"name":"ann","age":30,"friends":[{"name":"bob"},null]},{"name":"bob","age":null,"friends":[{"name":"ann"},null]}]},"errors":[{"path":"all.1.age","code":1},{"path":"all.1.friends.1","code":1}]}`,
		`{"data":{"find":{"__typename":"Pet","name":"rex","owner":{"name":"ann"}}}}`, `{"data":{"set":{"name":"bob","age":5}}}`, `{"data":{"all":[{"age":30},{"age":5}]}}`, `{"data":{"set":null},"errors":[{"path":"set.name","code":1}]}`,
		`{"data":null,"errors":[{"path":"me.name","code":1}]}`, `{"error":"check","code":4}`, `{"error":"run","code":2}`, `{"error":"form","code":0}`, "what")
}

// P34: all that the schema and the nodes of a session have.
func TestSessionHasItsSchemaAndNodes(t *testing.T) {
	answersLines(t, []string{"- - {me{__typename name age kind pet{name owner{name}} friends{name}}}", "- - {find(id:1){... on Person{name} ... on Pet{name}} a:find(id:\"x\",kind:DOG){__typename}}", "- - mutation{n __typename set(id:4,cell:\"x\"){name}}", "- - {all(first:null){kind name}}",
		"- - {find(kind:BIRD){__typename}}", "- - {all(first:\"1\"){name}}", "- - query($i:In){n}", `- - query($i:In={a:1,b:["x"],c:{a:2}}){find(id:$i){__typename}}`, `- - query($i:In={b:["x"]}){find(id:$i){__typename}}`, `- {"k":"BIRD"} query($k:Kind!){find(kind:$k){__typename}}`},
		`{"data":{"me":{"__typename":"Person","name":"ann","age":30,"kind":"CAT","pet":{"name":"rex","owner":{"name":"ann"}},"friends":[{"name":"bob"},null]}}}`, `{"data":{"find":{"name":"rex"},"a":{"__typename":"Pet"}}}`, `{"data":{"n":1,"__typename":"Mutation","set":null}}`,
		`{"data":{"all":[{"kind":"CAT","name":"ann"},{"kind":null,"name":"bob"}]}}`, `{"error":"check","code":5}`, `{"error":"check","code":5}`, `{"error":"check","code":6}`, `{"error":"check","code":5}`, `{"error":"check","code":6}`, `{"error":"run","code":3}`)
}

// P34: each line has an answer, thirty at most.
func TestSessionOfManyLines(t *testing.T) {
	answersLines(t, nil)
	answersLines(t, []string{})
	for _, count := range []int{1, 2, 29, 30, 31, 32, 60, 5000} {
		answersLines(t, times(count, "- - {n}"), times(min(count, sessionMax), `{"data":{"n":7}}`)...)
		answersLines(t, times(count, ""), times(min(count, sessionMax), "what")...)
	}
	var lines, want []string
	for i := range sessionMax + 2 {
		lines = append(lines, `- - mutation{set(id:2,cell:"age",value:`+strconv.Itoa(i)+"){age}}")
		want = append(want, `{"data":{"set":{"age":`+strconv.Itoa(i)+"}}}")
	}
	answersLines(t, lines, want[:sessionMax]...)
}

// P34: lines with fewer than two blanks, and with more.
func TestSessionOfBlanks(t *testing.T) {
	form, fine := `{"error":"form","code":0}`, `{"data":{"n":7}}`
	for line, want := range map[string]string{"": "what", "what": "what", "-": "what", " ": "what", "- ": "what", " -": "what", "- -": "what", "-\t-\t{n}": "what", "-\n-\n{n}": "what", "{n}": "what", "- {n}": "what", "\n": "what",
		"  ": form, "- - ": form, " - ": form, "- - -": form, "  {n}": fine, "-  {n}": fine, " - {n}": fine, "- - {n}": fine, "- -  {n}": fine, "- -   { n } ": fine, "- {} {n}": fine, "- - query a{n}": fine, "a - query a{n}": fine, "a {} query a {n} # a note": fine, "- - {\nn\n}\n": fine, "a - query a{n} query b{n}": fine,
		"-  - {n}": form, " - - {n}": form, "- { } {n}": form, "- null {n}": form, "- -- {n}": form, "- 5 {n}": form, "- [] {n}": form, "-- - {n}": `{"error":"run","code":2}`, "1 - {n}": `{"error":"run","code":2}`, "a - {n}": `{"error":"run","code":2}`, "- - query a{n} query b{n}": `{"error":"run","code":2}`, "\xff \xff \xff": form,
		"- - {n}" + strings.Repeat(" ", impl.DocMax-3): fine, "- - {n}" + strings.Repeat(" ", impl.DocMax-2): form} {
		answersLines(t, []string{line}, want)
		answersLines(t, []string{line, line, "- - {n}"}, want, want, fine)
	}
}

// P34: later lines see a change; a line that goes wrong leaves nodes as they were.
func TestSessionOfChanges(t *testing.T) {
	see, change := "- - {all{age}}", func(n int) string { return `- - mutation{set(id:3,cell:"age",value:` + strconv.Itoa(n) + "){age}}" }
	first := `{"data":{"all":[{"age":30},{"age":null}]},"errors":[{"path":"all.1.age","code":1}]}`
	wrong := []string{"what", "- - mutation{set(id:3,cell:\"age\",value:6){age}", "- 5 mutation{set(id:3,cell:\"age\",value:6){age}}", "zz - mutation{set(id:3,cell:\"age\",value:6){age}}", "- - mutation{set(id:3,cell:\"age\",value:6){none}}", "- - mutation{set(id:3,cell:\"age\",value:\"x\"){age}}", "- {\"v\":\"x\"} mutation($v:Int){set(id:3,cell:\"age\",value:$v){age}}"}
	refusals := []string{"what", `{"error":"form","code":0}`, `{"error":"form","code":0}`, `{"error":"run","code":2}`, `{"error":"check","code":4}`, `{"error":"check","code":5}`, `{"error":"run","code":3}`}
	for i, line := range wrong {
		answersLines(t, []string{see, line, see, change(5), line, see, change(7), line, line, see}, first, refusals[i], first, `{"data":{"set":{"age":5}}}`, refusals[i], `{"data":{"all":[{"age":30},{"age":5}]}}`, `{"data":{"set":{"age":7}}}`, refusals[i], refusals[i], `{"data":{"all":[{"age":30},{"age":7}]}}`)
	}
	answersLines(t, []string{see}, first)
	answersLines(t, []string{`- {"v":1} mutation($v:Int){a:set(id:0,cell:"n",value:$v){name} b:set(id:1,cell:"n",value:2){name}}`, "- - {n}", "- - mutation{n}"}, `{"data":{"a":null,"b":null},"errors":[{"path":"a","code":1},{"path":"b","code":1}]}`, `{"data":{"n":1}}`, `{"data":{"n":2}}`)
}

// P34: sessions made at random have an answer for each line, as by hand.
func TestSessionByHand(t *testing.T) {
	r := rand.New(rand.NewSource(3))
	parts := []string{"-", "-", "-", "a", "zz", "", "{}", `{"n":1}`, "5", "{n}", "{n all{name age}}", "query a{me{name age}}", "query($n:Int){all(first:$n){age}}", `mutation{set(id:2,cell:"age",value:1){age}}`, `mutation a{set(id:3,cell:"name",value:1){age}}`, `mutation($n:Int){set(id:0,cell:"n",value:$n){age}}`, "{none}"}
	for range 300 {
		var lines []string
		for range r.Intn(36) {
			line := []string{parts[r.Intn(5)], parts[[]int{0, 5, 6, 7, 8}[r.Intn(5)]], parts[9+r.Intn(8)]}
			if r.Intn(8) == 0 {
				line = slices.Delete(line, 1, 2)
			}
			lines = append(lines, strings.Join(line, " "))
		}
		got := impl.Session(lines)
		if want := sessionByHand(t, lines); got != want || strings.Count(got, "\n") != min(len(lines), sessionMax) {
			t.Fatalf("%q:\n%s, not\n%s", lines, got, want)
		}
	}
}
