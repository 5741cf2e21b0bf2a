// Package impl: a server that is asked by shape.
package impl

import (
	"math"
	"slices"
	"strconv"
	"strings"
)

// Limits of values.
const (
	TextMax = 40
	ListMax = 12
	DeepMax = 6
	NumMax  = 2147483647
	JsonMax = 2000
)

// Kinds of values.
const (
	IsNull = 0
	IsBool = 1
	IsNum  = 2
	IsText = 3
	IsList = 4
	IsTree = 5
	IsVar  = 6
	IsWord = 7
)

// Value is nothing, yes or no (Num 1 or 0), a number, a text, a list, or a tree of values by names; in questions a variable, or a word, too.
type Value struct {
	Kind  int
	Num   int
	Text  string
	List  []Value
	Names []string
}

// ValueOk says whether a value is ok, as one of an answer.
func ValueOk(v Value) bool {
	_, ok := formOf(v, DeepMax, false)
	return ok
}

// ValueSame says whether two values are the same.
func ValueSame(a Value, b Value) bool {
	seen := map[[2]place]int{}
	work := [][2][]Value{{{a}, {b}}}
	for len(work) > 0 {
		last := len(work) - 1
		lists := work[last]
		work = work[:last]
		for i, x := range lists[0] {
			y := lists[1][i]
			if !sameOutside(x, y) {
				return false
			}
			if len(x.List) == 0 {
				continue
			}
			both := [2]place{placeOf(x.List), placeOf(y.List)}
			seen[both]++
			if seen[both] == 1 {
				work = append(work, [2][]Value{x.List, y.List})
			}
		}
	}
	return true
}

// sameOutside holds two values against each other without what is within.
func sameOutside(a Value, b Value) bool {
	return a.Kind == b.Kind && a.Num == b.Num && a.Text == b.Text &&
		len(a.List) == len(b.List) && slices.Equal(a.Names, b.Names)
}

// place is where a list lies. A list may be within many values, or within itself: by its place it is walked through only once.
type place struct {
	first *Value
	size  int
}

// placeOf is the place of a list that is not empty.
func placeOf(list []Value) place {
	return place{&list[0], len(list)}
}

// endless is how deep a value is that holds itself.
const endless = math.MaxInt

// ValueDeep is how deep a value is: 1 if it has none within.
func ValueDeep(v Value) int {
	return measured(v, func(most int, within int) int { return max(most, within+1) })
}

// measured is a measure of a list of the value alone: from 0 on, join takes the measure of the list within each value to that of all ahead of it. It is endless of a value that holds itself.
func measured(v Value, join func(ahead int, within int) int) int {
	w := measurer{join: join, path: []step{{list: []Value{v}}}, known: map[place]int{}}
	for {
		top := &w.path[len(w.path)-1]
		if top.at < len(top.list) {
			within := top.list[top.at].List
			top.at++
			if !w.enter(within) {
				return endless
			}
			continue
		}
		if len(w.path) == 1 {
			return top.measure
		}
		w.leave()
	}
}

// measurer walks through lists within lists, without calling itself: they may be deeper than a stack is.
type measurer struct {
	join  func(ahead int, within int) int
	path  []step
	known map[place]int
}

// step is a list of the path, up to where it is walked through, and its measure up to there, which is above 0 from the first value on.
type step struct {
	list    []Value
	at      int
	measure int
}

// onPath is known of a list that is walked through just now, in the place of its measure.
const onPath = -1

// enter takes a list that is within the last one of the path; false, if it is within itself.
func (w *measurer) enter(within []Value) bool {
	if len(within) == 0 {
		w.found(0)
		return true
	}
	at := placeOf(within)
	switch measure := w.known[at]; measure {
	case 0:
		w.known[at] = onPath
		w.path = append(w.path, step{list: within})
	case onPath:
		return false
	default:
		w.found(measure)
	}
	return true
}

// leave tells the measure of the last list of the path, which is not the first, and goes back.
func (w *measurer) leave() {
	last := w.path[len(w.path)-1]
	w.path = w.path[:len(w.path)-1]
	w.known[placeOf(last.list)] = last.measure
	w.found(last.measure)
}

// found takes down that a value of the last list of the path has a list of that measure.
func (w *measurer) found(within int) {
	top := &w.path[len(w.path)-1]
	top.measure = w.join(top.measure, within)
}

// unsharedMax is how many values are copied each by itself: a list may be within a value so often that nothing could hold it as often.
const unsharedMax = 1 << 20

// copied is a value of any form, in new memory. Its lists share none of it, but where there would be more than unsharedMax values: then what was one list is one.
func copied(v Value) Value {
	shares := measured(v, func(ahead int, within int) int { return min(ahead+within+1, unsharedMax+1) }) > unsharedMax
	copies := map[place][]Value{}
	whole := []Value{v}
	work := [][]Value{whole}
	for len(work) > 0 {
		list := work[len(work)-1]
		work = work[:len(work)-1]
		for i := range list {
			from := list[i].List
			list[i].List, list[i].Names = nil, slices.Clone(list[i].Names)
			if len(from) == 0 {
				continue
			}
			known, ok := copies[placeOf(from)]
			if ok && shares {
				list[i].List = known
				continue
			}
			list[i].List = slices.Clone(from)
			copies[placeOf(from)] = list[i].List
			work = append(work, list[i].List)
		}
	}
	return whole[0]
}

// JsonPut writes a value.
func JsonPut(v Value) string {
	f, ok := formOf(v, DeepMax, false)
	if !ok {
		return ""
	}
	var b strings.Builder
	writeForm(&b, f, false)
	return b.String()
}

// JsonGet reads a value.
func JsonGet(text string) (Value, bool) {
	if len(text) > JsonMax {
		return Value{}, false
	}
	r := jsonReader{text: text}
	f, ok := r.readForm()
	r.passBlanks()
	if !ok || r.at < len(text) {
		return Value{}, false
	}
	v := f.value()
	if !ValueOk(v) {
		return Value{}, false
	}
	return v, true
}

// TreeGet is the value of a name.
func TreeGet(v Value, name string) (Value, bool) {
	f, ok := formOf(v, DeepMax, false)
	if !ok {
		return Value{}, false
	}
	within, ok := formWithin(f, name)
	if !ok {
		return Value{}, false
	}
	return within.value(), true
}

// isName says whether a text is a name.
func isName(text string) bool {
	if len(text) < 1 || len(text) > 12 || isFigure(text[0]) {
		return false
	}
	for i := range len(text) {
		if !isNameByte(text[i]) {
			return false
		}
	}
	return true
}

func isNameOrNone(text string) bool {
	return text == "" || isName(text)
}

func isFigure(c byte) bool {
	return '0' <= c && c <= '9'
}

func isNameByte(c byte) bool {
	return isFigure(c) || 'a' <= c && c <= 'z' || 'A' <= c && c <= 'Z' || c == '_'
}

// namesOnce says whether all are names, each there once.
func namesOnce(names []string) bool {
	for i, name := range names {
		if !isName(name) || slices.Contains(names[:i], name) {
			return false
		}
	}
	return true
}

// form is a value by its kind: each type has just what its kind has, so a form is right in all but its limits.
type form interface {
	// value is the form as a value, in new memory.
	value() Value
}

type (
	nullForm struct{}
	boolForm bool
	numForm  int
	textForm string
	listForm []form
	treeForm []branch
	varForm  string
	wordForm string
)

// branch is one name of a tree, and what it leads to.
type branch struct {
	name string
	form form
}

func (f nullForm) value() Value { return Value{Kind: IsNull} }

func (f boolForm) value() Value {
	if f {
		return Value{Kind: IsBool, Num: 1}
	}
	return Value{Kind: IsBool}
}

func (f numForm) value() Value  { return Value{Kind: IsNum, Num: int(f)} }
func (f textForm) value() Value { return Value{Kind: IsText, Text: string(f)} }
func (f varForm) value() Value  { return Value{Kind: IsVar, Text: string(f)} }
func (f wordForm) value() Value { return Value{Kind: IsWord, Text: string(f)} }

func (f listForm) value() Value {
	v := Value{Kind: IsList, List: make([]Value, len(f))}
	for i, x := range f {
		v.List[i] = x.value()
	}
	return v
}

func (f treeForm) value() Value {
	v := Value{Kind: IsTree, List: make([]Value, len(f)), Names: make([]string, len(f))}
	for i, x := range f {
		v.Names[i], v.List[i] = x.name, x.form.value()
	}
	return v
}

// formWithin is what a name of a form leads to, if it is a tree and has it.
func formWithin(f form, name string) (form, bool) {
	tree, _ := f.(treeForm)
	i := tree.indexOf(name)
	if i < 0 {
		return nil, false
	}
	return tree[i].form, true
}

// indexOf is the place of a name; below 0, if the tree has it not.
func (f treeForm) indexOf(name string) int {
	return slices.IndexFunc(f, func(b branch) bool { return b.name == name })
}

// formOf is the form of a value that fits in so many, with variables and words if it is of a question, and whether it does.
func formOf(v Value, deep int, asked bool) (form, bool) {
	if deep < 1 || !hasJustItsParts(v) {
		return nil, false
	}
	switch v.Kind {
	case IsNull:
		return nullForm{}, true
	case IsBool:
		return boolForm(v.Num == 1), v.Num == 0 || v.Num == 1
	case IsNum:
		return numForm(v.Num), -NumMax <= v.Num && v.Num <= NumMax
	case IsText:
		return textForm(v.Text), len(v.Text) <= TextMax
	case IsList:
		return listFormOf(v, deep, asked)
	case IsTree:
		return treeFormOf(v, deep, asked)
	case IsVar:
		return varForm(v.Text), asked && isName(v.Text)
	case IsWord:
		return wordForm(v.Text), asked && isName(v.Text)
	}
	return nil, false
}

// hasJustItsParts says whether all parts that a value's kind does not have are 0 or empty.
func hasJustItsParts(v Value) bool {
	hasNum := v.Kind == IsBool || v.Kind == IsNum
	hasText := v.Kind == IsText || v.Kind == IsVar || v.Kind == IsWord
	hasList := v.Kind == IsList || v.Kind == IsTree
	hasNames := v.Kind == IsTree
	return (hasNum || v.Num == 0) && (hasText || v.Text == "") &&
		(hasList || len(v.List) == 0) && (hasNames || len(v.Names) == 0)
}

func listFormOf(v Value, deep int, asked bool) (listForm, bool) {
	if len(v.List) > ListMax {
		return nil, false
	}
	list := make(listForm, len(v.List))
	for i, x := range v.List {
		f, ok := formOf(x, deep-1, asked)
		if !ok {
			return nil, false
		}
		list[i] = f
	}
	return list, true
}

func treeFormOf(v Value, deep int, asked bool) (treeForm, bool) {
	list, ok := listFormOf(v, deep, asked)
	if !ok || len(v.Names) != len(list) || !namesOnce(v.Names) {
		return nil, false
	}
	tree := make(treeForm, len(list))
	for i, f := range list {
		tree[i] = branch{v.Names[i], f}
	}
	return tree, true
}

// writeForm writes a form: as JsonPut does, or as one of a question, where names of trees have no quotes.
func writeForm(b *strings.Builder, f form, asked bool) {
	switch x := f.(type) {
	case nullForm:
		b.WriteString("null")
	case boolForm:
		b.WriteString(strconv.FormatBool(bool(x)))
	case numForm:
		b.WriteString(strconv.Itoa(int(x)))
	case textForm:
		writeText(b, string(x))
	case varForm:
		b.WriteString("$" + string(x))
	case wordForm:
		b.WriteString(string(x))
	case listForm:
		writeAll(b, "[]", ",", x, func(within form) {
			writeForm(b, within, asked)
		})
	case treeForm:
		writeAll(b, "{}", ",", x, func(within branch) {
			writeBranch(b, within, asked)
		})
	}
}

func writeBranch(b *strings.Builder, x branch, asked bool) {
	if asked {
		b.WriteString(x.name)
	} else {
		writeText(b, x.name)
	}
	b.WriteByte(':')
	writeForm(b, x.form, asked)
}

// writeAll writes each of a list, with something between, in two brackets.
func writeAll[T any](b *strings.Builder, brackets string, between string, list []T, write func(x T)) {
	b.WriteByte(brackets[0])
	for i, x := range list {
		if i > 0 {
			b.WriteString(between)
		}
		write(x)
	}
	b.WriteByte(brackets[1])
}

// writeText writes a text byte by byte: it need not be letters of any alphabet.
func writeText(b *strings.Builder, text string) {
	b.WriteByte('"')
	for i := range len(text) {
		switch c := text[i]; {
		case c == '"' || c == '\\':
			b.WriteByte('\\')
			b.WriteByte(c)
		case c == '\n':
			b.WriteString("\\n")
		case c < 32 || c > 126:
			b.WriteString("\\u00")
			writeFigures(b, c)
		default:
			b.WriteByte(c)
		}
	}
	b.WriteByte('"')
}

// writeFigures writes a byte as two of sixteen figures.
func writeFigures(b *strings.Builder, c byte) {
	const figures = "0123456789abcdef"
	b.WriteByte(figures[c>>4])
	b.WriteByte(figures[c&15])
}

// jsonReader is a text, and up to where it is read.
type jsonReader struct {
	text string
	at   int
}

// next is the byte that is to be read; 0, which begins nothing, at the end.
func (r *jsonReader) next() byte {
	if r.at < len(r.text) {
		return r.text[r.at]
	}
	return 0
}

// take reads a byte, if it is that one.
func (r *jsonReader) take(c byte) bool {
	if r.at >= len(r.text) || r.text[r.at] != c {
		return false
	}
	r.at++
	return true
}

func (r *jsonReader) passBlanks() {
	for r.take(' ') || r.take('\t') || r.take('\n') || r.take('\r') {
	}
}

// readForm reads a form without its limits; as a text is short it leads down only so far.
func (r *jsonReader) readForm() (form, bool) {
	r.passBlanks()
	switch c := r.next(); {
	case c == '"':
		text, ok := r.readText()
		return textForm(text), ok
	case c == '-' || isFigure(c):
		n, ok := r.readNumber()
		return numForm(n), ok
	case r.take('['):
		return r.readList()
	case r.take('{'):
		return r.readTree()
	}
	return r.readWord()
}

func (r *jsonReader) readList() (form, bool) {
	var list listForm
	ok := r.readAll(']', func() bool {
		f, ok := r.readForm()
		list = append(list, f)
		return ok
	})
	return list, ok
}

func (r *jsonReader) readTree() (form, bool) {
	var tree treeForm
	ok := r.readAll('}', func() bool {
		name, ok := r.readText()
		r.passBlanks()
		if !ok || !r.take(':') {
			return false
		}
		f, ok := r.readForm()
		tree = append(tree, branch{name, f})
		return ok
	})
	return tree, ok
}

// readAll reads what stands behind an open bracket, with commas between, none at the end.
func (r *jsonReader) readAll(end byte, read func() bool) bool {
	r.passBlanks()
	if r.take(end) {
		return true
	}
	for {
		if !read() {
			return false
		}
		r.passBlanks()
		if r.take(end) {
			return true
		}
		if !r.take(',') {
			return false
		}
		r.passBlanks()
	}
}

func (r *jsonReader) readWord() (form, bool) {
	rest := r.text[r.at:]
	switch {
	case strings.HasPrefix(rest, "null"):
		r.at += len("null")
		return nullForm{}, true
	case strings.HasPrefix(rest, "true"):
		r.at += len("true")
		return boolForm(true), true
	case strings.HasPrefix(rest, "false"):
		r.at += len("false")
		return boolForm(false), true
	}
	return nil, false
}

// readNumber reads a number; what is too great for an int is none.
func (r *jsonReader) readNumber() (int, bool) {
	start := r.at
	below := r.take('-')
	first := r.at
	for isFigure(r.next()) {
		r.at++
	}
	figures := r.text[first:r.at]
	if figures == "" || figures[0] == '0' && (below || len(figures) > 1) {
		return 0, false
	}
	if c := r.next(); isNameByte(c) || c == '.' {
		return 0, false
	}
	n, err := strconv.Atoi(r.text[start:r.at])
	return n, err == nil
}

// readText reads a text in its quotes.
func (r *jsonReader) readText() (string, bool) {
	if !r.take('"') {
		return "", false
	}
	var b strings.Builder
	for !r.take('"') {
		c := r.next()
		if c < 32 {
			return "", false
		}
		r.at++
		if c == '\\' {
			var ok bool
			if c, ok = r.readEscape(); !ok {
				return "", false
			}
		}
		b.WriteByte(c)
	}
	return b.String(), true
}

// readEscape is the byte that is meant by what stands behind a backslash.
func (r *jsonReader) readEscape() (byte, bool) {
	if r.take('u') {
		return r.readFour()
	}
	c, ok := byteOfLetter(r.next())
	if ok {
		r.at++
	}
	return c, ok
}

// byteOfLetter is the byte that a sign behind a backslash means by itself.
func byteOfLetter(c byte) (byte, bool) {
	switch c {
	case '"', '\\', '/':
		return c, true
	case 'n':
		return '\n', true
	case 't':
		return '\t', true
	case 'r':
		return '\r', true
	case 'b':
		return '\b', true
	case 'f':
		return '\f', true
	}
	return 0, false
}

// readFour reads four figures of a byte, of which the first two can only be noughts.
func (r *jsonReader) readFour() (byte, bool) {
	n := 0
	for range 4 {
		figure, ok := figureOf(r.next())
		if !ok {
			return 0, false
		}
		n = n<<4 | figure
		r.at++
	}
	return byte(n), n <= 255
}

// figureOf is how much one of sixteen figures is, a small or a large letter.
func figureOf(c byte) (int, bool) {
	switch {
	case isFigure(c):
		return int(c - '0'), true
	case 'a' <= c && c <= 'f':
		return int(c-'a') + 10, true
	case 'A' <= c && c <= 'F':
		return int(c-'A') + 10, true
	}
	return 0, false
}
