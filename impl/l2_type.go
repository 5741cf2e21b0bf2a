package impl

import (
	"slices"
	"strings"
)

// Limits of schemas.
const (
	DefMax   = 10
	FieldMax = 8
	ArgMax   = 4
)

// How deep types, and values that arguments have by themselves, are at most.
const (
	typeDeepMax = 3
	elseDeepMax = 3
)

// Objects that questions, and changes, begin with.
const (
	queryName  = "Query"
	changeName = "Mutation"
)

// Kinds of what a schema has.
const (
	DefObject = 1
	DefEnum   = 2
	DefInput  = 3
	DefUnion  = 4
)

// Type is a name, or a list of a type (Of has one); whether it must be there.
type Type struct {
	Name string
	Of   []Type
	Must bool
}

// Arg is a name that is given a value of a type; what it is if none is given (Has says whether there is such).
type Arg struct {
	Name string
	Type Type
	Has  bool
	Else Value
}

// Field is a name with arguments, and a type.
type Field struct {
	Name string
	Args []Arg
	Type Type
}

// Def is an object or an input with fields, an enum with words, or a union of objects.
type Def struct {
	Name   string
	Kind   int
	Fields []Field
	Words  []string
}

// TypePut writes a type.
func TypePut(t Type) string {
	if !typeFormed(t, typeDeepMax) {
		return ""
	}
	return typeText(t)
}

// TypeGet reads a type.
func TypeGet(text string) (Type, bool) {
	return typeOfText(text, typeDeepMax)
}

// SchemaCheck is the first thing that is wrong with a schema, 0 if nothing is.
func SchemaCheck(list []Def) int {
	if len(list) > DefMax || slices.ContainsFunc(list, defUnformed) {
		return SchemaForm
	}
	s := schemaOf(list)
	switch {
	case len(s) < len(list):
		return SchemaTwice
	case slices.ContainsFunc(list, s.lacksNames):
		return SchemaNone
	case slices.ContainsFunc(list, s.misplacesNames):
		return SchemaPlace
	case !s.hasRoots():
		return SchemaRoot
	case slices.ContainsFunc(list, s.hasWrongElse):
		return SchemaElse
	case slices.ContainsFunc(list, s.needsItself):
		return SchemaRound
	}
	return SchemaFine
}

// Codes of what is wrong with a schema.
const (
	SchemaFine  = 0
	SchemaForm  = 1
	SchemaTwice = 2
	SchemaNone  = 3
	SchemaPlace = 4
	SchemaRoot  = 5
	SchemaElse  = 6
	SchemaRound = 7
)

// ValueFits says whether a value fits a type of a schema, with its inputs and enums.
func ValueFits(list []Def, t Type, v Value) bool {
	f, ok := formOf(v, DeepMax, true)
	if !ok || !typeFormed(t, typeDeepMax) || SchemaCheck(list) != SchemaFine {
		return false
	}
	s := schemaOf(list)
	return s.givenIn(baseOf(t)) && s.fits(t, f)
}

// SchemaPut writes a schema.
func SchemaPut(list []Def) string {
	if SchemaCheck(list) != SchemaFine {
		return ""
	}
	var w docWriter
	for _, d := range list {
		w.writeDef(d)
		w.WriteByte('\n')
	}
	return w.String()
}

// SchemaGet reads a schema.
func SchemaGet(text string) ([]Def, bool) {
	list, ok := readWhole(text, (*docReader).readSchema)
	if !ok || SchemaCheck(list) != SchemaFine {
		return nil, false
	}
	return list, true
}

func (w *docWriter) writeDef(d Def) {
	switch d.Kind {
	case DefObject:
		w.WriteString("type " + d.Name)
		writeAll(&w.Builder, "{}", " ", d.Fields, w.writeField)
	case DefInput:
		w.WriteString("input " + d.Name)
		writeAll(&w.Builder, "{}", " ", d.Fields, w.writeField)
	case DefEnum:
		w.WriteString("enum " + d.Name + "{" + strings.Join(d.Words, " ") + "}")
	case DefUnion:
		w.WriteString("union " + d.Name + "=" + strings.Join(d.Words, "|"))
	}
}

func (w *docWriter) writeField(f Field) {
	w.WriteString(f.Name)
	writeSome(w, "()", ",", f.Args, w.writeArg)
	w.WriteString(":" + typeText(f.Type))
}

func (w *docWriter) writeArg(a Arg) {
	w.WriteString(a.Name + ":" + typeText(a.Type))
	if a.Has {
		w.WriteByte('=')
		w.writeValue(a.Else)
	}
}

func (r *docReader) readSchema() []Def {
	var list []Def
	for r.next() != "" {
		list = append(list, r.readDef())
	}
	return list
}

func (r *docReader) readDef() Def {
	switch {
	case r.take("type"):
		return r.readFields(DefObject)
	case r.take("input"):
		return r.readFields(DefInput)
	case r.take("enum"):
		return r.readEnum()
	}
	r.need("union")
	return r.readUnion()
}

func (r *docReader) readFields(kind int) Def {
	name := r.readName()
	r.need("{")
	return Def{Name: name, Kind: kind, Fields: readSome(r, "}", r.readField)}
}

func (r *docReader) readEnum() Def {
	name := r.readName()
	r.need("{")
	return Def{Name: name, Kind: DefEnum, Words: readSome(r, "}", r.readName)}
}

func (r *docReader) readUnion() Def {
	d := Def{Name: r.readName(), Kind: DefUnion}
	r.need("=")
	d.Words = append(d.Words, r.readName())
	for r.take("|") {
		d.Words = append(d.Words, r.readName())
	}
	return d
}

func (r *docReader) readField() Field {
	f := Field{Name: r.readName()}
	if r.take("(") {
		f.Args = readSome(r, ")", r.readArg)
	}
	r.need(":")
	f.Type = r.readType()
	return f
}

func (r *docReader) readArg() Arg {
	a := Arg{Name: r.readName()}
	r.need(":")
	a.Type = r.readType()
	if r.take("=") {
		a.Has, a.Else = true, r.readValue()
	}
	return a
}

// readType reads a type of any depth: how deep it may be is asked of what is read.
func (r *docReader) readType() Type {
	var t Type
	if r.take("[") {
		t.Of = []Type{r.readType()}
		r.need("]")
	} else {
		t.Name = r.readName()
	}
	t.Must = r.take("!")
	return t
}

// typeFormed says whether a type has a form, at most so deep.
func typeFormed(t Type, deep int) bool {
	if deep < 1 {
		return false
	}
	if len(t.Of) == 0 {
		return isName(t.Name)
	}
	return t.Name == "" && len(t.Of) == 1 && typeFormed(t.Of[0], deep-1)
}

// typeText writes a type that has a form.
func typeText(t Type) string {
	text := t.Name
	if isListType(t) {
		text = "[" + typeText(t.Of[0]) + "]"
	}
	if t.Must {
		text += "!"
	}
	return text
}

// typeOfText reads a type of at most so deep; other than words, its text has no blanks within.
func typeOfText(text string, deep int) (Type, bool) {
	if deep < 1 {
		return Type{}, false
	}
	text, must := strings.CutSuffix(text, "!")
	if isName(text) {
		return Type{Name: text, Must: must}, true
	}
	within, opens := strings.CutPrefix(text, "[")
	within, ends := strings.CutSuffix(within, "]")
	if !opens || !ends {
		return Type{}, false
	}
	of, ok := typeOfText(within, deep-1)
	if !ok {
		return Type{}, false
	}
	return Type{Of: []Type{of}, Must: must}, true
}

func isListType(t Type) bool {
	return len(t.Of) > 0
}

// baseOf is the name within a type that has a form.
func baseOf(t Type) string {
	for isListType(t) {
		t = t.Of[0]
	}
	return t.Name
}

// isBuiltIn says whether a name is one of the four that are always there.
func isBuiltIn(name string) bool {
	switch name {
	case "Int", "String", "Boolean", "ID":
		return true
	}
	return false
}

func defUnformed(d Def) bool {
	if !isName(d.Name) || isBuiltIn(d.Name) {
		return true
	}
	switch d.Kind {
	case DefObject:
		return len(d.Words) > 0 || !fieldsFormed(d.Fields, ArgMax)
	case DefInput:
		return len(d.Words) > 0 || !fieldsFormed(d.Fields, 0)
	case DefEnum, DefUnion:
		return len(d.Fields) > 0 || !wordsFormed(d.Words)
	}
	return true
}

func wordsFormed(words []string) bool {
	return 1 <= len(words) && len(words) <= FieldMax && namesOnce(words)
}

// fieldsFormed says whether fields have a form, with at most so many arguments each.
func fieldsFormed(fields []Field, argMax int) bool {
	if len(fields) < 1 || len(fields) > FieldMax {
		return false
	}
	names := make([]string, len(fields))
	for i, f := range fields {
		if !typeFormed(f.Type, typeDeepMax) || len(f.Args) > argMax || !argsFormed(f.Args) {
			return false
		}
		names[i] = f.Name
	}
	return namesOnce(names)
}

func argsFormed(args []Arg) bool {
	names := make([]string, len(args))
	for i, a := range args {
		if !argFormed(a) {
			return false
		}
		names[i] = a.Name
	}
	return namesOnce(names)
}

// argFormed says whether an argument, or a variable, has a form by itself.
func argFormed(a Arg) bool {
	return isName(a.Name) && typeFormed(a.Type, typeDeepMax) && elseFormed(a.Has, a.Else)
}

// elseFormed says whether a value may stand for what is not given: only if there is one (has) it is more than nothing.
func elseFormed(has bool, v Value) bool {
	_, ok := formOf(v, elseDeepMax, true)
	return ok && (has || v.Kind == IsNull)
}

// schema is definitions by their names.
type schema map[string]Def

// schemaOf is the definitions by name; a name that is there twice makes it shorter than the list.
func schemaOf(list []Def) schema {
	s := make(schema, len(list))
	for _, d := range list {
		s[d.Name] = d
	}
	return s
}

func (s schema) has(name string) bool {
	_, ok := s[name]
	return ok || isBuiltIn(name)
}

func (s schema) isObject(name string) bool {
	return s[name].Kind == DefObject
}

// givenIn says whether a name that is there may be one of what is given.
func (s schema) givenIn(name string) bool {
	kind := s[name].Kind
	return isBuiltIn(name) || kind == DefEnum || kind == DefInput
}

// comesOut says whether a name that is there may be one of what is answered.
func (s schema) comesOut(name string) bool {
	return s.has(name) && s[name].Kind != DefInput
}

// lacksNames says whether a definition leads to a name that is not there.
func (s schema) lacksNames(d Def) bool {
	return !s.allNames(d, s.has, s.has, s.has)
}

// misplacesNames says whether a definition leads to a name that may not stand there.
func (s schema) misplacesNames(d Def) bool {
	if d.Kind == DefInput {
		return !s.allNames(d, s.isObject, s.givenIn, s.givenIn)
	}
	return !s.allNames(d, s.isObject, s.comesOut, s.givenIn)
}

// allNames asks of each name that a definition leads to what its place asks: of words of a union, of fields, of arguments.
func (s schema) allNames(d Def, word, field, arg func(name string) bool) bool {
	for _, w := range d.Words {
		if d.Kind == DefUnion && !word(w) {
			return false
		}
	}
	for _, f := range d.Fields {
		if !field(baseOf(f.Type)) {
			return false
		}
		for _, a := range f.Args {
			if !arg(baseOf(a.Type)) {
				return false
			}
		}
	}
	return true
}

// hasRoots says whether there is an object to begin with, and one for changes, if there is such a name at all.
func (s schema) hasRoots() bool {
	_, changes := s[changeName]
	return s.isObject(queryName) && (!changes || s.isObject(changeName))
}

// hasWrongElse says whether an argument has a value by itself that does not fit its type.
func (s schema) hasWrongElse(d Def) bool {
	for _, f := range d.Fields {
		for _, a := range f.Args {
			otherwise, ok := formOf(a.Else, elseDeepMax, true)
			if a.Has && !(ok && s.fits(a.Type, otherwise)) {
				return true
			}
		}
	}
	return false
}

// needsItself says whether no tree of an input has an end, as it must hold another one of it.
func (s schema) needsItself(d Def) bool {
	seen := map[string]int{}
	work := s.needs(d)
	for len(work) > 0 {
		name := work[0]
		work = work[1:]
		if name == d.Name {
			return true
		}
		if seen[name] == 0 {
			work = append(work, s.needs(s[name])...)
		}
		seen[name]++
	}
	return false
}

// needs is names of what each tree of an input must hold.
func (s schema) needs(d Def) []string {
	var names []string
	for _, f := range d.Fields {
		if d.Kind == DefInput && f.Type.Must && !isListType(f.Type) {
			names = append(names, f.Type.Name)
		}
	}
	return names
}

// fits says whether a form fits a type that has a form; a variable never does.
func (s schema) fits(t Type, f form) bool {
	return fitter{s, noVariable}.taker(t)(f)
}

func noVariable(name string, t Type) bool {
	return false
}

// fitter says what fits the types of a schema, and asks variable whether a variable may stand where a type is wanted.
type fitter struct {
	schema   schema
	variable func(name string, t Type) bool
}

// taker says of a form whether it fits a type that has a form; it is made of the type once, and then asked.
func (x fitter) taker(t Type) func(f form) bool {
	var rest func(f form) bool
	if isListType(t) {
		rest = listTaker(x.taker(t.Of[0]))
	} else {
		rest = x.nameTaker(t.Name)
	}
	return func(f form) bool {
		switch y := f.(type) {
		case nullForm:
			return !t.Must
		case varForm:
			return x.variable(string(y), t)
		}
		return rest(f)
	}
}

// listTaker takes lists of what one takes, and that alone.
func listTaker(one func(f form) bool) func(f form) bool {
	return func(f form) bool {
		switch x := f.(type) {
		case listForm:
			return all(x, one)
		}
		return one(f)
	}
}

// nameTaker takes what fits a name, which is not nothing, nor a variable.
func (x fitter) nameTaker(name string) func(f form) bool {
	if isBuiltIn(name) {
		return func(f form) bool { return fitsBuiltIn(name, f) }
	}
	switch d := x.schema[name]; d.Kind {
	case DefEnum:
		return func(f form) bool { return fitsEnum(d, f) }
	case DefInput:
		return func(f form) bool { return x.fitsInput(d, f) }
	}
	return func(f form) bool { return false }
}

func fitsBuiltIn(name string, f form) bool {
	switch f.(type) {
	case numForm:
		return name == "Int" || name == "ID"
	case textForm:
		return name == "String" || name == "ID"
	case boolForm:
		return name == "Boolean"
	}
	return false
}

func fitsEnum(d Def, f form) bool {
	switch x := f.(type) {
	case wordForm:
		return slices.Contains(d.Words, string(x))
	case textForm:
		return slices.Contains(d.Words, string(x))
	}
	return false
}

// fitsInput makes takers of fields only when it has values for them: an input may hold itself, and its taker would have no end.
func (x fitter) fitsInput(d Def, f form) bool {
	tree, ok := f.(treeForm)
	if !ok {
		return false
	}
	found := 0
	for _, field := range d.Fields {
		within, ok := formWithin(tree, field.Name)
		if ok {
			found++
		}
		if ok && !x.taker(field.Type)(within) || !ok && field.Type.Must {
			return false
		}
	}
	return found == len(tree)
}
