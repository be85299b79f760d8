package tests

import (
	"fmt"
	"math"
	"reflect"
	"slices"
	"strings"
	"testing"

	"loop.example/g00836/impl"
)

func nullAt(path string) impl.Answer {
	return impl.Answer{Path: path, Kind: impl.AnNull}
}

func failAt(path string) impl.Answer {
	return impl.Answer{Path: path, Kind: impl.AnFail}
}

func manyAt(path string, n int64) impl.Answer {
	return impl.Answer{Path: path, Kind: impl.AnMany, N: n}
}

func textAt(path string, text string) impl.Answer {
	return impl.Answer{Path: path, Kind: impl.AnText, Text: text}
}

func typeAt(path string, name string) impl.Answer {
	return impl.Answer{Path: path, Kind: impl.AnType, Text: name}
}

func answers(all ...impl.Answer) []impl.Answer {
	return all
}

func null() impl.Node {
	return impl.Node{Kind: impl.NoNull}
}

func leaf(text string) impl.Node {
	return impl.Node{Kind: impl.NoText, Text: text}
}

func listOf(kids ...impl.Node) impl.Node {
	return impl.Node{Kind: impl.NoList, Kids: kids}
}

// objectOf has these Keys, with blanks between.
func objectOf(keys string, kids ...impl.Node) impl.Node {
	return impl.Node{Kind: impl.NoObj, Keys: strings.Fields(keys), Kids: kids}
}

// nodeWords says how a Node is written, apart from the program.
func nodeWords(n impl.Node) string {
	var all []string
	for at, kid := range n.Kids {
		words := nodeWords(kid)
		if at < len(n.Keys) {
			words = `"` + n.Keys[at] + `":` + words
		}
		all = append(all, words)
	}
	inner := strings.Join(all, ",")
	return []string{fmt.Sprintf("kind %d", n.Kind), "null", `"` + n.Text + `"`, "[" + inner + "]", "{" + inner + "}"}[max(0, min(n.Kind, 4))]
}

// nodeFields are all that a Node has, whatever its Kind: an empty list and none are the same.
func nodeFields(n impl.Node) string {
	text := fmt.Sprintf("%d %q %q (", n.Kind, n.Text, n.Keys)
	for _, kid := range n.Kids {
		text += nodeFields(kid)
	}
	return text + ")"
}

func countNodes(n impl.Node) int64 {
	count := int64(1)
	for _, kid := range n.Kids {
		count += countNodes(kid)
	}
	return count
}

// replier tells what a question is told, apart from the program, and keeps each path at which it asked.
type replier struct {
	s            impl.Schema
	d            impl.Doc
	l            []impl.Answer
	calls, fails int64
	paths        []string
}

func (r *replier) fail() impl.Node {
	r.fails++
	return null()
}

func (r *replier) object(l []impl.Sel, of string, path string) impl.Node {
	told := impl.Node{Kind: impl.NoObj}
	isNull := false
	for _, g := range groupsIn(r.s, r.d, l, of) {
		f := firstField(firstType(r.s, of), g.Name)
		r.calls++
		value := r.value(g, f, strings.TrimPrefix(path+"."+g.Key, "."), f.List)
		told.Keys, told.Kids = append(told.Keys, g.Key), append(told.Kids, value)
		isNull = isNull || value.Kind == impl.NoNull && f.Must
	}
	if isNull {
		return null()
	}
	return told
}

// value is asked for its own path, be it the List, or one of it.
func (r *replier) value(g impl.Group, f impl.Field, path string, list bool) impl.Node {
	r.paths = append(r.paths, path)
	var a impl.Answer
	if at := slices.IndexFunc(r.l, func(a impl.Answer) bool { return a.Path == path }); at >= 0 {
		a = r.l[at]
	}
	its := firstType(r.s, f.Type)
	switch {
	case a.Kind == impl.AnNull:
		return null()
	case a.Kind == impl.AnFail:
		return r.fail()
	case list:
		return r.list(g, f, path, a)
	case its.Kind == impl.KdLeaf:
		text := "x"[:min(its.Bytes, 1)]
		if a.Kind == impl.AnText {
			text = a.Text
		}
		if int64(len(text)) > its.Bytes {
			return r.fail()
		}
		return leaf(text)
	}
	members := its.Members
	if its.Kind == impl.KdObj {
		members = []string{its.Name}
	}
	of := members[0]
	if a.Kind == impl.AnType {
		of = a.Text
	}
	if !slices.Contains(members, of) {
		return r.fail()
	}
	return r.object(g.Sels, of, path)
}

func (r *replier) list(g impl.Group, f impl.Field, path string, a impl.Answer) impl.Node {
	most := f.Size
	if f.Cap > 0 {
		most = g.First
	}
	n := most
	if a.Kind == impl.AnMany {
		n = a.N
	}
	if n > most {
		return r.fail()
	}
	told := listOf()
	for i := range n {
		told.Kids = append(told.Kids, r.value(g, f, fmt.Sprintf("%s.%d", path, i), false))
	}
	return told
}

// replied is what a question that is let by is told, apart from the program, and at which paths.
func replied(s impl.Schema, d impl.Doc, l []impl.Answer) (impl.Told, []string) {
	r := replier{s: s, d: d, l: l}
	tree := r.object(d.Sels, s.Types[0].Name, "")
	return impl.Told{Tree: tree, Calls: r.calls, Fails: r.fails}, r.paths
}

func sameTold(a impl.Told, b impl.Told) bool {
	return nodeFields(a.Tree) == nodeFields(b.Tree) && a.Calls == b.Calls && a.Fails == b.Fails && a.Code == b.Code
}

// toldWords says what is told, and of a tree that is too large not all.
func toldWords(told impl.Told) string {
	return fmt.Sprintf("%.1000s, %d Calls, %d Fails, Code %d", nodeFields(told.Tree), told.Calls, told.Fails, told.Code)
}

// checkTellable holds what is told of a question that is let by against what was reckoned apart, and, says promise 8, against its bounds.
func checkTellable(t *testing.T, what string, s impl.Schema, d impl.Doc, l []impl.Answer) impl.Told {
	t.Helper()
	got := impl.Exec(s, d, l)
	if want, _ := replied(s, d, l); !sameTold(got, want) {
		t.Errorf("%s: Exec %s of %q with %+v is %s, want %s", what, docWords(d), schemaWords(s), l, toldWords(got), toldWords(want))
	}
	b := impl.BoundOf(s, d)
	nodes, bytes := impl.NodesOf(got.Tree), int64(len(impl.Json(got.Tree)))
	if got.Calls > b.Calls || nodes > b.Nodes || bytes > b.Bytes || nodes != countNodes(got.Tree) || bytes != int64(len(nodeWords(got.Tree))) {
		t.Errorf("%s: Exec %s of %q with %+v: %d Calls, %d Nodes of %d, %d bytes of %d, but BoundOf is %+v", what, docWords(d), schemaWords(s), l, got.Calls, nodes, countNodes(got.Tree), bytes, len(nodeWords(got.Tree)), b)
	}
	return got
}

// needs has fields of each kind that must be there, and that need not.
const needs = "obj Q id:STR nil:NIL a:A m:A! as:A[3] ms:A[2]! tags:STR[<20] one:ONE\nleaf STR 5\nleaf NIL 0\n" +
	"obj A id:STR need:STR! a:A m:A! as:A[2] ms:A[<2]! one:ONE some:ONE[2]!\nobj B id:STR b:STR need:STR!\none ONE A B\n"

// execCase is of a question, and what it is told.
type execCase struct {
	text         string
	l            []impl.Answer
	written      string
	calls, fails int64
}

func checkExec(t *testing.T, cases []execCase) {
	t.Helper()
	s := asks(t, needs)
	for _, c := range cases {
		got := checkTellable(t, "written", s, question(t, c.text), c.l)
		if words := nodeWords(got.Tree); words != c.written || got.Calls != c.calls || got.Fails != c.fails || got.Code != impl.OK {
			t.Errorf("%q with %+v: Tree is %s, %d Calls, %d Fails, Code %d, want %s, %d, %d", c.text, c.l, words, got.Calls, got.Fails, got.Code, c.written, c.calls, c.fails)
		}
		if json := impl.Json(got.Tree); json != c.written {
			t.Errorf("%q with %+v: Json is %q, want %q", c.text, c.l, json, c.written)
		}
	}
}

func TestExecOfObjects(t *testing.T) {
	checkExec(t, []execCase{
		{"{ id }", nil, `{"id":"x"}`, 1, 0},
		{"{ id nil k:id }", nil, `{"id":"x","nil":"","k":"x"}`, 3, 0},
		{"{ nil k:id id }", nil, `{"nil":"","k":"x","id":"x"}`, 3, 0},
		// Of no Groups.
		{"{ ...on A { id } }", nil, `{}`, 0, 0},
		{"{ a { ...on B { id } } }", nil, `{"a":{}}`, 1, 0},
		{"{ m { ...on B { id } } as { ...on B { id } } }", nil, `{"m":{},"as":[{},{},{}]}`, 2, 0},
		// Each Group is asked for once, where its first field stands.
		{"{ id id }", nil, `{"id":"x"}`, 1, 0},
		{"{ k:id nil id k:id nil }", nil, `{"k":"x","nil":"","id":"x"}`, 3, 0},
		{"{ a { id } nil a { need } }", nil, `{"a":{"id":"x","need":"x"},"nil":""}`, 4, 0},
		{"{ ...f a { need } } fragment f on Q { nil a { id } }", nil, `{"nil":"","a":{"id":"x","need":"x"}}`, 4, 0},
		{"{ ...f ...f ...on Q { ...f } } fragment f on Q { a { id } }", nil, `{"a":{"id":"x"}}`, 2, 0},
		{"{ a { ...f } k:a { ...f need } } fragment f on A { id }", nil, `{"a":{"id":"x"},"k":{"id":"x","need":"x"}}`, 5, 0},
		// Its path is that of Keys, not of Names; that of the root is nothing, and not asked for.
		{"{ k:id }", answers(textAt("k", "abc")), `{"k":"abc"}`, 1, 0},
		{"{ k:id }", answers(textAt("id", "abc"), textAt(".k", "abc"), textAt("k.", "abc"), textAt("K", "abc")), `{"k":"x"}`, 1, 0},
		{"{ a { k:a { l:id } } id }", answers(textAt("a.k.l", "abc")), `{"a":{"k":{"l":"abc"}},"id":"x"}`, 4, 0},
		{"{ a { k:a { l:id } } id }", answers(textAt("k.l", "abc"), textAt("l", "abc"), textAt("a.a.id", "abc"), textAt(".a.k.l", "abc"), textAt("akl", "abc"), textAt("a.k", "abc")), `{"a":{"k":{"l":"x"}},"id":"x"}`, 4, 0},
		{"{ id }", answers(nullAt(""), textAt("id", "abc")), `{"id":"abc"}`, 1, 0},
		{"{ id }", answers(failAt("")), `{"id":"x"}`, 1, 0},
		{"{ id }", answers(typeAt("", "A")), `{"id":"x"}`, 1, 0},
		{"{ id }", answers(manyAt("", 0), failAt("none")), `{"id":"x"}`, 1, 0},
	})
}

func TestHowFarNullGoes(t *testing.T) {
	checkExec(t, []execCase{
		// What need not be there is null alone.
		{"{ id a { id } }", answers(nullAt("id")), `{"id":null,"a":{"id":"x"}}`, 3, 0},
		{"{ id a { id } }", answers(nullAt("a")), `{"id":"x","a":null}`, 2, 0},
		{"{ id a { id } }", answers(failAt("a")), `{"id":"x","a":null}`, 2, 1},
		{"{ a { id } }", answers(nullAt("a.id")), `{"a":{"id":null}}`, 2, 0},
		{"{ a { m { id } } }", answers(failAt("a.m.id")), `{"a":{"m":{"id":null}}}`, 3, 1},
		// What must be there takes the object that it is of, and all others of that are asked for all the same.
		{"{ a { need id } k:id }", answers(nullAt("a.need")), `{"a":null,"k":"x"}`, 4, 0},
		{"{ a { need id } k:id }", answers(failAt("a.need")), `{"a":null,"k":"x"}`, 4, 1},
		{"{ a { id need } k:id }", answers(nullAt("a.need")), `{"a":null,"k":"x"}`, 4, 0},
		{"{ a { need id } }", answers(nullAt("a.need"), failAt("a.id")), `{"a":null}`, 3, 1},
		{"{ a { id need } }", answers(failAt("a.id"), nullAt("a.need")), `{"a":null}`, 3, 1},
		{"{ a { need k:need l:need } }", answers(failAt("a.need"), failAt("a.k"), failAt("a.l")), `{"a":null}`, 4, 3},
		{"{ a { need as { id } } }", answers(nullAt("a.need"), failAt("a.as.0.id"), failAt("a.as.1")), `{"a":null}`, 4, 2},
		// Through several, up to one that need not be there, or to the root.
		{"{ a { m { need } id } id }", answers(nullAt("a.m.need")), `{"a":null,"id":"x"}`, 5, 0},
		{"{ a { m { m { need id } id } id } id }", answers(failAt("a.m.m.need")), `{"a":null,"id":"x"}`, 8, 1},
		{"{ m { a { m { need } } id } }", answers(failAt("m.a.m.need")), `{"m":{"a":null,"id":"x"}}`, 5, 1},
		{"{ a { m { a { m { need } } id } } }", answers(nullAt("a.m.a.m.need")), `{"a":{"m":{"a":null,"id":"x"}}}`, 6, 0},
		{"{ a { m { id } id } }", answers(nullAt("a.m")), `{"a":null}`, 3, 0},
		{"{ m { id } id }", answers(nullAt("m")), `null`, 2, 0},
		{"{ m { id } id }", answers(failAt("m")), `null`, 2, 1},
		{"{ m { need } id }", answers(failAt("m.need")), `null`, 3, 1},
		{"{ m { m { m { need } } } id a { id } }", answers(nullAt("m.m.m.need"), failAt("a.id"), failAt("id")), `null`, 7, 2},
		{"{ id m { id } k:id }", answers(nullAt("m"), failAt("id"), failAt("k")), `null`, 3, 2},
		// Two of one field: the one is there, the other is not.
		{"{ m { need } k:m { need } }", answers(nullAt("k.need")), `null`, 4, 0},
		{"{ a { need } k:a { need } }", answers(nullAt("k.need")), `{"a":{"need":"x"},"k":null}`, 4, 0},
		// Within a List just that one of it.
		{"{ as { need id } }", answers(failAt("as.1.need")), `{"as":[{"need":"x","id":"x"},null,{"need":"x","id":"x"}]}`, 7, 1},
		{"{ as { m { need } } }", answers(nullAt("as.0.m.need"), failAt("as.2.m")), `{"as":[null,{"m":{"need":"x"}},null]}`, 6, 1},
		{"{ ms { need } id }", answers(nullAt("ms.0.need")), `{"ms":[null,{"need":"x"}],"id":"x"}`, 4, 0},
		{"{ ms { need } id }", answers(nullAt("ms.0"), failAt("ms.1")), `{"ms":[null,null],"id":"x"}`, 2, 1},
		{"{ a { ms(2) { need } id } }", answers(failAt("a.ms.1.need")), `{"a":{"ms":[{"need":"x"},null],"id":"x"}}`, 5, 1},
		{"{ m { some { ...on A { need } } } }", answers(nullAt("m.some.1.need")), `{"m":{"some":[{"need":"x"},null]}}`, 4, 0},
		// A List that must be there itself.
		{"{ ms { need } id }", answers(nullAt("ms")), `null`, 2, 0},
		{"{ id ms { need } }", answers(failAt("ms")), `null`, 2, 1},
		{"{ id ms { need } }", answers(manyAt("ms", 3)), `null`, 2, 1},
		{"{ id ms { need } }", answers(manyAt("ms", 0)), `{"id":"x","ms":[]}`, 2, 0},
		{"{ as { ms(2) { need } id } }", answers(manyAt("as.0.ms", 3), nullAt("as.1.ms")), `{"as":[null,null,{"ms":[{"need":"x"},{"need":"x"}],"id":"x"}]}`, 9, 1},
		{"{ as { as { need } } }", answers(manyAt("as", 2), nullAt("as.1.as.0.need")), `{"as":[{"as":[{"need":"x"},{"need":"x"}]},{"as":[null,{"need":"x"}]}]}`, 7, 0},
		// What became null for a reason of its own.
		{"{ a { need } }", answers(textAt("a.need", "abcdef")), `{"a":null}`, 2, 1},
		{"{ m { m { id } } }", answers(typeAt("m.m", "B")), `null`, 2, 1},
	})
}

func TestExecOfLeaves(t *testing.T) {
	checkExec(t, []execCase{
		{"{ id }", answers(textAt("id", "abcde")), `{"id":"abcde"}`, 1, 0},
		{"{ id }", answers(textAt("id", "abcdef")), `{"id":null}`, 1, 1},
		{"{ id }", answers(textAt("id", strings.Repeat("a", 120))), `{"id":null}`, 1, 1},
		{"{ id }", answers(textAt("id", "")), `{"id":""}`, 1, 0},
		{"{ id }", answers(textAt("id", " #~}[")), `{"id":" #~}["}`, 1, 0},
		{"{ id }", answers(nullAt("id")), `{"id":null}`, 1, 0},
		{"{ id }", answers(failAt("id")), `{"id":null}`, 1, 1},
		{"{ nil }", answers(textAt("nil", "")), `{"nil":""}`, 1, 0},
		{"{ nil }", answers(textAt("nil", "a")), `{"nil":null}`, 1, 1},
		{"{ nil }", answers(failAt("nil")), `{"nil":null}`, 1, 1},
		// These are no answer here.
		{"{ id nil }", answers(manyAt("id", 0), manyAt("nil", 7)), `{"id":"x","nil":""}`, 2, 0},
		{"{ id nil }", answers(typeAt("id", "B"), typeAt("nil", "none")), `{"id":"x","nil":""}`, 2, 0},
		{"{ id }", answers(impl.Answer{Path: "id", Kind: impl.AnMany, N: 3, Text: "abc"}), `{"id":"x"}`, 1, 0},
		// The first one of a path counts, be it none that may be here.
		{"{ id }", answers(textAt("id", "a"), textAt("id", "b")), `{"id":"a"}`, 1, 0},
		{"{ id }", answers(nullAt("id"), textAt("id", "b")), `{"id":null}`, 1, 0},
		{"{ id }", answers(textAt("id", "a"), failAt("id")), `{"id":"a"}`, 1, 0},
		{"{ id }", answers(manyAt("id", 1), textAt("id", "b")), `{"id":"x"}`, 1, 0},
		{"{ id }", answers(failAt("none"), manyAt("id", 1), failAt("id")), `{"id":"x"}`, 1, 0},
	})
	// As long as its Bytes, and one more, of each size.
	for size := range 101 {
		s := schema(objType("Q", plain("a", "S"), must(plain("b", "S"))), leafType("S", int64(size)))
		d, text := doc(fieldsOf("a")), strings.Repeat("y", size)
		if got := checkTellable(t, "as long", s, d, answers(textAt("a", text))); nodeWords(got.Tree) != `{"a":"`+text+`"}` || got.Fails != 0 {
			t.Errorf("Bytes %d: as long is %+v", size, got)
		}
		if got := checkTellable(t, "longer", s, d, answers(textAt("a", text+"y"))); nodeWords(got.Tree) != `{"a":null}` || got.Fails != 1 {
			t.Errorf("Bytes %d: longer is %+v", size, got)
		}
		if got := checkTellable(t, "nothing said", s, d, nil); nodeWords(got.Tree) != `{"a":"`+"x"[:min(size, 1)]+`"}` {
			t.Errorf("Bytes %d: nothing said is %+v", size, got)
		}
	}
}

func TestExecOfLists(t *testing.T) {
	checkExec(t, []execCase{
		{"{ tags(3) }", nil, `{"tags":["x","x","x"]}`, 1, 0},
		{"{ tags(3) }", answers(manyAt("tags", 0)), `{"tags":[]}`, 1, 0},
		{"{ tags(3) }", answers(manyAt("tags", 1)), `{"tags":["x"]}`, 1, 0},
		{"{ tags(3) }", answers(manyAt("tags", 3)), `{"tags":["x","x","x"]}`, 1, 0},
		{"{ tags(3) }", answers(manyAt("tags", 4)), `{"tags":null}`, 1, 1},
		{"{ tags(3) }", answers(manyAt("tags", 20)), `{"tags":null}`, 1, 1},
		{"{ tags(3) }", answers(manyAt("tags", 1000)), `{"tags":null}`, 1, 1},
		{"{ tags(3) }", answers(nullAt("tags")), `{"tags":null}`, 1, 0},
		{"{ tags(3) }", answers(failAt("tags")), `{"tags":null}`, 1, 1},
		{"{ tags(0) }", nil, `{"tags":[]}`, 1, 0},
		{"{ tags(0) }", answers(manyAt("tags", 0)), `{"tags":[]}`, 1, 0},
		{"{ tags(0) }", answers(manyAt("tags", 1)), `{"tags":null}`, 1, 1},
		{"{ tags(2) k:tags(1) }", answers(manyAt("tags", 2), manyAt("k", 2)), `{"tags":["x","x"],"k":null}`, 2, 1},
		{"{ as { id } }", nil, `{"as":[{"id":"x"},{"id":"x"},{"id":"x"}]}`, 4, 0},
		{"{ as { id } }", answers(manyAt("as", 2)), `{"as":[{"id":"x"},{"id":"x"}]}`, 3, 0},
		{"{ as { id } }", answers(manyAt("as", 0)), `{"as":[]}`, 1, 0},
		{"{ as { id } }", answers(manyAt("as", 4)), `{"as":null}`, 1, 1},
		{"{ as { id } }", answers(failAt("as")), `{"as":null}`, 1, 1},
		// These are no answer here, whatever N they have.
		{"{ tags(2) as { id } }", answers(textAt("tags", "abc"), typeAt("as", "B")), `{"tags":["x","x"],"as":[{"id":"x"},{"id":"x"},{"id":"x"}]}`, 5, 0},
		{"{ tags(2) }", answers(impl.Answer{Path: "tags", Kind: impl.AnText, N: 1, Text: "abcdefgh"}, manyAt("tags", 1)), `{"tags":["x","x"]}`, 1, 0},
		{"{ tags(2) }", answers(impl.Answer{Path: "tags", Kind: impl.AnType, N: 5, Text: "none"}), `{"tags":["x","x"]}`, 1, 0},
		// One of a List is asked for at its own path.
		{"{ tags(3) }", answers(textAt("tags.1", "abc")), `{"tags":["x","abc","x"]}`, 1, 0},
		{"{ tags(3) }", answers(nullAt("tags.0"), failAt("tags.2")), `{"tags":[null,"x",null]}`, 1, 1},
		{"{ tags(3) }", answers(textAt("tags.0", "abcdef"), textAt("tags.1", "abcdef")), `{"tags":[null,null,"x"]}`, 1, 2},
		{"{ tags(2) }", answers(manyAt("tags.0", 1), typeAt("tags.1", "A")), `{"tags":["x","x"]}`, 1, 0},
		{"{ tags(2) }", answers(failAt("tags.2"), failAt("tags.-1"), failAt("tags.00"), failAt("tags."), failAt("tags0")), `{"tags":["x","x"]}`, 1, 0},
		{"{ tags(3) }", answers(manyAt("tags", 1), failAt("tags.0"), failAt("tags.1")), `{"tags":[null]}`, 1, 1},
		{"{ tags(12) }", answers(textAt("tags.11", "c"), textAt("tags.1", "a"), textAt("tags.10", "b"), textAt("tags.01", "d")), `{"tags":["x","a","x","x","x","x","x","x","x","x","b","c"]}`, 1, 0},
		{"{ k:as { l:id } }", answers(textAt("k.1.l", "a"), textAt("as.0.id", "b"), nullAt("k.2")), `{"k":[{"l":"x"},{"l":"a"},null]}`, 3, 0},
		{"{ as { as { id } } }", answers(manyAt("as", 2), manyAt("as.0.as", 1), textAt("as.1.as.0.id", "a"), nullAt("as.1.as.1.id")), `{"as":[{"as":[{"id":"x"}]},{"as":[{"id":"a"},{"id":null}]}]}`, 6, 0},
		{"{ as { id } }", answers(manyAt("as.0", 0), textAt("as.1", "a")), `{"as":[{"id":"x"},{"id":"x"},{"id":"x"}]}`, 4, 0},
	})
}

func TestExecOfEachCount(t *testing.T) {
	for most := range int64(101) {
		s := schema(objType("Q", capped("c", "S", max(most, 1)), sized("f", "S", most), capped("o", "Q", 100), sized("z", "N", most)), leafType("S", 1), leafType("N", 0))
		for _, n := range []int64{0, 1, most - 1, most, most + 1, 1000} {
			if n < 0 {
				continue
			}
			for _, d := range []impl.Doc{doc(sels(keyed("k", "c", most))), doc(sels(keyed("k", "f", -1))), doc(sels(keyed("k", "o", most, field("z")))), doc(sels(keyed("k", "z", -1)))} {
				if impl.BoundOf(s, d).Nodes > 2000 {
					continue
				}
				got := checkTellable(t, "each count", s, d, answers(manyAt("k", n)))
				kids := got.Tree.Kids
				if n > most && (got.Fails != 1 || kids[0].Kind != impl.NoNull) || n <= most && (got.Fails != 0 || int64(len(kids[0].Kids)) != n) {
					t.Errorf("%d of %d: %s, %d Fails", n, most, nodeWords(got.Tree), got.Fails)
				}
			}
		}
	}
}

func TestExecOfWhatAThingIs(t *testing.T) {
	const either = "{ one { ...on A { id } ...on B { b } } }"
	const both = `{"one":{"id":"x"}}`
	checkExec(t, []execCase{
		{either, nil, both, 2, 0},
		{either, answers(typeAt("one", "A")), both, 2, 0},
		{either, answers(typeAt("one", "B")), `{"one":{"b":"x"}}`, 2, 0},
		{either, answers(typeAt("one", "B"), textAt("one.b", "abc"), failAt("one.id")), `{"one":{"b":"abc"}}`, 2, 0},
		{either, answers(typeAt("one", "B"), typeAt("one", "A")), `{"one":{"b":"x"}}`, 2, 0},
		// None of these.
		{either, answers(typeAt("one", "Q")), `{"one":null}`, 1, 1},
		{either, answers(typeAt("one", "ONE")), `{"one":null}`, 1, 1},
		{either, answers(typeAt("one", "STR")), `{"one":null}`, 1, 1},
		{either, answers(typeAt("one", "")), `{"one":null}`, 1, 1},
		{either, answers(typeAt("one", "NO")), `{"one":null}`, 1, 1},
		{either, answers(typeAt("one", "b")), `{"one":null}`, 1, 1},
		{either, answers(typeAt("one", "B ")), `{"one":null}`, 1, 1},
		{either, answers(typeAt("one", "AB")), `{"one":null}`, 1, 1},
		{"{ a { id } m { id } }", answers(typeAt("a", "A"), typeAt("m", "A")), `{"a":{"id":"x"},"m":{"id":"x"}}`, 4, 0},
		{"{ a { id } k:a { id } }", answers(typeAt("a", "B"), typeAt("k", "ONE")), `{"a":null,"k":null}`, 2, 2},
		{"{ a { id } k:a { id } }", answers(typeAt("a", ""), typeAt("k", "Q")), `{"a":null,"k":null}`, 2, 2},
		{"{ m { id } }", answers(typeAt("m", "B")), `null`, 1, 1},
		// These are no answer here.
		{either, answers(textAt("one", "B")), both, 2, 0},
		{either, answers(manyAt("one", 0)), both, 2, 0},
		{either, answers(impl.Answer{Path: "one", Kind: impl.AnMany, N: 9, Text: "B"}), both, 2, 0},
		{"{ a { id } }", answers(textAt("a", "none")), `{"a":{"id":"x"}}`, 2, 0},
		{either, answers(nullAt("one")), `{"one":null}`, 1, 0},
		{either, answers(failAt("one")), `{"one":null}`, 1, 1},
		// Each one of a List by itself.
		{"{ a { some { ...on A { id } ...on B { b need } } } }", answers(typeAt("a.some.1", "B")), `{"a":{"some":[{"id":"x"},{"b":"x","need":"x"}]}}`, 5, 0},
		{"{ a { some { ...on A { id } ...on B { b need } } } }", answers(typeAt("a.some", "B"), typeAt("a.some.0", "Q")), `{"a":{"some":[null,{"id":"x"}]}}`, 3, 1},
		{"{ a { some { ...on A { id } ...on B { b need } } } }", answers(typeAt("a.some.0", "B"), nullAt("a.some.0.need"), failAt("a.some.0.b")), `{"a":{"some":[null,{"id":"x"}]}}`, 5, 1},
		// What is wanted of another type is not asked for, but what must be there of this one is.
		{"{ one { ...on A { m { id } need } ...on B { need } } }", answers(typeAt("one", "B"), nullAt("one.m")), `{"one":{"need":"x"}}`, 2, 0},
		{"{ one { ...on A { id } ...on B { id need } ...f } } fragment f on ONE { ...on A { k:need } }", answers(nullAt("one.need")), `{"one":{"id":"x","k":"x"}}`, 3, 0},
	})
	// The first of the members, in whatever order they stand.
	for _, members := range [][]string{{"A", "B", "C"}, {"C", "B", "A"}, {"B", "A"}, {"C"}} {
		s := schema(objType("Q", plain("z", "Z"), sized("zs", "Z", 2)), oneType("Z", members...), leafType("S", 5), objType("A", plain("a", "S")), objType("B", plain("b", "S")), objType("C", plain("c", "S")))
		inner := sels(on("A", field("a")), on("B", field("b")), on("C", field("c")))
		d := doc(sels(field("z", inner...), field("zs", inner...)))
		first := func(name string) string { return `{"` + strings.ToLower(name) + `":"x"}` }
		want := `{"z":` + first(members[0]) + `,"zs":[` + first(members[0]) + `,` + first(members[0]) + `]}`
		if got := nodeWords(checkTellable(t, "members", s, d, nil).Tree); got != want {
			t.Errorf("of %q: Tree is %s, want %s", members, got, want)
		}
		for _, name := range []string{"A", "B", "C"} {
			want, fails := `null`, int64(1)
			if slices.Contains(members, name) {
				want, fails = first(name), 0
			}
			got := checkTellable(t, "members", s, d, answers(typeAt("z", name)))
			if nodeWords(got.Tree.Kids[0]) != want || got.Fails != fails {
				t.Errorf("%s of %q: Tree is %s, %d Fails", name, members, nodeWords(got.Tree), got.Fails)
			}
		}
	}
}

// The root is the first type, whatever its name.
func TestExecOfTheRoot(t *testing.T) {
	s := schema(objType("Z", must(plain("a", "S"))), leafType("S", 3), objType("Q", plain("b", "S")))
	d := question(t, "{ ...on Q { b } ...on Z { a } }")
	if got := nodeWords(checkTellable(t, "the root", s, d, nil).Tree); got != `{"a":"x"}` {
		t.Errorf("Tree is %s", got)
	}
	if got := checkTellable(t, "the root", s, d, answers(nullAt("a"))); nodeFields(got.Tree) != nodeFields(null()) || got.Calls != 1 || got.Fails != 0 {
		t.Errorf("got %+v", got)
	}
}

// wrongAnswers are not right, each in one way.
func wrongAnswers() map[string]impl.Answer {
	right := impl.Answer{Path: "id", Kind: impl.AnText, N: 5, Text: "abc"}
	with := func(change func(a *impl.Answer)) impl.Answer {
		other := right
		change(&other)
		return other
	}
	all := map[string]impl.Answer{
		"a Path of 101 bytes": with(func(a *impl.Answer) { a.Path = strings.Repeat("p", 101) }),
		"a long Path":         with(func(a *impl.Answer) { a.Path = strings.Repeat("p", impl.MaxBytes+1) }),
		"a Text of 121 bytes": with(func(a *impl.Answer) { a.Text = strings.Repeat("t", 121) }),
		"a long Text":         with(func(a *impl.Answer) { a.Text = strings.Repeat("t", impl.MaxBytes+1) }),
	}
	for _, kind := range []int64{math.MinInt64, -1, impl.AnType + 1, impl.AnType + 256, math.MaxInt64} {
		all[fmt.Sprint("Kind ", kind)] = with(func(a *impl.Answer) { a.Kind = kind })
	}
	for _, n := range []int64{math.MinInt64, -1, 1001, math.MaxInt64} {
		all[fmt.Sprint("N ", n)] = with(func(a *impl.Answer) { a.N = n })
	}
	for _, b := range []byte{0, 10, 31, '"', '\\', 127, 128, 255} {
		for _, around := range []string{"%s", "a%s", "%sa", "ab%scd"} {
			text := strings.Replace(around, "%s", string([]byte{b}), 1)
			all[fmt.Sprintf("a Text of %q", text)] = with(func(a *impl.Answer) { a.Text = text })
		}
	}
	return all
}

// rightAnswers are right, each at a limit.
func rightAnswers() map[string]impl.Answer {
	all := map[string]impl.Answer{
		"no Path":             {Kind: impl.AnText},
		"a Path of 100 bytes": {Path: strings.Repeat("p", 100), Kind: impl.AnNull},
		"a Path of any bytes": {Path: "\x00\n\"\\\xff . é", Kind: impl.AnFail},
		"N 0":                 {Path: "a", Kind: impl.AnMany},
		"N 1000":              {Path: "a", Kind: impl.AnMany, N: 1000},
		"a Text of 120 bytes": {Path: "a", Kind: impl.AnText, Text: strings.Repeat("t", 120)},
		"32 and 126":          {Path: "a", Kind: impl.AnText, Text: " ~"},
		"33 and 35":           {Path: "a", Kind: impl.AnText, Text: "!#"},
		"91 and 93":           {Path: "a", Kind: impl.AnText, Text: "[]"},
		"what is no matter":   {Path: "a", Kind: impl.AnNull, N: 1000, Text: "none"},
	}
	for kind := int64(impl.AnNull); kind <= impl.AnType; kind++ {
		all[fmt.Sprint("Kind ", kind)] = impl.Answer{Path: "a", Kind: kind}
	}
	return all
}

func manyAnswers(count int) []impl.Answer {
	return slices.Repeat(answers(textAt("id", "abc")), count)
}

func TestAnswersRight(t *testing.T) {
	check := func(what string, l []impl.Answer, want bool) {
		t.Helper()
		if got := impl.AnswersRight(l); got != want {
			t.Errorf("%s: AnswersRight is %t, want %t", what, got, want)
		}
	}
	check("none", nil, true)
	check("an empty list", answers(), true)
	for _, count := range []int{1, 2, 39, 40, 41, impl.MaxList, impl.MaxList + 1, 10000} {
		// They are all of one Path, too.
		check(fmt.Sprint(count), manyAnswers(count), count <= 40)
	}
	check("two of one Path", answers(nullAt("a"), failAt("a")), true)
	for what, a := range rightAnswers() {
		check(what, answers(a), true)
		check(what+", twice", answers(a, a), true)
		check(what+", the last of 40", append(manyAnswers(39), a), true)
	}
	wrong := wrongAnswers()
	wrong["the zero one"] = impl.Answer{}
	wrong["no Kind"] = impl.Answer{Path: "id", N: 5, Text: "abc"}
	for what, a := range wrong {
		check(what, answers(a), false)
		check(what+", the first", answers(a, nullAt("a")), false)
		check(what+", between", answers(nullAt("a"), a, nullAt("a")), false)
		check(what+", the last of 40", append(manyAnswers(39), a), false)
	}
}

func TestAnswersRightOfEachByte(t *testing.T) {
	for b := range 256 {
		text := string([]byte{byte(b)})
		want := strings.Contains(" !#$%&'()*+,-./0123456789:;<=>?@ABCDEFGHIJKLMNOPQRSTUVWXYZ[]^_`abcdefghijklmnopqrstuvwxyz{|}~", text)
		if got := impl.AnswersRight(answers(textAt("a", text))); got != want {
			t.Errorf("a Text of byte %d: AnswersRight is %t", b, got)
		}
		if !impl.AnswersRight(answers(nullAt(text))) {
			t.Errorf("a Path of byte %d is not right", b)
		}
	}
}

func TestAnswerOf(t *testing.T) {
	l := answers(impl.Answer{Path: "a", Kind: impl.AnText, N: 5, Text: "first"}, nullAt("b"), impl.Answer{Path: "a", Kind: impl.AnMany, N: 7, Text: "second"}, typeAt("", "A"),
		textAt("a.b", "c"), textAt(strings.Repeat("p", 100), "long"), textAt("\x00", "d"))
	check := func(path string, want impl.Answer) {
		t.Helper()
		if got := impl.AnswerOf(l, path); got != want {
			t.Errorf("AnswerOf(%.20q) is %+v, want %+v", path, got, want)
		}
	}
	for at, a := range l {
		if at != 2 {
			check(a.Path, a)
		}
	}
	for _, path := range []string{"c", "A", "a ", " a", "a.", ".a", "aa", "a.b.", "b.a", strings.Repeat("p", 99), strings.Repeat("p", 101), "\x00\x00", strings.Repeat("p", impl.MaxBytes), strings.Repeat("p", impl.MaxBytes+1)} {
		check(path, impl.Answer{})
	}
	l = append(l, manyAnswers(33)...)
	check("id", textAt("id", "abc"))
	check("b", nullAt("b"))
	l = nil
	check("a", impl.Answer{})
	check("", impl.Answer{})
	for what, a := range rightAnswers() {
		if got := impl.AnswerOf(answers(nullAt("z"), a, failAt(a.Path)), a.Path); got != a {
			t.Errorf("%s: AnswerOf is %+v, want %+v", what, got, a)
		}
	}
}

func TestAnswerOfAnswersThatAreNotRight(t *testing.T) {
	check := func(what string, l []impl.Answer, path string) {
		t.Helper()
		if got := impl.AnswerOf(l, path); got != (impl.Answer{}) {
			t.Errorf("%s: AnswerOf(%.20q) is %+v", what, path, got)
		}
	}
	for what, a := range wrongAnswers() {
		for _, l := range [][]impl.Answer{answers(a), answers(nullAt("z"), a), answers(a, nullAt("z"))} {
			check(what, l, a.Path)
			check(what, l, "z")
		}
	}
	for _, count := range []int{41, impl.MaxList, impl.MaxList + 1, 10000} {
		check(fmt.Sprint(count), manyAnswers(count), "id")
	}
	if got := impl.AnswerOf(manyAnswers(40), "id"); got != textAt("id", "abc") {
		t.Errorf("of 40: AnswerOf is %+v", got)
	}
	// The given test looks up one of no Kind, which Exec refuses.
	if got := impl.AnswerOf(answers(impl.Answer{Path: "a", N: 5}), "a"); got != (impl.Answer{Path: "a", N: 5}) {
		t.Errorf("of no Kind: AnswerOf is %+v", got)
	}
	if got := impl.Exec(smallSchema(), doc(fieldsOf("x")), answers(impl.Answer{Path: "a", N: 5})); !sameTold(got, impl.Told{Code: impl.ErrForm}) {
		t.Errorf("of no Kind: Exec is %+v", got)
	}
}

// checkRefused asks for a code, and nothing beside it.
func checkRefused(t *testing.T, what string, s impl.Schema, d impl.Doc, l []impl.Answer, code int64) {
	t.Helper()
	if got := impl.Exec(s, d, l); !sameTold(got, impl.Told{Code: code}) {
		t.Errorf("%s: Exec is %+v, want Code %d alone", what, got, code)
	}
}

// nodesOf is a question that comes to so many Nodes, in Lists of 100 and one of what is left.
func nodesOf(s impl.Schema, nodes int) impl.Doc {
	keys := letters(30)
	var all []impl.Sel
	for nodes--; nodes > 0; nodes -= 101 {
		all = append(all, keyed(keys[len(all)], "tags", int64(min(nodes, 101)-1)))
	}
	return doc(all)
}

func TestExecOfAsManyNodesAsMayBe(t *testing.T) {
	s := asks(t, things)
	for _, nodes := range []int{102, 1000, 1999, 2000, 2001, 2002, 2100} {
		d := nodesOf(s, nodes)
		if b := impl.BoundOf(s, d); b.Nodes != int64(nodes) {
			t.Fatalf("%d Nodes are reckoned, want %d", b.Nodes, nodes)
		}
		var few []impl.Answer
		for _, sel := range d.Sels {
			few = append(few, manyAt(sel.Key, 0))
		}
		if nodes > 2000 {
			checkRefused(t, fmt.Sprint(nodes), s, d, nil, impl.ErrFull)
			// What they would say is no matter.
			checkRefused(t, fmt.Sprint(nodes), s, d, few, impl.ErrFull)
			continue
		}
		if got := checkTellable(t, fmt.Sprint(nodes), s, d, nil); impl.NodesOf(got.Tree) != int64(nodes) {
			t.Errorf("%d Nodes are told, want %d", impl.NodesOf(got.Tree), nodes)
		}
		if got := checkTellable(t, fmt.Sprint(nodes), s, d, few); impl.NodesOf(got.Tree) != int64(len(d.Sels)+1) {
			t.Errorf("%d Nodes are told, want %d", impl.NodesOf(got.Tree), len(d.Sels)+1)
		}
	}
	if t.Failed() {
		return
	}
	// Of these more would be told than can be gone through.
	h := hundreds()
	deep := doc(nestedIn(5, field("l"), func(inner ...impl.Sel) impl.Sel { return field("in", inner...) }))
	checkRefused(t, "deep", h, deep, nil, impl.ErrFull)
	checkRefused(t, "deep", h, deep, answers(manyAt("in", 0)), impl.ErrFull)
	checkRefused(t, "deep", h, deep, answers(failAt("in")), impl.ErrFull)
	checkTellable(t, "none of these", h, doc(sels(field("none", deep.Sels[0].Sels...))), nil)
}

// The first fault is told: Answers, then what Validate tells, then how many Nodes.
func TestExecTellsTheFirstFault(t *testing.T) {
	s := asks(t, things)
	right, full := question(t, "{ id }"), nodesOf(s, 2001)
	tooMany := manyAnswers(impl.MaxList + 1)
	notRight := map[string][]impl.Answer{"41": manyAnswers(41), "as many as MaxList": manyAnswers(impl.MaxList), "the zero one": answers(impl.Answer{})}
	for what, a := range wrongAnswers() {
		notRight[what] = answers(nullAt("id"), a)
	}
	refused := func(what string, s impl.Schema, d impl.Doc, code int64) {
		t.Helper()
		checkRefused(t, what, s, d, nil, code)
		checkRefused(t, what, s, d, manyAnswers(40), code)
		checkRefused(t, what+", of 41 Answers", s, d, manyAnswers(41), impl.ErrForm)
		checkRefused(t, what+", of an Answer that is not right", s, d, answers(impl.Answer{}), impl.ErrForm)
		checkRefused(t, what+", of too many Answers", s, d, tooMany, impl.ErrSize)
	}
	for what, l := range notRight {
		checkRefused(t, what, s, right, l, impl.ErrForm)
		checkRefused(t, what, s, full, l, impl.ErrForm)
	}
	checkRefused(t, "too many Answers", s, right, tooMany, impl.ErrSize)
	checkTellable(t, "40 Answers", s, right, manyAnswers(40))
	refused("too many Nodes", s, full, impl.ErrFull)
	told := map[int64]bool{}
	for _, d := range notLetBy(t) {
		code := impl.Validate(s, d).Code
		told[code] = true
		refused(docWords(d), s, d, code)
	}
	for _, code := range []int64{impl.ErrNone, impl.ErrThere, impl.ErrRange, impl.ErrState} {
		if !told[code] {
			t.Errorf("none of these is told as %d", code)
		}
	}
	for what, d := range notRightDocs() {
		refused(what, s, d, impl.ErrForm)
	}
	for what, s := range notRightSchemas() {
		refused(what, s, doc(fieldsOf("x")), impl.ErrForm)
	}
	// What is not let by, and would come to too much.
	for text, code := range map[string]int64{"zz": impl.ErrNone, "users(9) { id }": impl.ErrRange, "user": impl.ErrState, "waa:tags(1)": impl.ErrThere} {
		d := nodesOf(s, 2001)
		d.Sels = append(d.Sels, question(t, "{ "+text+" }").Sels...)
		refused(text, s, d, code)
	}
}

// thrownAnswer is for one of these paths, most often such that it may be an answer there.
func (d *dice) thrownAnswer(s impl.Schema, paths []string) impl.Answer {
	path := d.pick(append(paths, "", "none")...)
	switch d.below(9) {
	case 0:
		return nullAt(path)
	case 1:
		return failAt(path)
	case 2, 3:
		return manyAt(path, int64(d.below(5)))
	case 4, 5, 6:
		return textAt(path, strings.Repeat("y", d.below(d.pickSize())))
	}
	return typeAt(path, s.Types[d.below(len(s.Types))].Name)
}

func (d *dice) pickSize() int {
	return []int{2, 6, 33, 121}[d.below(4)]
}

// Promise 8: whatever is said, no more is asked for, told or written than was reckoned.
func TestThrownAnswersAreTold(t *testing.T) {
	told, nulls, failed, less, full := 0, 0, 0, 0, 0
	letByBounds(t, 17, 4000, func(dice *dice, s impl.Schema, made impl.Doc, b impl.Bounds) {
		// One that is told wrong is enough: it may be told with more than can be gone through.
		if t.Failed() {
			return
		}
		if b.Nodes > 2000 {
			if b.Nodes < 50000 {
				checkRefused(t, docWords(made), s, made, nil, impl.ErrFull)
			}
			return
		}
		_, paths := replied(s, made, nil)
		paths = slices.DeleteFunc(paths, func(path string) bool { return len(path) > 100 })
		for i := range 6 {
			var l []impl.Answer
			for range i * i {
				l = append(l, dice.thrownAnswer(s, paths))
			}
			got := checkTellable(t, "thrown", s, made, l)
			told++
			switch {
			case got.Tree.Kind == impl.NoNull:
				nulls++
			case got.Fails > 1:
				failed++
			case got.Calls < b.Calls:
				less++
			case impl.NodesOf(got.Tree) == b.Nodes:
				full++
			}
		}
	})
	if told < 5000 || nulls < 300 || failed < 300 || less < 300 || full < 300 {
		t.Errorf("only %d told, %d null, %d that fail, %d of fewer Calls, %d of all Nodes: too few to tell", told, nulls, failed, less, full)
	}
}

// Each path is answered in each way: there is no more of it than was reckoned, and Fails are as many as there are.
func TestEachPathInEachWay(t *testing.T) {
	s := asks(t, needs)
	for _, text := range []string{
		"{ id nil a { m { ms(2) { need } } } ms { one { ...on A { id } ...on B { need } } } tags(2) one { ...on B { b } } }",
		"{ m { m { need } some { ...on A { ms(1) { need } } ...on B { need } } } as { a { id } m { need } } }",
		"{ ...f k:a { ...g } } fragment f on Q { a { ...g } as { ...g } } fragment g on A { id need one { ...on A { need } } }",
	} {
		d := question(t, text)
		_, paths := replied(s, d, nil)
		for _, path := range paths {
			for _, a := range answers(nullAt(path), failAt(path), manyAt(path, 0), manyAt(path, 1), manyAt(path, 1000), textAt(path, ""), textAt(path, "abcde"), textAt(path, "abcdef"), typeAt(path, "A"), typeAt(path, "B"), typeAt(path, "Q")) {
				got := checkTellable(t, "each path", s, d, answers(a))
				if got.Fails > 1 || a.Kind == impl.AnNull && got.Fails != 0 || a.Kind == impl.AnFail && got.Fails != 1 {
					t.Errorf("%q with %+v: %d Fails", text, a, got.Fails)
				}
				if t.Failed() {
					return
				}
				for _, other := range paths {
					checkTellable(t, "two paths", s, d, answers(failAt(other), a))
				}
			}
		}
	}
}

// most has as many Nodes as may be, all of them objects or their fields.
func most(t *testing.T) (impl.Schema, impl.Doc) {
	s := schema(objType("T", sized("in", "T", 9), capped("some", "Z", 10), must(plain("l", "S"))), leafType("S", 100), oneType("Z", "U", "T"), objType("U", plain("l", "S")))
	d := doc(sels(field("in", field("in", field("l")), field("l"))))
	d.Sels = append(d.Sels, keyed("some", "some", 10, on("T", field("l")), on("U", field("l"))))
	for _, key := range letters(9) {
		d.Sels = append(d.Sels, keyed(key, "in", -1, field("in", field("l"))))
	}
	if b := impl.BoundOf(s, d); b.Nodes < 1800 || b.Nodes > 2000 {
		t.Fatalf("%+v: too few Nodes, or too many", b)
	}
	return s, d
}

func TestTreesOf2000NodesAreToldInTime(t *testing.T) {
	s, d := most(t)
	l := answers(typeAt("some.3", "T"), textAt("some.3.l", strings.Repeat("y", 100)), failAt("in.3.in.3.l"), textAt("in.8.in.8.l", strings.Repeat("y", 101)))
	for len(l) < 40 {
		l = append(l, failAt(fmt.Sprintf("waa.%d.in.%d.l", len(l)%9, len(l)%7)))
	}
	inTime(t, "2000 Nodes", func() {
		full := checkTellable(t, "2000 Nodes", s, d, nil)
		if b := impl.BoundOf(s, d); impl.NodesOf(full.Tree) != b.Nodes || full.Calls != b.Calls {
			t.Errorf("%d Nodes and %d Calls, want those of %+v", impl.NodesOf(full.Tree), full.Calls, b)
		}
		got := checkTellable(t, "2000 Nodes", s, d, l)
		if got.Fails < 5 || impl.NodeSame(full.Tree, got.Tree) || !impl.NodeSame(got.Tree, copiedNode(got.Tree)) {
			t.Errorf("%d Fails, or trees that are the same and are not", got.Fails)
		}
		for range 20 {
			impl.Exec(s, d, l)
		}
	})
}

// ofItself has an object in each field, but for one.
const ofItself = "obj T one:T! may:T list:T[1] l:S\nleaf S 5\n"

// deepAndWide are two of 60 Sels, each of which asks for this field: a line through all Frags, as deep as may be, and such side by side.
func deepAndWide(name string) []impl.Doc {
	keys, names := letters(10), letters(impl.MaxFrags)
	line := func(bottom impl.Sel) []impl.Sel {
		return nestedIn(5, bottom, func(inner ...impl.Sel) impl.Sel { return keyed("abcdefgh", name, -1, inner...) })
	}
	deep := doc(line(spread(names[0])))
	for at, name := range names {
		bottom := field("l")
		if at+1 < len(names) {
			bottom = spread(names[at+1])
		}
		deep.Frags = append(deep.Frags, frag(name, "T", line(bottom)...))
	}
	wide := doc(repeated(10, func(at int) impl.Sel { return keyed(keys[at], name, -1, line(field("l"))[0].Sels...) }))
	return []impl.Doc{deep, wide}
}

// No Answer has so long a Path as there are in the deepest.
func TestWhatIs60SelsAnd6DeepIsToldInTime(t *testing.T) {
	s := asks(t, ofItself)
	for _, name := range []string{"one", "may", "list"} {
		for _, d := range deepAndWide(name) {
			inTime(t, name, func() {
				b := impl.BoundOf(s, d)
				got := checkTellable(t, name, s, d, nil)
				if got.Calls != b.Calls || impl.NodesOf(got.Tree) != b.Nodes {
					t.Errorf("%d Calls and %d Nodes, want those of %+v", got.Calls, impl.NodesOf(got.Tree), b)
				}
				step := map[string]string{"one": "abcdefgh", "may": "abcdefgh", "list": "abcdefgh.0"}[name]
				for count := 1; count*(len(step)+1)-1 <= 100; count++ {
					checkTellable(t, name, s, d, answers(failAt(strings.Join(slices.Repeat([]string{step}, count), "."))))
					checkTellable(t, name, s, d, answers(nullAt(letters(1)[0]+strings.Repeat("."+step, count-1))))
				}
			})
		}
	}
	all := doc(lines(10, 6, func(at int, inner []impl.Sel) impl.Sel {
		if at == 6 {
			return field("l")
		}
		return []impl.Sel{on("T", inner...), field("list", inner...)}[at%2]
	}))
	inTime(t, "of one Key", func() {
		if got := checkTellable(t, "of one Key", s, all, nil); countDoc(all) != impl.MaxSels || got.Calls != 4 {
			t.Errorf("of one Key: %d Sels, %d Calls", countDoc(all), got.Calls)
		}
	})
}

// ofThree has three of itself in a List.
const ofThree = "obj T one:T in:T[3] l:S\nleaf S 5\n"

// mostSpread are questions that come to the same: the first asks once, the others spread it in as many ways as there may be.
func mostSpread() map[string][]impl.Doc {
	all := map[string][]impl.Doc{}
	line := field("l")
	for what, last := range map[string][]impl.Sel{
		"leaves":          repeated(10, func(int) impl.Sel { return line }),
		"a field of many": sels(field("in", repeated(9, func(int) impl.Sel { return line })...)),
		"fields of two":   repeated(2, func(int) impl.Sel { return field("in", field("one", line), line) }),
		"5 deep":          nestedIn(4, line, func(inner ...impl.Sel) impl.Sel { return field("in", inner...) }),
	} {
		all[what] = []impl.Doc{doc(last), mostWays(10, last...), eachOther(last...)}
		for i, d := range all[what] {
			if countDoc(d) > impl.MaxSels {
				all[what][i].Sels = d.Sels[:4]
			}
		}
	}
	return all
}

// What is spread again in one object is asked for once, in however many ways.
func TestWhatIsSpreadMostOftenIsToldInTime(t *testing.T) {
	s := asks(t, ofThree)
	for what, all := range mostSpread() {
		want := checkTellable(t, what, s, all[0], nil)
		for _, d := range all[1:] {
			inTime(t, what, func() {
				for range 50 {
					impl.Exec(s, d, nil)
				}
				if got := impl.Exec(s, d, nil); !sameTold(got, want) || impl.Validate(s, d).Code != impl.OK {
					t.Errorf("%s: Exec %s is %+v, want %+v", what, docWords(d), got, want)
				}
				// In each of several objects.
				d.Sels = sels(field("in", d.Sels[0], spread(d.Frags[1].Name)))
				if got, want := impl.Exec(s, d, nil), impl.Exec(s, doc(sels(field("in", all[0].Sels...))), nil); !sameTold(got, want) {
					t.Errorf("%s, in a List: Exec %s is %+v, want %+v", what, docWords(d), got, want)
				}
			})
		}
	}
}

// Whatever is handed in, every call answers.
func TestWhateverIsHandedInIsAnswered(t *testing.T) {
	s := asks(t, things)
	ring := fields(3)
	for i := range ring {
		ring[i].Sels = ring
	}
	long := strings.Repeat("a", impl.MaxBytes+1)
	inTime(t, "whatever", func() {
		checkRefused(t, "a ring", s, doc(ring), nil, impl.ErrForm)
		checkRefused(t, "zero", impl.Schema{}, impl.Doc{}, nil, impl.ErrForm)
		checkRefused(t, "long texts", s, doc(fieldsOf(long)), answers(textAt(long, long)), impl.ErrForm)
		d := dice(18)
		for range 300 {
			made := d.doc()
			l := slices.Repeat(answers(impl.Answer{Path: d.word(), Kind: int64(d.below(7)), N: int64(d.below(9) - 1), Text: d.pick("", "A", "\n")}), d.below(45))
			code := impl.Exec(s, made, l).Code
			if !impl.AnswersRight(l) && code != impl.ErrForm {
				t.Errorf("with %+v: Exec %s is of Code %d", l, docWords(made), code)
			}
		}
	})
}

func copiedNode(n impl.Node) impl.Node {
	n.Keys, n.Kids = slices.Clone(n.Keys), slices.Clone(n.Kids)
	for i := range n.Kids {
		n.Kids[i] = copiedNode(n.Kids[i])
	}
	return n
}

// nodesIn are a Node, and all in it.
func nodesIn(n *impl.Node) []*impl.Node {
	all := []*impl.Node{n}
	for i := range n.Kids {
		all = append(all, nodesIn(&n.Kids[i])...)
	}
	return all
}

func TestNodesOf(t *testing.T) {
	check := func(n impl.Node, want int64) {
		t.Helper()
		if got := impl.NodesOf(n); got != want {
			t.Errorf("NodesOf(%s) is %d, want %d", nodeFields(n), got, want)
		}
	}
	check(null(), 1)
	check(leaf(""), 1)
	check(leaf("abc"), 1)
	check(listOf(), 1)
	check(objectOf(""), 1)
	check(listOf(null()), 2)
	check(listOf(null(), leaf("a"), listOf(), objectOf("")), 5)
	check(listOf(listOf(listOf(listOf()))), 4)
	check(listOf(listOf(), listOf(listOf(), null()), null()), 6)
	check(objectOf("a", null()), 2)
	check(objectOf("a b c", null(), listOf(leaf("x"), leaf("y")), objectOf("a", leaf("x"))), 7)
	check(objectOf("a", objectOf("a", objectOf("a", listOf(objectOf("a", null()))))), 6)
	check(listOf(slices.Repeat([]impl.Node{objectOf("a", leaf("x"))}, 100)...), 201)
	check(listOf(slices.Repeat([]impl.Node{null()}, 1999)...), 2000)
	d := dice(19)
	for range 2000 {
		n := d.node(5)
		check(n, countNodes(n))
	}
}

// node is a right one, no deeper than that.
func (d *dice) node(deep int) impl.Node {
	kind := d.below(6)
	if deep == 1 {
		kind = d.below(3)
	}
	switch kind {
	case 0:
		return null()
	case 1, 2:
		return leaf(d.pick("", "a", "b", "null", "x y", "[]{},:", strings.Repeat("t", 120)))
	}
	var kids []impl.Node
	for range d.below(4) {
		kids = append(kids, d.node(deep-1))
	}
	if kind == 3 {
		return listOf(kids...)
	}
	at := d.below(20)
	return impl.Node{Kind: impl.NoObj, Keys: letters(25)[at : at+len(kids)], Kids: kids}
}

// nodeChanges alter a Node in one thing each, so that it is right as before, and tell whether they could.
func nodeChanges() map[string]func(n *impl.Node) bool {
	return map[string]func(n *impl.Node) bool{
		"Kind": func(n *impl.Node) bool {
			of := n.Kind
			n.Kind = of%4 + 1
			return n.Text == "" && len(n.Keys) == 0 && len(n.Kids) == 0
		},
		"Kind, of as many": func(n *impl.Node) bool {
			is := n.Kind == impl.NoObj
			n.Kind, n.Keys = impl.NoList, nil
			return is
		},
		"Text": func(n *impl.Node) bool {
			n.Text = strings.Replace(n.Text+"z", "tz", "u", 1)
			return n.Kind == impl.NoText
		},
		"the first Key": func(n *impl.Node) bool {
			if len(n.Keys) > 0 {
				n.Keys[0] = "zz"
			}
			return len(n.Keys) > 0
		},
		"the last Key": func(n *impl.Node) bool {
			if len(n.Keys) > 1 {
				n.Keys[len(n.Keys)-1] = "zz"
			}
			return len(n.Keys) > 1
		},
		"the order of Keys": func(n *impl.Node) bool {
			slices.Reverse(n.Keys)
			return len(n.Keys) > 1
		},
		"the order of Kids": func(n *impl.Node) bool {
			before := nodeFields(*n)
			slices.Reverse(n.Kids)
			return nodeFields(*n) != before
		},
		"one Kid less": func(n *impl.Node) bool {
			if len(n.Kids) == 0 {
				return false
			}
			n.Kids, n.Keys = n.Kids[:len(n.Kids)-1], n.Keys[:max(len(n.Keys)-1, 0)]
			return true
		},
		"one Kid more": func(n *impl.Node) bool {
			n.Kids = append(n.Kids, null())
			if n.Kind == impl.NoObj {
				n.Keys = append(n.Keys, "zz")
			}
			return n.Kind >= impl.NoList
		},
		"the first Kid": func(n *impl.Node) bool {
			if len(n.Kids) == 0 {
				return false
			}
			n.Kids[0] = listOf(n.Kids[0])
			return true
		},
	}
}

func checkSame(t *testing.T, what string, a impl.Node, b impl.Node, want bool) {
	t.Helper()
	if got, back := impl.NodeSame(a, b), impl.NodeSame(b, a); got != want || back != want {
		t.Errorf("%s: NodeSame of %s and %s is %t, and %t the other way round, want %t", what, nodeFields(a), nodeFields(b), got, back, want)
	}
}

func TestNodeSame(t *testing.T) {
	kinds := []impl.Node{null(), leaf(""), leaf("a"), leaf("b"), listOf(), objectOf(""), listOf(null()), listOf(leaf("")), listOf(null(), null()), listOf(listOf()), listOf(listOf(), null()), listOf(null(), listOf()),
		objectOf("a", null()), objectOf("b", null()), objectOf("a", leaf("")), objectOf("a b", null(), null()), objectOf("b a", null(), null()), objectOf("a b", leaf(""), null()), objectOf("a b", null(), leaf(""))}
	for i, a := range kinds {
		for j, b := range kinds {
			checkSame(t, "kinds", a, copiedNode(b), i == j)
			// Deep within.
			around := func(n impl.Node) impl.Node {
				return objectOf("a b", leaf("x"), listOf(null(), objectOf("a", listOf(n)), leaf("y")))
			}
			checkSame(t, "kinds, deep within", around(a), around(copiedNode(b)), i == j)
		}
	}
	// An empty list and none are the same.
	empty := impl.Node{Kind: impl.NoObj, Keys: []string{}, Kids: []impl.Node{}}
	checkSame(t, "empty lists", empty, impl.Node{Kind: impl.NoObj}, true)
	checkSame(t, "empty lists", listOf(empty), listOf(impl.Node{Kind: impl.NoObj}), true)
}

func TestNodeSameOfOneDifference(t *testing.T) {
	d := dice(20)
	told := map[string]int{}
	for range 600 {
		n := d.node(5)
		checkSame(t, "itself", n, n, true)
		checkSame(t, "a copy", n, copiedNode(n), true)
		for what, change := range nodeChanges() {
			for at := range nodesIn(&n) {
				other := copiedNode(n)
				if change(nodesIn(&other)[at]) {
					told[what]++
					checkSame(t, what, n, other, false)
				}
			}
		}
	}
	for what := range nodeChanges() {
		if told[what] < 100 {
			t.Errorf("too few of %q to tell: %v", what, told)
		}
	}
}

// What is no right Node is refused: none are told, and it is the same as nothing.
func TestNodesThatAreNotRight(t *testing.T) {
	for what, n := range wrongNodes() {
		for where, n := range map[string]impl.Node{"alone": n, "in a list": listOf(null(), n), "in an object": objectOf("a", n), "deep": listOf(objectOf("a b", leaf("x"), listOf(n)))} {
			inTime(t, what, func() {
				if got := impl.NodesOf(n); got != 0 {
					t.Errorf("%s, %s: NodesOf is %d", what, where, got)
				}
				if impl.NodeSame(n, n) || impl.NodeSame(n, null()) || impl.NodeSame(null(), n) {
					t.Errorf("%s, %s: NodeSame is yes", what, where)
				}
			})
		}
	}
}

// treeLists are all lists of a tree, with the memory that stands behind their ends, by what overwrites them.
func treeLists(n impl.Node) (keys [][]string, kids [][]impl.Node) {
	for _, one := range nodesIn(&n) {
		keys = append(keys, one.Keys[:cap(one.Keys)])
		kids = append(kids, one.Kids[:cap(one.Kids)])
	}
	return keys, kids
}

// toldOfMany is a tree with many lists.
func toldOfMany(t *testing.T) (impl.Schema, impl.Doc, []impl.Answer) {
	d := question(t, "{ id a { ...f k:a { ...f ...f } } as { ...f tags:id } tags(3) one { ...on A { ...f } ...on B { ...g } } ms { some { ...on B { ...g b } ...on A { ...f } } } } fragment f on A { id l:id as { need id } } fragment g on B { id need }")
	return asks(t, needs), d, answers(textAt("id", "abc"), typeAt("one", "B"), textAt("as.1.id", "abc"), textAt("as.2.id", "abc"), nullAt("as.0.as"), textAt("tags.1", "abc"), typeAt("ms.1.some.0", "B"))
}

// checkListsApart overwrites what is told, list by list: no other one, nor what is told another time, may show it.
func checkListsApart(t *testing.T, tell func() impl.Node) {
	t.Helper()
	first := tell()
	words := nodeFields(first)
	keys, _ := treeLists(first)
	if len(keys) < 60 {
		t.Fatalf("only %d lists: too few to tell", len(keys))
	}
	for at := range keys {
		keys, kids := treeLists(tell())
		for i := range keys[at] {
			keys[at][i] = "TURNED"
		}
		for other, list := range keys {
			if other != at && slices.Contains(list, "TURNED") {
				t.Errorf("Keys %d and %d share memory", at, other)
			}
		}
		for i := range kids[at] {
			kids[at][i].Kind = -7
		}
		for other, list := range kids {
			if other != at && slices.ContainsFunc(list, func(n impl.Node) bool { return n.Kind == -7 }) {
				t.Errorf("Kids %d and %d share memory", at, other)
			}
		}
		if got := nodeFields(first); got != words {
			t.Fatalf("what was told came to be %s", got)
		}
	}
}

func TestWhatIsToldOfAQuestionSharesNothing(t *testing.T) {
	s, d, l := toldOfMany(t)
	checkListsApart(t, func() impl.Node { return impl.Exec(s, d, l).Tree })
	checkTellable(t, "told again", s, d, l)
}

// textsOf are all texts of a question, but for those of its Frags, and of what there is.
func textsOf(s impl.Schema, d impl.Doc) []string {
	var all []string
	for _, of := range s.Types {
		all = append(all, typeTexts(of)...)
	}
	for _, list := range lists(d) {
		for _, sel := range list {
			all = append(all, sel.Key, sel.Name)
		}
	}
	return all
}

func TestWhatIsToldHoldsNothingOfAQuestion(t *testing.T) {
	s, d, l := toldOfMany(t)
	var told []string
	handed := textsOf(s, d)
	for i := range l {
		l[i].Path, l[i].Text = strings.Clone(l[i].Path), strings.Clone(l[i].Text)
		handed = append(handed, l[i].Path, l[i].Text)
	}
	tree := impl.Exec(s, d, l).Tree
	for _, n := range nodesIn(&tree) {
		told = append(told, append(n.Keys, n.Text)...)
	}
	told = append(told, impl.Json(leaf(l[0].Text)))
	for _, a := range l {
		got := impl.AnswerOf(l, a.Path)
		told = append(told, got.Path, got.Text)
	}
	if len(told) < 100 {
		t.Fatalf("only %q: too few to tell", told)
	}
	for _, one := range told {
		for _, other := range handed {
			if within(one, other) {
				t.Errorf("%q is a part of what was handed in", one)
			}
		}
	}
}

func TestWhatIsToldOfIsNotChanged(t *testing.T) {
	d := dice(21)
	for i := range 300 {
		s := apart()
		a := asker{dice: &d, s: s, odd: []int{40, 100000}[i%2]}
		made := a.doc()
		made.Sels = behind(made.Sels)
		for i := range made.Sels {
			made.Sels[i].Sels = behind(made.Sels[i].Sels)
		}
		for i := range made.Frags {
			made.Frags[i].Sels = behind(made.Frags[i].Sels)
		}
		l := answers(failAt("key"), manyAt("other", 2), textAt("other.1.key", "abc"), typeAt("any", "POST"), nullAt("behind"), nullAt("behind"))[:4]
		handed := slices.Clone(l[:cap(l)])
		before := copiedLists(lists(made))
		types, whole := copiedSchema(s), copiedDoc(made)
		impl.Exec(s, made, l)
		impl.AnswersRight(l)
		impl.AnswerOf(l, "key")
		if !reflect.DeepEqual(types, copiedSchema(s)) || !reflect.DeepEqual(whole, made) || !reflect.DeepEqual(before, lists(made)) || !slices.Equal(handed, l[:cap(l)]) {
			t.Errorf("%s was changed, or what there is, or %+v", docWords(whole), handed)
		}
		n := d.node(5)
		n.Keys, n.Kids = append(n.Keys, "behind")[:len(n.Keys)], append(n.Kids, leaf("behind"))[:len(n.Kids)]
		words, other := nodeFields(n), copiedNode(n)
		impl.NodesOf(n)
		impl.NodeSame(n, other)
		impl.Json(n)
		if nodeFields(n) != words || nodeFields(other) != words || n.Kids[:len(n.Kids)+1][len(n.Kids)].Text != "behind" || n.Keys[:len(n.Keys)+1][len(n.Keys)] != "behind" {
			t.Errorf("%s was changed", words)
		}
	}
}

func TestExecTellsTheSameAgain(t *testing.T) {
	s, d, l := toldOfMany(t)
	first, none := impl.Exec(s, d, l), impl.Exec(s, d, nil)
	if sameTold(first, none) {
		t.Fatalf("got %+v with Answers, and without", first)
	}
	for range 20 {
		impl.Exec(s, question(t, "{ m { need } }"), answers(failAt("m.need")))
		impl.Exec(asks(t, things), question(t, "{ any { ...on POST { id } } }"), answers(typeAt("any", "POST")))
		if again := impl.Exec(s, d, l); !reflect.DeepEqual(first, again) {
			t.Errorf("got %+v, then %+v", first, again)
		}
		if again := impl.Exec(s, d, nil); !reflect.DeepEqual(none, again) {
			t.Errorf("got %+v, then %+v", none, again)
		}
	}
}
