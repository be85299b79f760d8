package tests

import (
	"fmt"
	"reflect"
	"slices"
	"strings"
	"testing"
	"time"

	"loop.example/g00836/impl"
)

// things have a field of each kind of type, a list of each kind, and types that nothing is of.
const things = "obj Q id:STR nil:NIL user:USER any:ANY! users:USER[<5] fix:USER[3] tags:STR[<100] none:STR[0]\n" +
	"leaf STR 30\nleaf NIL 0\nobj USER id:STR! name:STR posts:POST[<1] self:USER any:ANY[<2]\nobj POST id:STR user:USER\none ANY USER POST\none SOLO Q\n"

// question is the Doc of a text that has to be right.
func question(t *testing.T, text string) impl.Doc {
	t.Helper()
	read := impl.DocRead(text)
	if read.Code != impl.OK {
		t.Fatalf("%q is no question: code %d", text, read.Code)
	}
	return read.Doc
}

func asks(t *testing.T, text string) impl.Schema {
	t.Helper()
	read := impl.SchemaRead(text)
	if read.Code != impl.OK {
		t.Fatalf("%q is no Schema: code %d", text, read.Code)
	}
	return read.Schema
}

func checkLoops(t *testing.T, text string, want string) {
	t.Helper()
	if got := impl.Loops(question(t, text)); got != want {
		t.Errorf("Loops(%q) is %q, want %q", text, got, want)
	}
}

func checkClash(t *testing.T, text string, want string) {
	t.Helper()
	if got := impl.Clash(question(t, text)); got != want {
		t.Errorf("Clash(%q) is %q, want %q", text, got, want)
	}
}

func checkValid(t *testing.T, text string, code int64, what string) {
	t.Helper()
	want := impl.ValidOut{What: what, Code: code}
	if got := impl.Validate(asks(t, things), question(t, text)); got != want {
		t.Errorf("Validate(%q) is %+v, want %+v", text, got, want)
	}
}

func TestLoops(t *testing.T) {
	cases := []struct{ text, want string }{
		{"{ a }", ""},
		{"{ a } fragment f on T { a }", ""},
		{"{ f } fragment f on T { f }", ""},
		{"{ f } fragment f on F { f:a { f } ...on F { f } }", ""},
		{"{ ...f }", ""},
		{"{ ...f } fragment f on T { ...f }", "f"},
		{"{ a } fragment f on T { ...f }", "f"},
		{"{ a } fragment f on T { a ...f b }", "f"},
		{"{ a } fragment f on T { ...none ...f }", "f"},
		{"{ ...none } fragment f on T { ...none }", ""},
		{"{ ...f } fragment f on T { ...none ...nil } fragment g on T { ...f ...none }", ""},
		{"{ a } fragment f on T { a { b { c { d { e { ...f } } } } } }", "f"},
		{"{ a } fragment f on T { ...on A { ...on B { ...on C { ...f } } } }", "f"},
		{"{ a } fragment f on T { x a { ...on B { y c { z ...on D { ...f } } } } }", "f"},
		{"{ a } fragment f on T { ...g } fragment g on T { ...f }", "f"},
		{"{ a } fragment g on T { ...f } fragment f on T { ...g }", "g"},
		{"{ a } fragment f on T { ...g } fragment g on T { ...h } fragment h on T { ...f }", "f"},
		{"{ a } fragment a on T { ...b } fragment b on T { ...c } fragment c on T { ...d } fragment d on T { ...e } fragment e on T { ...a }", "a"},
		{"{ a } fragment e on T { ...a } fragment d on T { ...e } fragment c on T { ...d } fragment b on T { ...c } fragment a on T { ...b }", "e"},
		{"{ a } fragment a on T { ...b } fragment b on T { ...c } fragment c on T { ...d } fragment d on T { ...e } fragment e on T { x }", ""},
		{"{ a } fragment a on T { ...b } fragment b on T { ...c } fragment c on T { ...d } fragment d on T { ...e } fragment e on T { ...e }", "e"},
		{"{ a } fragment a on T { ...b } fragment b on T { ...c } fragment c on T { ...d } fragment d on T { ...e } fragment e on T { ...d }", "d"},
		{"{ ...f } fragment f on T { ...g } fragment g on T { ...h } fragment h on T { ...g }", "g"},
		{"{ ...f } fragment f on T { ...h } fragment g on T { ...h } fragment h on T { ...g }", "g"},
		{"{ ...f } fragment f on T { ...h } fragment h on T { ...g } fragment g on T { ...h }", "h"},
		{"{ ...f } fragment f on T { ...g } fragment g on T { ...g }", "g"},
		{"{ ...f } fragment f on T { a } fragment g on T { ...f ...g }", "g"},
		{"{ ...f ...g } fragment f on T { ...h } fragment g on T { ...h } fragment h on T { a }", ""},
		{"{ ...f ...f } fragment f on T { ...g ...g } fragment g on T { ...h ...h } fragment h on T { a ...none }", ""},
		{"{ ...f } fragment f on T { ...g ...h } fragment g on T { ...h } fragment h on T { a }", ""},
		{"{ ...f } fragment f on T { ...h ...g } fragment g on T { ...h } fragment h on T { a }", ""},
		{"{ ...f } fragment f on T { ...h ...g } fragment g on T { ...f } fragment h on T { ...h }", "f"},
		{"{ ...f } fragment f on T { a { ...g } } fragment g on T { ...on U { b { ...f } } }", "f"},
		{"{ a } fragment f on T { ...g } fragment g on T { ...g ...f }", "f"},
		{"{ a } fragment f on T { a } fragment g on T { ...i ...j } fragment i on T { ...f } fragment j on T { ...i ...j }", "j"},
	}
	for _, c := range cases {
		checkLoops(t, c.text, c.want)
	}
}

// Rings stand at each place among Frags that lead into them, or do not.
func TestRingsOfEachSize(t *testing.T) {
	for size := 1; size <= impl.MaxFrags; size++ {
		for start := range impl.MaxFrags - size + 1 {
			for _, deep := range []int{1, 2, impl.MaxDeep} {
				var all []impl.Frag
				names := letters(impl.MaxFrags)
				for at, name := range names {
					to := min(at+1, start)
					if at >= start && at < start+size {
						to = start + (at-start+1)%size
					}
					all = append(all, frag(name, "T", nested(deep, spread(names[to]))...))
				}
				// Those behind the ring spread its first one too, and are not in it.
				if got := impl.Loops(doc(fields(1), all...)); got != names[start] {
					t.Errorf("a ring of %d from %d on, %d deep: Loops is %q, want %q", size, start, deep, got, names[start])
				}
				all[start].Sels = fields(1)
				if got := impl.Loops(doc(fields(1), all...)); got != "" {
					t.Errorf("a broken ring of %d from %d on, %d deep: Loops is %q", size, start, deep, got)
				}
			}
		}
	}
}

func TestClash(t *testing.T) {
	cases := []struct{ text, want string }{
		{"{ a }", ""},
		{"{ a a a }", ""},
		{"{ a:x a:x }", ""},
		{"{ a:x b:x }", ""},
		{"{ a(3) a(3) }", ""},
		{"{ a:b b:a }", ""},
		{"{ a b:a }", ""},
		{"{ a b:a b }", "b"},
		{"{ a:x a:y }", "a"},
		{"{ a a:b }", "a"},
		{"{ a:b a }", "a"},
		{"{ a:x b a:y }", "a"},
		{"{ a:x a:x a:y }", "a"},
		{"{ a:x a:y a:x }", "a"},
		{"{ a a(0) }", "a"},
		{"{ a(0) a }", "a"},
		{"{ a(0) a(1) }", "a"},
		{"{ a(100) a(10) }", "a"},
		{"{ a:x(1) a:x(2) }", "a"},
		{"{ a:x(1) b:x(2) }", ""},
		{"{ a:x b:x b:y a:y }", "b"},
		{"{ a:x b:x a:y b:y }", "a"},
		{"{ b:x a:x a:y b:y }", "a"},
		{"{ a { x } a { y } }", ""},
		{"{ a a { y } }", ""},
		{"{ a { x:y } x }", ""},
		{"{ a { x:y } b { x:z } }", ""},
		{"{ a { x:y x:z } }", "x"},
		{"{ a { x:y } a { x:z } }", "x"},
		{"{ a { x:y } b a { x:z } }", "x"},
		{"{ a { x(1) } a { x } }", "x"},
		{"{ a { x:y } a:b { x:z } }", "a"},
		{"{ a { x:y } a(1) { x:z } }", "a"},
		{"{ a { b { c { d { e { f:x } } } } } a { b { c { d { e { f:y } } } } } }", "f"},
		{"{ a { b { x:y } c { x:z } } a { c { w } b { x:y } } }", ""},
		// All fields first, and only then those of each Key, as these first stand.
		{"{ a { x:y x:z } b c b:d }", "b"},
		{"{ b { x:y x:z } a { w:y w:z } }", "x"},
		{"{ a { w:y w:z } b { x:y x:z } }", "w"},
		{"{ b a { w:y w:z } b { x:y x:z } }", "x"},
		{"{ b { x:y } a { w:y } a { w:z } b { x:z } }", "x"},
		{"{ b { q } a { w:y } a { w:z } b { x:z x:y } }", "x"},
		{"{ a { c { x:y x:z } d d:e } }", "d"},
		{"{ a { c { x:y x:z } } a { d d:e } }", "d"},
		{"{ a { c { x:y } d } a { c { x:z } } b { w:y w:z } }", "x"},
		{"{ a { c { d { x:y x:z } } } b { w:y w:z } }", "x"},
		// Laid open from an on.
		{"{ ...on T { a:x } a:y }", "a"},
		{"{ a:y ...on T { a:x } }", "a"},
		{"{ ...on T { a:x } ...on U { a:y } }", "a"},
		{"{ ...on T { a:x } ...on U { a:x } }", ""},
		{"{ ...on T { a:x ...on U { ...on V { ...on W { ...on X { a:y } } } } } }", "a"},
		{"{ ...on T { a { x:y } } a { ...on U { x:z } } }", "x"},
		{"{ ...on T { a:x b } a:y b:c }", "a"},
		{"{ ...on T { b } a:x a:y b:c }", "a"},
		{"{ ...on T { b a:x b:c } a:y }", "b"},
		// Laid open from a spread.
		{"{ ...f } fragment f on T { a:x a:y }", "a"},
		{"{ ...f a:y } fragment f on T { a:x }", "a"},
		{"{ a:y ...f } fragment f on T { a:x }", "a"},
		{"{ ...f ...g } fragment f on T { a:x } fragment g on T { a:y }", "a"},
		{"{ ...f ...g } fragment f on T { a:x } fragment g on T { a:x }", ""},
		{"{ ...f a:y } fragment f on T { ...g } fragment g on T { ...h } fragment h on T { ...i } fragment i on T { ...j } fragment j on T { a:x }", "a"},
		{"{ a:y ...on T { ...f } } fragment f on T { ...on U { ...g } } fragment g on T { ...on V { a:x } }", "a"},
		{"{ ...f a { x:z } } fragment f on T { a { ...g } } fragment g on T { x:y }", "x"},
		{"{ a { ...f } a { ...g } } fragment f on T { x:y } fragment g on T { x:z }", "x"},
		{"{ a { ...f } a { ...f } } fragment f on T { x:y }", ""},
		{"{ a { ...f } b { x:z } } fragment f on T { x:y }", ""},
		{"{ ...f b:c ...g } fragment f on T { a:x b } fragment g on T { a:y }", "b"},
		{"{ ...f ...g b:c } fragment f on T { a:x b } fragment g on T { a:y }", "a"},
		{"{ ...g ...f a:z } fragment f on T { b:x } fragment g on T { a b }", "b"},
		{"{ ...none a ...none }", ""},
		{"{ ...none a:x ...none a:y }", "a"},
		// The same Frag again, at one place or at several.
		{"{ ...f ...f } fragment f on T { a:x b { c:y } }", ""},
		{"{ ...f ...f } fragment f on T { a:x b { c:y c:z } }", "c"},
		{"{ ...f a ...f } fragment f on T { a:x }", "a"},
		{"{ ...f b ...f b:c } fragment f on T { a:x }", "b"},
		{"{ ...f ...g ...f a:y } fragment f on T { b } fragment g on T { ...f a:x }", "a"},
		{"{ a { ...f } b { ...f x:y } } fragment f on T { x }", "x"},
		{"{ a { ...f } b { ...f b { ...f x:y } } } fragment f on T { x }", "x"},
		{"{ ...f b { ...f a:y } } fragment f on T { a }", "a"},
		{"{ ...f b { a:y } } fragment f on T { a }", ""},
		// What is never spread counts for nothing; nor does the name of a Frag, or of a type.
		{"{ a } fragment f on T { a:x a:y }", ""},
		{"{ a:x } fragment f on T { a:y }", ""},
		{"{ ...f } fragment f on T { b } fragment g on T { ...f b:c }", ""},
		{"{ f:x ...f } fragment f on T { g }", ""},
		{"{ a ...a } fragment a on A { b }", ""},
		// What loops is told by Loops.
		{"{ a:x a:y } fragment f on T { ...f }", ""},
		{"{ ...f a:x a:y } fragment f on T { ...g } fragment g on T { ...f }", ""},
	}
	for _, c := range cases {
		checkClash(t, c.text, c.want)
	}
}

func TestValidate(t *testing.T) {
	cases := []struct {
		text string
		code int64
		what string
	}{
		{"{ id nil user { id } any { ...on USER { name } ...on POST { id } } users(5) { id } fix { id } tags(100) none }", impl.OK, ""},
		{"{ k:id id k:id }", impl.OK, ""},
		{"{ ...f user { ...g } } fragment f on Q { id } fragment g on USER { id self { ...h } } fragment h on USER { name }", impl.OK, ""},
		{"{ id } fragment f on ANY { ...on USER { id } }", impl.OK, ""},
		{"{ ...on SOLO { ...on Q { id } } ...on POST { user { self { self { id } } } } }", impl.OK, ""},
		// A spread is of any Frag, and an on of any object, whatever stands around it.
		{"{ ...f ...on USER { id } id } fragment f on POST { id }", impl.OK, ""},
		{"{ any { ...on Q { id } } ...on ANY { ...on SOLO { ...on ANY { ...f } } } } fragment f on USER { id }", impl.OK, ""},
		// There is no such field, or nothing has fields here.
		{"{ zz }", impl.ErrNone, "zz"},
		{"{ id:zz }", impl.ErrNone, "zz"},
		{"{ zz:id }", impl.OK, ""},
		{"{ name }", impl.ErrNone, "name"},
		{"{ name:id id:name }", impl.ErrNone, "name"},
		{"{ user { users(1) { id } } }", impl.ErrNone, "users"},
		{"{ any { id } }", impl.ErrNone, "id"},
		{"{ any { k:id } }", impl.ErrNone, "id"},
		{"{ any { user { id } } }", impl.ErrNone, "user"},
		{"{ ...on ANY { id } }", impl.ErrNone, "id"},
		{"{ ...on SOLO { id } }", impl.ErrNone, "id"},
		{"{ id } fragment f on ANY { id }", impl.ErrNone, "id"},
		{"{ id } fragment f on USER { nil }", impl.ErrNone, "nil"},
		{"{ any { ...on POST { name } } }", impl.ErrNone, "name"},
		{"{ user { any(1) { ...on ANY { ...on USER { posts(1) { name } } } } } }", impl.ErrNone, "name"},
		// A type that has no fields, or that there is not.
		{"{ ...on NO { id } }", impl.ErrNone, "NO"},
		{"{ ...on STR { id } }", impl.ErrNone, "STR"},
		{"{ ...on NIL { zz } }", impl.ErrNone, "NIL"},
		{"{ ...on USER { ...on NO { id } } }", impl.ErrNone, "NO"},
		{"{ user { posts(0) { ...on NIL { id } } } }", impl.ErrNone, "NIL"},
		{"{ id } fragment f on NO { id }", impl.ErrNone, "NO"},
		{"{ id } fragment f on STR { id }", impl.ErrNone, "STR"},
		{"{ ...f } fragment f on USER { id } fragment g on NIL { id }", impl.ErrNone, "NIL"},
		// A Frag that there is not.
		{"{ ...f }", impl.ErrNone, "f"},
		{"{ ...id }", impl.ErrNone, "id"},
		{"{ user { ...f } }", impl.ErrNone, "f"},
		{"{ any { ...on USER { ...f } } }", impl.ErrNone, "f"},
		{"{ ...f } fragment f on Q { ...g }", impl.ErrNone, "g"},
		{"{ id } fragment f on Q { user { ...g } }", impl.ErrNone, "g"},
		// The Key is told, not the Name.
		{"{ k:id(1) }", impl.ErrRange, "k"},
		{"{ k:users { id } }", impl.ErrRange, "k"},
		{"{ user { k:posts(2) { id } } }", impl.ErrRange, "k"},
		{"{ ...on USER { any(3) { ...on USER { id } } } }", impl.ErrRange, "any"},
		{"{ id } fragment f on USER { k:any(3) { ...on USER { id } } }", impl.ErrRange, "k"},
		{"{ k:id { id } }", impl.ErrState, "k"},
		{"{ k:user }", impl.ErrState, "k"},
		{"{ user { k:self } }", impl.ErrState, "k"},
		{"{ ...on POST { k:user } }", impl.ErrState, "k"},
		{"{ id } fragment f on POST { k:id { id } }", impl.ErrState, "k"},
		// What loops comes first, what clashes last.
		{"{ id } fragment f on Q { ...f }", impl.ErrThere, "f"},
		{"{ zz } fragment f on NO { ...f }", impl.ErrThere, "f"},
		{"{ ...none k:id k:nil } fragment f on NO { ...g } fragment g on Q { zz ...f }", impl.ErrThere, "f"},
		{"{ k:id k:nil }", impl.ErrThere, "k"},
		{"{ users(1) { id } users(2) { id } }", impl.ErrThere, "users"},
		{"{ users(1) { k:id } users(1) { k:name } }", impl.ErrThere, "k"},
		{"{ ...f k:nil } fragment f on USER { k:id }", impl.ErrThere, "k"},
		{"{ any { ...on USER { k:id } ...on POST { k:user { id } } } }", impl.ErrThere, "k"},
		{"{ k:id k:nil zz }", impl.ErrNone, "zz"},
		{"{ k:id k:zz }", impl.ErrNone, "zz"},
		{"{ k:id k:id(1) }", impl.ErrRange, "k"},
		{"{ k:id k:user }", impl.ErrState, "k"},
		{"{ k:id k:nil } fragment f on USER { users }", impl.ErrNone, "users"},
		{"{ k:id k:nil } fragment f on STR { id }", impl.ErrNone, "STR"},
		{"{ k:id k:nil } fragment f on USER { id } fragment g on USER { name { id } }", impl.ErrState, "name"},
		{"{ id } fragment f on USER { k:id k:name }", impl.OK, ""},
	}
	for _, c := range cases {
		checkValid(t, c.text, c.code, c.what)
	}
}

// wrongText is what is wrong for the root, and what is to be told of it.
type wrongText struct {
	text string
	out  impl.ValidOut
}

func wrongTexts() []wrongText {
	return []wrongText{
		{"zz", impl.ValidOut{What: "zz", Code: impl.ErrNone}},
		{"ka:zy(3) { id }", impl.ValidOut{What: "zy", Code: impl.ErrNone}},
		{"...on ANY { zx }", impl.ValidOut{What: "zx", Code: impl.ErrNone}},
		{"...on STR { zz }", impl.ValidOut{What: "STR", Code: impl.ErrNone}},
		{"...on NO { zz }", impl.ValidOut{What: "NO", Code: impl.ErrNone}},
		{"...none", impl.ValidOut{What: "none", Code: impl.ErrNone}},
		{"kb:id(0)", impl.ValidOut{What: "kb", Code: impl.ErrRange}},
		{"kc:id(0) { zz }", impl.ValidOut{What: "kc", Code: impl.ErrRange}},
		{"kd:users", impl.ValidOut{What: "kd", Code: impl.ErrRange}},
		{"ke:users(6) { zz }", impl.ValidOut{What: "ke", Code: impl.ErrRange}},
		{"kf:fix(3)", impl.ValidOut{What: "kf", Code: impl.ErrRange}},
		{"kg:id { zz }", impl.ValidOut{What: "kg", Code: impl.ErrState}},
		{"kh:user", impl.ValidOut{What: "kh", Code: impl.ErrState}},
		{"ki:any", impl.ValidOut{What: "ki", Code: impl.ErrState}},
		{"kj:users(5)", impl.ValidOut{What: "kj", Code: impl.ErrState}},
		{"kk:user { kl:id { zz } }", impl.ValidOut{What: "kl", Code: impl.ErrState}},
		{"km:user { kn:posts(2) }", impl.ValidOut{What: "kn", Code: impl.ErrRange}},
	}
}

// Of two that are wrong the one that is asked for first is told, wherever they stand.
func TestTheFirstThatIsWrongIsTold(t *testing.T) {
	for _, a := range wrongTexts() {
		checkValid(t, "{ "+a.text+" }", a.out.Code, a.out.What)
		for _, b := range wrongTexts() {
			for _, form := range []string{
				"{ A B }", "{ id A user { id } B }", "{ ...on Q { A } B }", "{ A ...on Q { B } }", "{ ...on Q { A B } }", "{ ...on Q { ...on Q { A } B } }", "{ ...on Q { A } ...on Q { B } }",
				"{ A } fragment f on Q { B }", "{ ...f A } fragment f on Q { B }", "{ ...f } fragment f on Q { A B }", "{ id } fragment f on Q { A } fragment g on Q { B }",
				"{ ...g } fragment f on Q { A } fragment g on Q { B }", "{ ...g } fragment f on Q { id ...on Q { A } } fragment g on NO { B }", "{ A } fragment f on NO { B }", "{ A } fragment f on STR { id }",
				"{ ...f ...on Q { id ...on Q { A } } k:id k:nil } fragment f on Q { B k:user k:user { ...none } }",
			} {
				checkValid(t, strings.Replace(strings.Replace(form, "A", a.text, 1), " B", " "+b.text, 1), a.out.Code, a.out.What)
			}
		}
		for _, form := range []string{"{ id } fragment f on NO { A }", "{ ...f } fragment f on NO { A } fragment g on STR { A }", "{ ...on NO { A } A }", "{ id ...on NO { id } A }"} {
			checkValid(t, strings.ReplaceAll(form, "A", a.text), impl.ErrNone, "NO")
		}
		for _, form := range []string{"{ A } fragment g on Q { A ...g }", "{ A A ...g } fragment g on NO { user { ...g } }"} {
			checkValid(t, strings.ReplaceAll(form, "A", a.text), impl.ErrThere, "g")
		}
	}
}

// askedOf asks for a field as First says, with these Sels: in the question, deep within it, and in a Frag.
func askedOf(name string, first int64, inner []impl.Sel) []impl.Doc {
	asked := keyed("key", name, first, inner...)
	return []impl.Doc{
		doc(sels(field("x"), asked)),
		doc(sels(field("in", on("Q", field("in", field("x"), asked))))),
		doc(sels(spread("f")), frag("f", "Q", asked, field("x"))),
	}
}

// outOf is what is to be told of a field that is asked for so.
func outOf(f impl.Field, first int64, leaf bool, inner []impl.Sel) impl.ValidOut {
	least, most := int64(-1), int64(-1)
	if f.Cap > 0 {
		least, most = 0, f.Cap
	}
	switch {
	case first > 100:
		return impl.ValidOut{Code: impl.ErrForm}
	case first < least || first > most:
		return impl.ValidOut{What: "key", Code: impl.ErrRange}
	case leaf != (len(inner) == 0):
		return impl.ValidOut{What: "key", Code: impl.ErrState}
	}
	return impl.ValidOut{}
}

func TestFirstAndSelsOfEachField(t *testing.T) {
	all := []impl.Field{plain("a", "T"), sized("a", "T", 0), sized("a", "T", 1), sized("a", "T", 50), sized("a", "T", 100)}
	for _, most := range []int64{1, 2, 9, 10, 50, 99, 100} {
		all = append(all, capped("a", "T", most), must(capped("a", "T", most)))
	}
	for _, of := range []impl.Type{leafType("T", 0), leafType("T", 100), objType("T", plain("b", "Q")), oneType("T", "Q")} {
		for _, f := range append(all, must(plain("a", "T")), must(sized("a", "T", 3))) {
			s := schema(objType("Q", plain("x", "S"), plain("in", "Q"), f), leafType("S", 5), of)
			for _, inner := range [][]impl.Sel{nil, {}, sels(on("Q", field("x")))} {
				for first := int64(-1); first <= 101; first++ {
					want := outOf(f, first, of.Kind == impl.KdLeaf, inner)
					for _, d := range askedOf("a", first, inner) {
						if got := impl.Validate(s, d); got != want {
							t.Errorf("%s of %q: Validate is %+v, want %+v", docWords(d), schemaWords(s), got, want)
						}
					}
				}
			}
		}
	}
}

func TestValidateRefusesWhatIsNotRight(t *testing.T) {
	form := impl.ValidOut{Code: impl.ErrForm}
	check := func(what string, s impl.Schema, d impl.Doc) {
		t.Helper()
		if got := impl.Validate(s, d); got != form {
			t.Errorf("%s: Validate is %+v", what, got)
		}
	}
	s := schema(objType("Q", plain("a", "S"), plain("x", "Q"), plain("y", "Q")), leafType("S", 5), oneType("U", "Q"))
	docs := []impl.Doc{
		doc(sels(field("a"))), doc(sels(field("zz"))), doc(sels(spread("f"))), doc(sels(keyed("a", "a", 5))), doc(sels(field("x"))),
		doc(sels(field("a"), keyed("a", "b", -1))), doc(sels(field("a")), frag("f", "NO", spread("f"))), {},
	}
	for _, d := range docs {
		check("the zero Schema", impl.Schema{}, d)
		check("a leaf as the root", schema(leafType("S", 5)), d)
		check("13 types", schema(objTypes(13)...), d)
		check("more types than MaxList", schema(objTypes(impl.MaxList+1)...), d)
		for what, f := range wrongFields() {
			check(what, schema(append(slices.Clone(s.Types), objType("R", f))...), d)
		}
		for what, of := range hiddenTypes() {
			check(what, schema(append(slices.Clone(s.Types), of)...), d)
		}
	}
	for what, wrong := range wrongSels() {
		for _, d := range []impl.Doc{doc(sels(wrong)), doc(sels(field("zz"), wrong)), doc(sels(field("a")), frag("f", "NO", spread("f"), wrong)), doc(sels(field("a"), keyed("a", "b", -1)), frag("f", "Q", wrong))} {
			check(what, s, d)
			check(what, impl.Schema{}, d)
		}
	}
	check("no Sels", s, impl.Doc{Frags: []impl.Frag{frag("f", "Q", field("a"))}})
	check("one Frag more", s, doc(sels(field("a")), frags(impl.MaxFrags+1)...))
	check("one Sel more", s, doc(fields(impl.MaxSels+1)))
	check("one deeper", s, doc(nested(impl.MaxDeep+1, field("a"))))
	check("more than MaxList", s, doc(fields(impl.MaxList+1)))
}

// What would loop, or clash, is told of right Docs alone.
func TestLoopsAndClashOfWhatIsNotRight(t *testing.T) {
	ring := []impl.Frag{frag("f", "T", spread("g")), frag("g", "T", spread("f"))}
	two := sels(field("a"), keyed("a", "b", -1))
	if impl.Loops(doc(fields(1), ring...)) != "f" || impl.Clash(doc(two)) != "a" {
		t.Fatal("what is right is not told")
	}
	check := func(what string, d impl.Doc) {
		t.Helper()
		if loops, clash := impl.Loops(d), impl.Clash(d); loops != "" || clash != "" {
			t.Errorf("%s: Loops is %q, Clash %q", what, loops, clash)
		}
	}
	for what, wrong := range wrongSels() {
		check(what, doc(sels(wrong), ring...))
		check(what+" behind", doc(fields(1), append(slices.Clone(ring), frag("h", "T", wrong))...))
		check(what+" and two", doc(append(slices.Clone(two), wrong)))
		check(what+" and two, in a Frag", doc(two, frag("h", "T", wrong)))
	}
	check("the zero Doc", impl.Doc{})
	check("no Sels", impl.Doc{Frags: ring})
	check("one deeper", doc(append(nested(impl.MaxDeep+1, field("a")), two...)))
	check("one deeper, looping", doc(nested(impl.MaxDeep+1, field("a")), ring...))
	check("one Sel more", doc(append(fields(impl.MaxSels-1), two...)))
	check("one Sel more, looping", doc(fields(impl.MaxSels-1), ring...))
	check("one Frag more", doc(two, frags(impl.MaxFrags+1)...))
	check("one Frag more, looping", doc(fields(1), append(frags(impl.MaxFrags-1), ring...)...))
	check("two of one Name", doc(two, ring[0], ring[0]))
	check("a Frag on a word", doc(two, frag("f", "t", spread("f"))))
	check("more than MaxList", doc(append(two, fields(impl.MaxList)...), ring...))
}

// spreadsIn tells whether a spread of that name stands somewhere in Sels.
func spreadsIn(all []impl.Sel, name string) bool {
	for _, s := range all {
		if s.Kind == impl.SlSpread && s.Name == name || spreadsIn(s.Sels, name) {
			return true
		}
	}
	return false
}

// loopsOf closes the table of who spreads whom, apart from the program.
func loopsOf(d impl.Doc) string {
	var to [impl.MaxFrags][impl.MaxFrags]bool
	for i, a := range d.Frags {
		for j, b := range d.Frags {
			to[i][j] = spreadsIn(a.Sels, b.Name)
		}
	}
	for k := range d.Frags {
		for i := range d.Frags {
			for j := range d.Frags {
				to[i][j] = to[i][j] || to[i][k] && to[k][j]
			}
		}
	}
	for i, f := range d.Frags {
		if to[i][i] {
			return f.Name
		}
	}
	return ""
}

// laidOpen are all fields, as often as they come, apart from the program.
func laidOpen(d impl.Doc, all []impl.Sel) []impl.Sel {
	var open []impl.Sel
	for _, s := range all {
		switch s.Kind {
		case impl.SlField:
			open = append(open, s)
		case impl.SlOn:
			open = append(open, laidOpen(d, s.Sels)...)
		case impl.SlSpread:
			for _, f := range d.Frags {
				if f.Name == s.Name {
					open = append(open, laidOpen(d, f.Sels)...)
				}
			}
		}
	}
	return open
}

// clashIn holds each field against each one ahead of it, apart from the program.
func clashIn(d impl.Doc, all []impl.Sel) string {
	open := laidOpen(d, all)
	for i, s := range open {
		for _, ahead := range open[:i] {
			if ahead.Key == s.Key && (ahead.Name != s.Name || ahead.First != s.First) {
				return s.Key
			}
		}
	}
	for i, s := range open {
		var inner []impl.Sel
		alike := func(other impl.Sel) bool { return other.Key == s.Key }
		if slices.ContainsFunc(open[:i], alike) {
			continue
		}
		for _, other := range open[i:] {
			if alike(other) {
				inner = append(inner, other.Sels...)
			}
		}
		if key := clashIn(d, inner); key != "" {
			return key
		}
	}
	return ""
}

// wrongsOf are all things that are wrong of Sels, in order, apart from the program.
func wrongsOf(s impl.Schema, d impl.Doc, all []impl.Sel, of string) []impl.ValidOut {
	var wrong []impl.ValidOut
	add := func(bad bool, what string, code int64) {
		if bad {
			wrong = append(wrong, impl.ValidOut{What: what, Code: code})
		}
	}
	for _, sel := range all {
		switch sel.Kind {
		case impl.SlSpread:
			there := slices.ContainsFunc(d.Frags, func(f impl.Frag) bool { return f.Name == sel.Name })
			add(!there, sel.Name, impl.ErrNone)
		case impl.SlOn:
			add(firstType(s, sel.Name).Kind < impl.KdObj, sel.Name, impl.ErrNone)
			wrong = append(wrong, wrongsOf(s, d, sel.Sels, sel.Name)...)
		case impl.SlField:
			f := firstField(firstType(s, of), sel.Name)
			kind := firstType(s, f.Type).Kind
			add(f.Name == "", sel.Name, impl.ErrNone)
			add(f.Cap > 0 && (sel.First < 0 || sel.First > f.Cap), sel.Key, impl.ErrRange)
			add(f.Cap == 0 && sel.First != -1, sel.Key, impl.ErrRange)
			add(kind == impl.KdLeaf && len(sel.Sels) > 0 || kind > impl.KdLeaf && len(sel.Sels) == 0, sel.Key, impl.ErrState)
			wrong = append(wrong, wrongsOf(s, d, sel.Sels, f.Type)...)
		}
	}
	return wrong
}

// validOf is what is to be told of a right s and a right d.
func validOf(s impl.Schema, d impl.Doc) impl.ValidOut {
	if name := loopsOf(d); name != "" {
		return impl.ValidOut{What: name, Code: impl.ErrThere}
	}
	wrong := wrongsOf(s, d, d.Sels, s.Types[0].Name)
	for _, f := range d.Frags {
		if firstType(s, f.On).Kind < impl.KdObj {
			wrong = append(wrong, impl.ValidOut{What: f.On, Code: impl.ErrNone})
		}
		wrong = append(wrong, wrongsOf(s, d, f.Sels, f.On)...)
	}
	if key := clashIn(d, d.Sels); key != "" {
		wrong = append(wrong, impl.ValidOut{What: key, Code: impl.ErrThere})
	}
	return append(wrong, impl.ValidOut{})[0]
}

// asker throws Docs that ask for what there is, but for one thing in so many.
type asker struct {
	*dice
	s     impl.Schema
	names []string
	odd   int
	room  int
}

func (a *asker) odds() bool {
	return a.below(a.odd) == 0
}

// sels are for a type, and spread those of names that stand behind this place.
func (a *asker) sels(of string, deep int, from int) []impl.Sel {
	var all []impl.Sel
	for count := 1 + a.below(3); len(all) == 0 || len(all) < count && a.room > 0; {
		a.room--
		what := a.below(5)
		switch {
		case what == 0 && from < len(a.names):
			all = append(all, spread(a.names[from+a.below(len(a.names)-from)]))
		case a.odds():
			all = append(all, spread(a.pick(append(a.names, "none")...)))
		case (what == 1 || firstType(a.s, of).Kind != impl.KdObj) && deep < impl.MaxDeep:
			inner := a.object()
			all = append(all, on(inner, a.sels(inner, deep+1, from)...))
		default:
			all = append(all, a.field(of, deep, from))
		}
	}
	return all
}

// object is the name of a type of objects, or, at odds, of any.
func (a *asker) object() string {
	for {
		of := a.s.Types[a.below(len(a.s.Types))]
		if of.Kind != impl.KdLeaf || a.odds() {
			return of.Name
		}
	}
}

func (a *asker) field(of string, deep int, from int) impl.Sel {
	f := plain("zz", "NO")
	if its := firstType(a.s, of).Fields; len(its) > 0 && !a.odds() {
		f = its[a.below(len(its))]
		// Where there is room for no more Sels a leaf is looked for.
		for tries := 0; tries < 20 && a.leaf(f) == (deep < impl.MaxDeep && a.room > 2); tries++ {
			f = its[a.below(len(its))]
		}
	}
	made := field(f.Name)
	if a.below(3) == 0 {
		made.Key = a.pick("k", "l")
	}
	if f.Cap > 0 && !a.odds() {
		// Most often the same one, so that not all of one Key clash.
		made.First = min(f.Cap, int64(3+a.below(12)/11))
	} else if a.odds() {
		made.First = int64(a.below(102) - 1)
	}
	if a.leaf(f) == a.odds() && deep < impl.MaxDeep {
		made.Sels = a.sels(f.Type, deep+1, from)
	}
	return made
}

func (a *asker) leaf(f impl.Field) bool {
	return firstType(a.s, f.Type).Kind <= impl.KdLeaf
}

func (a *asker) doc() impl.Doc {
	a.names = letters(a.below(impl.MaxFrags))
	a.room = 3 + a.below(20)
	made := impl.Doc{Sels: a.sels(a.s.Types[0].Name, 1, 0)}
	for at, name := range a.names {
		a.room = 2 + a.below(6)
		of := a.object()
		made.Frags = append(made.Frags, frag(name, of, a.sels(of, 1+a.below(3), at+1)...))
	}
	return made
}

// checkTold holds what is told against what was reckoned apart. What loops, or clashes, is not let by, says promise 6.
func checkTold(t *testing.T, s impl.Schema, d impl.Doc) impl.ValidOut {
	t.Helper()
	loops, clash, want := loopsOf(d), "", validOf(s, d)
	if loops == "" {
		clash = clashIn(d, d.Sels)
	}
	got := impl.Validate(s, d)
	if told := impl.Loops(d); told != loops {
		t.Errorf("Loops(%s) is %q, want %q", docWords(d), told, loops)
	}
	if told := impl.Clash(d); told != clash {
		t.Errorf("Clash(%s) is %q, want %q", docWords(d), told, clash)
	}
	if got != want {
		t.Errorf("%s of %q: Validate is %+v, want %+v", docWords(d), schemaWords(s), got, want)
	}
	if got.Code == impl.OK && (loops != "" || clash != "") {
		t.Errorf("%s is let by, but loops by %q, or clashes by %q", docWords(d), loops, clash)
	}
	return got
}

func TestThrownQuestions(t *testing.T) {
	d := dice(6)
	told := map[string]int{}
	for i := range 30000 {
		a := asker{dice: &d, s: asks(t, things), odd: []int{8, 40, 100000}[i%3]}
		if i%5 == 0 {
			a.s = d.rightSchema()
		}
		made := a.doc()
		if countDoc(made) > impl.MaxSels {
			continue
		}
		got := checkTold(t, a.s, made)
		kind := fmt.Sprint("code ", got.Code)
		if got.Code == impl.ErrThere && impl.Loops(made) == "" {
			kind = "clash"
		}
		told[kind]++
	}
	for _, kind := range []string{"code 0", "code 6", "code 7", "code 8", "code 10", "clash"} {
		if told[kind] < 300 {
			t.Errorf("too few of %s to tell: %v", kind, told)
		}
	}
}

func (d *dice) rightSchema() impl.Schema {
	for {
		if s := d.schema(); mayBeSchema(schemaWords(s)) {
			return s
		}
	}
}

// Docs that are thrown without a thought for what there is loop and clash the more.
func TestThrownDocsLoopAndClash(t *testing.T) {
	d := dice(7)
	s := asks(t, things)
	loops, clashes := 0, 0
	for range 5000 {
		made := d.doc()
		if countDoc(made) > impl.MaxSels {
			continue
		}
		for i := range made.Frags {
			made.Frags[i].Name = []string{"f", "g", "a", "b", "id"}[i]
		}
		checkTold(t, s, made)
		if impl.Loops(made) != "" {
			loops++
		}
		if impl.Clash(made) != "" {
			clashes++
		}
	}
	if loops < 300 || clashes < 300 {
		t.Errorf("only %d loop, and %d clash: too few to tell", loops, clashes)
	}
}

// inTime ends the test if what is done does not come back.
func inTime(t *testing.T, what string, do func()) {
	t.Helper()
	done := make(chan bool)
	go func() {
		defer close(done)
		do()
	}()
	select {
	case <-done:
	case <-time.After(20 * time.Second):
		t.Fatalf("%s: does not come back", what)
	}
}

// ranks are a Doc and its Frags, each of which has what make makes of the name of the next one; the last one has this.
func ranks(make func(next string) []impl.Sel, last []impl.Sel) impl.Doc {
	names := letters(impl.MaxFrags)
	made := doc(make(names[0]))
	for at, name := range names[:len(names)-1] {
		made.Frags = append(made.Frags, frag(name, "T", make(names[at+1])...))
	}
	made.Frags = append(made.Frags, frag(names[len(names)-1], "T", last...))
	return made
}

func repeated(count int, make func(at int) impl.Sel) []impl.Sel {
	var all []impl.Sel
	for at := range count {
		all = append(all, make(at))
	}
	return all
}

// wideDocs have as many ways through their Frags as there may be, and a clash at the end of the last one.
func wideDocs() map[string]impl.Doc {
	ends := append(fields(8), keyed("end", "a", -1), keyed("end", "b", -1))
	keys := letters(10)
	again := doc(repeated(10, func(at int) impl.Sel { return spread(keys[at%5]) }))
	for i := range impl.MaxFrags {
		again.Frags = append(again.Frags, frag(keys[i], "T", repeated(10, func(at int) impl.Sel { return spread(keys[min(i+1+at%5, 4)]) })...))
	}
	again.Frags[4].Sels = ends
	return map[string]impl.Doc{
		"spreads": ranks(func(next string) []impl.Sel { return repeated(10, func(int) impl.Sel { return spread(next) }) }, ends),
		"spreads in one Key": ranks(func(next string) []impl.Sel {
			return repeated(5, func(int) impl.Sel { return field("k", spread(next)) })
		}, ends),
		"spreads in each Key": ranks(func(next string) []impl.Sel {
			return repeated(5, func(at int) impl.Sel { return field(keys[at], spread(next)) })
		}, ends),
		"many spreads in each Key": ranks(func(next string) []impl.Sel {
			return sels(field("k", repeated(4, func(int) impl.Sel { return spread(next) })...), field("l", repeated(4, func(int) impl.Sel { return spread(next) })...))
		}, ends),
		"deep": ranks(func(next string) []impl.Sel { return nested(impl.MaxDeep, spread(next)) }, ends),
		"deep, side by side": ranks(func(next string) []impl.Sel {
			return sels(field("k", nested(4, spread(next))...), field("l", nested(4, spread(next))...))
		}, ends),
		"ons":        ranks(func(next string) []impl.Sel { return repeated(5, func(int) impl.Sel { return on("T", spread(next)) }) }, ends),
		"each other": again,
	}
}

func TestWideDocsComeBackInTime(t *testing.T) {
	s := schema(objType("T", append(plainFields(5, "T"), plain("k", "T"), plain("l", "T"), plain("in", "T"))...))
	for what, d := range wideDocs() {
		if !impl.DocRight(d) || countDoc(d) < 30 {
			t.Errorf("%s: not right, or too few to tell", what)
		}
		inTime(t, what, func() {
			if loops, clash := impl.Loops(d), impl.Clash(d); loops != "" || clash != "end" {
				t.Errorf("%s: Loops is %q, Clash %q", what, loops, clash)
			}
			// The last Frag alone is wrong, and it stands behind all others.
			if got, want := impl.Validate(s, d), (impl.ValidOut{What: "waa", Code: impl.ErrState}); got != want {
				t.Errorf("%s: Validate is %+v, want %+v", what, got, want)
			}
			d.Frags[len(d.Frags)-1].Sels = repeated(10, func(at int) impl.Sel { return spread(d.Frags[0].Name) })
			if loops, clash := impl.Loops(d), impl.Clash(d); loops != d.Frags[0].Name || clash != "" {
				t.Errorf("%s, looping: Loops is %q, Clash %q", what, loops, clash)
			}
			if got, want := impl.Validate(s, d), (impl.ValidOut{What: d.Frags[0].Name, Code: impl.ErrThere}); got != want {
				t.Errorf("%s, looping: Validate is %+v, want %+v", what, got, want)
			}
		})
	}
}

func TestFragsThatAllSpreadEachOther(t *testing.T) {
	names := letters(impl.MaxFrags)
	list := repeated(10, func(at int) impl.Sel { return spread(names[at%impl.MaxFrags]) })
	d := doc(list)
	for _, name := range names {
		d.Frags = append(d.Frags, frag(name, "T", list...))
	}
	inTime(t, "all", func() { checkTold(t, asks(t, things), d) })
}

// Lists that share their Sels, or hold themselves, are right or not as any other ones are.
func TestListsThatShareAreToldInTime(t *testing.T) {
	s := asks(t, things)
	for _, count := range []int{2, 7, impl.MaxSels, impl.MaxList} {
		list, ring := fields(count), fields(count)
		for range impl.MaxDeep - 1 {
			inner := list
			list = repeated(count, func(int) impl.Sel { return field("k", inner...) })
		}
		for i := range ring {
			ring[i].Sels = ring
		}
		for _, all := range [][]impl.Sel{list, ring} {
			inTime(t, fmt.Sprint(count), func() {
				d := doc(append(fields(2), all...), frag("f", "T", spread("f")))
				if loops, clash, got := impl.Loops(d), impl.Clash(d), impl.Validate(s, d); loops != "" || clash != "" || got != (impl.ValidOut{Code: impl.ErrForm}) {
					t.Errorf("%d: Loops is %q, Clash %q, Validate %+v", count, loops, clash, got)
				}
			})
		}
	}
	inner := sels(field("id"), keyed("k", "name", -1), spread("f"))
	shared := doc(sels(field("user", inner...), on("USER", inner...), keyed("users", "users", 2, inner...)), frag("f", "USER", inner[:2]...), frag("g", "USER", inner...))
	checkTold(t, s, shared)
	checkValid(t, docWords(shared), impl.OK, "")
}

func TestWhatIsAskedIsNotChanged(t *testing.T) {
	d := dice(8)
	for i := range 300 {
		s := apart()
		a := asker{dice: &d, s: s, odd: []int{8, 40, 100000}[i%3]}
		made := a.doc()
		made.Sels = behind(made.Sels)
		made.Sels[0].Sels = behind(made.Sels[0].Sels)
		for i := range made.Frags {
			made.Frags[i].Sels = behind(made.Frags[i].Sels)
		}
		before := copiedLists(lists(made))
		types, whole := copiedSchema(s), copiedDoc(made)
		impl.Validate(s, made)
		impl.Loops(made)
		impl.Clash(made)
		if !reflect.DeepEqual(types, copiedSchema(s)) || !reflect.DeepEqual(whole, made) || !reflect.DeepEqual(before, lists(made)) {
			t.Errorf("%s was changed, or what there is", docWords(whole))
		}
	}
}

func TestWhatIsToldHoldsNothingOfWhatIsAsked(t *testing.T) {
	for _, text := range []string{
		"{ zz }", "{ k:id(1) }", "{ k:id { id } }", "{ ...on STR { id } }", "{ ...none }", "{ id } fragment f on STR { id }", "{ id } fragment f on Q { ...f }", "{ k:id k:nil }", "{ user { k:id } user { k:name } }",
	} {
		d := question(t, text)
		handed := []string{}
		for _, f := range d.Frags {
			handed = append(handed, f.Name, f.On)
		}
		for _, list := range lists(d) {
			for _, sel := range list {
				handed = append(handed, sel.Key, sel.Name)
			}
		}
		told := impl.Validate(asks(t, things), d)
		if told.What == "" {
			t.Errorf("%q: nothing is told", text)
		}
		for _, what := range []string{told.What, impl.Loops(d), impl.Clash(d)} {
			for _, one := range handed {
				if within(what, one) {
					t.Errorf("%q: %q is a part of what was handed in", text, what)
				}
			}
		}
	}
}

func TestValidateTellsTheSameAgain(t *testing.T) {
	s := asks(t, things)
	for what, d := range wideDocs() {
		loops, clash, told := impl.Loops(d), impl.Clash(d), impl.Validate(s, d)
		for range 5 {
			impl.Validate(s, question(t, "{ k:id k:nil } fragment f on Q { ...f }"))
			if impl.Loops(d) != loops || impl.Clash(d) != clash || impl.Validate(s, d) != told {
				t.Errorf("%s: another time it is another one", what)
			}
		}
	}
}
