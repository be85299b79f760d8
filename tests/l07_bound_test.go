package tests

import (
	"fmt"
	"math"
	"reflect"
	"slices"
	"strings"
	"testing"

	"loop.example/g00836/impl"
)

// amounts are Depth, Calls, Nodes and Bytes without a top: what is less than Top is exact all the same.
type amounts [4]float64

func (a amounts) bounds() impl.Bounds {
	cut := func(n float64) int64 { return int64(min(n, impl.Top)) }
	return impl.Bounds{Depth: cut(a[0]), Calls: cut(a[1]), Nodes: cut(a[2]), Bytes: cut(a[3])}
}

// amountsOfSels are what Sels come to for a type, apart from the program.
func amountsOfSels(s impl.Schema, d impl.Doc, l []impl.Sel, of string) amounts {
	members := firstType(s, of).Members
	if firstType(s, of).Kind == impl.KdObj {
		members = []string{of}
	}
	var most amounts
	for _, member := range members {
		for i, n := range amountsOfObject(s, d, l, member) {
			most[i] = max(most[i], n)
		}
	}
	return most
}

func amountsOfObject(s impl.Schema, d impl.Doc, l []impl.Sel, of string) amounts {
	told := amounts{0, 0, 1, float64(len("{}"))}
	for at, g := range groupsIn(s, d, l, of) {
		value := amountsOfValue(s, d, g, firstField(firstType(s, of), g.Name))
		told[0] = max(told[0], value[0]+1)
		told[1] += value[1] + 1
		told[2] += value[2]
		told[3] += value[3] + float64(len(`"`+g.Key+`":`))
		if at > 0 {
			told[3] += float64(len(","))
		}
	}
	told[3] = max(told[3], float64(len("null")))
	return told
}

func amountsOfValue(s impl.Schema, d impl.Doc, g impl.Group, f impl.Field) amounts {
	its := firstType(s, f.Type)
	one := amounts{0, 0, 1, max(float64(its.Bytes)+2, 4)}
	if its.Kind != impl.KdLeaf {
		one = amountsOfSels(s, d, g.Sels, f.Type)
	}
	if !f.List {
		return one
	}
	n := float64(f.Size)
	if f.Cap > 0 {
		n = float64(g.First)
	}
	return amounts{one[0], n * one[1], n*one[2] + 1, max(n*one[3]+max(n-1, 0)+2, 4)}
}

// checkBound holds the bounds of what is let by against those that were reckoned apart, and tells them.
func checkBound(t *testing.T, what string, s impl.Schema, d impl.Doc) impl.Bounds {
	t.Helper()
	got, want := impl.BoundOf(s, d), amountsOfSels(s, d, d.Sels, s.Types[0].Name).bounds()
	if got != want {
		t.Errorf("%s: BoundOf %s of %q is %+v, want %+v", what, docWords(d), schemaWords(s), got, want)
	}
	return got
}

// checkWritten is of a question, and of the longest text of what is told: S is a text of STR with its quotes.
func checkWritten(t *testing.T, s impl.Schema, d impl.Doc, depth int64, calls int64, nodes int64, written string) {
	t.Helper()
	written = strings.ReplaceAll(written, "S", strings.Repeat("s", 32))
	want := impl.Bounds{Depth: depth, Calls: calls, Nodes: nodes, Bytes: int64(len(written))}
	if got := checkBound(t, "written", s, d); got != want {
		t.Errorf("BoundOf %s is %+v, want %+v", docWords(d), got, want)
	}
}

// listText is how so many of one are written in a list, or null, if that is longer.
func listText(n int, one string) string {
	if n == 0 {
		return "null"
	}
	return "[" + strings.Join(slices.Repeat([]string{one}, n), ",") + "]"
}

// boundCase has the longest text of what is told.
type boundCase struct {
	text                string
	depth, calls, nodes int64
	written             string
}

func checkCases(t *testing.T, cases []boundCase) {
	t.Helper()
	for _, c := range cases {
		checkWritten(t, asks(t, things), question(t, c.text), c.depth, c.calls, c.nodes, c.written)
	}
}

func TestBoundOfObjects(t *testing.T) {
	checkCases(t, []boundCase{
		// Of no Groups.
		{"{ ...on USER { id } }", 0, 0, 1, `null`},
		{"{ ...f } fragment f on USER { id }", 0, 0, 1, `null`},
		{"{ user { ...on POST { id } } }", 1, 1, 2, `{"user":null}`},
		{"{ any { ...on Q { id } } }", 1, 1, 2, `{"any":null}`},
		{"{ fix { ...on Q { id } } }", 1, 1, 5, `{"fix":[null,null,null]}`},
		// Of one.
		{"{ id }", 1, 1, 2, `{"id":S}`},
		{"{ nil }", 1, 1, 2, `{"nil":null}`},
		{"{ abcdefgh:id }", 1, 1, 2, `{"abcdefgh":S}`},
		{"{ user { id } }", 2, 2, 3, `{"user":{"id":S}}`},
		{"{ user { self { self { id } } } }", 4, 4, 5, `{"user":{"self":{"self":{"id":S}}}}`},
		// Of several.
		{"{ id nil }", 1, 2, 3, `{"id":S,"nil":null}`},
		{"{ nil k:id id l:nil }", 1, 4, 5, `{"nil":null,"k":S,"id":S,"l":null}`},
		{"{ user { id name } id }", 2, 4, 5, `{"user":{"id":S,"name":S},"id":S}`},
		{"{ id user { id } k:user { self { id } } nil }", 3, 7, 8, `{"id":S,"user":{"id":S},"k":{"self":{"id":S}},"nil":null}`},
		{"{ k:user { self { id } } user { id } }", 3, 5, 6, `{"k":{"self":{"id":S}},"user":{"id":S}}`},
		// What is asked twice under one Key counts once.
		{"{ id id }", 1, 1, 2, `{"id":S}`},
		{"{ id k:id id k:id }", 1, 2, 3, `{"id":S,"k":S}`},
		{"{ user { id } user { id } }", 2, 2, 3, `{"user":{"id":S}}`},
		{"{ user { id } user { name } user { id } }", 2, 3, 4, `{"user":{"id":S,"name":S}}`},
		{"{ user { self { id } name } user { self { name } id } }", 3, 6, 7, `{"user":{"self":{"id":S,"name":S},"name":S,"id":S}}`},
		{"{ fix { id } fix { id name } }", 2, 7, 11, `{"fix":[{"id":S,"name":S},{"id":S,"name":S},{"id":S,"name":S}]}`},
		{"{ users(2) { id } users(2) { name } }", 2, 5, 8, `{"users":[{"id":S,"name":S},{"id":S,"name":S}]}`},
	})
}

func TestBoundOfValues(t *testing.T) {
	checkCases(t, []boundCase{
		{"{ none }", 1, 1, 2, `{"none":null}`},
		{"{ tags(0) }", 1, 1, 2, `{"tags":null}`},
		{"{ tags(1) }", 1, 1, 3, `{"tags":[S]}`},
		{"{ tags(2) }", 1, 1, 4, `{"tags":[S,S]}`},
		{"{ tags(100) }", 1, 1, 102, `{"tags":` + listText(100, "S") + `}`},
		{"{ fix { id } }", 2, 4, 8, `{"fix":[{"id":S},{"id":S},{"id":S}]}`},
		// Depth is that of one, be there none.
		{"{ users(0) { id } }", 2, 1, 2, `{"users":null}`},
		{"{ users(0) { self { self { id } } } }", 4, 1, 2, `{"users":null}`},
		{"{ users(1) { id } }", 2, 2, 4, `{"users":[{"id":S}]}`},
		{"{ users(5) { id } }", 2, 6, 12, `{"users":` + listText(5, `{"id":S}`) + `}`},
		{"{ users(2) { posts(1) { id } posts(1) { user { id } } } }", 4, 9, 14, `{"users":` + listText(2, `{"posts":[{"id":S,"user":{"id":S}}]}`) + `}`},
		{"{ users(2) { any(2) { ...on USER { id } } } }", 3, 7, 14, `{"users":` + listText(2, `{"any":[{"id":S},{"id":S}]}`) + `}`},
		{"{ fix { any(0) { ...on USER { id } } id } }", 3, 7, 11, `{"fix":` + listText(3, `{"any":null,"id":S}`) + `}`},
		{"{ users(2) { ...on POST { id } } }", 1, 1, 4, `{"users":[null,null]}`},
	})
}

// A List of no Cap has as many as one of a Cap of which as many are asked for.
func TestBoundOfListsOfEachCount(t *testing.T) {
	for n := range 101 {
		most := int64(n)
		for _, cap := range []int64{max(most, 1), min(most+1, 100), 100} {
			s := schema(objType("Q", capped("c", "STR", cap), sized("f", "STR", most), capped("o", "T", cap), sized("p", "T", most), capped("y", "Z", cap), sized("z", "Z", most)),
				leafType("STR", 30), leafType("NIL", 0), objType("T", plain("a", "STR"), plain("b", "NIL")), objType("U", plain("a", "STR")), oneType("Z", "U", "T"))
			leaves := listText(n, "S")
			checkWritten(t, s, doc(sels(keyed("c", "c", most))), 1, 1, most+2, `{"c":`+leaves+`}`)
			checkWritten(t, s, doc(fieldsOf("f")), 1, 1, most+2, `{"f":`+leaves+`}`)
			inner, objects := fieldsOf("a", "b"), listText(n, `{"a":S,"b":null}`)
			checkWritten(t, s, doc(sels(keyed("o", "o", most, inner...))), 2, 2*most+1, 3*most+2, `{"o":`+objects+`}`)
			checkWritten(t, s, doc(sels(field("p", inner...))), 2, 2*most+1, 3*most+2, `{"p":`+objects+`}`)
			inner = sels(on("T", inner...), on("U", field("a")))
			checkWritten(t, s, doc(sels(keyed("y", "y", most, inner...))), 2, 2*most+1, 3*most+2, `{"y":`+objects+`}`)
			checkWritten(t, s, doc(sels(field("z", inner...))), 2, 2*most+1, 3*most+2, `{"z":`+objects+`}`)
		}
	}
}

func TestBoundOfLeavesOfEachSize(t *testing.T) {
	for size := range 101 {
		// A text of less than two bytes is shorter than null.
		one := "null"
		if size > 1 {
			one = `"` + strings.Repeat("x", size) + `"`
		}
		s := schema(objType("Q", plain("a", "S"), sized("l", "S", 3), capped("c", "S", 5)), leafType("S", int64(size)))
		checkWritten(t, s, doc(fieldsOf("a")), 1, 1, 2, `{"a":`+one+`}`)
		checkWritten(t, s, doc(fieldsOf("l")), 1, 1, 5, `{"l":`+listText(3, one)+`}`)
		checkWritten(t, s, doc(sels(keyed("c", "c", 1))), 1, 1, 3, `{"c":[`+one+`]}`)
		checkWritten(t, s, doc(sels(keyed("c", "c", 0))), 1, 1, 2, `{"c":null}`)
	}
	for size, want := range map[int64]int64{0: 4, 1: 4, 2: 4, 3: 5, 100: 102} {
		s := schema(objType("Q", plain("a", "S")), leafType("S", size))
		if got := impl.BoundOf(s, doc(fieldsOf("a"))).Bytes; got != want+6 {
			t.Errorf("a leaf of Bytes %d: Bytes are %d, want %d", size, got, want+6)
		}
	}
}

func TestBoundOfKeysOfEachLength(t *testing.T) {
	s := smallSchema()
	for length := 1; length <= 8; length++ {
		key := strings.Repeat("k", length)
		checkWritten(t, s, doc(sels(keyed(key, "x", -1))), 1, 1, 2, `{"`+key+`":"xxxxx"}`)
	}
	// As many Groups as there may be.
	keys := letters(impl.MaxSels)
	d := doc(repeated(impl.MaxSels, func(at int) impl.Sel { return keyed(keys[at], "x", -1) }))
	checkWritten(t, s, d, 1, impl.MaxSels, impl.MaxSels+1, `{`+strings.Join(slices.Repeat([]string{`"abc":"xxxxx"`}, impl.MaxSels), ",")+`}`)
}

func TestBoundOfWhatIsGathered(t *testing.T) {
	checkCases(t, []boundCase{
		// A Group's Sels from a field, an on, and a Frag.
		{"{ user { id } ...on Q { user { name } } ...f } fragment f on Q { user { k:id } }", 2, 4, 5, `{"user":{"id":S,"name":S,"k":S}}`},
		{"{ ...f ...on Q { user { name } } user { id } } fragment f on Q { user { self { id } } }", 3, 5, 6, `{"user":{"self":{"id":S},"name":S,"id":S}}`},
		{"{ user { id } ...on USER { self { name } } ...f } fragment f on POST { user { k:id } }", 2, 2, 3, `{"user":{"id":S}}`},
		{"{ user { ...on USER { id } ...f name ...on POST { l:id } } } fragment f on USER { k:id }", 2, 4, 5, `{"user":{"id":S,"k":S,"name":S}}`},
		{"{ ...on Q { user { ...on ANY { ...on USER { id } ...on POST { id user { id } } } } } }", 2, 2, 3, `{"user":{"id":S}}`},
		// A Frag that is spread more than once, in one object or in several.
		{"{ ...f ...f } fragment f on Q { id user { id } }", 2, 3, 4, `{"id":S,"user":{"id":S}}`},
		{"{ ...f ...on Q { ...f id } } fragment f on Q { id k:id }", 1, 2, 3, `{"id":S,"k":S}`},
		{"{ ...f ...g } fragment f on Q { id ...g } fragment g on Q { user { id } }", 2, 3, 4, `{"id":S,"user":{"id":S}}`},
		{"{ ...on USER { ...f } ...f } fragment f on Q { id }", 1, 1, 2, `{"id":S}`},
		{"{ user { ...f } k:user { ...f } } fragment f on USER { id name }", 2, 6, 7, `{"user":{"id":S,"name":S},"k":{"id":S,"name":S}}`},
		{"{ user { ...f ...f } k:user { ...f self { ...f } } } fragment f on USER { id }", 3, 6, 7, `{"user":{"id":S},"k":{"id":S,"self":{"id":S}}}`},
		{"{ user { ...f } k:user { ...g } } fragment f on USER { id } fragment g on USER { id name }", 2, 5, 6, `{"user":{"id":S},"k":{"id":S,"name":S}}`},
		{"{ user { ...f ...g } k:user { ...f } l:user { ...g } } fragment f on USER { id } fragment g on USER { name }", 2, 7, 8, `{"user":{"id":S,"name":S},"k":{"id":S},"l":{"name":S}}`},
		{"{ user { ...f } k:user { ...f id } l:user { ...f } } fragment f on USER { name }", 2, 7, 8, `{"user":{"name":S},"k":{"name":S,"id":S},"l":{"name":S}}`},
		{"{ user { self { ...f } } k:user { ...f } } fragment f on USER { self { ...g } } fragment g on USER { id }", 4, 7, 8, `{"user":{"self":{"self":{"id":S}}},"k":{"self":{"id":S}}}`},
		// For several types it is another one.
		{"{ user { ...f } ...f } fragment f on USER { id }", 2, 2, 3, `{"user":{"id":S}}`},
		{"{ ...f user { ...f } } fragment f on USER { id }", 2, 2, 3, `{"user":{"id":S}}`},
		{"{ user { posts(1) { ...f } k:self { ...f } } } fragment f on ANY { ...on USER { id name } ...on POST { l:id } }", 3, 6, 8, `{"user":{"posts":[{"l":S}],"k":{"id":S,"name":S}}}`},
		{"{ user { k:self { ...f } posts(1) { ...f } } } fragment f on ANY { ...on USER { id } ...on POST { k:id l:id } }", 3, 6, 8, `{"user":{"k":{"id":S},"posts":[{"k":S,"l":S}]}}`},
		{"{ user { ...f } any { ...f } fix { posts(1) { ...f } } } fragment f on ANY { ...on USER { id } ...on POST { user { id } } }", 4, 15, 22,
			`{"user":{"id":S},"any":{"user":{"id":S}},"fix":` + listText(3, `{"posts":[{"user":{"id":S}}]}`) + `}`},
		// A Frag that is not spread counts nothing.
		{"{ id } fragment f on Q { user { id } k:id }", 1, 1, 2, `{"id":S}`},
	})
}

// oneOf is what there is, if Z is one of these. A is the deepest, B has the most that is asked for, C the most things, D the most bytes; E is none of these.
func oneOf(members ...string) impl.Schema {
	return schema(objType("Q", plain("z", "Z")), oneType("Z", members...), leafType("S", 100), leafType("N", 0),
		objType("A", plain("in", "A"), plain("n", "N")), objType("B", plain("n", "N")), objType("C", sized("ns", "N", 20)), objType("D", plain("s", "S")), objType("E", plain("n", "N")))
}

const askedOfOne = "{ z { ...on A { in { in { n } } } ...on B { a:n b:n c:n d:n e:n f:n } ...on C { ns } ...on D { k:s l:s } ...on E { n } } }"

func TestTheGreatestOfEachMember(t *testing.T) {
	d := question(t, askedOfOne)
	alone := map[string]impl.Bounds{
		"A": {Depth: 4, Calls: 4, Nodes: 5, Bytes: int64(len(`{"z":{"in":{"in":{"n":null}}}}`))},
		"B": {Depth: 2, Calls: 7, Nodes: 8, Bytes: int64(len(`{"z":{"a":null,"b":null,"c":null,"d":null,"e":null,"f":null}}`))},
		"C": {Depth: 2, Calls: 2, Nodes: 23, Bytes: int64(len(`{"z":{"ns":` + listText(20, "null") + `}}`))},
		"D": {Depth: 2, Calls: 3, Nodes: 4, Bytes: int64(len(`{"z":{"k":,"l":}}`)) + 204},
		"E": {Depth: 2, Calls: 2, Nodes: 3, Bytes: int64(len(`{"z":{"n":null}}`))},
	}
	for set := 1; set < 32; set++ {
		var members []string
		var want impl.Bounds
		for i, name := range []string{"A", "B", "C", "D", "E"} {
			if set>>i&1 == 1 {
				members = append(members, name)
				one := alone[name]
				want = impl.Bounds{Depth: max(want.Depth, one.Depth), Calls: max(want.Calls, one.Calls), Nodes: max(want.Nodes, one.Nodes), Bytes: max(want.Bytes, one.Bytes)}
			}
		}
		// In whatever order they stand.
		for range members {
			if got := checkBound(t, "members", oneOf(members...), d); got != want {
				t.Errorf("of %q: BoundOf is %+v, want %+v", members, got, want)
			}
			members = append(members[1:], members[0])
		}
	}
	if got := impl.BoundOf(oneOf("A", "B", "C", "D", "E"), d); got != (impl.Bounds{Depth: 4, Calls: 7, Nodes: 23, Bytes: alone["D"].Bytes}) {
		t.Errorf("of all: BoundOf is %+v", got)
	}
}

func TestTheGreatestOfMembersWithinEachOther(t *testing.T) {
	checkCases(t, []boundCase{
		{"{ any { ...on USER { id } ...on POST { id k:id } } }", 2, 3, 4, `{"any":{"id":S,"k":S}}`},
		{"{ any { ...on USER { self { self { id } } } ...on POST { id a:id b:id c:id } } }", 4, 5, 6, `{"any":{"id":S,"a":S,"b":S,"c":S}}`},
		{"{ any { ...f ...on POST { id } } } fragment f on ANY { ...on USER { any(2) { ...on USER { id name } ...on POST { user { id } } } } }", 4, 6, 9, `{"any":{"any":[{"id":S,"name":S},{"id":S,"name":S}]}}`},
		{"{ any { ...on POST { id } } k:any { ...on USER { id } } }", 2, 4, 5, `{"any":{"id":S},"k":{"id":S}}`},
		// A KdObj is none but itself.
		{"{ user { ...on ANY { ...on POST { id a:id b:id } ...on USER { id } } } }", 2, 2, 3, `{"user":{"id":S}}`},
	})
}

// The root is the first type, whatever its name.
func TestBoundOfTheRoot(t *testing.T) {
	s := schema(objType("Z", plain("a", "S")), leafType("S", 10), objType("Q", plain("a", "S"), plain("b", "S")))
	checkWritten(t, s, question(t, "{ ...on Q { a b } ...on Z { a } }"), 1, 1, 2, `{"a":"0123456789"}`)
}

func checkNoBound(t *testing.T, what string, s impl.Schema, d impl.Doc) {
	t.Helper()
	if got := impl.BoundOf(s, d); got != (impl.Bounds{}) {
		t.Errorf("%s: BoundOf is %+v", what, got)
	}
}

func TestBoundOfWhatIsNotLetBy(t *testing.T) {
	s := asks(t, things)
	told := map[int64]bool{}
	for _, d := range notLetBy(t) {
		told[impl.Validate(s, d).Code] = true
		checkNoBound(t, docWords(d), s, d)
	}
	for _, code := range []int64{impl.ErrNone, impl.ErrThere, impl.ErrRange, impl.ErrState} {
		if !told[code] {
			t.Errorf("none of these is told as %d", code)
		}
	}
	for what, d := range notRightDocs() {
		checkNoBound(t, what, s, d)
	}
	if checkBound(t, "right", smallSchema(), doc(fieldsOf("x"))).Nodes != 2 {
		t.Fatal("what is right is not told")
	}
	for what, s := range notRightSchemas() {
		checkNoBound(t, what, s, doc(fieldsOf("x")))
	}
}

// hundreds has lists of 100 of itself, of both kinds, and one of none.
func hundreds() impl.Schema {
	return schema(objType("T", sized("in", "T", 100), capped("some", "T", 100), sized("none", "T", 0), plain("one", "T"), plain("l", "S"), sized("ls", "S", 100)), leafType("S", 5))
}

func TestSumsAndProductsStopAtTheTop(t *testing.T) {
	s := hundreds()
	const top = impl.Top
	many := func(inner ...impl.Sel) impl.Sel { return field("in", inner...) }
	some := func(inner ...impl.Sel) impl.Sel { return keyed("some", "some", 100, inner...) }
	for deep := range impl.MaxDeep {
		for what, make := range map[string]func(inner ...impl.Sel) impl.Sel{"in": many, "some": some} {
			got := checkBound(t, what, s, doc(nestedIn(deep, field("l"), make)))
			want := []impl.Bounds{{Depth: 1, Calls: 1, Nodes: 2}, {Depth: 2, Calls: 101, Nodes: 202}, {Depth: 3, Calls: 10101, Nodes: 20202}, {Depth: 4, Calls: 1010101, Nodes: 2020202}, {Depth: 5, Calls: 101010101, Nodes: 202020202}, {Depth: 6, Calls: top, Nodes: top}}[deep]
			want.Bytes = got.Bytes
			if deep > 3 {
				want.Bytes = top
			}
			if got != want {
				t.Errorf("%s, %d Lists: BoundOf is %+v, want %+v", what, deep, got, want)
			}
		}
	}
	checkBound(t, "of leaves", s, doc(nestedIn(5, field("ls"), many)))
	five := func(last impl.Sel) []impl.Sel { return nestedIn(5, last, many) }
	names := letters(impl.MaxFrags)
	for count := range impl.MaxFrags + 1 {
		// Behind each five Lists a Frag is spread, and in that there are five more.
		d := doc(five(field("l")))
		for at := range count {
			d.Frags = append(d.Frags, frag(names[at], "T", five(field("l"))...))
			list := &d.Sels
			if at > 0 {
				list = &d.Frags[at-1].Sels
			}
			*list = five(spread(names[at]))
		}
		if got, want := checkBound(t, "behind Frags", s, d), (impl.Bounds{Depth: int64(5*count + 6), Calls: top, Nodes: top, Bytes: top}); got != want {
			t.Errorf("behind %d Frags: BoundOf is %+v, want %+v", count, got, want)
		}
		// None of what comes to the top is nothing again; more of it is no more.
		around := doc(sels(field("none", d.Sels[0].Sels...)), d.Frags...)
		if got, want := checkBound(t, "none of these", s, around), (impl.Bounds{Depth: int64(5*count + 6), Calls: 1, Nodes: 2, Bytes: 13}); got != want {
			t.Errorf("none of what stands behind %d Frags: BoundOf is %+v, want %+v", count, got, want)
		}
		twice := doc(append(five(field("l")), keyed("k", "in", -1, d.Sels[0].Sels...), field("l"), field("one", d.Sels[0].Sels...)), d.Frags...)
		if got, want := checkBound(t, "twice", s, twice), (impl.Bounds{Depth: int64(5*count + 6), Calls: top, Nodes: top, Bytes: top}); got != want {
			t.Errorf("twice of what stands behind %d Frags: BoundOf is %+v, want %+v", count, got, want)
		}
	}
}

// Each measure comes to the top in steps, of which the last ones below it are exact.
func TestBoundsNearTheTop(t *testing.T) {
	s := hundreds()
	below, at := [4]bool{}, [4]bool{}
	for n := range 101 {
		for deep := 1; deep < impl.MaxDeep; deep++ {
			first := func(inner ...impl.Sel) impl.Sel { return keyed("some", "some", int64(n), inner...) }
			for _, last := range []string{"l", "ls"} {
				got := checkBound(t, "near the top", s, doc(nestedIn(deep, field(last), first)))
				for i, n := range []int64{0, got.Calls, got.Nodes, got.Bytes} {
					below[i] = below[i] || n > impl.Top*9/10 && n < impl.Top
					at[i] = at[i] || n == impl.Top
				}
			}
		}
	}
	if want := [4]bool{false, true, true, true}; below != want || at != want {
		t.Errorf("none of some are near the top (%v), or at it (%v): too few to tell", below, at)
	}
}

func TestBoundOf60Sels6Deep(t *testing.T) {
	s := hundreds()
	keys := letters(10)
	inTime(t, "60 Sels", func() {
		all := repeated(10, func(at int) impl.Sel {
			bottom := nestedIn(4, field("l"), func(inner ...impl.Sel) impl.Sel { return field("one", inner...) })
			return keyed(keys[at], "one", -1, bottom...)
		})
		d := doc(all)
		if got := checkBound(t, "60 Sels", s, d); countDoc(d) != impl.MaxSels || got.Depth != 6 || got.Calls != 60 || got.Nodes != 61 {
			t.Errorf("of %d Sels BoundOf is %+v", countDoc(d), got)
		}
		in := doc(sels(spread("f")), frag("f", "T", all[:9]...))
		if got := checkBound(t, "60 Sels", s, in); got.Depth != 6 || got.Calls != 54 {
			t.Errorf("in a Frag: BoundOf is %+v", got)
		}
		// All of one Key, but for the leaves.
		checkBound(t, "of one Key", s, doc(lines(5, 5, func(_ int, inner []impl.Sel) impl.Sel { return field("in", append(inner, field("l"))...) })))
		checkBound(t, "of several types", s, doc(lines(10, 6, func(at int, inner []impl.Sel) impl.Sel {
			if at == 6 {
				return field("l")
			}
			return on("T", inner...)
		})))
	})
}

// What is spread again in one object counts no more, in however many ways.
func TestWhatIsSpreadMostOftenIsReckonedInTime(t *testing.T) {
	s := hundreds()
	leaf := field("l")
	for what, last := range map[string][]impl.Sel{
		"leaves":          repeated(10, func(int) impl.Sel { return leaf }),
		"a field of many": sels(field("in", repeated(9, func(int) impl.Sel { return leaf })...)),
		"fields of one":   repeated(5, func(int) impl.Sel { return field("in", leaf) }),
		"fields of two":   repeated(2, func(int) impl.Sel { return field("in", field("one", leaf), leaf) }),
		"5 deep":          nestedIn(4, leaf, func(inner ...impl.Sel) impl.Sel { return field("one", inner...) }),
	} {
		want := checkBound(t, what, s, doc(last))
		for _, d := range []impl.Doc{mostWays(10, last...), eachOther(last...)} {
			if countDoc(d) > impl.MaxSels {
				d.Sels = d.Sels[:4]
			}
			inTime(t, what, func() {
				// One call would be quick even if each way were gone.
				for range 300 {
					impl.BoundOf(s, d)
				}
				if got := impl.BoundOf(s, d); got != want || impl.Validate(s, d).Code != impl.OK {
					t.Errorf("%s: BoundOf %s is %+v, want %+v", what, docWords(d), got, want)
				}
				d.Sels = sels(field("one", d.Sels[0], spread(d.Frags[1].Name)), keyed("k", "one", -1, d.Sels[0]))
				twice := doc(sels(field("one", last...), keyed("k", "one", -1, last...)))
				if got, want := impl.BoundOf(s, d), checkBound(t, what, s, twice); got != want {
					t.Errorf("%s, in two fields: BoundOf %s is %+v, want %+v", what, docWords(d), got, want)
				}
			})
		}
	}
}

// A Frag in each of many fields, and in what that one has, and so on: there are more objects than can be gone through slowly.
func TestFragsInEachFieldAreReckonedInTime(t *testing.T) {
	s := schema(objType("T", plain("in", "T"), sized("many", "T", 2), plain("z", "Z"), plain("l", "S")), leafType("S", 5),
		objType("A", plain("z", "Z"), plain("l", "S")), objType("B", plain("z", "Z"), plain("l", "S")), objType("C", plain("z", "Z"), plain("l", "S")), objType("D", plain("z", "Z"), plain("l", "S")), oneType("Z", "A", "B", "C", "D", "T"))
	keys := letters(10)
	leaves := repeated(10, func(at int) impl.Sel { return keyed(keys[at], "l", -1) })
	inEach := func(count int, name string, more ...impl.Sel) func(next string) []impl.Sel {
		return func(next string) []impl.Sel {
			return repeated(count, func(at int) impl.Sel { return keyed(keys[at], name, -1, append(sels(spread(next)), more...)...) })
		}
	}
	both := eachOther(leaves[5:8]...)
	for i := range both.Frags[:4] {
		last := impl.MaxFrags - 1 - i
		both.Frags[i].Sels = repeated(3, func(at int) impl.Sel {
			return keyed(keys[at], "in", -1, spread(both.Frags[i+1].Name), spread(both.Frags[i+1+at%last].Name))
		})
	}
	ones := doc(sels(field("z", spread("fa"))))
	for i, name := range []string{"fa", "fb", "fc", "fd"} {
		inner := repeated(4, func(at int) impl.Sel {
			member := []string{"A", "B", "C", "D"}[at]
			if i == 3 {
				return on(member, field("l"))
			}
			return on(member, field("z", spread([]string{"fb", "fc", "fd"}[i])))
		})
		ones.Frags = append(ones.Frags, frag(name, "Z", inner...))
	}
	for what, d := range map[string]impl.Doc{
		"in each":                ranks(inEach(5, "in"), leaves),
		"in each, a List":        ranks(inEach(5, "many"), leaves),
		"in each, beside a leaf": ranks(inEach(3, "in", field("l")), leaves),
		"two in each":            both,
		"in each member":         ones,
	} {
		if told := impl.Validate(s, d); told.Code != impl.OK {
			t.Fatalf("%s: %s is not let by: %+v", what, docWords(d), told)
		}
		inTime(t, what, func() {
			if got := checkBound(t, what, s, d); got.Depth < 5 {
				t.Errorf("%s: BoundOf %s is %+v", what, docWords(d), got)
			}
			for range 10 {
				impl.BoundOf(s, d)
			}
		})
	}
}

func TestThrownQuestionsAreReckoned(t *testing.T) {
	d := dice(12)
	letBy := 0
	for i := range 6000 {
		a := asker{dice: &d, s: asks(t, things), odd: []int{100000, 100000, 60}[i%3]}
		if i%3 == 0 {
			a.s = d.rightSchema()
		}
		made := a.doc()
		switch {
		case countDoc(made) > impl.MaxSels:
		case validOf(a.s, made).Code != impl.OK:
			checkNoBound(t, docWords(made), a.s, made)
		default:
			letBy++
			checkBound(t, "thrown", a.s, made)
		}
	}
	if letBy < 1500 || letBy > 5000 {
		t.Errorf("%d are let by: too few to tell", letBy)
	}
}

func TestOver(t *testing.T) {
	const top = impl.Top
	names := []string{"depth", "calls", "nodes", "bytes"}
	at := func(of int, n int64, others int64) impl.Bounds {
		all := []int64{others, others, others, others}
		all[of] = n
		return impl.Bounds{Depth: all[0], Calls: all[1], Nodes: all[2], Bytes: all[3]}
	}
	check := func(b impl.Bounds, most impl.Bounds, want string) {
		t.Helper()
		if got := impl.Over(b, most); got != want {
			t.Errorf("Over(%+v, %+v) is %q, want %q", b, most, got, want)
		}
	}
	numbers := []int64{math.MinInt64, -top - 1, -top, -2, -1, 0, 1, 2, 3, 1000, top - 1, top, top + 1, math.MaxInt64}
	for i, name := range names {
		for _, n := range numbers {
			for _, most := range numbers {
				want := ""
				if n > most || n >= top {
					want = name
				}
				check(at(i, n, 0), at(i, most, 0), want)
				check(at(i, n, 5), at(i, most, 7), want)
				check(at(i, n, math.MinInt64), at(i, most, math.MinInt64), want)
				check(at(i, n, top-1), at(i, most, math.MaxInt64), want)
			}
		}
		check(at(i, 3, 3), at(i, 3, 3), "")
		check(at(i, 4, 3), at(i, 3, 3), name)
		check(at(i, top-1, 0), at(i, top-1, 0), "")
		check(at(i, top, 0), at(i, top, 0), name)
		check(at(i, top, 0), at(i, math.MaxInt64, 0), name)
		// One below may not make up for it, and what most has more than b is no matter.
		check(at(i, 4, -100), at(i, 3, 100), name)
		// The first of two, and of all.
		for j := range names {
			b, most := at(i, 9, 0), at(i, 8, 0)
			if j > i {
				b = impl.Bounds{Depth: b.Depth + at(j, 7, 0).Depth, Calls: b.Calls + at(j, 7, 0).Calls, Nodes: b.Nodes + at(j, 7, 0).Nodes, Bytes: b.Bytes + at(j, 7, 0).Bytes}
				check(b, most, name)
			}
		}
	}
	check(impl.Bounds{}, impl.Bounds{}, "")
	check(impl.Bounds{Depth: 2, Calls: 2, Nodes: 2, Bytes: 2}, impl.Bounds{Depth: 1, Calls: 1, Nodes: 1, Bytes: 1}, "depth")
	check(impl.Bounds{Depth: 1, Calls: top, Nodes: 2, Bytes: top}, impl.Bounds{Depth: 1, Calls: top, Nodes: 1, Bytes: 1}, "calls")
	check(impl.Bounds{Depth: 1, Calls: 1, Nodes: 2, Bytes: top}, impl.Bounds{Depth: 1, Calls: 1, Nodes: 1, Bytes: top}, "nodes")
}

// What a question comes to stays within limits of as much, and not within one less of any measure that it has.
func TestOverOfWhatIsReckoned(t *testing.T) {
	s := asks(t, things)
	for _, text := range []string{"{ id }", "{ fix { id } }", "{ any { ...on USER { self { id } } ...on POST { id k:id } } }"} {
		b := impl.BoundOf(s, question(t, text))
		for name, less := range map[string]impl.Bounds{
			"":      b,
			"depth": {Depth: b.Depth - 1, Calls: b.Calls, Nodes: b.Nodes, Bytes: b.Bytes}, "calls": {Depth: b.Depth, Calls: b.Calls - 1, Nodes: b.Nodes, Bytes: b.Bytes},
			"nodes": {Depth: b.Depth, Calls: b.Calls, Nodes: b.Nodes - 1, Bytes: b.Bytes}, "bytes": {Depth: b.Depth, Calls: b.Calls, Nodes: b.Nodes, Bytes: b.Bytes - 1},
		} {
			if got := impl.Over(b, less); got != name {
				t.Errorf("%q: Over(%+v, %+v) is %q, want %q", text, b, less, got, name)
			}
		}
	}
}

// freshSchema is the same one, without what stands behind the ends.
func freshSchema(s impl.Schema) impl.Schema {
	other := impl.Schema{Types: slices.Clone(s.Types)}
	for i := range other.Types {
		t := &other.Types[i]
		t.Fields, t.Members = slices.Clone(t.Fields), slices.Clone(t.Members)
	}
	return other
}

// noLess tells whether no measure is less.
func noLess(a impl.Bounds, b impl.Bounds) bool {
	return a.Depth >= b.Depth && a.Calls >= b.Calls && a.Nodes >= b.Nodes && a.Bytes >= b.Bytes
}

// letByBounds goes through thrown questions that are let by, with their bounds.
func letByBounds(t *testing.T, seed uint64, count int, do func(d *dice, s impl.Schema, made impl.Doc, b impl.Bounds)) {
	t.Helper()
	dice := dice(seed)
	for i := range count {
		a := asker{dice: &dice, s: asks(t, things), odd: 100000}
		if i%2 == 0 {
			a.s = dice.rightSchema()
		}
		if made := a.doc(); countDoc(made) <= impl.MaxSels && impl.Validate(a.s, made).Code == impl.OK {
			do(&dice, a.s, made, impl.BoundOf(a.s, made))
		}
	}
}

// Promise 8: of more no measure is less.
func TestOfMoreNoMeasureIsLess(t *testing.T) {
	told := map[string]int{}
	letByBounds(t, 13, 3000, func(dice *dice, s impl.Schema, made impl.Doc, b impl.Bounds) {
		check := func(what string, more bool, s impl.Schema, d impl.Doc) {
			t.Helper()
			if impl.Validate(s, d).Code != impl.OK {
				return
			}
			got := impl.BoundOf(s, d)
			if more && !noLess(got, b) || !more && !noLess(b, got) {
				t.Errorf("%s: BoundOf %s of %q is %+v, that of %s %+v", what, docWords(d), schemaWords(s), got, docWords(made), b)
			}
			if got != b {
				told[what]++
			}
		}
		for at, list := range innerLists(made) {
			changed := func(change func(list []impl.Sel) []impl.Sel) impl.Doc {
				return withList(made, at, change)
			}
			check("one field more", true, s, changed(func(l []impl.Sel) []impl.Sel { return append(l, field(dice.pick("id", "a", "name", "x"))) }))
			check("one more, ahead", true, s, changed(func(l []impl.Sel) []impl.Sel {
				return append(sels(keyed("zz", dice.pick("id", "b", "name"), -1)), l...)
			}))
			for i := range list {
				check("one Sel less", false, s, changed(func(l []impl.Sel) []impl.Sel { return slices.Delete(l, i, i+1) }))
			}
		}
		check("a greater First", true, s, withFirsts(made, func(first int64) int64 { return first + 1 }))
		check("a First of 0", false, s, withFirsts(made, func(int64) int64 { return 0 }))
		check("a greater Size", true, withFields(s, func(f *impl.Field) { f.Size = min(f.Size+1, 100) }, func(f impl.Field) bool { return f.List && f.Cap == 0 }), made)
		check("more Lists", true, withFields(s, func(f *impl.Field) { f.List, f.Size = true, 1 }, func(f impl.Field) bool { return !f.List && dice.below(2) == 0 }), made)
		longer := freshSchema(s)
		for i := range longer.Types {
			if longer.Types[i].Kind == impl.KdLeaf {
				longer.Types[i].Bytes = min(longer.Types[i].Bytes+3, 100)
			}
		}
		check("longer leaves", true, longer, made)
	})
	for _, what := range []string{"one field more", "one more, ahead", "one Sel less", "a greater First", "a First of 0", "a greater Size", "more Lists", "longer leaves"} {
		if told[what] < 50 {
			t.Errorf("too few of %q to tell: %v", what, told)
		}
	}
}

// withList is the same question, but for the list of that place.
func withList(d impl.Doc, at int, change func(list []impl.Sel) []impl.Sel) impl.Doc {
	made := copiedDoc(d)
	var alter func(list *[]impl.Sel)
	alter = func(list *[]impl.Sel) {
		at--
		if at == -1 {
			*list = change(*list)
			return
		}
		for i := range *list {
			alter(&(*list)[i].Sels)
		}
	}
	alter(&made.Sels)
	for i := range made.Frags {
		alter(&made.Frags[i].Sels)
	}
	return made
}

// withFirsts is the same question, but for each First.
func withFirsts(d impl.Doc, change func(first int64) int64) impl.Doc {
	made := copiedDoc(d)
	for _, list := range innerLists(made) {
		for i := range list {
			if list[i].First >= 0 {
				list[i].First = change(list[i].First)
			}
		}
	}
	return made
}

// withFields is the same Schema, but for some fields.
func withFields(s impl.Schema, change func(f *impl.Field), some func(f impl.Field) bool) impl.Schema {
	made := freshSchema(s)
	for _, of := range made.Types {
		for i := range of.Fields {
			if some(of.Fields[i]) {
				change(&of.Fields[i])
			}
		}
	}
	return made
}

// Promise 8: the greatest of the members is never less than any of them.
func TestTheGreatestIsNoLessThanAnyMember(t *testing.T) {
	told := 0
	letByBounds(t, 14, 8000, func(_ *dice, s impl.Schema, made impl.Doc, b impl.Bounds) {
		for at, of := range s.Types {
			if len(of.Members) < 2 {
				continue
			}
			for _, member := range of.Members {
				fewer := freshSchema(s)
				fewer.Types[at].Members = []string{member}
				got := impl.BoundOf(fewer, made)
				if !noLess(b, got) || impl.Validate(fewer, made).Code != impl.OK {
					t.Errorf("%s of %q: BoundOf is %+v, but %+v if %s is %s", docWords(made), schemaWords(s), b, got, of.Name, member)
				}
				if got != b {
					told++
				}
			}
		}
	})
	if told < 300 {
		t.Errorf("only %d are less: too few to tell", told)
	}
}

// teller is asked for what a question wants, and answers as it is thrown: with nulls, fewer things, shorter texts, any of the members; or in full.
type teller struct {
	*dice
	s     impl.Schema
	d     impl.Doc
	nulls int
	full  bool
	calls int64
}

// written is what is told, its things, and how deep they were asked for.
type written struct {
	text         string
	nodes, depth int64
}

func (a *teller) null() bool {
	return !a.full && a.below(a.nulls) == 0
}

func (a *teller) object(l []impl.Sel, of string) written {
	told := written{nodes: 1}
	var parts []string
	null := false
	for _, g := range groupsIn(a.s, a.d, l, of) {
		f := firstField(firstType(a.s, of), g.Name)
		a.calls++
		value := a.value(g, f)
		null = null || f.Must && value.text == "null"
		parts = append(parts, `"`+g.Key+`":`+value.text)
		told.nodes += value.nodes
		told.depth = max(told.depth, value.depth+1)
	}
	if null {
		return written{text: "null", nodes: 1, depth: told.depth}
	}
	told.text = "{" + strings.Join(parts, ",") + "}"
	return told
}

func (a *teller) value(g impl.Group, f impl.Field) written {
	if !f.List {
		return a.one(g, f.Type)
	}
	if a.null() {
		return written{text: "null", nodes: 1}
	}
	n := int(max(f.Size, g.First))
	if !a.full {
		n = a.below(n + 1)
	}
	told := written{nodes: 1}
	var parts []string
	for range n {
		one := a.one(g, f.Type)
		parts = append(parts, one.text)
		told.nodes += one.nodes
		told.depth = max(told.depth, one.depth)
	}
	told.text = "[" + strings.Join(parts, ",") + "]"
	return told
}

func (a *teller) one(g impl.Group, of string) written {
	its := firstType(a.s, of)
	switch {
	case a.null():
		return written{text: "null", nodes: 1}
	case its.Kind == impl.KdOne:
		return a.object(g.Sels, a.pick(its.Members...))
	case its.Kind == impl.KdObj:
		return a.object(g.Sels, of)
	}
	length := int(its.Bytes)
	if !a.full {
		length = a.below(length + 1)
	}
	return written{text: `"` + strings.Repeat("x", length) + `"`, nodes: 1}
}

// Promise 8: whatever is said, no more is asked for, told or written; and in full, where nothing is one of some, just as much is asked for and told.
func TestNoMoreIsToldThanIsReckoned(t *testing.T) {
	told, full, reached := 0, 0, 0
	letByBounds(t, 15, 3000, func(dice *dice, s impl.Schema, made impl.Doc, b impl.Bounds) {
		if b.Nodes > 2000 {
			return
		}
		some := slices.ContainsFunc(s.Types, func(of impl.Type) bool { return of.Kind == impl.KdOne })
		for i := range 12 {
			a := teller{dice: dice, s: s, d: made, nulls: 2 + i*i, full: i > 8}
			got := a.object(made.Sels, s.Types[0].Name)
			if a.calls > b.Calls || got.nodes > b.Nodes || int64(len(got.text)) > b.Bytes || got.depth > b.Depth {
				t.Errorf("%s of %q: %d calls, %d deep, %d nodes, and %d bytes are told, but BoundOf is %+v", docWords(made), schemaWords(s), a.calls, got.depth, got.nodes, len(got.text), b)
			}
			if a.full && !some {
				full++
				if a.calls != b.Calls || got.nodes != b.Nodes {
					t.Errorf("%s of %q: in full %d calls and %d nodes, but BoundOf is %+v", docWords(made), schemaWords(s), a.calls, got.nodes, b)
				}
			}
			if int64(len(got.text)) == b.Bytes {
				reached++
			}
			told++
		}
	})
	if told < 5000 || full < 300 || reached < 300 {
		t.Errorf("only %d told, %d in full, %d as long as may be: too few to tell", told, full, reached)
	}
}

// checkNotChangedBy throws questions, with more behind the ends of their lists: a call must not change them, nor what there is.
func checkNotChangedBy(t *testing.T, seed uint64, call func(s impl.Schema, d impl.Doc)) {
	t.Helper()
	d := dice(seed)
	for i := range 300 {
		s := apart()
		a := asker{dice: &d, s: s, odd: []int{40, 100000}[i%2]}
		made := a.doc()
		made.Sels = behind(made.Sels)
		for i := range made.Sels {
			made.Sels[i].Sels = behind(made.Sels[i].Sels)
		}
		for i := range made.Frags {
			made.Frags[i].Sels = behind(made.Frags[i].Sels)
		}
		before := copiedLists(lists(made))
		types, whole := copiedSchema(s), copiedDoc(made)
		call(s, made)
		if !reflect.DeepEqual(types, copiedSchema(s)) || !reflect.DeepEqual(whole, made) || !reflect.DeepEqual(before, lists(made)) {
			t.Errorf("%s was changed, or what there is", docWords(whole))
		}
	}
}

func TestWhatIsReckonedIsNotChanged(t *testing.T) {
	checkNotChangedBy(t, 16, func(s impl.Schema, d impl.Doc) { impl.BoundOf(s, d) })
}

func TestBoundsAreToldTheSameAgain(t *testing.T) {
	s, other := asks(t, things), schema(objType("Q", plain("user", "USER"), plain("id", "STR")), objType("USER", plain("id", "STR")), leafType("STR", 1))
	questions := []impl.Doc{
		question(t, "{ user { ...f } fix { ...f } } fragment f on USER { id name self { id } }"),
		question(t, "{ user { ...f } } fragment f on USER { id }"),
		question(t, "{ any { ...f } } fragment f on ANY { ...on USER { id } ...on POST { id k:id } }"),
		question(t, "{ user { zz } }"),
	}
	var first []impl.Bounds
	for _, d := range questions {
		first = append(first, impl.BoundOf(s, d), impl.BoundOf(other, d))
	}
	if first[2] == first[3] || first[0] == first[2] {
		t.Errorf("BoundOf are %+v: too like each other to tell", first)
	}
	for range 20 {
		for at, d := range questions {
			if again := []impl.Bounds{impl.BoundOf(s, d), impl.BoundOf(other, d)}; !slices.Equal(again, first[2*at:2*at+2]) {
				t.Errorf("%s: got %+v, then %+v", docWords(d), first[2*at:2*at+2], again)
			}
		}
		b, most := impl.Bounds{Calls: 3}, impl.Bounds{Calls: 2}
		if got := fmt.Sprint(impl.Over(b, most), impl.Over(most, b)); got != "calls" {
			t.Errorf("Over is %q", got)
		}
	}
}
