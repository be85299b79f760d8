package tests

import (
	"fmt"
	"maps"
	"math"
	"reflect"
	"regexp"
	"slices"
	"strconv"
	"strings"
	"testing"

	"loop.example/g00836/impl"
)

// hides tells whether a type has what its text has no place for.
func hides(of impl.Type) bool {
	for _, f := range of.Fields {
		if f.Size != 0 && f.Cap != 0 || !f.List && (f.Size != 0 || f.Cap != 0) {
			return true
		}
	}
	twoInOne := slices.ContainsFunc(of.Members, func(name string) bool { return strings.Contains(name, " ") })
	return twoInOne || of.Bytes != 0 && of.Kind != impl.KdLeaf || len(of.Fields) > 0 && of.Kind != impl.KdObj || len(of.Members) > 0 && of.Kind != impl.KdOne
}

// mayBeThere tells whether a Schema is right, apart from the program.
func mayBeThere(s impl.Schema) bool {
	return len(s.Types) <= 12 && !slices.ContainsFunc(s.Types, hides) && mayBeSchema(schemaWords(s))
}

// hasOnes tells, by its text, whether a right Schema has a type that is one of some.
func hasOnes(s impl.Schema) bool {
	return strings.Contains("\n"+schemaWords(s), "\none ")
}

var listNumber = regexp.MustCompile(`\[<?([0-9]+)\]`)

// widestOf is the greatest number of a List in the text of a right Schema.
func widestOf(s impl.Schema) int64 {
	widest := 0
	for _, found := range listNumber.FindAllStringSubmatch(schemaWords(s), -1) {
		n, _ := strconv.Atoi(found[1])
		widest = max(widest, n)
	}
	return int64(widest)
}

// withoutOnes has an object for each type that is one of some, with the fields of the first of these.
func withoutOnes(s impl.Schema) impl.Schema {
	made := freshSchema(s)
	for at, of := range made.Types {
		if of.Kind == impl.KdOne {
			first := firstType(s, append(slices.Clone(of.Members), "")[0])
			made.Types[at] = objType(of.Name, slices.Clone(first.Fields)...)
		}
	}
	return made
}

// withOneMore has one type more, behind the others, which is one of some.
func withOneMore(s impl.Schema) impl.Schema {
	member := "NONE"
	if at := slices.IndexFunc(s.Types, func(of impl.Type) bool { return of.Kind == impl.KdObj }); at >= 0 {
		member = s.Types[at].Name
	}
	return schema(append(slices.Clone(s.Types), oneType("ZZONE", member))...)
}

// notThere are Schemas that are not right, in each way, both with a type that is one of some and without.
func notThere() map[string]impl.Schema {
	all := notRightSchemas()
	maps.Copy(all, wrongSchemas())
	for _, wrong := range []map[string]impl.Field{wrongFields(), hiddenFields()} {
		for what, f := range wrong {
			for at, s := range withField(f) {
				all[fmt.Sprint("field ", at, ", ", what)] = s
			}
		}
	}
	for what, of := range hiddenTypes() {
		for at, s := range withType(of) {
			all[fmt.Sprint("hidden type ", at, ", ", what)] = s
		}
	}
	for what, s := range maps.Clone(all) {
		// What is wrong of such a type alone is right without it.
		if other := withoutOnes(s); !mayBeThere(other) {
			all[what+", and no ones"] = other
		}
		all[what+", and a one"] = withOneMore(s)
	}
	return all
}

// depthsBeside are numbers around this one, and far from it.
func depthsBeside(depth int64) []int64 {
	return append(oneAside(depth), 0, -1, 1, -depth, depth+1<<32, depth-1<<32, math.MinInt64, math.MinInt64+depth, math.MaxInt64, math.MaxInt64-depth)
}

// Of what is not right nothing is told, whatever it is asked.
func TestNothingIsToldOfWhatIsNotThere(t *testing.T) {
	docs := []impl.Doc{doc(fieldsOf("x")), doc(fieldsOf("id")), question(t, "{ zz } fragment f on NO { ...f }"), nodesOf(impl.Schema{}, 2001), {}}
	told := map[bool]int{}
	for what, s := range notThere() {
		if mayBeThere(s) {
			t.Fatalf("%s: %.300q is right", what, schemaWords(s))
		}
		told[slices.ContainsFunc(s.Types, func(of impl.Type) bool { return of.Kind == impl.KdOne })]++
		if impl.Ones(s) {
			once(t, "%s: Ones of %.300q is true", what, schemaWords(s))
		}
		if got := impl.Widest(s); got != -1 {
			once(t, "%s: Widest of %.300q is %d", what, schemaWords(s), got)
		}
		for _, d := range docs {
			if got := impl.FullOf(s, d); !sameTold(got, impl.Told{Code: impl.ErrForm}) || !reflect.DeepEqual(got, impl.Exec(s, d, nil)) {
				once(t, "%s: FullOf of %.300q is %s", what, schemaWords(s), toldWords(got))
			}
			for _, depth := range depthsBeside(1) {
				if impl.Safe(s, d, depth) {
					once(t, "%s: Safe of %.300q, and %d, is true", what, schemaWords(s), depth)
				}
			}
		}
	}
	if told[true] < 500 || told[false] < 500 {
		t.Errorf("only %d with a type that is one of some, and %d without: too few to tell", told[true], told[false])
	}
}

func checkOnes(t *testing.T, what string, s impl.Schema, want bool) {
	t.Helper()
	if got := impl.Ones(s); got != want || hasOnes(s) != want || !mayBeThere(s) {
		once(t, "%s: Ones of %.300q is %t, want %t", what, schemaWords(s), got, want)
	}
}

// In each set of places behind the root, of each count of types.
func TestOnesInEachPlace(t *testing.T) {
	names := typeNames(12)
	for count := 1; count <= 12; count++ {
		for set := range 1 << (count - 1) {
			all := objTypes(count)
			for at := 1; at < count; at++ {
				if set>>(at-1)&1 == 1 {
					all[at] = oneType(names[at], "WAA")
				} else if at%3 == 2 {
					all[at] = leafType(names[at], int64(at))
				}
			}
			checkOnes(t, "in each place", schema(all...), set > 0)
		}
	}
	for count := 1; count <= 5; count++ {
		checkOnes(t, "of several", schema(append(objTypes(8), oneType("ONE", names[8-count:8]...))...), true)
	}
}

func TestOnesOfNamedSchemas(t *testing.T) {
	for text, want := range map[string]bool{
		"obj Q a:Q\n":                                    false,
		"obj Q a:S\nleaf S 3\n":                          false,
		"obj Q a:R b:S\nleaf S 0\nobj R a:Q\n":           false,
		"obj Q a:Q\none U Q\n":                           true,
		"obj Q a:U\none U Q\n":                           true,
		"obj Q a:U[0]!\nobj R a:Q\none U R Q\n":          true,
		"obj Q a:U\none U Q\nleaf S 3\n":                 true,
		"obj Q a:U\none U Q\none V Q\n":                  true,
		"obj Q a:S\nleaf S 3\none V R\nobj R a:S\n":      true,
		"obj ONE one:ONE\n":                              false,
		"obj Q one:ONE ones:ONE\nleaf ONE 3\n":           false,
		"obj Q one:ONES\nobj ONES one:Q\nleaf KDONE 1\n": false,
		things: true,
		needs:  true,
	} {
		checkOnes(t, "named", asks(t, text), want)
	}
	checkOnes(t, "without", withoutOnes(asks(t, things)), false)
}

func checkWidest(t *testing.T, what string, s impl.Schema, want int64) {
	t.Helper()
	if got := impl.Widest(s); got != want || widestOf(s) != want || !mayBeThere(s) {
		once(t, "%s: Widest of %.300q is %d, want %d", what, schemaWords(s), got, want)
	}
}

// The greatest stands in each field of each type, as a Size or as a Cap, and all others are less, or as great.
func TestWidestInEachPlace(t *testing.T) {
	names, keys := typeNames(12), letters(8)
	others := map[string]func(name string, of string, n int64) impl.Field{
		"no Lists":  func(name string, of string, _ int64) impl.Field { return plain(name, of) },
		"Size less": func(name string, of string, n int64) impl.Field { return sized(name, of, n-1) },
		"Cap less":  func(name string, of string, n int64) impl.Field { return capped(name, of, max(n-1, 1)) },
		"as great":  func(name string, of string, n int64) impl.Field { return must(sized(name, of, n)) },
	}
	for what, other := range others {
		for _, n := range []int64{1, 2, 50, 99, 100} {
			var all []impl.Type
			for _, name := range names {
				of := objType(name)
				for at, key := range keys {
					of.Fields = append(of.Fields, other(key, names[at], n))
				}
				all = append(all, of)
			}
			for place := range all {
				for at, key := range keys {
					for _, widest := range []impl.Field{sized(key, "WAA", n), capped(key, "WAL", n), must(sized(key, "WAB", n)), must(capped(key, "WAC", n))} {
						s := freshSchema(schema(all...))
						s.Types[place].Fields[at] = widest
						checkWidest(t, what, s, n)
					}
				}
			}
		}
	}
}

func TestWidestOfNamedSchemas(t *testing.T) {
	for text, want := range map[string]int64{
		// No List, however much there is of something else.
		"obj Q a:Q\n": 0,
		"obj Q a:S b:S c:S d:S e:S f:S g:S h:S\nleaf S 100\n": 0,
		"obj Q a:Q!\none U Q\n":                               0,
		// Lists of none.
		"obj Q a:Q[0]\n":                     0,
		"obj Q a:S[0]! b:S[0]\nleaf S 100\n": 0,
		"obj Q a:Q[1]\n":                     1,
		"obj Q a:Q[<1]\n":                    1,
		"obj Q a:Q[100]\n":                   100,
		"obj Q a:Q[<100]\n":                  100,
		"obj Q a:Q[0] b:Q[100]\n":            100,
		"obj Q a:Q[0] b:Q[<100]\n":           100,
		"obj Q a:Q[0] b:Q[<1]\n":             1,
		"obj Q a:Q[100] b:Q[<100]\n":         100,
		// The one is greater, and the other way.
		"obj Q a:Q[7] b:Q[<3]\n":                       7,
		"obj Q a:Q[3] b:Q[<7]\n":                       7,
		"obj Q a:Q[<7] b:Q[3]\n":                       7,
		"obj Q a:Q[<3] b:Q[7]\n":                       7,
		"obj Q a:Q[7] b:Q[<7]\n":                       7,
		"obj Q a:Q[10] b:Q[<9]\n":                      10,
		"obj Q a:Q[9] b:Q[<10]\n":                      10,
		"obj Q a:Q[99] b:Q[<100] c:Q[98]\n":            100,
		"obj Q a:Q[2] b:Q[<3]\nobj R a:Q[<4] b:Q[5]\n": 5,
		"obj Q a:Q[2] b:Q[<9]\nobj R a:Q[<4] b:Q[5]\n": 9,
		// Of whatever there is some, and be nothing of that type.
		"obj Q a:S[3]\nleaf S 100\n":                    3,
		"obj Q a:U[5]\none U Q\n":                       5,
		"obj Q a:Q\nobj R b:Q[<9]!\n":                   9,
		"obj Q a:Q\nleaf S 50\none U R\nobj R b:S[8]\n": 8,
		things: 100,
		needs:  20,
	} {
		checkWidest(t, "named", asks(t, text), want)
	}
	for n := range int64(101) {
		checkWidest(t, "a Size", schema(objType("Q", sized("a", "Q", n))), n)
		checkWidest(t, "a Size, and a Cap of 50", schema(objType("Q", sized("a", "Q", n)), objType("R", capped("a", "Q", 50))), max(n, 50))
		if n > 0 {
			checkWidest(t, "a Cap", schema(objType("Q", capped("a", "Q", n))), n)
			checkWidest(t, "a Cap, and a Size of 50", schema(objType("Q", sized("a", "Q", 50), capped("b", "Q", n))), max(n, 50))
		}
	}
}

func TestThrownSchemasAreMeasured(t *testing.T) {
	d := dice(37)
	told := map[string]int{}
	for range 5000 {
		s := d.schema()
		switch {
		case !mayBeThere(s):
			if impl.Ones(s) || impl.Widest(s) != -1 {
				once(t, "%q is not right: Ones is %t, Widest %d", schemaWords(s), impl.Ones(s), impl.Widest(s))
			}
			told["not right"]++
		default:
			checkOnes(t, "thrown", s, hasOnes(s))
			checkWidest(t, "thrown", s, widestOf(s))
			told[fmt.Sprint("ones ", hasOnes(s))]++
			told[fmt.Sprint("wide ", widestOf(s) > 0)]++
		}
	}
	for _, kind := range []string{"not right", "ones true", "ones false", "wide true", "wide false"} {
		if told[kind] < 200 {
			t.Errorf("too few of %s to tell: %v", kind, told)
		}
	}
}

// fullOf is what a right question is told in full, apart from the program.
func fullOf(s impl.Schema, d impl.Doc) impl.Told {
	if code := validOf(s, d).Code; code != impl.OK {
		return impl.Told{Code: code}
	}
	if amountsOfSels(s, d, d.Sels, s.Types[0].Name).bounds().Nodes > 2000 {
		return impl.Told{Code: impl.ErrFull}
	}
	told, _ := replied(s, d, nil)
	return told
}

// checkFull holds what is told in full against what was reckoned apart.
func checkFull(t *testing.T, what string, s impl.Schema, d impl.Doc) impl.Told {
	t.Helper()
	return checkFullAs(t, what, s, d, fullOf(s, d))
}

// checkFullAs holds what is told in full against what is to be told, against Exec without Answers, and against promise 9.
func checkFullAs(t *testing.T, what string, s impl.Schema, d impl.Doc, want impl.Told) impl.Told {
	t.Helper()
	got := impl.FullOf(s, d)
	if !sameTold(got, want) {
		once(t, "%s: FullOf %s of %q is %s, want %s", what, docWords(d), schemaWords(s), toldWords(got), toldWords(want))
	}
	checkUnanswered(t, what, s, d, got)
	return got
}

// checkUnanswered holds what is told in full against Exec without Answers: nothing of it fails, or is null. Promise 9: where nothing is one of some it comes to just as much as was told.
func checkUnanswered(t *testing.T, what string, s impl.Schema, d impl.Doc, got impl.Told) {
	t.Helper()
	if told := impl.Exec(s, d, nil); !reflect.DeepEqual(told, got) {
		once(t, "%s: FullOf %s of %q is %s, but Exec %s", what, docWords(d), schemaWords(s), toldWords(got), toldWords(told))
	}
	if got.Code != impl.OK {
		return
	}
	b, nodes := impl.BoundOf(s, d), impl.NodesOf(got.Tree)
	isNull := func(n *impl.Node) bool { return n.Kind == impl.NoNull }
	if got.Fails != 0 || nodes != countNodes(got.Tree) || slices.ContainsFunc(nodesIn(&got.Tree), isNull) {
		once(t, "%s: FullOf %s of %q is %s, and NodesOf %d", what, docWords(d), schemaWords(s), toldWords(got), nodes)
	}
	if got.Calls > b.Calls || nodes > b.Nodes || impl.JsonLen(got.Tree) > b.Bytes || !impl.Ones(s) && (got.Calls != b.Calls || nodes != b.Nodes) {
		once(t, "%s: FullOf %s of %q has %d Calls and %d Nodes, but BoundOf is %+v, and Ones %t", what, docWords(d), schemaWords(s), got.Calls, nodes, b, impl.Ones(s))
	}
}

// checkSafe holds Safe against how deep a question is.
func checkSafe(t *testing.T, what string, s impl.Schema, d impl.Doc, letBy bool, deep int64) {
	t.Helper()
	for _, depth := range depthsBeside(deep) {
		if got, want := impl.Safe(s, d, depth), letBy && deep <= depth; got != want {
			once(t, "%s: Safe %s of %q, and %d, is %t, want %t", what, docWords(d), schemaWords(s), depth, got, want)
		}
	}
}

// fullCase is of a question, and what it is told in full.
type fullCase struct {
	text    string
	written string
	calls   int64
	deep    int64
}

func TestFullOf(t *testing.T) {
	s := asks(t, needs)
	for _, c := range []fullCase{
		{"{ id }", `{"id":"x"}`, 1, 1},
		{"{ nil k:id id }", `{"nil":"","k":"x","id":"x"}`, 3, 1},
		{"{ ...on A { id } }", `{}`, 0, 0},
		{"{ ...f } fragment f on A { m { m { id } } }", `{}`, 0, 0},
		{"{ a { ...on B { id } } }", `{"a":{}}`, 1, 1},
		{"{ a { m { need id } } }", `{"a":{"m":{"need":"x","id":"x"}}}`, 4, 3},
		{"{ as { id } }", `{"as":[{"id":"x"},{"id":"x"},{"id":"x"}]}`, 4, 2},
		{"{ ms { ms(1) { id } } }", `{"ms":[{"ms":[{"id":"x"}]},{"ms":[{"id":"x"}]}]}`, 5, 3},
		{"{ tags(0) }", `{"tags":[]}`, 1, 1},
		{"{ tags(3) k:tags(1) }", `{"tags":["x","x","x"],"k":["x"]}`, 2, 1},
		// Depth is that of what there is none of.
		{"{ a { ms(0) { m { m { id } } } } }", `{"a":{"ms":[]}}`, 2, 5},
		{"{ id a { ...f } k:a { ...f ...f id } } fragment f on A { need m { id } }", `{"id":"x","a":{"need":"x","m":{"id":"x"}},"k":{"need":"x","m":{"id":"x"},"id":"x"}}`, 10, 3},
		// Of what is one of some the first is told, but each is reckoned.
		{"{ one { ...on A { id } ...on B { b need } } }", `{"one":{"id":"x"}}`, 2, 2},
		{"{ one { ...on B { b } } }", `{"one":{}}`, 1, 2},
		{"{ one { ...on A { id } ...on B { b } } a { some { ...on B { need } ...on A { need } } } }", `{"one":{"id":"x"},"a":{"some":[{"need":"x"},{"need":"x"}]}}`, 6, 3},
	} {
		d := question(t, c.text)
		got := checkFull(t, "written", s, d)
		if got.Code != impl.OK || nodeWords(got.Tree) != c.written || impl.Json(got.Tree) != c.written || got.Calls != c.calls || got.Fails != 0 {
			t.Errorf("FullOf %q is %s, want %s, %d Calls", c.text, toldWords(got), c.written, c.calls)
		}
		for _, l := range [][]impl.Answer{{}, answers(failAt("none")), answers(failAt(""))} {
			if told := impl.Exec(s, d, l); !sameTold(got, told) {
				t.Errorf("FullOf %q is %s, but Exec with %+v is %s", c.text, toldWords(got), l, toldWords(told))
			}
		}
		checkSafe(t, "written", s, d, true, c.deep)
	}
}

// Each code of what Validate does not let by, with nothing beside it; also of what would come to too much.
func TestInFullOfWhatIsNotLetBy(t *testing.T) {
	told := map[int64]int{}
	for _, s := range []impl.Schema{asks(t, things), withoutOnes(asks(t, things))} {
		check := func(what string, d impl.Doc, code int64) {
			t.Helper()
			told[code]++
			checkFullAs(t, what, s, d, impl.Told{Code: code})
			checkSafe(t, what, s, d, false, 0)
			checkSafe(t, what, s, d, false, 2)
		}
		for _, d := range notLetBy(t) {
			if code := validOf(s, d).Code; code != impl.OK {
				check("not let by", d, code)
			}
		}
		for what, d := range notRightDocs() {
			check(what, d, impl.ErrForm)
		}
		for text, code := range map[string]int64{"zz": impl.ErrNone, "users(9) { id }": impl.ErrRange, "user": impl.ErrState, "waa:tags(1)": impl.ErrThere} {
			d := nodesOf(s, 2001)
			d.Sels = append(d.Sels, question(t, "{ "+text+" }").Sels...)
			check(text, d, code)
		}
		// Of what is not right, and of two that are wrong, the first fault is told.
		both := question(t, "{ zz } fragment f on Q { ...f }")
		check("what loops", both, impl.ErrThere)
		both.Sels = append(both.Sels, impl.Sel{})
		check("what loops and is not right", both, impl.ErrForm)
	}
	for _, code := range []int64{impl.ErrForm, impl.ErrNone, impl.ErrThere, impl.ErrRange, impl.ErrState} {
		if told[code] < 10 {
			t.Errorf("too few of Code %d to tell: %v", code, told)
		}
	}
}

// Of lists of each length, with a Size, and a Cap and a First, within each other.
func TestListsOfEachLengthInFull(t *testing.T) {
	letBy, full := 0, 0
	for _, m := range []int64{0, 1, 2, 3, 10, 31, 50, 99, 100} {
		for n := range int64(101) {
			s := schema(objType("Q", sized("f", "T", m), capped("c", "T", 100)), objType("T", must(sized("f", "U", n)), capped("c", "U", max(n, 1))), objType("U", plain("l", "S")), leafType("S", 1))
			one := `{"k":[` + strings.Join(slices.Repeat([]string{`{"l":"x"}`}, int(n)), ",") + `]}`
			written := `{"k":[` + strings.Join(slices.Repeat([]string{one}, int(m)), ",") + `]}`
			for _, outer := range sels(keyed("k", "f", -1), keyed("k", "c", m)) {
				for _, inner := range sels(keyed("k", "f", -1, field("l")), keyed("k", "c", n, field("l"))) {
					outer.Sels = sels(inner)
					d := doc(sels(outer))
					got := impl.FullOf(s, d)
					checkUnanswered(t, "each length", s, d, got)
					checkSafe(t, "each length", s, d, true, 3)
					calls, nodes := 1+m*(1+n), 2+m*(2+2*n)
					if nodes > 2000 {
						full++
						if !sameTold(got, impl.Told{Code: impl.ErrFull}) {
							once(t, "%d of %d: FullOf %s is %s, want Code %d alone", m, n, docWords(d), toldWords(got), impl.ErrFull)
						}
						continue
					}
					letBy++
					if got.Code != impl.OK || got.Calls != calls || impl.NodesOf(got.Tree) != nodes || impl.Json(got.Tree) != written {
						once(t, "%d of %d: FullOf %s is %s, want %d Calls, %d Nodes", m, n, docWords(d), toldWords(got), calls, nodes)
					}
				}
			}
		}
	}
	if letBy < 1000 || full < 1000 {
		t.Errorf("%d are let by, and %d not: too few to tell", letBy, full)
	}
}

// As many Nodes as may be told, and one more.
func TestAsManyNodesInFullAsMayBe(t *testing.T) {
	for _, s := range []impl.Schema{asks(t, things), withoutOnes(asks(t, things))} {
		for _, nodes := range []int{1, 2, 102, 1000, 1999, 2000, 2001, 2002, 2102} {
			d := nodesOf(s, nodes)
			if nodes == 1 {
				d = question(t, "{ ...on POST { user { id } } }")
			}
			got := checkFull(t, "many nodes", s, d)
			if nodes > 2000 && got.Code != impl.ErrFull || nodes <= 2000 && (impl.NodesOf(got.Tree) != int64(nodes) || got.Calls != int64(len(d.Sels)) && nodes > 1) {
				t.Errorf("%d Nodes: FullOf is %s", nodes, toldWords(got))
			}
			checkSafe(t, "many nodes", s, d, true, int64(min(nodes-1, 1)))
		}
	}
	// What comes to the top is safe all the same, as far as it is not deep.
	s := hundreds()
	for deep := range int64(6) {
		d := doc(nestedIn(int(deep), field("ls"), func(inner ...impl.Sel) impl.Sel { return field("in", inner...) }))
		if got := checkFull(t, "hundreds", s, d); got.Code != impl.OK && deep == 0 || got.Code != impl.ErrFull && deep > 0 {
			t.Errorf("hundreds, %d deep: FullOf is %s", deep, toldWords(got))
		}
		checkSafe(t, "hundreds", s, d, true, deep+1)
	}
}

// thrownWithAndWithout throws questions, one in five of which is most often wrong: of what there is with types that are one of some, and of such without; in one of three some fields are long Lists.
func thrownWithAndWithout(t *testing.T, seed uint64, count int, do func(d *dice, s impl.Schema, made impl.Doc)) {
	t.Helper()
	d := dice(seed)
	some := func(f impl.Field) bool { return f.Cap == 0 && d.below(3) == 0 }
	for i := range count {
		a := asker{dice: &d, s: asks(t, things), odd: []int{10, 100000, 100000, 100000, 100000}[i%5]}
		if i%2 == 0 {
			a.s = d.rightSchema()
		}
		if i%4 < 2 {
			a.s = withoutOnes(a.s)
		}
		if i%3 == 2 {
			a.s = withFields(a.s, func(f *impl.Field) { f.List, f.Size = true, int64(10+d.below(91)) }, some)
		}
		if made := a.doc(); countDoc(made) <= impl.MaxSels && !t.Failed() {
			do(&d, a.s, made)
		}
	}
}

func TestThrownQuestionsInFull(t *testing.T) {
	told := map[string]int{}
	thrownWithAndWithout(t, 38, 14000, func(_ *dice, s impl.Schema, made impl.Doc) {
		got := checkFull(t, "thrown", s, made)
		letBy := got.Code == impl.OK || got.Code == impl.ErrFull
		deep := int64(2)
		if letBy {
			deep = int64(amountsOfSels(s, made, made.Sels, s.Types[0].Name)[0])
		}
		checkSafe(t, "thrown", s, made, letBy, deep)
		checkOnes(t, "thrown", s, hasOnes(s))
		checkWidest(t, "thrown", s, widestOf(s))
		told[fmt.Sprint("code ", got.Code)]++
		if got.Code != impl.OK {
			return
		}
		b := impl.BoundOf(s, made)
		for kind, is := range map[string]bool{
			"no ones":           !impl.Ones(s),
			"many, and no ones": !impl.Ones(s) && b.Nodes > 20,
			"fewer Calls":       got.Calls < b.Calls,
			"fewer Nodes":       impl.NodesOf(got.Tree) < b.Nodes,
			"as many, of ones":  impl.Ones(s) && got.Calls == b.Calls && impl.NodesOf(got.Tree) == b.Nodes,
			"deep":              deep > 4,
		} {
			if is {
				told[kind]++
			}
		}
	})
	for kind, least := range map[string]int{"code 0": 2000, "code 6": 300, "code 7": 100, "code 8": 100, "code 9": 100, "code 10": 100, "no ones": 1000, "many, and no ones": 300, "fewer Calls": 50, "fewer Nodes": 50, "as many, of ones": 500, "deep": 100} {
		if told[kind] < least {
			t.Errorf("too few of %s to tell: %v", kind, told)
		}
	}
}

// checkAny holds what is let by without Answers, or is not, against what is told with these, which are right.
func checkAny(t *testing.T, r request, alone impl.Verdict, l []impl.Answer) impl.Verdict {
	t.Helper()
	r.l = l
	got := r.gate()
	if !mayBeAnswers(l) || got.Code != alone.Code || got.What != alone.What || got.Bounds != alone.Bounds {
		once(t, "%s: got %s, without Answers %s", r.words(), verdictWords(got), verdictWords(alone))
	}
	if got.Code == impl.OK {
		checkWithin(t, "with any", r, got)
	}
	return got
}

// checkAlone holds what is let by without Answers against what is admitted, and told in full.
func checkAlone(t *testing.T, r request, s impl.Schema, d impl.Doc) impl.Verdict {
	t.Helper()
	r.l = nil
	alone := r.gate()
	if impl.Admits(r.schema, r.question, r.most) != (alone.Code == impl.OK) {
		once(t, "%s: Admits is %t, but Gate tells %s", r.words(), alone.Code != impl.OK, verdictWords(alone))
	}
	if alone.Code == impl.OK {
		if full := checkFull(t, "let by", s, d); !sameTold(alone.Told, full) || alone.Text != nodeWords(full.Tree) {
			once(t, "%s: Gate tells %s, but FullOf %s", r.words(), verdictWords(alone), toldWords(full))
		}
	}
	return alone
}

// Promise 9: what is let by without Answers is let by with any that are right, whatever they say.
func TestWhatIsLetByIsLetByWithAnyAnswers(t *testing.T) {
	told := map[string]int{}
	thrownWithAndWithout(t, 39, 6000, func(d *dice, s impl.Schema, made impl.Doc) {
		r := asking(schemaWords(s), docWords(made))
		b := impl.BoundOf(s, made)
		r.most = d.thrownMost(b)
		alone := checkAlone(t, r, s, made)
		told[fmt.Sprint("code ", alone.Code)]++
		tries, paths := 3, []string{"id", "a", "k"}
		if alone.Code == impl.OK {
			tries = 7
			_, paths = replied(s, made, nil)
			paths = slices.DeleteFunc(paths, func(path string) bool { return len(path) > 100 })
			if b == r.most {
				told["just as much"]++
			}
		}
		for i := range tries {
			l := slices.DeleteFunc(d.thrownAnswers(s, paths, i*i), func(a impl.Answer) bool { return !mayBeAnswers(answers(a)) })
			got := checkAny(t, r, alone, l)
			if got.Told.Fails > 0 && got.Told.Calls < alone.Told.Calls {
				told["less told"]++
			}
		}
	})
	for kind, least := range map[string]int{"code 0": 800, "code 1": 30, "code 6": 100, "code 7": 30, "code 8": 30, "code 9": 500, "code 10": 30, "just as much": 25, "less told": 500} {
		if told[kind] < least {
			t.Errorf("too few of %s to tell: %v", kind, told)
		}
	}
}

// Within limits that are just as much as is told in full: each path answered in each way, and all of them at once.
func TestWithinJustAsMuchAnyAnswerIsLetBy(t *testing.T) {
	for _, s := range []impl.Schema{asks(t, needs), withoutOnes(asks(t, needs))} {
		for _, text := range []string{
			"{ id nil a { m { ms(2) { need } } } ms { one { ...on A { id } ...on B { need } } } tags(2) one { ...on B { b } } }",
			"{ m { m { need } some { ...on A { ms(1) { need } } ...on B { need } } } as { a { id } m { need } } }",
		} {
			d := question(t, text)
			full, paths := replied(s, d, nil)
			r := asking(schemaWords(s), text)
			r.most = impl.BoundOf(s, d)
			if !impl.Ones(s) {
				r.most.Calls, r.most.Nodes = full.Calls, countNodes(full.Tree)
			}
			alone := checkAlone(t, r, s, d)
			if alone.Code != impl.OK {
				t.Fatalf("%s: is not let by", r.words())
			}
			if less := withMeasure(r.most, 1, r.most.Calls-1); impl.Admits(r.schema, r.question, less) {
				t.Errorf("%s: with one less of Calls it is let by", r.words())
			}
			if less := withMeasure(r.most, 2, r.most.Nodes-1); impl.Admits(r.schema, r.question, less) {
				t.Errorf("%s: with one less of Nodes it is let by", r.words())
			}
			for _, kind := range answers(nullAt(""), failAt(""), manyAt("", 0), manyAt("", 1), manyAt("", 1000), textAt("", ""), textAt("", "abcde"), textAt("", strings.Repeat("y", 120)), typeAt("", "A"), typeAt("", "B"), typeAt("", "Q"), typeAt("", "none")) {
				var all []impl.Answer
				for _, path := range paths {
					kind.Path = path
					checkAny(t, r, alone, answers(kind))
					all = append(all, kind)
				}
				checkAny(t, r, alone, all[:min(len(all), 40)])
				checkAny(t, r, alone, all[max(len(all)-40, 0):])
			}
		}
	}
}

// The deepest and the widest that there are, told in full, and how deep they are.
func TestTheDeepestAndTheWidestInFull(t *testing.T) {
	s := asks(t, ofItself)
	for _, name := range []string{"one", "may", "list"} {
		for i, d := range deepAndWide(name) {
			inTime(t, name, func() {
				got := checkFull(t, name, s, d)
				if want := []int64{31, 60}[i]; got.Calls != want || got.Code != impl.OK || impl.Ones(s) {
					t.Errorf("%s: FullOf is %s, want %d Calls", name, toldWords(got), want)
				}
				checkSafe(t, name, s, d, true, []int64{31, 6}[i])
			})
		}
	}
	many, d := most(t)
	inTime(t, "2000 Nodes", func() {
		checkFull(t, "2000 Nodes", many, d)
		checkSafe(t, "2000 Nodes", many, d, true, 3)
		for range 20 {
			impl.FullOf(many, d)
		}
	})
	r := greatest()
	large, asked := impl.SchemaRead(r.schema).Schema, impl.DocRead(r.question).Doc
	inTime(t, "the greatest", func() {
		checkFull(t, "the greatest", large, asked)
		checkSafe(t, "the greatest", large, asked, true, 6)
		checkWidest(t, "the greatest", large, 100)
		checkOnes(t, "the greatest", large, true)
		for range 300 {
			impl.FullOf(large, asked)
			impl.Safe(large, asked, 6)
			impl.Widest(large)
			impl.Ones(large)
		}
	})
}

// What is spread again is told once, in however many ways.
func TestWhatIsSpreadMostOftenIsToldInFullInTime(t *testing.T) {
	s := asks(t, ofThree)
	for what, all := range mostSpread() {
		want := checkFull(t, what, s, all[0])
		deep := impl.BoundOf(s, all[0]).Depth
		for _, d := range all[1:] {
			inTime(t, what, func() {
				checkFullAs(t, what, s, d, want)
				checkSafe(t, what, s, d, true, deep)
				for range 50 {
					impl.FullOf(s, d)
					impl.Safe(s, d, deep)
				}
			})
		}
	}
	for what, d := range wideDocs() {
		inTime(t, what, func() {
			checkFullAs(t, what, s, d, impl.Told{Code: impl.Validate(s, d).Code})
			checkSafe(t, what, s, d, false, 2)
		})
	}
}

// Whatever is handed in, every call answers.
func TestWhateverIsAskedInFullIsAnswered(t *testing.T) {
	s, right := asks(t, things), question(t, "{ id }")
	ring := fields(3)
	for i := range ring {
		ring[i].Sels = ring
	}
	long := strings.Repeat("a", impl.MaxBytes+1)
	inTime(t, "whatever", func() {
		for what, d := range map[string]impl.Doc{"a ring": doc(ring), "the zero one": {}, "long names": doc(fieldsOf(long)), "many Sels": doc(fields(1 << 17)), "many Frags": doc(sels(field("id")), frags(1<<10)...)} {
			checkFullAs(t, what, s, d, impl.Told{Code: impl.ErrForm})
			checkSafe(t, what, s, d, false, 1)
		}
		for what, of := range map[string]impl.Type{
			"many fields":  {Name: "T", Kind: impl.KdObj, Fields: make([]impl.Field, 1<<20)},
			"many members": {Name: "T", Kind: impl.KdOne, Members: make([]string, 1<<20)},
			"long members": oneType("T", slices.Repeat([]string{long}, 5)...),
			"long fields":  objType("T", capped(long, long, 100)),
		} {
			wrong := schema(append(slices.Clone(s.Types), of)...)
			if impl.Ones(wrong) || impl.Widest(wrong) != -1 || impl.Safe(wrong, right, 9) || !sameTold(impl.FullOf(wrong, right), impl.Told{Code: impl.ErrForm}) {
				t.Errorf("%s: is told as if it were right", what)
			}
		}
		if all := (impl.Schema{Types: make([]impl.Type, 1<<20)}); impl.Ones(all) || impl.Widest(all) != -1 {
			t.Errorf("many types are told as if they were right")
		}
		d := dice(40)
		for range 3000 {
			made := d.doc()
			code := impl.Validate(s, made).Code
			if got := impl.FullOf(s, made); got.Code != code && got.Code != impl.ErrFull {
				t.Errorf("FullOf %s is %s, want Code %d", docWords(made), toldWords(got), code)
			}
			if impl.Safe(s, made, 9) && code != impl.OK {
				t.Errorf("Safe %s is true, of Code %d", docWords(made), code)
			}
		}
	})
}

func TestWhatIsToldInFullSharesNothing(t *testing.T) {
	s, d, _ := toldOfMany(t)
	checkListsApart(t, func() impl.Node { return impl.FullOf(s, d).Tree })
	checkFull(t, "told again", s, d)
}

func TestWhatIsToldInFullHoldsNothingOfAQuestion(t *testing.T) {
	s, d, _ := toldOfMany(t)
	var told []string
	handed := textsOf(s, d)
	tree := impl.FullOf(s, d).Tree
	for _, n := range nodesIn(&tree) {
		told = append(told, append(n.Keys, n.Text)...)
	}
	if len(told) < 100 {
		t.Fatalf("only %q: too few to tell", told)
	}
	for _, one := range told {
		if slices.ContainsFunc(handed, func(other string) bool { return within(one, other) }) {
			t.Errorf("%q is a part of what was handed in", one)
		}
	}
}

func TestWhatIsAskedInFullIsNotChanged(t *testing.T) {
	checkNotChangedBy(t, 41, func(s impl.Schema, d impl.Doc) {
		impl.FullOf(s, d)
		impl.Safe(s, d, 2)
		impl.Ones(s)
		impl.Widest(s)
	})
	for what, s := range notThere() {
		before := copiedSchema(s)
		impl.Ones(s)
		impl.Widest(s)
		impl.FullOf(s, doc(fieldsOf("x")))
		impl.Safe(s, doc(fieldsOf("x")), 2)
		if !reflect.DeepEqual(before, copiedSchema(s)) {
			t.Errorf("%s: was changed", what)
		}
	}
}

func TestInFullTheSameIsToldAgain(t *testing.T) {
	s, many, _ := toldOfMany(t)
	type answer struct {
		told   impl.Told
		safe   []bool
		ones   bool
		widest int64
	}
	tell := func(s impl.Schema, d impl.Doc) answer {
		a := answer{told: impl.FullOf(s, d), ones: impl.Ones(s), widest: impl.Widest(s)}
		for depth := range int64(8) {
			a.safe = append(a.safe, impl.Safe(s, d, depth))
		}
		return a
	}
	var first []answer
	schemas := []impl.Schema{s, asks(t, things), withoutOnes(s), smallSchema(), {}}
	docs := []impl.Doc{many, question(t, "{ id }"), question(t, "{ any { ...on USER { id } } }"), question(t, "{ id } fragment f on Q { ...f }"), nodesOf(s, 2001), {}}
	for range 10 {
		var again []answer
		for _, s := range schemas {
			for _, d := range docs {
				// Answers that were given to another call are gone.
				impl.Exec(s, d, answers(failAt("id"), nullAt("any"), manyAt("as", 0)))
				again = append(again, tell(s, d))
			}
		}
		if first == nil {
			first = again
		}
		if !reflect.DeepEqual(first, again) {
			once(t, "got %+v, then %+v", first, again)
		}
	}
}
