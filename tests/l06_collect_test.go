package tests

import (
	"fmt"
	"reflect"
	"regexp"
	"slices"
	"strings"
	"testing"

	"loop.example/g00836/impl"
)

// groupWords says Groups as the fields that they are told of.
func groupWords(groups []impl.Group) string {
	var words []string
	for _, g := range groups {
		words = append(words, selWords(keyed(g.Key, g.Name, g.First, g.Sels...)))
	}
	return strings.Join(words, " ")
}

// sameGroup compares every field: an empty list and none are the same.
func sameGroup(a impl.Group, b impl.Group) bool {
	return a.Key == b.Key && a.Name == b.Name && a.First == b.First && slices.EqualFunc(a.Sels, b.Sels, sameSel)
}

// openFor are the fields in Sels, laid open for an object of the type t, apart from the program.
func openFor(s impl.Schema, d impl.Doc, all []impl.Sel, t string) []impl.Sel {
	fits := func(of string) bool {
		its := firstType(s, of)
		return its.Kind == impl.KdObj && of == t || slices.Contains(its.Members, t)
	}
	var open []impl.Sel
	for _, sel := range all {
		switch {
		case sel.Kind == impl.SlField:
			open = append(open, sel)
		case sel.Kind == impl.SlOn && fits(sel.Name):
			open = append(open, openFor(s, d, sel.Sels, t)...)
		case sel.Kind == impl.SlSpread:
			for _, f := range d.Frags {
				if f.Name == sel.Name && fits(f.On) {
					open = append(open, openFor(s, d, f.Sels, t)...)
				}
			}
		}
	}
	return open
}

// rightSel is what a right Sel is, by its Kind, Key, Name, First, and whether there are Sels.
var rightSel = regexp.MustCompile(`^(1 "[a-z]{1,8}" "[a-z]{1,8}" (-1|[0-9]{1,2}|100) (true|false)|2 "" "[A-Z]{1,8}" -1 true|3 "" "[a-z]{1,8}" -1 false)$`)

// mayBeSels tells by patterns, apart from the program, whether these are right, and those in them.
func mayBeSels(all []impl.Sel) bool {
	for _, sel := range all {
		head := fmt.Sprintf("%d %q %q %d %t", sel.Kind, sel.Key, sel.Name, sel.First, len(sel.Sels) > 0)
		if !rightSel.MatchString(head) || strings.Contains(head, `"on"`) || strings.Contains(head, `"fragment"`) || !mayBeSels(sel.Sels) {
			return false
		}
	}
	return true
}

// groupsOf are the Groups of Sels that may be collected, none of others, apart from the program. It asks not whether d is let by.
func groupsOf(s impl.Schema, d impl.Doc, l []impl.Sel, t string) []impl.Group {
	if countSels(l) > impl.MaxSels || !mayBeSels(l) || firstType(s, t).Kind != impl.KdObj {
		return nil
	}
	return groupsIn(s, d, l, t)
}

// groupsIn looks for each field through all others.
func groupsIn(s impl.Schema, d impl.Doc, l []impl.Sel, t string) []impl.Group {
	open := openFor(s, d, l, t)
	var groups []impl.Group
	for i, sel := range open {
		alike := func(other impl.Sel) bool { return other.Key == sel.Key }
		if slices.ContainsFunc(open[:i], alike) {
			continue
		}
		g := impl.Group{Key: sel.Key, Name: sel.Name, First: sel.First}
		for _, other := range open[i:] {
			if alike(other) {
				g.Sels = append(g.Sels, other.Sels...)
			}
		}
		groups = append(groups, g)
	}
	return groups
}

// checkGroups holds what is collected, of a d that is let by, against what was reckoned apart, and tells it.
func checkGroups(t *testing.T, what string, s impl.Schema, d impl.Doc, l []impl.Sel, of string) []impl.Group {
	t.Helper()
	got, want := impl.Collect(s, d, l, of), groupsOf(s, d, l, of)
	if !slices.EqualFunc(got, want, sameGroup) {
		t.Errorf("%s of %.20q: Collect of %.500q is %.500q, want %.500q", what, of, docWords(doc(l, d.Frags...)), groupWords(got), groupWords(want))
	}
	return got
}

// checkCollect is of all Sels of a question.
func checkCollect(t *testing.T, text string, of string, want string) {
	t.Helper()
	d := question(t, text)
	got := checkGroups(t, text, asks(t, things), d, d.Sels, of)
	if groupWords(got) != want {
		t.Errorf("%q of %s: Collect is %q, want %q", text, of, groupWords(got), want)
	}
}

func checkNoGroups(t *testing.T, what string, s impl.Schema, d impl.Doc, l []impl.Sel, of string) {
	t.Helper()
	if got := impl.Collect(s, d, l, of); len(got) != 0 {
		t.Errorf("%s: Collect is %+v", what, got)
	}
}

func checkNoWants(t *testing.T, what string, s impl.Schema, d impl.Doc) {
	t.Helper()
	if got := impl.Wants(s, d); len(got) != 0 {
		t.Errorf("%s: Wants is %q", what, got)
	}
}

func TestCollect(t *testing.T) {
	cases := []struct{ text, of, want string }{
		{"{ id }", "Q", "id"},
		{"{ id nil none }", "Q", "id nil none"},
		{"{ none nil id }", "Q", "none nil id"},
		{"{ k:id }", "Q", "k:id"},
		{"{ id:nil nil:id }", "Q", "id:nil nil:id"},
		{"{ tags(7) k:tags(0) l:tags(100) }", "Q", "tags(7) k:tags(0) l:tags(100)"},
		{"{ user { id name } }", "Q", "user { id name }"},
		// Those of one Key stand where the first one does, and their Sels one behind the other.
		{"{ id id id }", "Q", "id"},
		{"{ id nil id }", "Q", "id nil"},
		{"{ k:id id k:id id }", "Q", "k:id id"},
		{"{ k:tags(7) id k:tags(7) }", "Q", "k:tags(7) id"},
		{"{ user { id } user { name } }", "Q", "user { id name }"},
		{"{ user { name } id user { id } nil user { k:id } }", "Q", "user { name id k:id } id nil"},
		{"{ user { id } user { id } }", "Q", "user { id id }"},
		{"{ user { id } k:user { name } user { name } k:user { id } }", "Q", "user { id name } k:user { name id }"},
		{"{ k:users(2) { id } users(3) { id } k:users(2) { name } }", "Q", "k:users(2) { id name } users(3) { id }"},
		{"{ user { self { id } } user { self { name } } }", "Q", "user { self { id } self { name } }"},
		// From an on, and from such within each other.
		{"{ ...on Q { id } }", "Q", "id"},
		{"{ ...on Q { ...on Q { ...on Q { id } nil } none } tags(1) }", "Q", "id nil none tags(1)"},
		{"{ nil ...on Q { id nil } id none }", "Q", "nil id none"},
		{"{ ...on Q { user { id } } user { name } ...on Q { user { k:id } } }", "Q", "user { id name k:id }"},
		{"{ ...on SOLO { ...on Q { id } ...on SOLO { ...on Q { nil } } } }", "Q", "id nil"},
		{"{ user { ...on USER { id } ...on POST { id } } }", "Q", "user { ...on USER { id } ...on POST { id } }"},
		{"{ ...on USER { k:id } id ...on POST { l:id } ...on Q { nil } }", "Q", "id nil"},
		{"{ ...on USER { k:id } id ...on POST { l:id } ...on Q { nil } }", "USER", "k:id id"},
		{"{ ...on USER { k:id } id ...on POST { l:id } ...on Q { nil } }", "POST", "id l:id"},
		{"{ ...on ANY { ...on USER { id } ...on POST { k:id } } nil }", "Q", "nil"},
		{"{ ...on ANY { ...on USER { id } ...on POST { k:id } } nil }", "USER", "id nil"},
		{"{ ...on ANY { ...on USER { id } ...on POST { k:id } } nil }", "POST", "k:id nil"},
		{"{ ...on ANY { ...on Q { id } } ...on SOLO { ...on USER { id } } }", "Q", ""},
		{"{ ...on ANY { ...on Q { id } } ...on SOLO { ...on USER { id } } }", "USER", ""},
		{"{ ...on USER { ...on Q { id } } ...on Q { ...on USER { id } nil } }", "Q", "nil"},
		{"{ ...on USER { ...on Q { id } } ...on Q { ...on USER { id } nil } }", "USER", ""},
		{"{ ...on USER { ...on ANY { ...on USER { id } ...on POST { k:id } } } }", "USER", "id"},
		// From a spread, and from such within each other.
		{"{ ...f } fragment f on Q { id }", "Q", "id"},
		{"{ ...f } fragment f on Q { id }", "USER", ""},
		{"{ id } fragment f on Q { nil }", "Q", "id"},
		{"{ none ...g nil ...f } fragment f on Q { id none } fragment g on Q { k:id }", "Q", "none k:id nil id"},
		{"{ ...f nil } fragment f on Q { ...g none } fragment g on Q { ...h k:id } fragment h on Q { id }", "Q", "id k:id none nil"},
		{"{ ...f nil } fragment f on SOLO { ...g } fragment g on Q { id }", "Q", "id nil"},
		{"{ ...f ...g nil } fragment f on USER { id } fragment g on POST { k:id }", "Q", "nil"},
		{"{ ...f ...g nil } fragment f on USER { id } fragment g on POST { k:id }", "USER", "id nil"},
		{"{ ...f ...g nil } fragment f on USER { id } fragment g on POST { k:id }", "POST", "k:id nil"},
		{"{ ...f } fragment f on ANY { ...g ...on USER { l:id } } fragment g on POST { k:id }", "Q", ""},
		{"{ ...f } fragment f on ANY { ...g ...on USER { l:id } } fragment g on POST { k:id }", "USER", "l:id"},
		{"{ ...f } fragment f on ANY { ...g ...on USER { l:id } } fragment g on POST { k:id }", "POST", "k:id"},
		{"{ ...f } fragment f on USER { ...g name } fragment g on POST { k:id }", "USER", "name"},
		{"{ ...f } fragment f on USER { ...g name } fragment g on POST { k:id }", "POST", ""},
		{"{ ...on Q { ...f } nil } fragment f on Q { ...on Q { id } }", "Q", "id nil"},
		{"{ ...on USER { ...f } nil } fragment f on Q { id }", "Q", "nil"},
		{"{ ...f nil } fragment f on Q { ...on USER { k:id } id }", "Q", "id nil"},
		{"{ user { ...f ...on Q { id } } } fragment f on USER { id }", "Q", "user { ...f ...on Q { id } }"},
		{"{ user { ...f } ...g } fragment f on USER { id } fragment g on Q { user { ...f name } }", "Q", "user { ...f ...f name }"},
		// One Key from Sels themselves, from an on, and from a spread.
		{"{ user { id } ...on Q { user { name } } ...f } fragment f on Q { user { k:id } }", "Q", "user { id name k:id }"},
		{"{ ...f ...on Q { user { name } } user { id } } fragment f on Q { user { k:id } }", "Q", "user { k:id name id }"},
		{"{ ...on Q { nil user { name } } ...f user { id } } fragment f on Q { id user { k:id } nil }", "Q", "nil user { name k:id id } id"},
		// What is spread twice is there twice, by whatever way.
		{"{ ...f ...f } fragment f on Q { id }", "Q", "id"},
		{"{ ...f ...f } fragment f on Q { user { id name } id }", "Q", "user { id name id name } id"},
		{"{ ...f user { k:id } ...f } fragment f on Q { user { id } }", "Q", "user { id k:id id }"},
		{"{ ...f ...on Q { ...f } } fragment f on Q { user { id } }", "Q", "user { id id }"},
		{"{ ...f ...on USER { ...f } } fragment f on Q { user { id } }", "Q", "user { id }"},
		{"{ ...f ...g } fragment f on Q { user { id } } fragment g on Q { ...f user { name } }", "Q", "user { id id name }"},
		{"{ ...g ...f } fragment f on Q { user { id } } fragment g on Q { user { name } ...f }", "Q", "user { name id id }"},
		{"{ ...f ...g ...h } fragment f on Q { ...h } fragment g on Q { ...h ...f } fragment h on Q { user { id } }", "Q", "user { id id id id }"},
		{"{ ...f ...f } fragment f on Q { ...g ...g } fragment g on Q { user { id } }", "Q", "user { id id id id }"},
	}
	for _, c := range cases {
		checkCollect(t, c.text, c.of, c.want)
	}
}

// Whatever two stand around a field, it is there if the object may be both.
func TestCollectOfEachTwoTypes(t *testing.T) {
	s := asks(t, things)
	mayBe := map[string][]string{"Q": {"Q"}, "USER": {"USER"}, "POST": {"POST"}, "ANY": {"USER", "POST"}, "SOLO": {"Q"}, "STR": nil, "NO": nil, "": nil}
	bottom := func(of string) []impl.Sel {
		if firstType(s, of).Kind != impl.KdOne {
			return fieldsOf("id")
		}
		var ons []impl.Sel
		for _, member := range mayBe[of] {
			ons = append(ons, on(member, field("id")))
		}
		return ons
	}
	told := 0
	check := func(d impl.Doc, l []impl.Sel, outer string, inner string) {
		for _, of := range []string{"Q", "USER", "POST"} {
			want := ""
			if slices.Contains(mayBe[outer], of) && slices.Contains(mayBe[inner], of) {
				want = "id"
				told++
			}
			if got := groupWords(checkGroups(t, outer+", "+inner, s, d, l, of)); got != want {
				t.Errorf("%s in %s, of %s: Collect of %q is %q, want %q", inner, outer, of, docWords(doc(l, d.Frags...)), got, want)
			}
		}
	}
	for outer := range mayBe {
		for inner := range mayBe {
			// What is collected need not be let by, but what it is asked with has to be.
			check(question(t, "{ id }"), sels(on(outer, on(inner, bottom(inner)...))), outer, inner)
			if len(mayBe[inner]) == 0 {
				continue
			}
			one := doc(fieldsOf("id"), frag("f", inner, bottom(inner)...))
			check(one, sels(on(outer, spread("f"))), outer, inner)
			if len(mayBe[outer]) == 0 {
				continue
			}
			check(doc(fieldsOf("id"), frag("f", outer, on(inner, bottom(inner)...))), sels(spread("f")), outer, inner)
			check(doc(fieldsOf("id"), frag("f", outer, spread("g")), frag("g", inner, bottom(inner)...)), sels(spread("f")), outer, inner)
		}
	}
	if told < 40 {
		t.Errorf("only %d are there: too few to tell", told)
	}
}

// fieldsOf are fields of these names.
func fieldsOf(names ...string) []impl.Sel {
	var all []impl.Sel
	for _, name := range names {
		all = append(all, field(name))
	}
	return all
}

// What is collected need not be what the question asks, but it is asked with its Frags.
func TestCollectOfOtherSels(t *testing.T) {
	s := asks(t, things)
	d := question(t, "{ nil } fragment f on Q { id user { id } } fragment g on USER { name ...h } fragment h on ANY { ...on USER { k:id } ...on POST { l:id } }")
	inner := fieldsOf("x", "y")
	cases := []struct {
		of   string
		l    []impl.Sel
		want string
	}{
		{"Q", nil, ""},
		{"Q", []impl.Sel{}, ""},
		{"Q", sels(spread("f")), "id user { id }"},
		{"USER", sels(spread("f")), ""},
		{"USER", sels(spread("f"), spread("g"), spread("h")), "name k:id"},
		{"POST", sels(spread("f"), spread("g"), spread("h")), "l:id"},
		{"Q", sels(spread("none"), field("id"), spread("none")), "id"},
		{"Q", sels(keyed("user", "self", 5, inner...), spread("f")), "user:self(5) { x y id } id"},
		{"Q", sels(spread("f"), keyed("user", "self", 5, inner...)), "id user { id x y }"},
		// Neither the fields, nor where they stand, are those of the type.
		{"Q", fieldsOf("zz", "name", "id"), "zz name id"},
		{"POST", fieldsOf("zz", "nil", "id"), "zz nil id"},
		{"Q", sels(field("id", inner...), field("user")), "id { x y } user"},
		{"Q", sels(keyed("a", "b", 0), keyed("b", "a", 100)), "a:b(0) b:a(100)"},
		{"Q", sels(keyed("o", "n", 0), keyed("abcdefgh", "ijklmnop", 1), keyed("o", "zz", 5)), "o:n(0) abcdefgh:ijklmnop(1)"},
		// The Name and First are those of the first one.
		{"Q", sels(keyed("k", "a", 1, inner...), keyed("k", "b", 2), keyed("k", "c", 3, inner[1:]...)), "k:a(1) { x y y }"},
		{"Q", sels(on("Q", keyed("k", "a", -1)), keyed("k", "b", 2, inner...)), "k:a { x y }"},
		// Sels that are empty beside such that are not.
		{"Q", sels(field("a"), field("a", inner...), field("a")), "a { x y }"},
		{"Q", sels(field("a", inner...), impl.Sel{Kind: impl.SlField, Key: "a", Name: "a", First: -1, Sels: []impl.Sel{}}), "a { x y }"},
		{"Q", sels(field("a"), field("b"), field("a"), field("b", inner...)), "a b { x y }"},
		// What stands in a field is told as it is.
		{"Q", sels(field("a", spread("f"), spread("none"), on("NO", inner...), on("USER", inner...), keyed("b", "c", 100))), "a { ...f ...none ...on NO { x y } ...on USER { x y } b:c(100) }"},
		{"Q", sels(on("SOLO", field("a"), on("Q", field("b")), on("ANY", field("c"), on("Q", field("d"))))), "a b"},
		{"Q", sels(on("STR", field("a")), on("NO", field("a")), on("STR", on("Q", field("a")))), ""},
		// How deep Sels may stand is said of a Doc, not of these.
		{"Q", nestedIn(6, field("z"), func(inner ...impl.Sel) impl.Sel { return field("a", inner...) }), "a { a { a { a { a { a { z } } } } } }"},
		{"Q", nestedIn(6, field("z"), func(inner ...impl.Sel) impl.Sel { return on("Q", inner...) }), "z"},
	}
	for _, c := range cases {
		if got := groupWords(checkGroups(t, "other Sels", s, d, c.l, c.of)); got != c.want {
			t.Errorf("%q of %s: Collect is %q, want %q", docWords(doc(c.l)), c.of, got, c.want)
		}
	}
}

// around are lists that have this Sel somewhere, beside such that are right, within each that may have Sels, and in what is not laid open.
func around(sel impl.Sel) map[string][]impl.Sel {
	return map[string][]impl.Sel{
		"alone":               sels(sel),
		"twice":               sels(sel, sel),
		"behind one":          sels(field("id"), sel),
		"ahead of one":        sels(sel, field("id")),
		"between spreads":     sels(spread("f"), sel, spread("f")),
		"in a field":          sels(field("id"), field("user", sel)),
		"last in a field":     sels(field("user", field("id"), field("name"), sel), field("id")),
		"in one of two":       sels(field("user", field("id")), field("user", sel)),
		"in a field of none":  sels(field("id"), field("zz", sel)),
		"in an on that fits":  sels(on("Q", field("id"), sel)),
		"in an on that not":   sels(field("id"), on("USER", sel)),
		"in an on of no type": sels(field("id"), on("NO", field("id"), sel)),
		"in an on of a leaf":  sels(field("id"), on("STR", sel)),
		"in two ons":          sels(on("SOLO", on("Q", sel), field("id"))),
		"deep":                sels(field("id"), field("a", field("b", on("Q", field("c", field("d", field("e", field("g", sel)))))))),
		"as the last of many": append(fields(40), sel),
	}
}

func TestCollectOfSelsThatAreNotRight(t *testing.T) {
	s := asks(t, things)
	for _, d := range []impl.Doc{question(t, "{ id }"), question(t, "{ ...f } fragment f on Q { user { ...g } } fragment g on USER { id }")} {
		for where, l := range around(field("k", field("id"), on("USER", field("id")), spread("f"))) {
			if len(checkGroups(t, where, s, d, l, "Q")) == 0 {
				t.Errorf("what is right is not told %s", where)
			}
		}
		for what, wrong := range wrongSels() {
			for where, l := range around(wrong) {
				for _, of := range append(asked(s), "T") {
					checkNoGroups(t, what+", "+where, s, d, l, of)
				}
			}
		}
	}
}

// One that is not right is enough, whether it would be told or not.
func TestCollectOfOneSelThatIsNotRight(t *testing.T) {
	s := asks(t, "obj Q id:STR\nleaf STR 3\n")
	d := question(t, "{ id }")
	id := field("id")
	if got := groupWords(checkGroups(t, "id", s, d, sels(id), "Q")); got != "id" {
		t.Errorf("Collect of id is %q", got)
	}
	for what, l := range map[string][]impl.Sel{
		"another Kind":      sels(id, impl.Sel{Kind: 7}),
		"a Key of no word":  sels(keyed("A", "id", -1)),
		"a First above 100": sels(keyed("a", "id", 101)),
		"an on of no Sels":  sels(id, on("Q")),
	} {
		checkNoGroups(t, what, s, d, l, "Q")
		checkNoGroups(t, what+", in a field", s, d, sels(id, field("a", l...)), "Q")
		checkNoGroups(t, what+", in an on", s, d, sels(id, on("Q", l...)), "Q")
		checkNoGroups(t, what+", in an on that fits not", s, d, sels(id, on("STR", l...)), "Q")
	}
}

// lineOf are Sels so deep, one in each.
func lineOf(deep int, make func(inner ...impl.Sel) impl.Sel) []impl.Sel {
	var all []impl.Sel
	for range deep {
		all = sels(make(all...))
	}
	return all
}

// nestedIn is what stands at the bottom, in so many others.
func nestedIn(deep int, bottom impl.Sel, make func(inner ...impl.Sel) impl.Sel) []impl.Sel {
	for range deep {
		bottom = make(bottom)
	}
	return sels(bottom)
}

// shapes are lists of so many Sels in all.
func shapes(count int) map[string][]impl.Sel {
	first := func(last []impl.Sel) []impl.Sel { return append(fields(1), last...) }
	return map[string][]impl.Sel{
		"side by side":         fields(count),
		"of one Key":           repeated(count, func(int) impl.Sel { return field("a") }),
		"in one field":         sels(field("a", fields(count-1)...)),
		"in the last field":    append(fields(20), field("z", fields(count-21)...)),
		"in the first field":   append(sels(field("z", fields(count-21)...)), fields(20)...),
		"in fields of two":     repeated(count/2, func(int) impl.Sel { return field("a", field("b")) }),
		"one in each field":    lineOf(count, func(inner ...impl.Sel) impl.Sel { return field("in", inner...) }),
		"one in each on":       nestedIn(count-1, field("a"), func(inner ...impl.Sel) impl.Sel { return on("Q", inner...) }),
		"in an on that is not": first(sels(on("NO", fields(count-2)...))),
		"in an on that fits":   sels(on("Q", fields(count-1)...)),
		"spreads":              first(repeated(count-1, func(int) impl.Sel { return spread("f") })),
		"spreads of none":      first(repeated(count-1, func(int) impl.Sel { return spread("none") })),
		"10 of 6":              append(repeated((count-1)/6, func(int) impl.Sel { return field("a", fields(5)...) }), fields(count-(count-1)/6*6)...),
	}
}

func TestCollectOfAsManySelsAsMayBe(t *testing.T) {
	s := asks(t, things)
	d := question(t, "{ ...f } fragment f on Q { id user { id } }")
	for _, count := range []int{30, impl.MaxSels - 2, impl.MaxSels, impl.MaxSels + 2, impl.MaxSels * 2} {
		for what, l := range shapes(count) {
			if int(countSels(l)) != count {
				t.Fatalf("%s: %d Sels, want %d", what, countSels(l), count)
			}
			got := checkGroups(t, what, s, d, l, "Q")
			if (len(got) > 0) != (count <= impl.MaxSels) {
				t.Errorf("%s: of %d Sels Collect is %q", what, count, groupWords(got))
			}
			// One more, at the end.
			more := append(l, spread("none"))
			if got := checkGroups(t, what, s, d, more, "Q"); (len(got) > 0) != (count < impl.MaxSels) {
				t.Errorf("%s: of %d Sels Collect is %q", what, count+1, groupWords(got))
			}
			more = append(sels(spread("none")), l...)
			if got := checkGroups(t, what, s, d, more, "Q"); (len(got) > 0) != (count < impl.MaxSels) {
				t.Errorf("%s: of %d Sels Collect is %q", what, count+1, groupWords(got))
			}
		}
	}
	for _, count := range []int{impl.MaxList, impl.MaxList + 1, 100 * impl.MaxList} {
		checkNoGroups(t, fmt.Sprint(count), s, d, repeated(count, func(int) impl.Sel { return field("id") }), "Q")
		checkNoGroups(t, fmt.Sprint(count), s, d, make([]impl.Sel, count), "Q")
	}
}

// Frags may lay open more than MaxSels: these are told all.
func TestCollectTellsMoreThanIsHandedIn(t *testing.T) {
	s := asks(t, things)
	d := question(t, "{ id } fragment f on Q { user { id name k:id } } fragment g on Q { ...f ...f ...f }")
	l := repeated(impl.MaxSels, func(int) impl.Sel { return spread("g") })
	got := checkGroups(t, "many", s, d, l, "Q")
	if len(got) != 1 || len(got[0].Sels) != 9*impl.MaxSels {
		t.Errorf("%d Groups, want one of %d Sels", len(got), 9*impl.MaxSels)
	}
	if len(got) == 1 {
		checkNoGroups(t, "what was told", s, d, got[0].Sels, "USER")
	}
}

func TestWants(t *testing.T) {
	cases := []struct{ text, want string }{
		{"{ id }", "id"},
		{"{ nil k:id id }", "nil k id"},
		{"{ id nil id k:id id }", "id nil k"},
		{"{ user { id } any { ...on USER { id } } k:user { name } user { k:id } }", "user any k"},
		{"{ ...on Q { k:id } ...on USER { l:id } ...on SOLO { ...on Q { nil } } id }", "k nil id"},
		{"{ ...on USER { id } ...on ANY { ...on POST { id } } }", ""},
		{"{ ...g nil ...f ...h } fragment f on Q { k:id ...h } fragment g on USER { id } fragment h on Q { l:id nil }", "nil k l"},
		{"{ id } fragment f on Q { nil }", "id"},
	}
	for _, c := range cases {
		if got := strings.Join(impl.Wants(asks(t, things), question(t, c.text)), " "); got != c.want {
			t.Errorf("Wants of %q is %q, want %q", c.text, got, c.want)
		}
	}
	// The root is the first type, whatever its name.
	s := schema(objType("Z", plain("a", "S")), leafType("S", 1), objType("Q", plain("b", "S")))
	if got := impl.Wants(s, question(t, "{ ...on Q { b } ...on Z { a } }")); !slices.Equal(got, []string{"a"}) {
		t.Errorf("Wants for the root Z is %q", got)
	}
}

func TestManyKeysAreToldInOrder(t *testing.T) {
	s := asks(t, things)
	keys := letters(impl.MaxSels)
	slices.Reverse(keys)
	d := doc(repeated(impl.MaxSels, func(at int) impl.Sel { return keyed(keys[at], "id", -1) }))
	for range 5 {
		if got := impl.Wants(s, d); !slices.Equal(got, keys) {
			t.Errorf("Wants is %q, want %q", got, keys)
		}
		checkGroups(t, "many Keys", s, d, d.Sels, "Q")
	}
}

// notLetBy are questions that are wrong in each of the ways that there are.
func notLetBy(t *testing.T) []impl.Doc {
	var all []impl.Doc
	for _, text := range []string{
		"{ id } fragment f on Q { ...f }", "{ ...f } fragment f on Q { id ...g } fragment g on Q { ...f }", "{ id } fragment f on NO { id }", "{ id } fragment f on STR { id }", "{ id } fragment f on ANY { id }",
		"{ id ...none }", "{ id } fragment f on USER { ...none }", "{ id ...on NO { id } }", "{ id ...on STR { id } }", "{ id ...on ANY { id } }",
		"{ k:id k:nil }", "{ users(1) { id } users(2) { id } }", "{ user { k:id } user { k:name } }", "{ id } fragment f on USER { name { id } }",
		"{ id ...on USER { zz } }", "{ id user { zz } }", "{ id user { posts { id } } }", "{ id user { id(1) } }",
	} {
		all = append(all, question(t, text))
	}
	for _, wrong := range wrongTexts() {
		all = append(all, question(t, "{ id "+wrong.text+" }"), question(t, "{ id ...f } fragment f on Q { "+wrong.text+" }"))
	}
	return all
}

// notRightDocs are not right, each in one way.
func notRightDocs() map[string]impl.Doc {
	id := field("id")
	all := map[string]impl.Doc{
		"the zero Doc": {}, "no Sels": doc(nil, frag("f", "Q", id)), "one Frag more": doc(sels(id), frags(impl.MaxFrags+1)...), "two of one Name": doc(sels(id), frag("f", "Q", id), frag("f", "Q", id)),
		"one Sel more": doc(repeated(impl.MaxSels+1, func(int) impl.Sel { return id })),
		"one deeper":   doc(nestedIn(impl.MaxDeep, id, func(inner ...impl.Sel) impl.Sel { return on("Q", inner...) })),
	}
	for what, wrong := range wrongSels() {
		all[what] = doc(sels(id, wrong))
		all[what+", in a Frag"] = doc(sels(id), frag("f", "Q", wrong))
		all[what+", in a field"] = doc(sels(field("user", id, wrong)))
	}
	return all
}

func TestCollectOfWhatIsNotLetBy(t *testing.T) {
	s := asks(t, things)
	right := question(t, "{ id user { id } ...on USER { name } }")
	if len(impl.Collect(s, right, right.Sels, "Q")) != 2 || len(impl.Wants(s, right)) != 2 {
		t.Fatal("what is right is not told")
	}
	for _, d := range notLetBy(t) {
		if impl.Validate(s, d).Code == impl.OK {
			t.Fatalf("%s is let by", docWords(d))
		}
		for _, of := range asked(s) {
			checkNoGroups(t, docWords(d), s, d, d.Sels, of)
			checkNoGroups(t, docWords(d), s, d, right.Sels, of)
		}
		checkNoWants(t, docWords(d), s, d)
	}
	for what, d := range notRightDocs() {
		checkNoGroups(t, what, s, d, right.Sels, "Q")
		checkNoGroups(t, what, s, d, d.Sels, "Q")
		checkNoWants(t, what, s, d)
	}
}

// smallSchema is right, and lets by a question for x.
func smallSchema() impl.Schema {
	return schema(objType("Q", plain("x", "S")), leafType("S", 5))
}

// notRightSchemas are not right, each in one way.
func notRightSchemas() map[string]impl.Schema {
	types := smallSchema().Types
	all := map[string]impl.Schema{
		"the zero Schema":         {},
		"a leaf as the root":      schema(types[1], types[0]),
		"a one as the root":       schema(oneType("U", "Q"), types[0], types[1]),
		"13 types":                schema(append(slices.Clone(types), objTypes(11)...)...),
		"more types than MaxList": schema(append(slices.Clone(types), objTypes(impl.MaxList)...)...),
	}
	for what, f := range wrongFields() {
		all["a field, "+what] = schema(append(slices.Clone(types), objType("R", f))...)
	}
	for what, of := range hiddenTypes() {
		all["hidden, "+what] = schema(append(slices.Clone(types), of)...)
	}
	for what, of := range wrongTypes() {
		for at, s := range withType(of) {
			all[fmt.Sprint("type ", at, ", ", what)] = s
		}
	}
	return all
}

func TestCollectOfASchemaThatIsNotRight(t *testing.T) {
	d := doc(fieldsOf("x"))
	right := smallSchema()
	if len(impl.Collect(right, d, d.Sels, "Q")) != 1 || len(impl.Wants(right, d)) != 1 {
		t.Fatal("what is right is not told")
	}
	for what, s := range notRightSchemas() {
		for _, of := range []string{"Q", "T", "R", "S", ""} {
			checkNoGroups(t, what, s, d, d.Sels, of)
		}
		checkNoWants(t, what, s, d)
	}
}

func TestCollectForWhatIsNoObject(t *testing.T) {
	s := asks(t, things)
	d := question(t, "{ id ...f ...on ANY { ...on USER { id } } } fragment f on SOLO { ...on Q { nil } }")
	told := 0
	for _, of := range append(asked(s), "Q ", " Q", "q", "Qq", "Q\x00", "USER,POST") {
		got := checkGroups(t, "each name", s, d, d.Sels, of)
		if len(got) > 0 {
			told++
		}
		if (len(got) > 0) != slices.Contains([]string{"Q", "USER", "POST"}, of) {
			t.Errorf("%.20q: Collect is %q", of, groupWords(got))
		}
	}
	if told != 3 {
		t.Errorf("%d types are told of, want 3", told)
	}
}

// checkFieldsThere goes through what is wanted, and what is wanted of that: each is one of a field that there is, says promise 6.
func checkFieldsThere(t *testing.T, s impl.Schema, d impl.Doc, l []impl.Sel, of string) int {
	t.Helper()
	told := 0
	for _, g := range impl.Collect(s, d, l, of) {
		f := impl.FieldOf(s, of, g.Name)
		if f.Name == "" || f.Name != g.Name {
			t.Errorf("%s of %q: %s has no field %q, that is wanted as %q", docWords(d), schemaWords(s), of, g.Name, g.Key)
		}
		told++
		for _, member := range impl.MembersOf(s, f.Type) {
			told += checkFieldsThere(t, s, d, g.Sels, member)
		}
	}
	return told
}

// checkWanted looks, of a d that is let by, at what is wanted of the root, and of each type of each of its Sels; it tells how many fields are wanted.
func checkWanted(t *testing.T, s impl.Schema, d impl.Doc) int {
	t.Helper()
	root := s.Types[0].Name
	var keys []string
	for _, g := range checkGroups(t, "wanted", s, d, d.Sels, root) {
		keys = append(keys, g.Key)
	}
	if got := impl.Wants(s, d); !slices.Equal(got, keys) {
		t.Errorf("Wants of %s is %q, want %q", docWords(d), got, keys)
	}
	for _, of := range s.Types {
		for _, list := range innerLists(d) {
			checkGroups(t, "wanted", s, d, list, of.Name)
		}
	}
	return checkFieldsThere(t, s, d, d.Sels, root)
}

func TestThrownQuestionsAreCollected(t *testing.T) {
	d := dice(9)
	letBy, told := 0, 0
	for i := range 5000 {
		a := asker{dice: &d, s: asks(t, things), odd: []int{100000, 100000, 60}[i%3]}
		if i%5 == 0 {
			a.s = d.rightSchema()
		}
		made, other := a.doc(), a.doc()
		switch of := a.s.Types[i%len(a.s.Types)].Name; {
		case countDoc(made) > impl.MaxSels:
		case validOf(a.s, made).Code != impl.OK:
			checkNoGroups(t, docWords(made), a.s, made, made.Sels, of)
			checkNoGroups(t, docWords(made), a.s, made, other.Sels, of)
			checkNoWants(t, docWords(made), a.s, made)
		default:
			letBy++
			told += checkWanted(t, a.s, made)
			checkGroups(t, "of another one", a.s, made, other.Sels, of)
		}
	}
	if letBy < 1200 || letBy > 4000 || told < 3000 {
		t.Errorf("%d are let by, and %d fields told: too few to tell", letBy, told)
	}
}

// Sels that are thrown without a thought are asked with the Frags of a question that is let by.
func TestThrownSelsAreCollected(t *testing.T) {
	dice := dice(10)
	s := schema(objType("T", append(plainFields(3, "T"), plain("a", "USER"), plain("b", "Z"))...), objType("USER", plain("a", "S")), leafType("S", 5), oneType("Z", "T", "ABCDEFGH"), objType("ABCDEFGH", plain("b", "T")))
	d := question(t, "{ b { ...f } } fragment f on T { a { a } ...a } fragment g on Z { ...f ...a } fragment id on USER { a k:a } fragment a on Z { ...on T { b { ...zzz } } } fragment zzz on ABCDEFGH { k:b { a { ...id } } }")
	told := 0
	for range 5000 {
		l := dice.doc().Sels
		for _, of := range s.Types {
			told += len(checkGroups(t, "thrown", s, d, l, of.Name))
		}
	}
	if told < 20000 {
		t.Errorf("only %d told: too few to tell", told)
	}
}

// mostWays has as many ways through its Frags as there may be, from so many spreads to what the last Frag has.
func mostWays(own int, last ...impl.Sel) impl.Doc {
	names := letters(impl.MaxFrags)
	made := doc(repeated(own, func(int) impl.Sel { return spread(names[0]) }))
	room := impl.MaxSels - own - int(countSels(last))
	for at := range impl.MaxFrags - 1 {
		count := (room + at) / (impl.MaxFrags - 1)
		made.Frags = append(made.Frags, frag(names[at], "T", repeated(count, func(int) impl.Sel { return spread(names[at+1]) })...))
	}
	made.Frags = append(made.Frags, frag(names[impl.MaxFrags-1], "T", last...))
	return made
}

// waysOf are how many there are from so many spreads of the first Frag to what the last one has.
func waysOf(d impl.Doc, spreads int) int {
	for _, f := range d.Frags[:len(d.Frags)-1] {
		spreads *= len(f.Sels)
	}
	return spreads
}

func TestWhatIsSpreadMostOftenIsCollectedInTime(t *testing.T) {
	s := schema(objType("T", plain("in", "T"), plain("l", "S")), leafType("S", 5), objType("U", plain("l", "S")))
	leaf := field("l")
	leaves := repeated(10, func(int) impl.Sel { return leaf })
	cases := []struct {
		what string
		d    impl.Doc
		// inner are how many Sels each way gives to the one Group, which has this Key; none, if there is no Group.
		inner int
		key   string
	}{
		{"leaves", mostWays(10, leaves...), 0, "l"},
		{"a field of many", mostWays(10, field("in", leaves[:9]...)), 9, "in"},
		{"fields of one", mostWays(10, repeated(5, func(int) impl.Sel { return field("in", leaf) })...), 5, "in"},
		{"fields of two", mostWays(10, repeated(3, func(int) impl.Sel { return field("in", field("in", leaf), leaf) })...), 6, "in"},
		{"6 deep", mostWays(10, nested(6, leaf)...), 1, "in"},
		{"what does not fit", mostWays(10, on("U", leaves...)), 0, ""},
	}
	for _, c := range cases {
		if told := impl.Validate(s, c.d); told.Code != impl.OK || countDoc(c.d) < 55 || waysOf(c.d, 10) < 80000 {
			t.Fatalf("%s: Validate is %+v, %d Sels, %d ways: not right, or too few to tell", c.what, told, countDoc(c.d), waysOf(c.d, 10))
		}
		// A question has less room for spreads than what is asked with its Frags.
		for _, count := range []int{0, 1, 10, impl.MaxSels} {
			if c.inner*count > 60 {
				continue
			}
			inTime(t, c.what, func() {
				got := impl.Collect(s, c.d, repeated(count, func(int) impl.Sel { return c.d.Sels[0] }), "T")
				switch {
				case c.key == "" || count == 0:
					if len(got) != 0 {
						t.Errorf("%s: %d Groups, want none", c.what, len(got))
					}
				case len(got) != 1 || got[0].Key != c.key || len(got[0].Sels) != c.inner*waysOf(c.d, count):
					t.Errorf("%s, %d spreads: %d Groups, want one of %d Sels", c.what, count, len(got), c.inner*waysOf(c.d, count))
				}
			})
		}
		inTime(t, c.what, func() {
			if wants := impl.Wants(s, c.d); strings.Join(wants, " ") != c.key {
				t.Errorf("%s: Wants is %q, want %q alone", c.what, wants, c.key)
			}
		})
	}
}

// eachOther has Frags each of which spreads all those behind it, as often as there is room; the last one has this.
func eachOther(last ...impl.Sel) impl.Doc {
	names := letters(impl.MaxFrags)
	made := doc(repeated(12, func(at int) impl.Sel { return spread(names[at%5]) }))
	for at := range impl.MaxFrags - 1 {
		made.Frags = append(made.Frags, frag(names[at], "T", repeated(11, func(i int) impl.Sel { return spread(names[at+1+i%(4-at)]) })...))
	}
	made.Frags = append(made.Frags, frag(names[4], "T", last...))
	return made
}

func TestFragsThatSpreadEachOtherAreCollectedInTime(t *testing.T) {
	s := schema(objType("T", plain("in", "T"), plain("l", "S")), leafType("S", 5))
	for _, last := range [][]impl.Sel{sels(field("l")), sels(field("in", field("l")))} {
		d := eachOther(last...)
		// The last Frag is reached from each one of these in so many ways.
		ways := []int{0, 0, 0, 0, 1}
		for at := 3; at >= 0; at-- {
			for i := range 11 {
				ways[at] += ways[at+1+i%(4-at)]
			}
		}
		want := 0
		for at := range d.Sels {
			want += ways[at%5]
		}
		inTime(t, "each other", func() {
			got := impl.Collect(s, d, d.Sels, "T")
			if len(got) != 1 || len(got[0].Sels) != want*len(last[0].Sels) || got[0].Key != last[0].Key {
				t.Errorf("%d Groups, want one of %d Sels", len(got), want*len(last[0].Sels))
			}
		})
	}
}

// lines are so many Sels side by side, each of which has one in it, and so on, so deep; each is made from what it has, and how deep it stands.
func lines(count int, deep int, make func(at int, inner []impl.Sel) impl.Sel) []impl.Sel {
	return repeated(count, func(int) impl.Sel {
		var inner []impl.Sel
		for at := deep; at > 0; at-- {
			inner = sels(make(at, inner))
		}
		return inner[0]
	})
}

func TestWhatIs60SelsAnd6DeepIsCollectedInTime(t *testing.T) {
	s := asks(t, things)
	names := []string{"", "user", "self", "self", "self", "self", "id"}
	kinds := map[string]func(at int, inner []impl.Sel) impl.Sel{
		"fields": func(at int, inner []impl.Sel) impl.Sel { return field(names[at], inner...) },
		"ons": func(at int, inner []impl.Sel) impl.Sel {
			if at == 6 {
				return field("id")
			}
			// An on of SOLO has another on in it, and no field.
			return on([]string{"SOLO", "Q"}[at%2], inner...)
		},
	}
	for what, make := range kinds {
		all := lines(10, 6, make)
		d := doc(all)
		if countDoc(d) != impl.MaxSels || impl.Validate(s, d).Code != impl.OK {
			t.Fatalf("%s: %d Sels, Validate is %+v", what, countDoc(d), impl.Validate(s, d))
		}
		inTime(t, what, func() {
			if checkWanted(t, s, d) == 0 {
				t.Errorf("%s: nothing is wanted", what)
			}
		})
		d = doc(sels(spread("f")), frag("f", "Q", all[:9]...))
		inTime(t, what, func() {
			if checkWanted(t, s, d) == 0 {
				t.Errorf("%s, in a Frag: nothing is wanted", what)
			}
			checkGroups(t, what, s, d, all, "Q")
		})
	}
}

// Lists that share their memory come to more Sels than can be gone through; those that hold themselves have no end.
func TestListsThatShareAreCollectedInTime(t *testing.T) {
	s := asks(t, things)
	d := question(t, "{ ...f } fragment f on Q { id user { id } }")
	kinds := map[string]func(inner ...impl.Sel) impl.Sel{
		"fields": func(inner ...impl.Sel) impl.Sel { return field("in", inner...) },
		"ons":    func(inner ...impl.Sel) impl.Sel { return on("Q", inner...) },
		"others": func(inner ...impl.Sel) impl.Sel { return on("NO", inner...) },
		"spreads": func(inner ...impl.Sel) impl.Sel {
			return impl.Sel{Kind: impl.SlSpread, Name: "f", First: -1, Sels: inner}
		},
		"none": func(inner ...impl.Sel) impl.Sel { return impl.Sel{Kind: 9, Sels: inner} },
	}
	for what, make := range kinds {
		for _, count := range []int{1, 2, 3, 7, impl.MaxSels, impl.MaxList, impl.MaxList + 1} {
			ring := repeated(count, func(int) impl.Sel { return make() })
			for i := range ring {
				ring[i].Sels = ring
			}
			last := append(fields(1), ring[0])
			last[1].Sels = last
			list := fields(count)
			for range 61 {
				inner := list
				list = repeated(count, func(int) impl.Sel { return make(inner...) })
			}
			inTime(t, what, func() {
				checkNoGroups(t, what+", a ring", s, d, ring, "Q")
				checkNoGroups(t, what+", a ring at the end", s, d, last, "Q")
				checkNoGroups(t, what+", shared", s, d, list, "Q")
				checkNoGroups(t, what+", a ring as a question", s, doc(ring, d.Frags...), d.Sels, "Q")
				checkNoWants(t, what+", a ring", s, doc(ring, d.Frags...))
				checkNoWants(t, what+", shared", s, doc(list, d.Frags...))
			})
		}
	}
	// A few that share are as many as they come to.
	inner := fields(2)
	for range 4 {
		inner = sels(field("in", inner...), field("k", inner...))
	}
	if countSels(inner) != 62 {
		t.Fatalf("%d Sels", countSels(inner))
	}
	checkGroups(t, "62", s, d, inner, "Q")
	l := append(sels(inner[0], inner[1].Sels[0]), inner[1].Sels[0].Sels...)
	got := checkGroups(t, "60", s, d, l, "Q")
	if countSels(l) != impl.MaxSels || len(got) != 2 {
		t.Errorf("Collect of what shares is %q", groupWords(got))
	}
}

// groupLists are all lists of what is told, with the memory that stands behind their ends.
func groupLists(groups []impl.Group) [][]impl.Sel {
	var all [][]impl.Sel
	for _, g := range groups {
		all = append(all, lists(doc(g.Sels))...)
	}
	return all
}

// sharing asks for the same Frag, and the same list, in many places.
func sharing(t *testing.T) (impl.Doc, []impl.Sel) {
	d := question(t, "{ id ...f ...g user { self { id } } user { self { id } } } fragment f on Q { user { self { id name } ...h self { id } k:self { self { id } } } } fragment g on SOLO { ...f ...on Q { k:user { ...h id } ...f } } fragment h on USER { id }")
	inner := sels(field("x", field("y", field("z"), spread("f"))), on("USER", field("x")))
	l := append(slices.Clone(d.Sels), field("user", inner...), field("l", inner...), field("l", inner...), on("Q", field("user", inner...)), field("m"), impl.Sel{Kind: impl.SlField, Key: "n", Name: "n", Sels: []impl.Sel{}})
	return d, l
}

// What is told is overwritten here, list by list: no other one, nor what was handed in, nor what is told again, may show it.
func TestWhatIsCollectedSharesNothing(t *testing.T) {
	s := asks(t, things)
	d, l := sharing(t)
	whole, before := copiedDoc(d), copied(l)
	count := len(groupLists(checkGroups(t, "shared", s, d, l, "Q")))
	if count < 40 {
		t.Fatalf("only %d lists: too few to tell", count)
	}
	for at := range count {
		got := impl.Collect(s, d, l, "Q")
		want := impl.Collect(s, d, l, "Q")
		all := groupLists(got)
		for i := range all[at] {
			all[at][i].Kind = -7
		}
		for other, list := range all {
			for _, sel := range list {
				if other != at && sel.Kind == -7 {
					t.Errorf("lists %d and %d share memory", at, other)
				}
			}
		}
		if len(groupLists(want)) != count || slices.ContainsFunc(groupLists(want), func(list []impl.Sel) bool {
			return slices.ContainsFunc(list, func(sel impl.Sel) bool { return sel.Kind == -7 })
		}) {
			t.Errorf("list %d is shared with what was told another time", at)
		}
		for i := range all {
			clear(all[i])
		}
		clear(got[:cap(got)])
	}
	wants := impl.Wants(s, d)
	clear(wants[:cap(wants)])
	if !reflect.DeepEqual(whole, d) || !reflect.DeepEqual(before, l) {
		t.Errorf("%s came to be %s, with %s", docWords(doc(before, whole.Frags...)), docWords(doc(l, d.Frags...)), docWords(d))
	}
	checkGroups(t, "told again", s, d, l, "Q")
	checkWanted(t, s, d)
}

// A list of none may still have memory behind its end.
func TestEmptySelsThatAreCollectedShareNothing(t *testing.T) {
	s := asks(t, things)
	d := question(t, "{ id }")
	room := fields(5)
	l := sels(field("a", room[:0]...), field("b", field("c", room[:0]...), spread("d")), field("e", room[:2]...))
	l[1].Sels[1].Sels = room[1:1]
	for _, list := range groupLists(checkGroups(t, "empty", s, d, l, "Q")) {
		clear(list)
	}
	if !slices.EqualFunc(room, fields(5), sameSel) {
		t.Errorf("what stands behind the ends came to be %s", docWords(doc(room)))
	}
}

func TestWhatIsCollectedHoldsNothingOfWhatIsAsked(t *testing.T) {
	s := apart()
	d := question(t, "{ key ...f other(3) { ...g } } fragment f on ROOT { k:key other(3) { posts { l:key } } } fragment g on USER { m:key }")
	l := append(slices.Clone(d.Sels), field("abcdefgh", field("ijklmnop", on("QRSTUV", spread("wxyz")))))
	var handed, told []string
	add := func(to []string, list []impl.Sel) []string {
		for _, sel := range list {
			to = append(to, sel.Key, sel.Name)
		}
		return to
	}
	for _, of := range s.Types {
		handed = append(handed, typeTexts(of)...)
	}
	for _, f := range d.Frags {
		handed = append(handed, f.Name, f.On)
	}
	for _, list := range append(lists(d), lists(doc(l))...) {
		handed = add(handed, list)
	}
	got := checkGroups(t, "apart", s, d, l, "ROOT")
	for _, g := range got {
		told = append(told, g.Key, g.Name)
	}
	for _, list := range groupLists(got) {
		told = add(told, list)
	}
	told = append(told, impl.Wants(s, d)...)
	if len(told) < 20 {
		t.Fatalf("only %q: too few to tell", told)
	}
	for _, one := range told {
		for _, other := range handed {
			if within(one, other) {
				t.Errorf("%q is a part of what was handed in", one)
			}
		}
	}
}

func TestWhatIsCollectedIsNotChanged(t *testing.T) {
	d := dice(11)
	for i := range 300 {
		s := apart()
		a := asker{dice: &d, s: s, odd: []int{40, 100000}[i%2]}
		made, other := a.doc(), a.doc()
		made.Sels, other.Sels = behind(made.Sels), behind(other.Sels)
		for i := range made.Frags {
			made.Frags[i].Sels = behind(made.Frags[i].Sels)
		}
		for i := range other.Sels {
			other.Sels[i].Sels = behind(other.Sels[i].Sels)
		}
		all := func() [][]impl.Sel { return append(lists(made), lists(other)...) }
		before := copiedLists(all())
		types, whole := copiedSchema(s), copiedDoc(made)
		for _, of := range s.Types {
			impl.Collect(s, made, made.Sels, of.Name)
			impl.Collect(s, made, other.Sels, of.Name)
		}
		impl.Wants(s, made)
		if !reflect.DeepEqual(types, copiedSchema(s)) || !reflect.DeepEqual(whole, made) || !reflect.DeepEqual(before, all()) {
			t.Errorf("%s was changed, or what there is", docWords(whole))
		}
	}
}

func TestCollectTellsTheSameAgain(t *testing.T) {
	s := asks(t, things)
	d, l := sharing(t)
	groups, wants := impl.Collect(s, d, l, "Q"), impl.Wants(s, d)
	for range 20 {
		impl.Collect(s, question(t, "{ k:id } fragment f on USER { id }"), sels(spread("f"), field("a")), "USER")
		impl.Wants(s, question(t, "{ k:id k:nil }"))
		if again := impl.Collect(s, d, l, "Q"); !reflect.DeepEqual(groups, again) {
			t.Errorf("got %+v, then %+v", groups, again)
		}
		if again := impl.Wants(s, d); !slices.Equal(wants, again) {
			t.Errorf("got %q, then %q", wants, again)
		}
	}
}
