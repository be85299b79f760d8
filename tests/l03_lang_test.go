package tests

import (
	"fmt"
	"math"
	"reflect"
	"regexp"
	"slices"
	"strconv"
	"strings"
	"testing"
	"unsafe"

	"loop.example/g00836/impl"
)

func field(name string, sels ...impl.Sel) impl.Sel {
	return keyed(name, name, -1, sels...)
}

func keyed(key string, name string, first int64, sels ...impl.Sel) impl.Sel {
	return impl.Sel{Kind: impl.SlField, Key: key, Name: name, First: first, Sels: sels}
}

func on(name string, sels ...impl.Sel) impl.Sel {
	return impl.Sel{Kind: impl.SlOn, Name: name, First: -1, Sels: sels}
}

func spread(name string) impl.Sel {
	return impl.Sel{Kind: impl.SlSpread, Name: name, First: -1}
}

func frag(name string, of string, sels ...impl.Sel) impl.Frag {
	return impl.Frag{Name: name, On: of, Sels: sels}
}

func doc(sels []impl.Sel, frags ...impl.Frag) impl.Doc {
	return impl.Doc{Sels: sels, Frags: frags}
}

func sels(all ...impl.Sel) []impl.Sel {
	return all
}

// letters are so many words, no two alike.
func letters(count int) []string {
	var all []string
	for i := range count {
		all = append(all, "w"+string(rune('a'+i/26))+string(rune('a'+i%26)))
	}
	return all
}

// fields are so many fields side by side.
func fields(count int) []impl.Sel {
	var all []impl.Sel
	for _, word := range letters(count) {
		all = append(all, field(word))
	}
	return all
}

// frags are so many Frags of one field each.
func frags(count int) []impl.Frag {
	var all []impl.Frag
	for _, word := range letters(count) {
		all = append(all, frag(word, "USER", field("id")))
	}
	return all
}

// nested are Sels so deep, with what stands at the bottom as the last one's.
func nested(deep int, bottom impl.Sel) []impl.Sel {
	for range deep - 1 {
		bottom = field("in", bottom)
	}
	return sels(bottom)
}

// selWords says how a Sel is written, in the document's words, apart from the program.
func selWords(s impl.Sel) string {
	inner := ""
	for _, one := range s.Sels {
		inner += selWords(one) + " "
	}
	if inner != "" {
		inner = " { " + inner + "}"
	}
	switch s.Kind {
	case impl.SlOn:
		return "...on " + s.Name + inner
	case impl.SlSpread:
		return "..." + s.Name
	}
	key, first := "", ""
	if s.Key != s.Name {
		key = s.Key + ":"
	}
	if s.First != -1 {
		first = fmt.Sprintf("(%d)", s.First)
	}
	return key + s.Name + first + inner
}

func docWords(d impl.Doc) string {
	text := "{"
	for _, one := range d.Sels {
		text += " " + selWords(one)
	}
	text += " }"
	for _, f := range d.Frags {
		text += " fragment " + f.Name + " on " + f.On + " {"
		for _, one := range f.Sels {
			text += " " + selWords(one)
		}
		text += " }"
	}
	return text
}

func countSels(all []impl.Sel) int64 {
	count := int64(len(all))
	for _, one := range all {
		count += countSels(one.Sels)
	}
	return count
}

func countDoc(d impl.Doc) int64 {
	count := countSels(d.Sels)
	for _, f := range d.Frags {
		count += countSels(f.Sels)
	}
	return count
}

// sameSel compares every field: an empty list and none are the same.
func sameSel(a impl.Sel, b impl.Sel) bool {
	return a.Kind == b.Kind && a.Key == b.Key && a.Name == b.Name && a.First == b.First && slices.EqualFunc(a.Sels, b.Sels, sameSel)
}

func sameFrag(a impl.Frag, b impl.Frag) bool {
	return a.Name == b.Name && a.On == b.On && slices.EqualFunc(a.Sels, b.Sels, sameSel)
}

func sameDoc(a impl.Doc, b impl.Doc) bool {
	return slices.EqualFunc(a.Sels, b.Sels, sameSel) && slices.EqualFunc(a.Frags, b.Frags, sameFrag)
}

func checkRight(t *testing.T, what string, d impl.Doc) {
	t.Helper()
	want := docWords(d)
	if !impl.DocRight(d) {
		t.Errorf("%s: %.200s is not right", what, want)
	}
	if got := impl.CountOf(d); got != countDoc(d) {
		t.Errorf("%s: CountOf is %d, want %d", what, got, countDoc(d))
	}
	if got := impl.DocText(d); got != want {
		t.Errorf("%s: DocText is %q, want %q", what, got, want)
	}
	if got := impl.DocRead(want); got.Code != impl.OK || !sameDoc(got.Doc, d) {
		t.Errorf("%s: DocRead(%q) is %+v, want %+v", what, want, got, d)
	}
}

func checkWrong(t *testing.T, what string, d impl.Doc) {
	t.Helper()
	if impl.DocRight(d) || impl.CountOf(d) != 0 || impl.DocText(d) != "" {
		t.Errorf("%s: right %v, CountOf %d, DocText %.200q", what, impl.DocRight(d), impl.CountOf(d), impl.DocText(d))
	}
}

// checkUnread also looks whether all else is zero.
func checkUnread(t *testing.T, text string, code int64) {
	t.Helper()
	got := impl.DocRead(text)
	if got.Code != code || got.Doc.Sels != nil || got.Doc.Frags != nil {
		t.Errorf("DocRead(%.200q): got %+v, want code %d alone", text, got, code)
	}
}

func TestWords(t *testing.T) {
	cases := []struct {
		text       string
		word, kind bool
	}{
		{"", false, false}, {"a", true, false}, {"z", true, false}, {"A", false, true}, {"Z", false, true},
		{"abcdefgh", true, false}, {"ABCDEFGH", false, true}, {"abcdefghi", false, false}, {"ABCDEFGHI", false, false},
		{"mnopqrst", true, false}, {"uvwxyz", true, false}, {"MNOPQRST", false, true}, {"UVWXYZ", false, true},
		{"on", false, false}, {"ON", false, true}, {"fragment", false, false}, {"FRAGMENT", false, true},
		{"o", true, false}, {"n", true, false}, {"no", true, false}, {"onn", true, false}, {"oon", true, false}, {"ona", true, false},
		{"fragmen", true, false}, {"ragment", true, false}, {"fragmens", true, false}, {"fragments", false, false},
		{"aB", false, false}, {"Ab", false, false}, {"aZa", false, false}, {"AzA", false, false},
		{"a1", false, false}, {"A1", false, false}, {"a_", false, false}, {"A_", false, false}, {"1", false, false}, {"_", false, false},
		{" a", false, false}, {"a ", false, false}, {"A ", false, false}, {" ", false, false}, {"a\n", false, false}, {"a\x00", false, false},
		{"a:b", false, false}, {"a.b", false, false}, {"ä", false, false}, {"Ä", false, false}, {"\xff", false, false},
		{"`", false, false}, {"{", false, false}, {"@", false, false}, {"[", false, false}, {"{a", false, false}, {"a{", false, false},
		{strings.Repeat("a", impl.MaxBytes), false, false}, {strings.Repeat("A", impl.MaxBytes+1), false, false}, {strings.Repeat("a", impl.MaxBytes+1), false, false},
	}
	for _, c := range cases {
		if word, kind := impl.WordRight(c.text), impl.TypeWord(c.text); word != c.word || kind != c.kind {
			t.Errorf("%.20q: word %v, type word %v, want %v, %v", c.text, word, kind, c.word, c.kind)
		}
	}
	for b := range 256 {
		text := string([]byte{byte(b)})
		if word, kind := impl.WordRight(text), impl.TypeWord(text); word != (b >= 'a' && b <= 'z') || kind != (b >= 'A' && b <= 'Z') {
			t.Errorf("byte %d: word %v, type word %v", b, word, kind)
		}
		for at := range 8 {
			small, great := []byte("abcdefgh"), []byte("ABCDEFGH")
			small[at], great[at] = byte(b), byte(b)
			if word, kind := impl.WordRight(string(small)), impl.TypeWord(string(great)); word != (b >= 'a' && b <= 'z') || kind != (b >= 'A' && b <= 'Z') {
				t.Errorf("byte %d at %d: word %v, type word %v", b, at, word, kind)
			}
		}
	}
}

func TestDocTextOfNamedDocs(t *testing.T) {
	cases := []struct {
		d    impl.Doc
		want string
	}{
		{doc(sels(field("a"))), "{ a }"},
		{doc(sels(keyed("k", "a", -1))), "{ k:a }"},
		{doc(sels(keyed("k", "a", 0))), "{ k:a(0) }"},
		{doc(sels(keyed("a", "a", 9))), "{ a(9) }"},
		{doc(sels(keyed("a", "a", 100))), "{ a(100) }"},
		{doc(sels(field("a", field("b")))), "{ a { b } }"},
		{doc(sels(keyed("k", "a", 10, field("b"), field("c")))), "{ k:a(10) { b c } }"},
		{doc(sels(on("T", field("a")))), "{ ...on T { a } }"},
		{doc(sels(spread("f"))), "{ ...f }"},
		{doc(sels(spread("f"), field("b")), frag("f", "T", field("a"))), "{ ...f b } fragment f on T { a }"},
		{doc(sels(field("a")), frag("f", "T", field("a")), frag("g", "U", on("V", spread("f")))), "{ a } fragment f on T { a } fragment g on U { ...on V { ...f } }"},
		{doc(sels(keyed("abcdefgh", "ijklmnop", 100))), "{ abcdefgh:ijklmnop(100) }"},
	}
	for _, c := range cases {
		checkRight(t, c.want, c.d)
		if got := impl.DocText(c.d); got != c.want {
			t.Errorf("got %q, want %q", got, c.want)
		}
	}
}

func TestDocsComeBack(t *testing.T) {
	for _, first := range []int64{-1, 0, 1, 9, 10, 11, 19, 20, 90, 99, 100} {
		for _, key := range []string{"a", "b", "abcdefgh", "onn", "o"} {
			for _, inner := range [][]impl.Sel{nil, {}, fields(1), fields(3), sels(on("USER", spread("f"), keyed("x", "y", 7)))} {
				checkRight(t, "a field", doc(sels(keyed(key, "a", first, inner...), field("z"))))
				checkRight(t, "a field in a Frag", doc(sels(field("z")), frag("f", "T", keyed(key, "a", first, inner...))))
			}
		}
	}
	for deep := 1; deep <= impl.MaxDeep; deep++ {
		checkRight(t, "deep", doc(nested(deep, field("a"))))
		checkRight(t, "a deep spread", doc(nested(deep, spread("f"))))
		checkRight(t, "deep in a Frag", doc(fields(1), frag("f", "T", nested(deep, spread("g"))...), frag("g", "T", nested(deep, field("a"))...)))
	}
	checkRight(t, "ons as deep as may be", doc(sels(on("A", on("B", on("C", on("D", on("E", field("a")))))))))
	checkRight(t, "a spread of none of Frags", doc(sels(spread("nothing"))))
	checkRight(t, "the same field again", doc(sels(field("a"), field("a"), keyed("a", "b", 3))))
	checkRight(t, "a spread in its own Frag", doc(sels(spread("f")), frag("f", "T", spread("f"))))
	checkRight(t, "a Frag named as a field", doc(sels(field("f")), frag("f", "F", field("f"))))
	checkRight(t, "empty lists", impl.Doc{Sels: []impl.Sel{keyed("k", "a", 1, []impl.Sel{}...)}, Frags: []impl.Frag{}})
}

func TestDocsComeBackAtTheLimits(t *testing.T) {
	for count := impl.MaxSels - 2; count <= impl.MaxSels; count++ {
		checkRight(t, "side by side", doc(fields(count)))
		checkRight(t, "within", doc(sels(field("a", fields(count-1)...))))
		checkRight(t, "in a Frag", doc(fields(1), frag("f", "T", fields(count-1)...)))
		checkRight(t, "in Frags", doc(fields(10), frag("f", "T", fields(count-20)...), frag("g", "T", on("T", fields(9)...))))
	}
	for count := range impl.MaxFrags + 1 {
		checkRight(t, "Frags", doc(fields(1), frags(count)...))
	}
	longest := impl.Doc{}
	for range 20 {
		longest.Sels = append(longest.Sels, keyed("abcdefgh", "ijklmnop", 100, on("ABCDEFGH", keyed("abcdefgh", "qrstuvwx", 100))))
	}
	checkRight(t, "long", longest)
}

func TestDocNotRightAtTheLimits(t *testing.T) {
	more := impl.MaxSels + 1
	cases := map[string]impl.Doc{
		"one deeper":                 doc(nested(impl.MaxDeep+1, field("a"))),
		"one deeper in a Frag":       doc(fields(1), frag("f", "T", nested(impl.MaxDeep+1, field("a"))...)),
		"ons one deeper":             doc(sels(on("A", on("B", on("C", on("D", on("E", on("F", field("a"))))))))),
		"much deeper":                doc(nested(1000, field("a"))),
		"one deeper behind others":   doc(append(fields(3), nested(impl.MaxDeep+1, spread("f"))...)),
		"one more":                   doc(fields(more)),
		"one more within":            doc(sels(field("a", fields(more-1)...))),
		"one more in a Frag":         doc(fields(1), frag("f", "T", fields(more-1)...)),
		"all in a Frag":              doc(fields(1), frag("f", "T", fields(more)...)),
		"one more in Frags":          doc(fields(1), frag("f", "T", fields(30)...), frag("g", "T", fields(more-31)...)),
		"one more in two halves":     doc(sels(field("a", fields(29)...), field("b", fields(more-31)...))),
		"more than MaxList":          doc(fields(impl.MaxList + 1)),
		"more than MaxList within":   doc(sels(field("a", fields(impl.MaxList+1)...))),
		"more than MaxList in an on": doc(sels(on("A", fields(impl.MaxList+1)...))),
		"more than MaxList, a Frag":  doc(fields(1), frag("f", "T", fields(impl.MaxList+1)...)),
		"one Frag more":              doc(fields(1), frags(impl.MaxFrags+1)...),
		"more Frags than MaxList":    doc(fields(1), frags(impl.MaxList+1)...),
	}
	for what, d := range cases {
		checkWrong(t, what, d)
		checkUnread(t, docWords(d), syntaxOrSize(docWords(d)))
	}
}

func syntaxOrSize(text string) int64 {
	if len(text) > impl.MaxBytes {
		return impl.ErrSize
	}
	return impl.ErrSyntax
}

// wrongSels are not right, each in one way.
func wrongSels() map[string]impl.Sel {
	id := field("id")
	return map[string]impl.Sel{
		"the zero Sel":         {},
		"Kind 0":               {Kind: 0, Key: "a", Name: "a", First: -1},
		"Kind 4":               {Kind: 4, Key: "a", Name: "a", First: -1},
		"Kind -1":              {Kind: -1, Key: "a", Name: "a", First: -1},
		"the greatest Kind":    {Kind: math.MaxInt64, Key: "a", Name: "a", First: -1},
		"a Kind of 33 bits":    {Kind: 1<<32 + 1, Key: "a", Name: "a", First: -1},
		"no Key":               {Kind: impl.SlField, Name: "a", First: -1},
		"no Name":              {Kind: impl.SlField, Key: "a", First: -1},
		"no word":              field(""),
		"a long Key":           keyed("abcdefghi", "a", -1),
		"a long Name":          keyed("a", "abcdefghi", -1),
		"a Key with a blank":   keyed("a b", "a", -1),
		"a Name with a blank":  keyed("a", "a b", -1),
		"a Name with Sels":     keyed("a", "a { b }", -1),
		"a Name with a colon":  keyed("a", "b:c", -1),
		"a Key with a colon":   keyed("a:b", "c", -1),
		"a Name with a number": field("a(3)"),
		"on as a Key":          keyed("on", "a", -1),
		"on as a Name":         keyed("a", "on", -1),
		"fragment as a Key":    keyed("fragment", "a", -1),
		"fragment as a Name":   keyed("a", "fragment", -1),
		"a type word as Name":  keyed("a", "A", -1),
		"a type word as Key":   keyed("A", "a", -1),
		"First -2":             keyed("a", "a", -2),
		"First 101":            keyed("a", "a", 101),
		"the least First":      keyed("a", "a", math.MinInt64),
		"the greatest First":   keyed("a", "a", math.MaxInt64),
		"wrong within a field": field("a", id, field("on")),
		"wrong first within":   field("a", field("on"), id),
		"an on of none":        on("T"),
		"an on of a word":      on("t", id),
		"an on of nothing":     on("", id),
		"an on of 9 bytes":     on("ABCDEFGHI", id),
		"an on with a Key":     {Kind: impl.SlOn, Key: "a", Name: "T", First: -1, Sels: sels(id)},
		"an on with First 0":   {Kind: impl.SlOn, Name: "T", First: 0, Sels: sels(id)},
		"an on with First 5":   {Kind: impl.SlOn, Name: "T", First: 5, Sels: sels(id)},
		"wrong within an on":   on("T", id, field("on")),
		"a spread of nothing":  spread(""),
		"a spread of on":       spread("on"),
		"a spread of fragment": spread("fragment"),
		"a spread of a type":   spread("T"),
		"a spread of 9 bytes":  spread("abcdefghi"),
		"a spread with a Key":  {Kind: impl.SlSpread, Key: "a", Name: "f", First: -1},
		"a spread, First 0":    {Kind: impl.SlSpread, Name: "f", First: 0},
		"a spread, First 1":    {Kind: impl.SlSpread, Name: "f", First: 1},
		"a spread with Sels":   {Kind: impl.SlSpread, Name: "f", First: -1, Sels: sels(id)},
	}
}

func TestDocNotRightInEachWay(t *testing.T) {
	for what, wrong := range wrongSels() {
		checkWrong(t, what, doc(sels(wrong)))
		checkWrong(t, what+" behind one", doc(sels(field("a"), wrong)))
		checkWrong(t, what+" ahead of one", doc(sels(wrong, field("a"))))
		checkWrong(t, what+" in a field", doc(sels(field("a", wrong))))
		checkWrong(t, what+" in an on", doc(sels(on("T", wrong))))
		checkWrong(t, what+" in a Frag", doc(sels(field("a")), frag("f", "T", wrong)))
		checkWrong(t, what+" in the last Frag", doc(sels(field("a")), frag("f", "T", field("a")), frag("g", "T", wrong)))
		checkWrong(t, what+" in the first Frag", doc(sels(field("a")), frag("f", "T", wrong), frag("g", "T", field("a"))))
	}
	id := field("id")
	cases := map[string]impl.Doc{
		"the zero Doc":            {},
		"no Sels":                 {Sels: []impl.Sel{}, Frags: frags(1)},
		"a Frag of none":          doc(sels(id), frag("f", "T")),
		"the last Frag of none":   doc(sels(id), frag("f", "T", id), frag("g", "T")),
		"a Frag of no Name":       doc(sels(id), frag("", "T", id)),
		"a Frag named on":         doc(sels(id), frag("on", "T", id)),
		"a Frag named fragment":   doc(sels(id), frag("fragment", "T", id)),
		"a Frag named as a type":  doc(sels(id), frag("F", "T", id)),
		"a Frag of a long Name":   doc(sels(id), frag("abcdefghi", "T", id)),
		"a Frag of no On":         doc(sels(id), frag("f", "", id)),
		"a Frag on a word":        doc(sels(id), frag("f", "t", id)),
		"a Frag on a long word":   doc(sels(id), frag("f", "ABCDEFGHI", id)),
		"two of one Name":         doc(sels(id), frag("f", "T", id), frag("f", "U", id)),
		"two the same":            doc(sels(id), frag("f", "T", id), frag("f", "T", id)),
		"two of one Name, apart":  doc(sels(id), frag("f", "T", id), frag("g", "T", id), frag("f", "T", id)),
		"the last two":            doc(sels(id), frag("f", "T", id), frag("g", "T", id), frag("g", "T", id)),
		"five, the ends the same": doc(sels(id), frag("a", "T", id), frag("b", "T", id), frag("c", "T", id), frag("d", "T", id), frag("a", "T", id)),
	}
	for what, d := range cases {
		checkWrong(t, what, d)
		if what != "no Sels" && what != "the zero Doc" {
			checkUnread(t, docWords(d), impl.ErrSyntax)
		}
	}
}

// Of a few lists that share their Sels there are more Sels than can be gone through one by one.
func TestDocOfListsThatShare(t *testing.T) {
	for _, count := range []int{2, 3, impl.MaxSels, impl.MaxList + 1} {
		list := fields(count)
		for range impl.MaxDeep - 1 {
			inner := list
			list = fields(count)
			for i := range list {
				list[i].Sels = inner
			}
		}
		checkWrong(t, fmt.Sprint(count), doc(list))
		checkWrong(t, fmt.Sprint(count), doc(fields(1), frag("f", "T", list...)))
	}
	inner := fields(5)
	checkRight(t, "shared", doc(sels(field("a", inner...), on("T", inner...), field("b", inner...)), frag("f", "T", inner...)))
}

// A list that holds itself has no end; it is told all the same that it is not right.
func TestDocOfListsThatHoldThemselves(t *testing.T) {
	for _, count := range []int{1, 2, 7, impl.MaxSels, impl.MaxList + 1} {
		list := fields(count)
		for i := range list {
			list[i].Sels = list
		}
		checkWrong(t, fmt.Sprint(count), doc(list))
		checkWrong(t, fmt.Sprint(count), doc(fields(1), frag("f", "T", list...)))
	}
}

func TestDocReadSyntax(t *testing.T) {
	texts := []string{
		"", " ", "{", "}", "{ }", "{}", "{  }", "{ a", "a }", "a", "{ a } }", "{ { a } }", "{ a } { b }", "{a}", "{ a}", "{a }", "[ a ]", "( a )",
		" { a }", "{ a } ", "{  a }", "{ a  }", "{ a  b }", "{\ta }", "{ a\n}", "{ a }\n", "{ a\x00 }", "\xef\xbb\xbf{ a }",
		"{ a { } }", "{ a { b }", "{ a { b } } }", "{ a { { b } } }", "{ a { b } { c } }", "{ a b } }", "{ a } a", "{ a } ...f", "{ a } }{",
		"{ a {b} }", "{ a{ b } }", "{ a  { b } }", "{ a { b }  }", "{ a { b }} ", "{ a { b } c", "{ a { b { c } }",
		"{ a(03) }", "{ a(00) }", "{ a(0100) }", "{ a(010) }", "{ a(101) }", "{ a(110) }", "{ a(200) }", "{ a(999) }", "{ a(1000) }",
		"{ a(-1) }", "{ a(-0) }", "{ a(-2) }", "{ a(+1) }", "{ a() }", "{ a( }", "{ a(3 }", "{ a3) }", "{ a) }", "{ a(3)) }", "{ a((3) }", "{ a(3)(4) }",
		"{ a(3)b }", "{ a( 3 ) }", "{ a (3) }", "{ a( 3) }", "{ a(3 ) }", "{ a(x) }", "{ a(1x) }", "{ a(0x1) }", "{ a(1_0) }", "{ a(1.0) }", "{ a(1e1) }", "{ a(3,4) }",
		"{ a(9223372036854775807) }", "{ a(9223372036854775808) }", "{ a(-9223372036854775808) }", "{ a(18446744073709551617) }", "{ a(99999999999999999999) }", "{ a(4294967299) }",
		"{ (3) }", "{ k:(3) }", "{ a(3):b }", "{ 3 }", "{ a3 }", "{ a(3):b(3) }",
		"{ a:a }", "{ a:a(3) }", "{ a:a { b } }", "{ a: }", "{ :a }", "{ : }", "{ a:b:c }", "{ a::b }", "{ a :b }", "{ a: b }", "{ a : b }", "{ k:K }", "{ K:k }",
		"{ abcdefghi }", "{ abcdefghi:a }", "{ a:abcdefghi }", "{ A }", "{ aB }", "{ a_b }", "{ a.b }", "{ a-b }", "{ ä }", "{ a, b }", "{ \"a\" }", "{ a;b }",
		"{ on }", "{ fragment }", "{ on:a }", "{ a:on }", "{ fragment:a }", "{ a:fragment }", "{ on(3) }", "{ a } fragment", "{ fragment f on T { a } }",
		"{ ... }", "{ ... f }", "{ ....f }", "{ ..f }", "{ .f }", "{ ...F }", "{ ...f.g }", "{ ...abcdefghi }", "{ ...fragment }", "{ ...f(3) }", "{ ...k:f }", "{ ...f { a } }", "{ ...f { } }",
		"{ ...on }", "{ ...on { a } }", "{ ...on T }", "{ ...on T { } }", "{ ...on T { a }", "{ ...on T a }", "{ ...on t { a } }", "{ ... on T { a } }", "{ ...onT { a } }", "{ ...on  T { a } }", "{ ...on T(3) { a } }",
		"{ ...on ABCDEFGHI { a } }", "{ ...on T1 { a } }", "{ ...on T", "{ ...on", "{ ...on T {", "{ ...on T { a", "{ k:...on T { a } }", "{ ...ON T { a } }", "{ on T { a } }",
		"{ a } fragment f on T", "{ a } fragment f on T { }", "{ a } fragment f on T { a", "{ a } fragment f on T { a } }", "{ a } fragment f on { a }", "{ a } fragment f T { a }", "{ a } fragment on T { a }",
		"{ a } fragment F on T { a }", "{ a } fragment f on t { a }", "{ a } fragment f ON T { a }", "{ a } Fragment f on T { a }", "{ a } fragments f on T { a }", "{ a } f on T { a }", "{ a } fragment f on T a",
		"{ a } fragment on on T { a }", "{ a } fragment fragment on T { a }", "{ a } fragment abcdefghi on T { a }", "{ a } fragment f on ABCDEFGHI { a }",
		"fragment f on T { a }", "fragment f on T { a } { a }", "{ a } fragment f on T { a } fragment f on T { a }", "{ a } fragment f on T { a } fragment f on U { b }", "{ a }fragment f on T { a }",
		"{ a }  fragment f on T { a }", "{ a } fragment f on T { a } ", "{ a } fragment  f on T { a }", "{ a } fragment f on T { a } x", "{ a } fragment", "{ a } fragment f", "{ a } fragment f on",
		"{ a } fragment f on T { a } fragment", "{ a } fragment f on T { a } fragment g", "query { a }", "# { a }",
		strings.Repeat("{", impl.MaxBytes), strings.Repeat(" ", impl.MaxBytes), strings.Repeat("a", impl.MaxBytes), strings.Repeat("{ ", impl.MaxBytes/2), strings.Repeat("\xff", impl.MaxBytes),
		strings.Repeat("{ a ", impl.MaxBytes/4), "{ " + strings.Repeat("a ", impl.MaxBytes/2-2) + "}", "{ " + strings.Repeat("a", impl.MaxBytes-4) + " }",
	}
	for _, text := range texts {
		checkUnread(t, text, impl.ErrSyntax)
	}
}

func TestDocReadSize(t *testing.T) {
	for _, text := range []string{
		strings.Repeat(" ", impl.MaxBytes+1), "{ a }" + strings.Repeat(" ", impl.MaxBytes), strings.Repeat("{ ", impl.MaxBytes),
		"{ " + strings.Repeat("a", impl.MaxBytes-3) + " }", "{ a " + strings.Repeat("a ", impl.MaxBytes) + "}",
	} {
		checkUnread(t, text, impl.ErrSize)
	}
}

// dice is a row of numbers that is the same in each run.
type dice uint64

func (d *dice) below(n int) int {
	*d = *d*6364136223846793005 + 1442695040888963407
	return int(uint64(*d) >> 33 % uint64(n))
}

func (d *dice) pick(all ...string) string {
	return all[d.below(len(all))]
}

func (d *dice) word() string {
	return d.pick("a", "b", "id", "name", "abcdefgh", "onn", "fragmen", "zzz", "f", "g")
}

func (d *dice) kind() string {
	return d.pick("T", "USER", "ABCDEFGH", "ON", "Z")
}

func (d *dice) sels(deep int, room *int) []impl.Sel {
	var all []impl.Sel
	for range 1 + d.below(4) {
		if *room <= 1 && len(all) > 0 {
			return all
		}
		*room--
		switch what := d.below(6); {
		case what == 0:
			all = append(all, spread(d.word()))
		case what == 1 && deep < impl.MaxDeep && *room > 6:
			all = append(all, on(d.kind(), d.sels(deep+1, room)...))
		case what < 4 && deep < impl.MaxDeep && *room > 6:
			all = append(all, keyed(d.word(), d.word(), int64(d.below(102)-1), d.sels(deep+1, room)...))
		default:
			all = append(all, keyed(d.word(), d.word(), int64(d.below(102)-1)))
		}
	}
	return all
}

func (d *dice) doc() impl.Doc {
	room := 20 + d.below(20)
	made := impl.Doc{Sels: d.sels(1, &room)}
	names := letters(impl.MaxFrags)
	for i := range d.below(impl.MaxFrags + 1) {
		room = 3
		made.Frags = append(made.Frags, frag(names[(i*3+1)%impl.MaxFrags], d.kind(), d.sels(d.below(impl.MaxDeep)+1, &room)...))
	}
	return made
}

func TestThrownDocsComeBack(t *testing.T) {
	d := dice(1)
	for i := range 3000 {
		made := d.doc()
		if countDoc(made) > impl.MaxSels {
			checkWrong(t, fmt.Sprint("thrown ", i), made)
			continue
		}
		checkRight(t, fmt.Sprint("thrown ", i), made)
	}
}

// turned are texts that differ from this one by a byte less, or by one of these more, or in place of another one.
func turned(text string, by string) []string {
	var all []string
	for at := range len(text) {
		all = append(all, text[:at]+text[at+1:], text[:at], text[at:])
		for _, b := range by {
			all = append(all, text[:at]+string(b)+text[at:], text[:at]+string(b)+text[at+1:])
		}
	}
	return all
}

var (
	fragHead  = regexp.MustCompile(` fragment ([a-z]{1,8}) on ([A-Z]{1,8}) \{`)
	onHead    = regexp.MustCompile(` \.\.\.on ([A-Z]{1,8}) \{`)
	anyWord   = regexp.MustCompile(`[a-z]+`)
	twoWords  = regexp.MustCompile(`([a-z]+):([a-z]+)`)
	fragName  = regexp.MustCompile(`%([a-z]+)`)
	innermost = regexp.MustCompile(`(^| )\{( (@[A-Z]+ #|\.\.\.[a-z]{1,8}|([a-z]{1,8}:)?[a-z]{1,8}(\((0|[1-9][0-9]?|100)\))?( #)?))+ \}`)
	reduced   = regexp.MustCompile(`^#( %[a-z]{1,8} [A-Z]{1,8} #)*$`)
)

// mayBeText tells by patterns, apart from the program, whether this is the text of a right Doc (of few Sels).
// Heads are replaced by signs of their own, and then the innermost brackets by another one, as often as they may be deep.
func mayBeText(text string) bool {
	if strings.ContainsAny(text, "#%@") {
		return false
	}
	text = fragHead.ReplaceAllString(text, " %$1 $2 {")
	text = onHead.ReplaceAllString(text, " @$1 {")
	for _, word := range anyWord.FindAllString(text, -1) {
		if word == "on" || word == "fragment" {
			return false
		}
	}
	for _, two := range twoWords.FindAllStringSubmatch(text, -1) {
		if two[1] == two[2] {
			return false
		}
	}
	names := map[string]bool{}
	for _, name := range fragName.FindAllString(text, -1) {
		if names[name] || len(names) == impl.MaxFrags {
			return false
		}
		names[name] = true
	}
	for range impl.MaxDeep {
		text = innermost.ReplaceAllString(text, "$1#")
	}
	return reduced.MatchString(text)
}

func TestWhatIsReadIsTheTextOfWhatItReads(t *testing.T) {
	d := dice(2)
	texts := []string{
		"{ a:b(10) { c } ...on T { a(9) ...f } } fragment f on USER { on:x } fragment g on T { a }",
		"{ a:b(10) { c } ...on T { a(9) ...f } } fragment f on USER { x } fragment g on T { a }",
		"{ a { b { c { d { e { f } } } } } } fragment f on T { a { b { c { d { e { f g } } } } } }",
	}
	for len(texts) < 12 {
		if text := docWords(d.doc()); len(text) < 200 {
			texts = append(texts, text)
		}
	}
	read := 0
	for _, text := range texts {
		for _, other := range turned(text, " {}().:aonAZ019\n") {
			got := impl.DocRead(other)
			if mayBeText(other) != (got.Code == impl.OK) {
				t.Errorf("DocRead(%q) is %+v", other, got)
			}
			if got.Code != impl.OK {
				checkUnread(t, other, impl.ErrSyntax)
				continue
			}
			read++
			if !impl.DocRight(got.Doc) || impl.DocText(got.Doc) != other || docWords(got.Doc) != other {
				t.Errorf("DocRead(%q) is %+v, whose text is %q", other, got.Doc, impl.DocText(got.Doc))
			}
		}
	}
	if read < 1000 {
		t.Errorf("only %d turned texts were read: too few to tell", read)
	}
}

// copied shares no memory, and keeps which lists are nil.
func copied(all []impl.Sel) []impl.Sel {
	other := slices.Clone(all)
	for i := range other {
		other[i].Sels = copied(other[i].Sels)
	}
	return other
}

// behind are the same Sels, with something behind their end too: nothing may be put there.
func behind(all []impl.Sel) []impl.Sel {
	return append(all, spread("behind"), spread("behind"))[:len(all)]
}

func copiedDoc(d impl.Doc) impl.Doc {
	other := impl.Doc{Sels: copied(d.Sels), Frags: slices.Clone(d.Frags)}
	for i := range other.Frags {
		other.Frags[i].Sels = copied(other.Frags[i].Sels)
	}
	return other
}

// innerLists are all lists of Sels, within others too.
func innerLists(d impl.Doc) [][]impl.Sel {
	var all [][]impl.Sel
	var add func(one []impl.Sel)
	add = func(one []impl.Sel) {
		all = append(all, one)
		for _, s := range one {
			add(s.Sels)
		}
	}
	add(d.Sels)
	for _, f := range d.Frags {
		add(f.Sels)
	}
	return all
}

// lists are these, with the memory that stands behind their ends.
func lists(d impl.Doc) [][]impl.Sel {
	all := innerLists(d)
	for at, one := range all {
		all[at] = one[:cap(one)]
	}
	return all
}

// copiedLists share no memory with these.
func copiedLists(all [][]impl.Sel) [][]impl.Sel {
	other := slices.Clone(all)
	for i := range other {
		other[i] = copied(other[i])
	}
	return other
}

func TestDocReadListsShareNothing(t *testing.T) {
	text := "{ a { b c { d } } e { f } g ...on T { h { i j } } } fragment k on T { l { m } n } fragment o on U { p }"
	for at := range lists(impl.DocRead(text).Doc) {
		all := lists(impl.DocRead(text).Doc)
		for i := range all[at] {
			all[at][i].Kind = -7
		}
		for other := range all {
			for _, s := range all[other] {
				if other != at && s.Kind == -7 {
					t.Errorf("lists %d and %d share memory", at, other)
				}
			}
		}
	}
	if got := impl.DocText(impl.DocRead(text).Doc); got != text {
		t.Errorf("what is read came to be %q", got)
	}
}

// within tells whether the memory of one text is a part of the other's.
func within(part string, whole string) bool {
	at, start := uintptr(unsafe.Pointer(unsafe.StringData(part))), uintptr(unsafe.Pointer(unsafe.StringData(whole)))
	return len(part) > 0 && at >= start && at < start+uintptr(len(whole))
}

func TestDocReadHoldsNothingOfItsText(t *testing.T) {
	text := strings.Clone("{ key:name(3) { a } ...on T { ...f } } fragment f on USER { b }")
	d := impl.DocRead(text).Doc
	texts := []string{d.Frags[0].Name, d.Frags[0].On}
	for _, list := range lists(d) {
		for _, s := range list {
			texts = append(texts, s.Key, s.Name)
		}
	}
	for _, one := range texts {
		if within(one, text) {
			t.Errorf("%q is a part of what was handed in", one)
		}
	}
}

func TestDocsHandedInAreNotChanged(t *testing.T) {
	d := dice(3)
	for i := range 200 {
		made := d.doc()
		if i%2 == 1 {
			made.Sels[0].Name = "on"
		}
		made.Sels = behind(made.Sels)
		before, all := copiedDoc(made), copied(made.Sels[:cap(made.Sels)])
		impl.DocRight(made)
		impl.CountOf(made)
		impl.DocText(made)
		if !reflect.DeepEqual(before, made) || !reflect.DeepEqual(all, made.Sels[:cap(made.Sels)]) {
			t.Errorf("%s was changed", docWords(before))
		}
	}
}

func TestDocReadTellsTheSameAgain(t *testing.T) {
	text := "{ a:b(3) { c } ...f } fragment f on T { a }"
	first := impl.DocRead(text)
	impl.DocRead("{ a } }")
	for range 5 {
		if again := impl.DocRead(text); !reflect.DeepEqual(first, again) {
			t.Errorf("got %+v, then %+v", first, again)
		}
	}
}

func TestFirstOfEachNumber(t *testing.T) {
	for n := -300; n <= 1100; n++ {
		text := "{ a(" + strconv.Itoa(n) + ") }"
		if n < 0 || n > 100 {
			checkUnread(t, text, impl.ErrSyntax)
			continue
		}
		checkRight(t, text, doc(sels(keyed("a", "a", int64(n)))))
	}
}
