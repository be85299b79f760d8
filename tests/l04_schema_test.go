package tests

import (
	"fmt"
	"math"
	"reflect"
	"regexp"
	"slices"
	"strings"
	"testing"

	"loop.example/g00836/impl"
)

func leafType(name string, bytes int64) impl.Type {
	return impl.Type{Name: name, Kind: impl.KdLeaf, Bytes: bytes}
}

func objType(name string, all ...impl.Field) impl.Type {
	return impl.Type{Name: name, Kind: impl.KdObj, Fields: all}
}

func oneType(name string, all ...string) impl.Type {
	return impl.Type{Name: name, Kind: impl.KdOne, Members: all}
}

func plain(name string, of string) impl.Field {
	return impl.Field{Name: name, Type: of}
}

func sized(name string, of string, size int64) impl.Field {
	return impl.Field{Name: name, Type: of, List: true, Size: size}
}

func capped(name string, of string, most int64) impl.Field {
	return impl.Field{Name: name, Type: of, List: true, Cap: most}
}

func must(f impl.Field) impl.Field {
	f.Must = true
	return f
}

func schema(all ...impl.Type) impl.Schema {
	return impl.Schema{Types: all}
}

// typeNames are so many type words, no two alike.
func typeNames(count int) []string {
	var all []string
	for _, word := range letters(count) {
		all = append(all, strings.ToUpper(word))
	}
	return all
}

// plainFields are so many fields of that type.
func plainFields(count int, of string) []impl.Field {
	var all []impl.Field
	for _, word := range letters(count) {
		all = append(all, plain(word, of))
	}
	return all
}

// objTypes are so many, each with a field of the first.
func objTypes(count int) []impl.Type {
	var all []impl.Type
	for _, name := range typeNames(count) {
		all = append(all, objType(name, plain("id", "WAA")))
	}
	return all
}

// fieldWords says how a field is written, in the document's words, apart from the program.
func fieldWords(f impl.Field) string {
	list, end := "", ""
	if f.List {
		list = fmt.Sprintf("[%d]", f.Size)
	}
	if f.List && f.Cap != 0 {
		list = fmt.Sprintf("[<%d]", f.Cap)
	}
	if f.Must {
		end = "!"
	}
	return fmt.Sprintf("%s:%s%s%s", f.Name, f.Type, list, end)
}

func typeWords(t impl.Type) string {
	switch t.Kind {
	case impl.KdLeaf:
		return fmt.Sprintf("leaf %s %d", t.Name, t.Bytes)
	case impl.KdObj:
		text := "obj " + t.Name
		for _, f := range t.Fields {
			text += " " + fieldWords(f)
		}
		return text
	case impl.KdOne:
		return strings.Join(slices.Concat([]string{"one", t.Name}, t.Members), " ")
	}
	return "none " + t.Name
}

func schemaWords(s impl.Schema) string {
	text := ""
	for _, t := range s.Types {
		text += typeWords(t) + "\n"
	}
	return text
}

// sameType compares every field: an empty list and none are the same.
func sameType(a impl.Type, b impl.Type) bool {
	return a.Name == b.Name && a.Kind == b.Kind && a.Bytes == b.Bytes && slices.Equal(a.Fields, b.Fields) && slices.Equal(a.Members, b.Members)
}

func sameSchema(a impl.Schema, b impl.Schema) bool {
	return slices.EqualFunc(a.Types, b.Types, sameType)
}

// firstType is looked for one by one, apart from the program.
func firstType(s impl.Schema, name string) impl.Type {
	for _, t := range s.Types {
		if t.Name == name {
			return t
		}
	}
	return impl.Type{}
}

func firstField(t impl.Type, name string) impl.Field {
	for _, f := range t.Fields {
		if f.Name == name {
			return f
		}
	}
	return impl.Field{}
}

// asked are names that there are, and some that there are not.
func asked(s impl.Schema) []string {
	long := strings.Repeat("A", impl.MaxBytes+1)
	all := []string{"", "a", "zz", "A", "ZZ", "on", "NONE", "abcdefghi", " ", "\x00", long[1:], long, strings.ToLower(long)}
	for _, t := range s.Types {
		all = append(all, t.Name, strings.ToLower(t.Name), t.Name+" ")
		all = append(all, t.Members...)
		for _, f := range t.Fields {
			all = append(all, f.Name, f.Type, strings.ToUpper(f.Name))
		}
	}
	slices.Sort(all)
	return slices.Compact(all)
}

// checkAsked looks at what is told of each name. What something may be is told in promise 5: objects that there are.
func checkAsked(t *testing.T, what string, s impl.Schema) {
	t.Helper()
	names := asked(s)
	for _, name := range names {
		of := firstType(s, name)
		if got := impl.TypeOf(s, name); !sameType(got, of) {
			t.Errorf("%s: TypeOf(%.20q) is %+v, want %+v", what, name, got, of)
		}
		want := of.Members
		if of.Kind == impl.KdObj {
			want = []string{name}
		}
		got := impl.MembersOf(s, name)
		if !slices.Equal(got, want) {
			t.Errorf("%s: MembersOf(%.20q) is %q, want %q", what, name, got, want)
		}
		for _, member := range got {
			if impl.TypeOf(s, member).Kind != impl.KdObj {
				t.Errorf("%s: MembersOf(%.20q): %q is no object that there is", what, name, member)
			}
		}
		for _, inner := range names {
			if got := impl.FieldOf(s, name, inner); got != firstField(of, inner) {
				t.Errorf("%s: FieldOf(%.20q, %.20q) is %+v, want %+v", what, name, inner, got, firstField(of, inner))
			}
		}
	}
}

func checkThere(t *testing.T, what string, s impl.Schema) {
	t.Helper()
	want := schemaWords(s)
	if !impl.SchemaRight(s) {
		t.Errorf("%s: %q is not right", what, want)
	}
	if got := impl.SchemaText(s); got != want {
		t.Errorf("%s: SchemaText is %q, want %q", what, got, want)
	}
	if got := impl.SchemaRead(want); got.Code != impl.OK || !sameSchema(got.Schema, s) {
		t.Errorf("%s: SchemaRead(%q) is %+v, want %+v", what, want, got, s)
	}
	checkAsked(t, what, s)
}

// checkNotThere looks whether all that is told of what is not right is zero.
func checkNotThere(t *testing.T, what string, s impl.Schema) {
	t.Helper()
	if impl.SchemaRight(s) || impl.SchemaText(s) != "" {
		t.Errorf("%s: right %v, SchemaText %.200q", what, impl.SchemaRight(s), impl.SchemaText(s))
	}
	for _, name := range asked(schema(s.Types[:min(len(s.Types), 14)]...)) {
		if got := impl.TypeOf(s, name); !sameType(got, impl.Type{}) {
			t.Errorf("%s: TypeOf(%.20q) is %+v", what, name, got)
		}
		if got := impl.MembersOf(s, name); len(got) != 0 {
			t.Errorf("%s: MembersOf(%.20q) is %q", what, name, got)
		}
		for _, f := range firstType(s, name).Fields {
			if got := impl.FieldOf(s, name, f.Name); got != (impl.Field{}) {
				t.Errorf("%s: FieldOf(%.20q, %.20q) is %+v", what, name, f.Name, got)
			}
		}
	}
}

// checkNoSchema also looks whether all else is zero.
func checkNoSchema(t *testing.T, text string, code int64) {
	t.Helper()
	got := impl.SchemaRead(text)
	if got.Code != code || got.Schema.Types != nil {
		t.Errorf("SchemaRead(%.200q): got %+v, want code %d alone", text, got, code)
	}
}

func TestSchemaTextOfNamedSchemas(t *testing.T) {
	cases := []struct {
		s    impl.Schema
		want string
	}{
		{schema(objType("Q", plain("a", "Q"))), "obj Q a:Q\n"},
		{schema(objType("Q", must(plain("a", "Q")))), "obj Q a:Q!\n"},
		{schema(objType("Q", sized("a", "Q", 0))), "obj Q a:Q[0]\n"},
		{schema(objType("Q", sized("a", "Q", 100), capped("b", "Q", 1))), "obj Q a:Q[100] b:Q[<1]\n"},
		{schema(objType("Q", must(sized("a", "Q", 10)), must(capped("b", "Q", 100)))), "obj Q a:Q[10]! b:Q[<100]!\n"},
		{schema(objType("Q", plain("a", "S")), leafType("S", 0)), "obj Q a:S\nleaf S 0\n"},
		{schema(objType("Q", plain("a", "S")), leafType("S", 100), oneType("U", "Q")), "obj Q a:S\nleaf S 100\none U Q\n"},
		{schema(objType("Q", plain("a", "U")), oneType("U", "R", "Q"), objType("R", plain("a", "R"))), "obj Q a:U\none U R Q\nobj R a:R\n"},
		{schema(objType("ABCDEFGH", plain("abcdefgh", "ABCDEFGH"))), "obj ABCDEFGH abcdefgh:ABCDEFGH\n"},
	}
	for _, c := range cases {
		checkThere(t, c.want, c.s)
		if got := impl.SchemaText(c.s); got != c.want {
			t.Errorf("got %q, want %q", got, c.want)
		}
	}
}

// withField has a field of each kind of type, and this one ahead, between or behind.
func withField(f impl.Field) []impl.Schema {
	var all []impl.Schema
	others := []impl.Field{plain("x", "S"), plain("y", "Q"), must(plain("z", "U"))}
	for at := range len(others) + 1 {
		inner := slices.Insert(slices.Clone(others), at, f)
		all = append(all,
			schema(objType("Q", inner...), leafType("S", 5), oneType("U", "Q")),
			schema(objType("Q", others...), leafType("S", 5), oneType("U", "R", "Q"), objType("R", inner...)))
	}
	return append(all, schema(objType("Q", f), leafType("S", 5), oneType("U", "Q")))
}

func TestFieldsComeBack(t *testing.T) {
	for _, name := range []string{"a", "abcdefgh", "o", "onn", "fragmen", "leaf"} {
		for _, of := range []string{"S", "Q", "U"} {
			all := []impl.Field{plain(name, of)}
			for _, n := range []int64{1, 9, 10, 100} {
				all = append(all, sized(name, of, n), capped(name, of, n))
			}
			for _, f := range append(all, sized(name, of, 0)) {
				for _, s := range slices.Concat(withField(f), withField(must(f))) {
					checkThere(t, fieldWords(f), s)
				}
			}
		}
	}
}

func TestLeavesComeBack(t *testing.T) {
	for n := int64(0); n <= 100; n++ {
		checkThere(t, "a leaf", schema(objType("Q", plain("a", "S")), leafType("S", n)))
		checkThere(t, "leaves", schema(objType("Q", plain("a", "S")), leafType("S", n), leafType("T", 100-n), oneType("U", "Q")))
	}
}

func TestSchemasComeBackAtTheLimits(t *testing.T) {
	for count := 1; count <= 12; count++ {
		checkThere(t, "objects", schema(objTypes(count)...))
	}
	for count := 1; count <= 8; count++ {
		checkThere(t, "fields of the root", schema(objType("Q", plainFields(count, "Q")...)))
		checkThere(t, "fields of another", schema(objType("Q", plain("a", "R")), objType("R", plainFields(count, "Q")...)))
	}
	names := typeNames(12)
	for count := 1; count <= 5; count++ {
		checkThere(t, "members", schema(append(objTypes(8), oneType("ONE", names[:count]...))...))
		checkThere(t, "other members, ahead", schema(slices.Insert(objTypes(8), 1, oneType("ONE", names[8-count:8]...))...))
		turned := slices.Clone(names[:count])
		slices.Reverse(turned)
		checkThere(t, "members not rising", schema(append(objTypes(8), oneType("ONE", turned...))...))
	}
	var longest []impl.Type
	for i := range 12 {
		var inner []impl.Field
		for j := range 8 {
			inner = append(inner, must(capped("abcdefg"+string(rune('a'+j)), "ABCDEFG"+string(rune('A'+11-i)), 100)))
		}
		longest = append(longest, objType("ABCDEFG"+string(rune('A'+i)), inner...))
	}
	checkThere(t, "long", schema(longest...))
}

func TestSchemasComeBack(t *testing.T) {
	id := plain("id", "Q")
	checkThere(t, "empty lists", schema(
		impl.Type{Name: "Q", Kind: impl.KdObj, Fields: []impl.Field{id}, Members: []string{}},
		impl.Type{Name: "S", Kind: impl.KdLeaf, Fields: []impl.Field{}, Members: []string{}},
		impl.Type{Name: "U", Kind: impl.KdOne, Fields: []impl.Field{}, Members: []string{"Q"}}))
	checkThere(t, "one of the same in two", schema(objType("Q", id), oneType("U", "Q"), oneType("V", "Q")))
	checkThere(t, "the same field in two", schema(objType("Q", id), objType("R", plain("id", "R"))))
	checkThere(t, "two fields of one type", schema(objType("Q", id, plain("other", "Q"))))
	checkThere(t, "a type named as a question's word", schema(objType("ON", plain("a", "FRAGMENT")), leafType("FRAGMENT", 3)))
	checkThere(t, "types named as a line's word", schema(objType("OBJ", plain("a", "LEAF")), leafType("LEAF", 3), oneType("ONE", "OBJ")))
	checkThere(t, "types that nothing is of", schema(objType("Q", id), leafType("S", 3), oneType("U", "R"), objType("R", id)))
}

// wrongFields are not right, each in one way, which is also seen in their text.
func wrongFields() map[string]impl.Field {
	return map[string]impl.Field{
		"the zero field":            {},
		"no Name":                   plain("", "S"),
		"on as a Name":              plain("on", "S"),
		"fragment as a Name":        plain("fragment", "S"),
		"a type word as a Name":     plain("A", "S"),
		"a Name of 9 bytes":         plain("abcdefghi", "S"),
		"a long Name":               plain(strings.Repeat("a", impl.MaxBytes), "S"),
		"a Name with a digit":       plain("a1", "S"),
		"a Name with a blank":       plain("a b", "S"),
		"a Name with a line feed":   plain("a\n", "S"),
		"a Name with a colon":       plain("a:", "S"),
		"a Name with a type":        plain("a:S", "S"),
		"no Type":                   plain("a", ""),
		"a Type that there is not":  plain("a", "T"),
		"a Type of 9 bytes":         plain("a", "ABCDEFGHI"),
		"a long Type":               plain("a", strings.Repeat("S", impl.MaxBytes)),
		"a Type by a word":          plain("a", "s"),
		"a Type by a field":         plain("a", "x"),
		"two Types":                 plain("a", "SS"),
		"a Type with a blank":       plain("a", "S "),
		"a blank and a Type":        plain("a", " S"),
		"a Size below 0":            sized("a", "S", -1),
		"a Size above 100":          sized("a", "S", 101),
		"the least Size":            sized("a", "S", math.MinInt64),
		"the greatest Size":         sized("a", "S", math.MaxInt64),
		"a Size of 33 bits":         sized("a", "S", 1<<32+1),
		"a Cap below 0":             capped("a", "S", -1),
		"a Cap above 100":           capped("a", "S", 101),
		"the least Cap":             capped("a", "S", math.MinInt64),
		"the greatest Cap":          capped("a", "S", math.MaxInt64),
		"a Cap of 33 bits":          capped("a", "S", 1<<32+1),
		"a Cap below 0 and a Size":  {Name: "a", Type: "S", List: true, Size: 1, Cap: -1},
		"a Cap above 100, and Size": {Name: "a", Type: "S", List: true, Size: 1, Cap: 101},
	}
}

// hiddenFields are not right either, but the text has no place for what is wrong.
func hiddenFields() map[string]impl.Field {
	return map[string]impl.Field{
		"a Size of no List":             {Name: "a", Type: "S", Size: 1},
		"a great Size of no List":       {Name: "a", Type: "S", Size: 100},
		"a Size below 0 of no List":     {Name: "a", Type: "S", Size: -1},
		"a Cap of no List":              {Name: "a", Type: "S", Cap: 1},
		"a Cap below 0 of no List":      {Name: "a", Type: "S", Cap: -1},
		"a Size and a Cap of no List":   {Name: "a", Type: "S", Size: 1, Cap: 1},
		"both to nothing, of no List":   {Name: "a", Type: "S", Size: 1, Cap: -1},
		"a Size and a Cap":              {Name: "a", Type: "S", List: true, Size: 1, Cap: 1},
		"the greatest Size and Cap":     {Name: "a", Type: "S", List: true, Size: 100, Cap: 100},
		"a Size below 0 and a Cap":      {Name: "a", Type: "S", List: true, Size: -1, Cap: 1},
		"a Size above 100 and a Cap":    {Name: "a", Type: "S", List: true, Size: 101, Cap: 100},
		"the least Size and a Cap of 1": {Name: "a", Type: "S", List: true, Size: math.MinInt64, Cap: 1},
	}
}

func TestSchemaNotRightByAField(t *testing.T) {
	for what, f := range wrongFields() {
		for _, s := range slices.Concat(withField(f), withField(must(f))) {
			checkNotThere(t, what, s)
			checkNoSchema(t, schemaWords(s), syntaxOrSize(schemaWords(s)))
		}
	}
	for what, f := range hiddenFields() {
		for _, s := range slices.Concat(withField(f), withField(must(f))) {
			checkNotThere(t, what, s)
		}
	}
}

// withType has this type behind, between, or ahead of others.
func withType(one impl.Type) []impl.Schema {
	root, leaf, some := objType("Q", plain("x", "S"), plain("y", "U")), leafType("S", 5), oneType("U", "Q", "R")
	other := objType("R", plain("a", "S"))
	return []impl.Schema{schema(root, leaf, some, other, one), schema(root, one, leaf, some, other), schema(root, other, some, one, leaf), schema(one, root, leaf, some, other)}
}

// wrongTypes are not right, each in one way, which is also seen in their text.
func wrongTypes() map[string]impl.Type {
	id := plain("id", "S")
	return map[string]impl.Type{
		"the zero type":              {},
		"Kind 0":                     {Name: "T"},
		"Kind 4":                     {Name: "T", Kind: 4},
		"Kind -1":                    {Name: "T", Kind: -1},
		"the greatest Kind":          {Name: "T", Kind: math.MaxInt64},
		"a Kind of 33 bits":          {Name: "T", Kind: 1<<32 + 1},
		"Kind 4 with a field":        {Name: "T", Kind: 4, Fields: []impl.Field{id}},
		"a leaf of no Name":          leafType("", 5),
		"a leaf named as a word":     leafType("t", 5),
		"a leaf of 9 bytes' Name":    leafType("ABCDEFGHI", 5),
		"a leaf of a long Name":      leafType(strings.Repeat("A", impl.MaxBytes), 5),
		"a leaf with a digit":        leafType("T1", 5),
		"a leaf with a blank":        leafType("T T", 5),
		"a leaf that is there":       leafType("S", 5),
		"another leaf that is there": leafType("S", 6),
		"a leaf named as the root":   leafType("Q", 5),
		"a leaf named as a one":      leafType("U", 5),
		"Bytes below 0":              leafType("T", -1),
		"Bytes above 100":            leafType("T", 101),
		"the least Bytes":            leafType("T", math.MinInt64),
		"the greatest Bytes":         leafType("T", math.MaxInt64),
		"an object of no Name":       objType("", id),
		"an object named as a word":  objType("t", id),
		"an object of a long Name":   objType("ABCDEFGHI", id),
		"an object named as a root":  objType("Q", plain("x", "S"), plain("y", "U")),
		"an object that is there":    objType("R", id),
		"an object named as a leaf":  objType("S", id),
		"an object of none":          objType("T"),
		"an object of 9":             objType("T", plainFields(9, "S")...),
		"an object of MaxList more":  objType("T", plainFields(impl.MaxList+1, "S")...),
		"two fields the same":        objType("T", id, id),
		"two fields of one Name":     objType("T", id, must(plain("id", "R"))),
		"two fields apart":           objType("T", id, plain("a", "S"), sized("id", "S", 3)),
		"the last two fields":        objType("T", plain("a", "S"), id, id),
		"8 fields, the ends alike":   objType("T", append(plainFields(7, "S"), plain("waa", "S"))...),
		"a one of no Name":           oneType("", "Q"),
		"a one named as a word":      oneType("t", "Q"),
		"a one of a long Name":       oneType("ABCDEFGHI", "Q"),
		"a one that is there":        oneType("U", "Q"),
		"a one named as the root":    oneType("Q", "R"),
		"a one named as its member":  oneType("R", "R"),
		"a one of none":              oneType("T"),
		"a one of a leaf":            oneType("T", "S"),
		"a one of a leaf behind":     oneType("T", "Q", "S"),
		"a one of a one":             oneType("T", "U"),
		"a one of itself":            oneType("T", "T"),
		"a one of what is not there": oneType("T", "Z"),
		"a one of nothing":           oneType("T", ""),
		"a one of nothing, behind":   oneType("T", "Q", ""),
		"a one of a word":            oneType("T", "q"),
		"a one of a field":           oneType("T", "x"),
		"a one of a long name":       oneType("T", strings.Repeat("Q", impl.MaxBytes)),
		"a one of the same twice":    oneType("T", "Q", "Q"),
		"a one of the same apart":    oneType("T", "Q", "R", "Q"),
		"a one of the last two":      oneType("T", "Q", "R", "R"),
	}
}

// hiddenTypes are not right either, but the text has no place for what is wrong.
func hiddenTypes() map[string]impl.Type {
	id := []impl.Field{plain("id", "S")}
	return map[string]impl.Type{
		"a leaf with a field":      {Name: "T", Kind: impl.KdLeaf, Bytes: 5, Fields: id},
		"a leaf with zero fields":  {Name: "T", Kind: impl.KdLeaf, Bytes: 5, Fields: make([]impl.Field, 2)},
		"a leaf with a member":     {Name: "T", Kind: impl.KdLeaf, Bytes: 5, Members: []string{"Q"}},
		"a leaf with no member":    {Name: "T", Kind: impl.KdLeaf, Bytes: 5, Members: []string{""}},
		"an object of 1 byte":      {Name: "T", Kind: impl.KdObj, Bytes: 1, Fields: id},
		"an object of -1 byte":     {Name: "T", Kind: impl.KdObj, Bytes: -1, Fields: id},
		"an object with a member":  {Name: "T", Kind: impl.KdObj, Fields: id, Members: []string{"Q"}},
		"an object with an empty":  {Name: "T", Kind: impl.KdObj, Fields: id, Members: []string{""}},
		"a one of 1 byte":          {Name: "T", Kind: impl.KdOne, Bytes: 1, Members: []string{"Q"}},
		"a one of -1 byte":         {Name: "T", Kind: impl.KdOne, Bytes: -1, Members: []string{"Q"}},
		"a one of two in one text": oneType("T", "Q R"),
		"a one with a field":       {Name: "T", Kind: impl.KdOne, Members: []string{"Q"}, Fields: id},
		"a one with a zero field":  {Name: "T", Kind: impl.KdOne, Members: []string{"Q"}, Fields: make([]impl.Field, 1)},
		"a one as a leaf":          {Name: "T", Kind: impl.KdLeaf, Members: []string{"Q"}},
		"an object as a leaf":      {Name: "T", Kind: impl.KdLeaf, Fields: id},
		"a one as one and object":  {Name: "T", Kind: impl.KdOne, Fields: id, Members: []string{"Q", "R"}},
		"an object of much beside": {Name: "T", Kind: impl.KdObj, Bytes: math.MinInt64, Fields: id, Members: make([]string, impl.MaxList+1)},
	}
}

func TestSchemaNotRightByAType(t *testing.T) {
	for what, one := range wrongTypes() {
		for _, s := range withType(one) {
			checkNotThere(t, what, s)
			checkNoSchema(t, schemaWords(s), syntaxOrSize(schemaWords(s)))
		}
	}
	for what, one := range hiddenTypes() {
		for _, s := range withType(one) {
			checkNotThere(t, what, s)
		}
	}
}

// wrongSchemas are not right, each by how many of something there are, or by what it has where.
func wrongSchemas() map[string]impl.Schema {
	id, names := plain("id", "WAA"), typeNames(12)
	return map[string]impl.Schema{
		"the zero Schema":         {},
		"no types":                {Types: []impl.Type{}},
		"13 types":                schema(objTypes(13)...),
		"13 types, the last one":  schema(append(objTypes(12), oneType("ONE", "WAA"))...),
		"13 types, a leaf":        schema(append(objTypes(12), leafType("LEAF", 0))...),
		"more than MaxList":       schema(objTypes(impl.MaxList + 1)...),
		"6 members":               schema(append(objTypes(8), oneType("ONE", names[:6]...))...),
		"6 of 12 types":           schema(append(objTypes(11), oneType("ONE", names[:6]...))...),
		"MaxList members":         schema(append(objTypes(8), oneType("ONE", slices.Repeat(names[:8], 60)...))...),
		"9 fields of the root":    schema(objType("Q", plainFields(9, "Q")...)),
		"12 types, two alike":     schema(append(objTypes(11), objType("WAA", id))...),
		"12 types, the last two":  schema(append(objTypes(11), objType("WAK", id))...),
		"a leaf as the root":      schema(leafType("S", 5)),
		"a leaf ahead of one":     schema(leafType("S", 5), objType("Q", plain("a", "S"))),
		"a one as the root":       schema(oneType("U", "Q"), objType("Q", plain("a", "U"))),
		"a one alone":             schema(oneType("U", "U")),
		"a root of none":          schema(objType("Q")),
		"a root of another":       schema(objType("Q", plain("a", "R"))),
		"a root of no word":       schema(objType("q", plain("a", "q"))),
		"a field wrong far ahead": schema(append([]impl.Type{objType("Q", plain("a", "NONE"))}, objTypes(11)...)...),
		"a member wrong in the 5": schema(append(objTypes(8), oneType("ONE", "WAA", "WAB", "WAC", "WAD", "WAA"))...),
		"a member there is not":   schema(append(objTypes(8), oneType("ONE", "WAA", "WAB", "WAC", "WAD", "WAI"))...),
	}
}

func TestSchemaNotRightAtTheLimits(t *testing.T) {
	for what, s := range wrongSchemas() {
		checkNotThere(t, what, s)
		checkNoSchema(t, schemaWords(s), syntaxOrSize(schemaWords(s)))
	}
}

func TestSchemaReadSyntax(t *testing.T) {
	const ahead, behind = "obj Q a:S b:U\nleaf S 5\none U Q R\n", "obj R a:Q\n"
	checkThere(t, "what is around the lines", impl.SchemaRead(ahead+behind).Schema)
	lines := []string{
		"\n", "\n\n", " \n", "x", "x\n", "leaf\n", "leaf \n", "leaf T\n", "leaf T \n", "obj\n", "obj \n", "obj T\n", "obj T \n", "one\n", "one \n", "one T\n", "one T \n",
		"leaf T 5", "leaf T 5\n\n", "\nleaf T 5\n", "leaf T 5\r\n", "leaf T 5\n\r", "leaf T 5\x00\n", "leaf T 5 \n", " leaf T 5\n", "leaf  T 5\n", "leaf T  5\n", "leaf\tT 5\n", "leaf T\t5\n", "leaf T\n5\n", "leaf\nT 5\n",
		"leaf T 00\n", "leaf T 05\n", "leaf T 005\n", "leaf T 010\n", "leaf T 0100\n", "leaf T 101\n", "leaf T 200\n", "leaf T 1000\n", "leaf T -1\n", "leaf T -0\n", "leaf T +5\n", "leaf T 5.\n", "leaf T 5.0\n",
		"leaf T 1e1\n", "leaf T 0x5\n", "leaf T 5_0\n", "leaf T ５\n", "leaf T x\n", "leaf T 5x\n", "leaf T 5 5\n", "leaf T 5 T\n", "leaf T [5]\n", "leaf T 5!\n", "leaf T:5\n", "leaf T a:S\n", "leaf T Q\n", "leaf 5 T\n", "leaf 5\n",
		"leaf T 18446744073709551616\n", "leaf T 9223372036854775808\n", "leaf T " + strings.Repeat("9", 100) + "\n", "leaf T " + strings.Repeat("0", 100) + "5\n",
		"leaf t 5\n", "leaf T1 5\n", "leaf ABCDEFGHI 5\n", "leaf S 5\n", "leaf Q 5\n", "leaf U 5\n", "leaf R 5\n",
		"Leaf T 5\n", "LEAF T 5\n", "leaves T 5\n", "lea T 5\n", "leafT 5\n", "type T 5\n", "T 5\n", "OBJ T a:S\n", "object T a:S\n", "ob T a:S\n", "objT a:S\n", "One T Q\n", "ones T Q\n", "on T Q\n", "oneT Q\n", "# T\n",
		"obj T a:S", "obj T a:S\n\n", "obj T a:S \n", " obj T a:S\n", "obj  T a:S\n", "obj T  a:S\n", "obj T a:S  b:S\n", "obj T a:S,b:S\n", "obj T a:S\tb:S\n", "obj T a:S\nb:S\n", "obj T { a:S }\n",
		"obj T a\n", "obj T a:\n", "obj T :S\n", "obj T :\n", "obj T S\n", "obj T S:a\n", "obj T a S\n", "obj T a :S\n", "obj T a: S\n", "obj T a : S\n", "obj T a::S\n", "obj T a:S:S\n", "obj T a:b:S\n", "obj T a=S\n", "obj a:S\n", "obj a:S T\n",
		"obj T on:S\n", "obj T fragment:S\n", "obj T A:S\n", "obj T a1:S\n", "obj T abcdefghi:S\n", "obj T a:s\n", "obj T a:NONE\n", "obj T a:ABCDEFGHI\n", "obj T a:b\n", "obj T a:S a:S\n", "obj T a:S b:S a:Q\n",
		"obj T a:S[]\n", "obj T a:S[\n", "obj T a:S]\n", "obj T a:S[5\n", "obj T a:S5]\n", "obj T a:S 5\n", "obj T a:S [5]\n", "obj T a:S[ 5]\n", "obj T a:S[5 ]\n", "obj T a:S[[5]]\n", "obj T a:S[5]]\n", "obj T a:S[[5]\n", "obj T a:S[5][5]\n",
		"obj T a:S(5)\n", "obj T a:S{5}\n", "obj T a:S<5>\n", "obj T a:[5]S\n", "obj T a[5]:S\n", "obj T [5]a:S\n", "obj T a:S[x]\n", "obj T a:S[5x]\n", "obj T a:S[S]\n", "obj T a:S[5]x\n", "obj T a:S[5]b:S\n", "obj T a:[5]\n", "obj T [5]\n",
		"obj T a:S[00]\n", "obj T a:S[05]\n", "obj T a:S[0100]\n", "obj T a:S[101]\n", "obj T a:S[1000]\n", "obj T a:S[-1]\n", "obj T a:S[-0]\n", "obj T a:S[+5]\n", "obj T a:S[9223372036854775808]\n", "obj T a:S[18446744073709551621]\n",
		"obj T a:S[<]\n", "obj T a:S[<0]\n", "obj T a:S[<00]\n", "obj T a:S[<05]\n", "obj T a:S[<101]\n", "obj T a:S[<1000]\n", "obj T a:S[<-1]\n", "obj T a:S[<-0]\n", "obj T a:S[<+5]\n", "obj T a:S[<9223372036854775808]\n", "obj T a:S[<18446744073709551621]\n",
		"obj T a:S[<5\n", "obj T a:S<5]\n", "obj T a:S[5<]\n", "obj T a:S[<<5]\n", "obj T a:S[< 5]\n", "obj T a:S[ <5]\n", "obj T a:S<5\n", "obj T a:S[>5]\n", "obj T a:S[<5]]\n", "obj T a:S<[5]\n", "obj T a:S[<x]\n", "obj T a:S[5]<5]\n", "obj T a:S[5][<5]\n",
		"obj T a:S!!\n", "obj T a!:S\n", "obj T !a:S\n", "obj T a:!S\n", "obj T a:S !\n", "obj T a:S! !\n", "obj T a:S![5]\n", "obj T a:S![5]!\n", "obj T a:S[5!]\n", "obj T a:S[!5]\n", "obj T a:S[5]!!\n", "obj T a:S[<5!]\n", "obj T a:S[<!5]\n", "obj T a:S![<5]\n", "obj T! a:S\n", "obj! T a:S\n", "obj T !\n", "obj T a!\n", "obj T a:!\n", "obj T ! a:S\n",
		"obj t a:S\n", "obj T1 a:S\n", "obj ABCDEFGHI a:S\n", "obj T 5\n", "obj T Q\n", "obj T a:S 5\n", "obj T a:S Q\n",
		"obj T a:S b:S c:S d:S e:S f:S g:S h:S i:S\n", "obj T " + strings.Repeat("a:S ", 500) + "b:S\n",
		"one T Q", "one T Q\n\n", "one T Q \n", " one T Q\n", "one  T Q\n", "one T  Q\n", "one T Q  R\n", "one T Q,R\n", "one T Q|R\n", "one T Q\tR\n", "one T Q\nR\n", "one T: Q\n", "one T = Q\n", "one T Q!\n", "one T Q[5]\n", "one T [Q]\n", "one T { Q }\n",
		"one T q\n", "one T S\n", "one T U\n", "one T T\n", "one T NONE\n", "one T Q S\n", "one T Q Q\n", "one T Q R Q\n", "one T 5\n", "one T a:S\n", "one t Q\n", "one Q\n", "one Q R\n", "one S Q\n", "one U Q\n", "one R Q\n", "one ABCDEFGHI Q\n",
	}
	for _, line := range lines {
		checkNoSchema(t, ahead+behind+line, impl.ErrSyntax)
		checkNoSchema(t, line, impl.ErrSyntax)
		checkNoSchema(t, line+ahead+behind, impl.ErrSyntax)
		// Where the line lacks its line feed the next one stands in it.
		checkNoSchema(t, ahead+line+behind, impl.ErrSyntax)
	}
	for _, name := range []string{"Q", "S", "U", "R"} {
		twice := "obj " + name + " a:Q\n"
		checkNoSchema(t, ahead+behind+twice, impl.ErrSyntax)
		checkNoSchema(t, twice+ahead+behind, impl.ErrSyntax)
		checkNoSchema(t, ahead+twice+behind, impl.ErrSyntax)
	}
	for _, text := range []string{
		"", "\n", " ", "Q", "obj", "obj Q a:Q", "obj Q a:Q\n\n", "\nobj Q a:Q\n", "obj Q a:Q\n ", " obj Q a:Q\n", "obj Q a:Q \n", "obj Q a:Q\nleaf S 5", "obj Q a:Q leaf S 5\n", "obj Q a:Q\n\nleaf S 5\n", "obj Q a:Q\n\x00", "\xef\xbb\xbfobj Q a:Q\n",
		"leaf S 5\n", "leaf S 5\nobj Q a:S\n", "one U Q\nobj Q a:Q\n", "obj Q a:S\n", "obj Q a:Q\nobj Q a:Q\n", "{ a }", "{ a }\n",
		strings.Repeat("\n", impl.MaxBytes), strings.Repeat(" ", impl.MaxBytes), strings.Repeat("!", impl.MaxBytes), strings.Repeat("\xff", impl.MaxBytes), strings.Repeat("obj Q a:Q\n", impl.MaxBytes/10), "obj Q a:Q\n" + strings.Repeat("\n", impl.MaxBytes-10),
		"obj Q" + strings.Repeat(" ", impl.MaxBytes-5), "obj Q a:Q[" + strings.Repeat("[", impl.MaxBytes-10), "obj Q a:Q" + strings.Repeat("!", impl.MaxBytes-10) + "\n", "obj Q a:Q[" + strings.Repeat("0", impl.MaxBytes-13) + "5]\n",
	} {
		checkNoSchema(t, text, impl.ErrSyntax)
	}
}

func TestSchemaReadSize(t *testing.T) {
	right := "obj Q a:Q\n"
	for _, text := range []string{
		strings.Repeat("\n", impl.MaxBytes+1), strings.Repeat(" ", impl.MaxBytes+1), right + strings.Repeat("\n", impl.MaxBytes), strings.Repeat(right, impl.MaxBytes/len(right)+1),
		"obj Q a:Q" + strings.Repeat("!", impl.MaxBytes-9) + "\n", "obj " + strings.Repeat("Q", impl.MaxBytes) + " a:Q\n", strings.Repeat("\xff", 10*impl.MaxBytes),
	} {
		checkNoSchema(t, text, impl.ErrSize)
	}
}

func TestEachNumberOfALine(t *testing.T) {
	for n := -300; n <= 1100; n++ {
		bytes := fmt.Sprintf("obj Q a:S\nleaf S %d\n", n)
		size := fmt.Sprintf("obj Q a:Q[%d]\n", n)
		most := fmt.Sprintf("obj Q a:Q[<%d]!\n", n)
		if n < 0 || n > 100 {
			checkNoSchema(t, bytes, impl.ErrSyntax)
			checkNoSchema(t, size, impl.ErrSyntax)
			checkNoSchema(t, most, impl.ErrSyntax)
			continue
		}
		checkThere(t, bytes, schema(objType("Q", plain("a", "S")), leafType("S", int64(n))))
		checkThere(t, size, schema(objType("Q", sized("a", "Q", int64(n)))))
		if n == 0 {
			checkNoSchema(t, most, impl.ErrSyntax)
			continue
		}
		checkThere(t, most, schema(objType("Q", must(capped("a", "Q", int64(n))))))
	}
}

var (
	leafLine = regexp.MustCompile(`^leaf ([A-Z]{1,8}) (0|[1-9][0-9]?|100)\n$`)
	objLine  = regexp.MustCompile(`^obj ([A-Z]{1,8})(( [a-z]{1,8}:[A-Z]{1,8}(\[(0|[1-9][0-9]?|100|<[1-9][0-9]?|<100)\])?!?){1,8})\n$`)
	oneLine  = regexp.MustCompile(`^one ([A-Z]{1,8})(( [A-Z]{1,8}){1,5})\n$`)
	lineWord = regexp.MustCompile(` ([a-z]*):?([A-Z]+)`)
)

// mayBeSchema tells by patterns, apart from the program, whether this is the text of a right Schema.
func mayBeSchema(text string) bool {
	lines := strings.SplitAfter(text, "\n")
	lines, last := lines[:len(lines)-1], lines[len(lines)-1]
	if last != "" || len(lines) < 1 || len(lines) > 12 || !objLine.MatchString(lines[0]) {
		return false
	}
	kinds := map[string]string{}
	for _, line := range lines {
		found := slices.Concat(leafLine.FindStringSubmatch(line), objLine.FindStringSubmatch(line), oneLine.FindStringSubmatch(line))
		if len(found) == 0 || kinds[found[1]] != "" {
			return false
		}
		kinds[found[1]] = line[:3]
	}
	for _, line := range lines {
		if !mayBeNamed(line, kinds) {
			return false
		}
	}
	return true
}

// mayBeNamed tells whether the words behind a line's Name name what they may, none twice.
func mayBeNamed(line string, kinds map[string]string) bool {
	seen := map[string]bool{"on": true, "fragment": true}
	for _, word := range lineWord.FindAllStringSubmatch(line, -1)[1:] {
		own, of := word[1], word[2]
		if own == "" {
			own = of
		}
		if seen[own] || kinds[of] == "" || line[:3] == "one" && kinds[of] != "obj" {
			return false
		}
		seen[own] = true
	}
	return true
}

// schema makes one that is right most often: only the Names of fields and the members may come twice.
func (d *dice) schema() impl.Schema {
	names := slices.Clone(append(typeNames(8), "A", "ON", "ABCDEFGH", "USER"))
	for i := range names {
		other := d.below(len(names))
		names[i], names[other] = names[other], names[i]
	}
	names = names[:1+d.below(len(names))]
	made := schema(objType(names[0], d.schemaField(names)))
	objects := names[:1]
	for _, name := range names[1:] {
		switch d.below(4) {
		case 0:
			made.Types = append(made.Types, leafType(name, int64(d.below(101))))
		case 1:
			made.Types = append(made.Types, oneType(name, objects[d.below(len(objects)):]...))
		default:
			made.Types = append(made.Types, objType(name, d.schemaField(names), d.schemaField(names), d.schemaField(names)))
			objects = append(slices.Clone(objects), name)
		}
	}
	return made
}

func (d *dice) schemaField(types []string) impl.Field {
	name, of := d.pick("a", "b", "id", "name", "abcdefgh", "onn", "leaf", "posts", "users", "x"), d.pick(types...)
	made := []impl.Field{plain(name, of), sized(name, of, int64(d.below(101))), capped(name, of, int64(1+d.below(100)))}[d.below(3)]
	made.Must = d.below(2) == 0
	return made
}

func TestThrownSchemasComeBack(t *testing.T) {
	d := dice(4)
	right := 0
	for i := range 1000 {
		made := d.schema()
		if !mayBeSchema(schemaWords(made)) {
			checkNotThere(t, fmt.Sprint("thrown ", i), made)
			checkNoSchema(t, schemaWords(made), impl.ErrSyntax)
			continue
		}
		right++
		checkThere(t, fmt.Sprint("thrown ", i), made)
	}
	if right < 200 || right > 900 {
		t.Errorf("%d of what was thrown is right: too few, or too few that are not, to tell", right)
	}
}

// pieces are a text's parts, each with the sign at its end.
func pieces(text string, sign string) []string {
	return strings.SplitAfter(strings.TrimSuffix(text, sign), sign)
}

// moved are texts of the same parts, but one less, one twice, or one ahead of another.
func moved(text string, sign string) []string {
	var all []string
	parts := pieces(text, sign)
	for at := range parts {
		all = append(all, strings.Join(slices.Delete(slices.Clone(parts), at, at+1), ""))
		for to := range parts {
			all = append(all, strings.Join(slices.Insert(slices.Clone(parts), to, parts[at]), ""))
			swapped := slices.Clone(parts)
			swapped[at], swapped[to] = swapped[to], swapped[at]
			all = append(all, strings.Join(swapped, ""))
		}
	}
	return all
}

func TestWhatIsReadIsTheSchemaTextOfWhatItReads(t *testing.T) {
	d := dice(5)
	texts := []string{
		"obj Q id:STR users:USER[<5] any:ANY must:USER!\nleaf STR 3\nobj USER id:STR! posts:POST[2]\nobj POST id:STR\none ANY USER POST\n",
		"obj Q a:A[10]! b:Q[<99] aa:AA\nleaf A 10\nleaf AA 100\none O Q\n",
		"obj Q o:Q n:Q fragmen:Q\nobj R a:Q b:Q c:Q d:Q e:Q f:Q g:Q h:Q\nobj S a:S\nobj T a:Q\nobj U a:Q\none ON Q R S T U\n",
	}
	for len(texts) < 10 {
		if text := schemaWords(d.schema()); len(text) < 250 && mayBeSchema(text) {
			texts = append(texts, text)
		}
	}
	read := 0
	for _, text := range texts {
		for _, other := range slices.Concat(turned(text, " :[]<!aonlAQST019\n\x00"), moved(text, " "), moved(text, "\n"), moved(text, ":")) {
			got := impl.SchemaRead(other)
			if mayBeSchema(other) != (got.Code == impl.OK) {
				t.Errorf("SchemaRead(%q) is %+v", other, got)
			}
			if got.Code != impl.OK {
				checkNoSchema(t, other, impl.ErrSyntax)
				continue
			}
			read++
			if !impl.SchemaRight(got.Schema) || impl.SchemaText(got.Schema) != other || schemaWords(got.Schema) != other {
				t.Errorf("SchemaRead(%q) is %+v, whose text is %q", other, got.Schema, impl.SchemaText(got.Schema))
			}
		}
	}
	if read < 1000 {
		t.Errorf("only %d turned texts were read: too few to tell", read)
	}
}

const manyLines = "obj ROOT key:LEAF other:USER[<5]! any:SOME\nleaf LEAF 30\nobj USER key:LEAF! posts:POST[20]\nobj POST key:LEAF\none SOME USER POST\none OTHER POST ROOT USER\n"

// apart is the Schema of many lines, each of its texts in memory of its own, and with more behind the ends of its lists.
func apart() impl.Schema {
	s := impl.SchemaRead(manyLines).Schema
	for i := range s.Types {
		t := &s.Types[i]
		t.Name = strings.Clone(t.Name)
		for j := range t.Fields {
			t.Fields[j].Name, t.Fields[j].Type = strings.Clone(t.Fields[j].Name), strings.Clone(t.Fields[j].Type)
		}
		for j := range t.Members {
			t.Members[j] = strings.Clone(t.Members[j])
		}
		t.Fields = append(t.Fields, plain("behind", "BEHIND"), plain("behind", "BEHIND"))[:len(t.Fields)]
		t.Members = append(t.Members, "BEHIND", "BEHIND")[:len(t.Members)]
	}
	s.Types = append(s.Types, leafType("BEHIND", 1), leafType("BEHIND", 1))[:len(s.Types)]
	return s
}

// typeTexts are all texts of a type.
func typeTexts(t impl.Type) []string {
	all := append([]string{t.Name}, t.Members...)
	for _, f := range t.Fields {
		all = append(all, f.Name, f.Type)
	}
	return all
}

// copiedSchema shares no memory, and has what stands behind the ends too.
func copiedSchema(s impl.Schema) impl.Schema {
	other := impl.Schema{Types: slices.Clone(s.Types[:cap(s.Types)])}
	for i := range other.Types {
		t := &other.Types[i]
		t.Fields, t.Members = slices.Clone(t.Fields[:cap(t.Fields)]), slices.Clone(t.Members[:cap(t.Members)])
	}
	return other
}

func TestSchemasHandedInAreNotChanged(t *testing.T) {
	for _, wrong := range []bool{false, true} {
		s := apart()
		if wrong {
			s.Types[2].Fields[0].Size = 1
		}
		before := copiedSchema(s)
		impl.SchemaRight(s)
		impl.SchemaText(s)
		for _, name := range asked(s) {
			impl.TypeOf(s, name)
			impl.MembersOf(s, name)
			impl.FieldOf(s, name, "key")
		}
		if !reflect.DeepEqual(before, copiedSchema(s)) {
			t.Errorf("%+v came to be %+v", before, copiedSchema(s))
		}
	}
}

// What is told is overwritten here: neither what was handed in, nor what is told again, may show it.
func TestWhatIsToldSharesNothing(t *testing.T) {
	s := apart()
	before := copiedSchema(s)
	for _, of := range s.Types {
		told := impl.TypeOf(s, of.Name)
		for i := range told.Fields[:cap(told.Fields)] {
			told.Fields[:cap(told.Fields)][i] = plain("turned", "TURNED")
		}
		for _, names := range [][]string{told.Members, impl.MembersOf(s, of.Name)} {
			for i := range names[:cap(names)] {
				names[:cap(names)][i] = "TURNED"
			}
		}
	}
	if !reflect.DeepEqual(before, copiedSchema(s)) {
		t.Errorf("%+v came to be %+v", before, copiedSchema(s))
	}
	checkThere(t, "told again", s)
}

func TestWhatIsToldHoldsNothingOfTheSchema(t *testing.T) {
	s := apart()
	var handed, told []string
	for _, of := range s.Types {
		names := typeTexts(of)
		handed = append(handed, names...)
		told = append(told, typeTexts(impl.TypeOf(s, of.Name))...)
		told = append(told, impl.MembersOf(s, of.Name)...)
		for _, f := range of.Fields {
			got := impl.FieldOf(s, of.Name, f.Name)
			told = append(told, got.Name, got.Type)
		}
	}
	for _, one := range told {
		for _, other := range handed {
			if within(one, other) {
				t.Errorf("%q is a part of what was handed in", one)
			}
		}
	}
}

func TestSchemaReadHoldsNothingOfItsText(t *testing.T) {
	text := strings.Clone(manyLines)
	for _, of := range impl.SchemaRead(text).Schema.Types {
		for _, one := range typeTexts(of) {
			if within(one, text) {
				t.Errorf("%q is a part of what was handed in", one)
			}
		}
	}
}

func TestSchemaReadListsShareNothing(t *testing.T) {
	for at := range impl.SchemaRead(manyLines).Schema.Types {
		want, got := impl.SchemaRead(manyLines).Schema, impl.SchemaRead(manyLines).Schema
		inner, names := got.Types[at].Fields, got.Types[at].Members
		for i := range inner[:cap(inner)] {
			inner[:cap(inner)][i] = plain("turned", "TURNED")
		}
		for i := range names[:cap(names)] {
			names[:cap(names)][i] = "TURNED"
		}
		got.Types[at], want.Types[at] = impl.Type{}, impl.Type{}
		if !sameSchema(got, want) {
			t.Errorf("the lists of type %d are shared: %+v, want %+v", at, got, want)
		}
	}
}

func TestSchemaCallsTellTheSameAgain(t *testing.T) {
	s := apart()
	read, text := impl.SchemaRead(manyLines), impl.SchemaText(s)
	for range 20 {
		impl.SchemaRead("obj ROOT key:ROOT\n")
		impl.TypeOf(schema(objType("ROOT", plain("a", "ROOT"))), "ROOT")
		if again := impl.SchemaRead(manyLines); !reflect.DeepEqual(read, again) {
			t.Errorf("got %+v, then %+v", read, again)
		}
		if again := impl.SchemaText(s); again != text {
			t.Errorf("got %q, then %q", text, again)
		}
		checkAsked(t, "again", s)
	}
}
