package tests

import (
	"encoding/json"
	"fmt"
	"math"
	"reflect"
	"regexp"
	"slices"
	"strings"
	"testing"

	"loop.example/g00836/impl"
)

// lineOfNodes is so deep, itself being 1 deep.
func lineOfNodes(deep int) impl.Node {
	n := null()
	for range deep - 1 {
		n = listOf(n)
	}
	return n
}

// wrongNodes are not right, each in one way.
func wrongNodes() map[string]impl.Node {
	text, keys, kids := "a", []string{"a"}, []impl.Node{null()}
	all := map[string]impl.Node{
		"the zero one":            {},
		"Kind -1":                 {Kind: -1},
		"Kind 5":                  {Kind: 5},
		"null with Text":          {Kind: impl.NoNull, Text: text},
		"null with Keys":          {Kind: impl.NoNull, Keys: keys},
		"null with Kids":          {Kind: impl.NoNull, Kids: kids},
		"null with both":          {Kind: impl.NoNull, Keys: keys, Kids: kids},
		"a text with Keys":        {Kind: impl.NoText, Text: text, Keys: keys},
		"a text with Kids":        {Kind: impl.NoText, Kids: kids},
		"a list with Text":        {Kind: impl.NoList, Text: text, Kids: kids},
		"a list with Keys":        {Kind: impl.NoList, Keys: keys, Kids: kids},
		"a list with Keys alone":  {Kind: impl.NoList, Keys: keys},
		"an object with Text":     {Kind: impl.NoObj, Text: text, Keys: keys, Kids: kids},
		"a Key without a Kid":     {Kind: impl.NoObj, Keys: keys},
		"a Kid without a Key":     {Kind: impl.NoObj, Kids: kids},
		"fewer Keys than Kids":    {Kind: impl.NoObj, Keys: keys, Kids: []impl.Node{null(), null()}},
		"more Keys than Kids":     {Kind: impl.NoObj, Keys: []string{"a", "b"}, Kids: kids},
		"two of one Key":          objectOf("a a", null(), null()),
		"two Keys, not beside":    objectOf("a b c a", null(), null(), null(), null()),
		"a Text of 121 bytes":     leaf(strings.Repeat("t", 121)),
		"a long Text":             leaf(strings.Repeat("t", impl.MaxBytes+1)),
		"an empty Key":            {Kind: impl.NoObj, Keys: []string{""}, Kids: kids},
		"a Kid of no Kind":        listOf(null(), impl.Node{}, null()),
		"a Kid of no Kind, deep":  objectOf("a", listOf(objectOf("a", impl.Node{}))),
		"101 deep":                lineOfNodes(101),
		"2001 Nodes":              listOf(slices.Repeat([]impl.Node{null()}, 2000)...),
		"2001 Nodes, in two":      listOf(listOf(slices.Repeat([]impl.Node{null()}, 999)...), listOf(slices.Repeat([]impl.Node{null()}, 999)...)),
		"100000 Nodes":            listOf(slices.Repeat([]impl.Node{leaf("x")}, 100000)...),
		"an object of many Nodes": {Kind: impl.NoObj, Keys: slices.Repeat(keys, 100000), Kids: slices.Repeat(kids, 100000)},
	}
	for _, b := range []byte{0, 10, 31, '"', '\\', 127, 128, 255} {
		all[fmt.Sprint("a Text of byte ", b)] = leaf("a" + string([]byte{b}))
	}
	for _, key := range []string{"A", "on", "fragment", "abcdefghi", "a1", "a_", "a b", "é", "\""} {
		all[fmt.Sprintf("a Key %q", key)] = impl.Node{Kind: impl.NoObj, Keys: []string{"x", key}, Kids: []impl.Node{null(), null()}}
	}
	// Kids that hold themselves have no end; some that share their memory come to more than can be gone through.
	ring := []impl.Node{null(), listOf(), null()}
	ring[1].Kids = ring
	all["a ring"] = ring[1]
	rings := []impl.Node{listOf(), listOf()}
	rings[0].Kids, rings[1].Kids = rings, rings
	all["two rings"] = rings[0]
	shared := listOf(null(), null())
	for range 90 {
		shared = listOf(shared, shared)
	}
	all["shared"] = shared
	return all
}

// manyKeys are so many, no two alike, each of three letters.
func manyKeys(count int) []string {
	var all []string
	for i := range count {
		all = append(all, string([]byte{'a' + byte(i/676), 'a' + byte(i/26%26), 'a' + byte(i%26)}))
	}
	return all
}

// nulls are so many.
func nulls(count int) []impl.Node {
	return slices.Repeat([]impl.Node{null()}, count)
}

// objectOfNulls has so many Kids, each of another Key.
func objectOfNulls(count int) impl.Node {
	return impl.Node{Kind: impl.NoObj, Keys: manyKeys(count), Kids: nulls(count)}
}

// inLists stands in so many lists.
func inLists(times int, n impl.Node) impl.Node {
	for range times {
		n = listOf(n)
	}
	return n
}

// inObjects stands in so many objects.
func inObjects(times int, n impl.Node) impl.Node {
	for range times {
		n = objectOf("a", n)
	}
	return n
}

// wherever are a Node alone, and that Node as the first and the last one, and deep within others.
func wherever(n impl.Node) map[string]impl.Node {
	return map[string]impl.Node{
		"alone":              n,
		"first in a list":    listOf(n, null(), leaf("x")),
		"last in a list":     listOf(null(), leaf("x"), n),
		"alone in a list":    listOf(n),
		"first in an object": objectOf("a b c", n, null(), leaf("x")),
		"last in an object":  objectOf("a b c", null(), leaf("x"), n),
		"first, deep within": listOf(objectOf("a b", listOf(objectOf("a b", n, null()), null()), null()), null()),
		"last, deep within":  listOf(null(), objectOf("a b", null(), listOf(null(), objectOf("a b", null(), n)))),
	}
}

var (
	textShape = regexp.MustCompile(`^[ !#-\[\]-~]{0,120}$`)
	keyShape  = regexp.MustCompile(`^[a-z]{1,8}$`)
)

// oneOfFour tells whether a Node is right, its Kids apart, apart from the program.
func oneOfFour(n impl.Node) bool {
	seen := map[string]bool{}
	for _, key := range n.Keys {
		if seen[key] || key == "on" || key == "fragment" || !keyShape.MatchString(key) {
			return false
		}
		seen[key] = true
	}
	texts, keys, kids := len(n.Text) > 0, len(n.Keys) > 0, len(n.Kids) > 0
	switch n.Kind {
	case impl.NoNull:
		return !texts && !keys && !kids
	case impl.NoText:
		return textShape.MatchString(n.Text) && !keys && !kids
	case impl.NoList:
		return !texts && !keys
	}
	return n.Kind == impl.NoObj && !texts && len(n.Keys) == len(n.Kids)
}

// depthOf is how deep a Node is, itself being 1 deep.
func depthOf(n impl.Node) int {
	deep := 0
	for _, kid := range n.Kids {
		deep = max(deep, depthOf(kid))
	}
	return deep + 1
}

// mayBeNode tells whether a Node is right, apart from the program.
func mayBeNode(n impl.Node) bool {
	for _, one := range nodesIn(&n) {
		if !oneOfFour(*one) {
			return false
		}
	}
	return depthOf(n) <= 100 && countNodes(n) <= 2000
}

// nodeApart is the right Node of which this is the text, and whether there is one, apart from the program.
func nodeApart(text string) (impl.Node, bool) {
	n, read := tokenNode(json.NewDecoder(strings.NewReader(text)))
	// The decoder reads over blanks, and takes more than one way of writing a text: what is written again shows it.
	if !read || nodeWords(n) != text || !mayBeNode(n) {
		return impl.Node{}, false
	}
	return n, true
}

func tokenNode(from *json.Decoder) (impl.Node, bool) {
	token, err := from.Token()
	if err != nil {
		return impl.Node{}, false
	}
	n := listOf()
	switch is := token.(type) {
	case nil:
		return null(), true
	case string:
		return leaf(is), true
	case json.Delim:
		if is == '{' {
			n.Kind = impl.NoObj
		}
	default:
		return impl.Node{}, false
	}
	for from.More() {
		if n.Kind == impl.NoObj {
			key, err := from.Token()
			if err != nil {
				return impl.Node{}, false
			}
			n.Keys = append(n.Keys, fmt.Sprint(key))
		}
		kid, read := tokenNode(from)
		if !read {
			return impl.Node{}, false
		}
		n.Kids = append(n.Kids, kid)
	}
	_, err = from.Token()
	return n, err == nil
}

// checkNode holds what is told of a right Node against how it is written apart from the program, and reads that again, says promise 7.
func checkNode(t *testing.T, what string, n impl.Node) {
	t.Helper()
	want := nodeWords(n)
	if !impl.NodeRight(n) || impl.Json(n) != want || impl.JsonLen(n) != int64(len(want)) {
		t.Errorf("%s: %.1000s: NodeRight is %t, Json %.1000q, JsonLen %d, want %.1000q of %d bytes", what, nodeFields(n), impl.NodeRight(n), impl.Json(n), impl.JsonLen(n), want, len(want))
	}
	if len(want) > impl.MaxBytes {
		checkNoJson(t, what, want, impl.ErrSize)
		return
	}
	got := impl.JsonRead(want)
	if got.Code != impl.OK || nodeFields(got.Node) != nodeFields(n) || !impl.NodeSame(got.Node, n) {
		t.Errorf("%s: JsonRead(%.1000q) is %.1000s, of Code %d, want %.1000s", what, want, nodeFields(got.Node), got.Code, nodeFields(n))
	}
}

// checkNoNode holds that a Node is refused as not right.
func checkNoNode(t *testing.T, what string, n impl.Node) {
	t.Helper()
	if right, text, size := impl.NodeRight(n), impl.Json(n), impl.JsonLen(n); right || text != "" || size != 0 {
		t.Errorf("%s: NodeRight is %t, Json %.1000q, JsonLen %d", what, right, text, size)
	}
}

// checkNoJson holds that a text is refused, with that code and nothing beside it.
func checkNoJson(t *testing.T, what string, text string, code int64) {
	t.Helper()
	if got := impl.JsonRead(text); !reflect.DeepEqual(got, impl.NodeOut{Code: code}) {
		t.Errorf("%s: JsonRead(%.1000q), of %d bytes, is %.1000s, of Code %d, want Code %d", what, text, len(text), nodeFields(got.Node), got.Code, code)
	}
}

// checkJson holds what is read of a text of at most MaxBytes bytes against what is read apart, and tells whether there is anything.
func checkJson(t *testing.T, what string, text string) bool {
	t.Helper()
	want, right := nodeApart(text)
	if !right {
		checkNoJson(t, what, text, impl.ErrSyntax)
		return false
	}
	got := impl.JsonRead(text)
	if got.Code != impl.OK || nodeFields(got.Node) != nodeFields(want) || impl.Json(got.Node) != text || impl.JsonLen(got.Node) != int64(len(text)) {
		t.Errorf("%s: JsonRead(%.1000q) is %.1000s, of Code %d, and written %.1000q; want %.1000s", what, text, nodeFields(got.Node), got.Code, impl.Json(got.Node), nodeFields(want))
	}
	return true
}

func TestJson(t *testing.T) {
	cases := []struct {
		n    impl.Node
		want string
	}{
		{null(), `null`},
		{leaf(""), `""`},
		{leaf("abc"), `"abc"`},
		{leaf("null"), `"null"`},
		{leaf(" !#[]~{},:null"), `" !#[]~{},:null"`},
		{leaf(strings.Repeat("t", 120)), `"` + strings.Repeat("t", 120) + `"`},
		{listOf(), `[]`},
		{listOf(null()), `[null]`},
		{listOf(leaf("a"), leaf("b"), leaf("c")), `["a","b","c"]`},
		{listOf(null(), leaf("a"), listOf(), objectOf("")), `[null,"a",[],{}]`},
		{listOf(listOf(listOf(), listOf()), objectOf("a b c", objectOf(""), listOf(null()), leaf(""))), `[[[],[]],{"a":{},"b":[null],"c":""}]`},
		{objectOf(""), `{}`},
		{objectOf("a", null()), `{"a":null}`},
		{objectOf("b abcdefgh a", null(), leaf("x"), objectOf("a", listOf(leaf(""), leaf("y")))), `{"b":null,"abcdefgh":"x","a":{"a":["","y"]}}`},
		{impl.Node{Kind: impl.NoObj, Keys: []string{}, Kids: []impl.Node{}}, `{}`},
		{lineOfNodes(100), strings.Repeat("[", 99) + "null" + strings.Repeat("]", 99)},
		{listOf(nulls(1999)...), "[" + strings.Repeat("null,", 1998) + "null]"},
	}
	for _, c := range cases {
		if got, size := impl.Json(c.n), impl.JsonLen(c.n); got != c.want || size != int64(len(c.want)) {
			t.Errorf("Json(%s) is %q, JsonLen %d, want %q", nodeFields(c.n), got, size, c.want)
		}
		checkNode(t, "written out", c.n)
	}
}

func TestJsonOfWhatIsNotRight(t *testing.T) {
	for what, n := range wrongNodes() {
		for where, n := range wherever(n) {
			inTime(t, what, func() { checkNoNode(t, what+", "+where, n) })
		}
	}
}

// Each Kind, and what is none, with each of the other fields filled, or not.
func TestNodeRightOfEachField(t *testing.T) {
	told := 0
	for _, kind := range []int64{math.MinInt64, -1, 0, impl.NoNull, impl.NoText, impl.NoList, impl.NoObj, 5, 6, 1<<32 + 1, math.MaxInt64} {
		for filled := range 8 {
			n := impl.Node{Kind: kind}
			if filled&1 > 0 {
				n.Text = "a"
			}
			if filled&2 > 0 {
				n.Keys = []string{"a"}
			}
			if filled&4 > 0 {
				n.Kids = nulls(1)
			}
			right := map[int64][]int{impl.NoNull: {0}, impl.NoText: {0, 1}, impl.NoList: {0, 4}, impl.NoObj: {0, 6}}[kind]
			for where, n := range wherever(n) {
				what := fmt.Sprintf("Kind %d, filled %d, %s", kind, filled, where)
				if slices.Contains(right, filled) {
					told++
					checkNode(t, what, n)
				} else {
					checkNoNode(t, what, n)
				}
			}
		}
	}
	if told != 7*len(wherever(null())) {
		t.Errorf("%d were right", told)
	}
}

func TestEachByteOfAText(t *testing.T) {
	for b := range 256 {
		one := string([]byte{byte(b)})
		for _, text := range []string{one, one + "a", "a" + one, "a" + one + "a", strings.Repeat(one, 120), strings.Repeat("a", 119) + one, one + strings.Repeat("a", 119)} {
			for where, n := range wherever(leaf(text)) {
				what := fmt.Sprintf("byte %d, %s", b, where)
				if b >= 32 && b <= 126 && b != 34 && b != 92 {
					checkNode(t, what, n)
					continue
				}
				checkNoNode(t, what, n)
				checkNoJson(t, what, nodeWords(n), impl.ErrSyntax)
			}
		}
	}
}

func TestEachLengthOfAText(t *testing.T) {
	for size := range 130 {
		for where, n := range wherever(leaf(strings.Repeat("t", size))) {
			what := fmt.Sprintf("%d bytes, %s", size, where)
			if size <= 120 {
				checkNode(t, what, n)
				continue
			}
			checkNoNode(t, what, n)
			checkNoJson(t, what, nodeWords(n), impl.ErrSyntax)
		}
	}
}

// keyedBy are objects that have that Key, ahead of another one and behind it.
func keyedBy(key string) []impl.Node {
	return []impl.Node{
		{Kind: impl.NoObj, Keys: []string{key, "other"}, Kids: nulls(2)},
		{Kind: impl.NoObj, Keys: []string{"other", key}, Kids: nulls(2)},
	}
}

func TestEachByteOfAKey(t *testing.T) {
	for b := range 256 {
		one := string([]byte{byte(b)})
		keys := []string{one}
		for at := range 8 {
			keys = append(keys, "mnopqrst"[:at]+one+"mnopqrst"[at+1:])
		}
		for _, key := range keys {
			for _, n := range keyedBy(key) {
				what := fmt.Sprintf("a Key %q", key)
				if b >= 'a' && b <= 'z' {
					checkNode(t, what, n)
					continue
				}
				checkNoNode(t, what, n)
				checkNoJson(t, what, nodeWords(n), impl.ErrSyntax)
			}
		}
	}
}

func TestKeysThatAreWords(t *testing.T) {
	cases := []struct {
		key  string
		word bool
	}{
		{"a", true}, {"z", true}, {"null", true}, {"o", true}, {"no", true}, {"onn", true}, {"oon", true}, {"fragmen", true}, {"ragment", true}, {"fragmens", true}, {"abcdefgh", true},
		{"", false}, {"on", false}, {"fragment", false}, {"abcdefghi", false}, {"fragments", false}, {"A", false}, {"aB", false}, {"a1", false}, {"1", false}, {"a_", false}, {" a", false}, {"a ", false}, {"a:", false}, {"a.b", false},
		{strings.Repeat("a", 120), false}, {strings.Repeat("a", 7000), false}, {strings.Repeat("a", impl.MaxBytes), false}, {strings.Repeat("a", 10*impl.MaxBytes), false},
	}
	for _, c := range cases {
		for _, n := range keyedBy(c.key) {
			for where, n := range wherever(n) {
				what := fmt.Sprintf("%.200q, %s", c.key, where)
				if c.word {
					checkNode(t, what, n)
					continue
				}
				checkNoNode(t, what, n)
				checkNoJson(t, what, nodeWords(n), refusal(nodeWords(n)))
			}
		}
	}
}

// refusal is the code of a text that is none of a right Node.
func refusal(text string) int64 {
	if len(text) > impl.MaxBytes {
		return impl.ErrSize
	}
	return impl.ErrSyntax
}

// No two Keys of one object are alike, wherever they stand; those of two objects may be.
func TestKeysThatAreAlike(t *testing.T) {
	const count = 60
	for first := range count {
		for second := range first {
			n := objectOfNulls(count)
			n.Keys[first] = n.Keys[second]
			checkNoNode(t, "alike", n)
			checkNoJson(t, "alike", nodeWords(n), impl.ErrSyntax)
		}
	}
	for where, n := range wherever(objectOf("a a", null(), leaf("x"))) {
		checkNoNode(t, where, n)
		checkNoJson(t, where, nodeWords(n), impl.ErrSyntax)
	}
	all := objectOfNulls(1999)
	checkNode(t, "1999 Keys", all)
	for _, at := range []int{1, 2, 999, 1997, 1998} {
		first, last := copiedNode(all), copiedNode(all)
		first.Keys[at] = first.Keys[0]
		last.Keys[1998-at] = last.Keys[1998]
		checkNoNode(t, fmt.Sprint("the first Key again, at ", at), first)
		checkNoNode(t, fmt.Sprint("the last Key ahead, at ", 1998-at), last)
	}
	checkNode(t, "two objects", listOf(objectOf("a b", null(), objectOf("a b", null(), null())), objectOf("b a", objectOf("a", null()), objectOf("a", null()))))
}

func TestAsManyKeysAsKids(t *testing.T) {
	for _, count := range []int{0, 1, 2, 3, 10, 400, 401, 1000, 1998} {
		right := objectOfNulls(count)
		checkNode(t, fmt.Sprint(count, " of each"), right)
		keys, kids := copiedNode(right), copiedNode(right)
		keys.Keys = append(keys.Keys, "more")
		kids.Kids = append(kids.Kids, null())
		for where, n := range wherever(keys) {
			checkNoNode(t, fmt.Sprint(count, " Kids and one Key more, ", where), n)
		}
		for where, n := range wherever(kids) {
			checkNoNode(t, fmt.Sprint(count, " Keys and one Kid more, ", where), n)
		}
	}
}

// deepNodes are so deep, each in another way; at least 4.
func deepNodes(deep int) map[string]impl.Node {
	all := map[string]impl.Node{}
	for what, bottom := range map[string]impl.Node{"null": null(), "a text": leaf("x"), "a list": listOf(), "an object": objectOf("")} {
		all["lists to "+what] = inLists(deep-1, bottom)
		all["objects to "+what] = inObjects(deep-1, bottom)
		all["the middle to "+what] = listOf(inObjects(deep-4, bottom), inLists(deep-2, bottom), inLists(deep-3, bottom))
		both, first, last := bottom, bottom, bottom
		for at := range deep - 1 {
			both = []impl.Node{listOf(both), objectOf("a", both)}[at%2]
			first = listOf(first, null())
			last = objectOf("a b", listOf(), last)
		}
		all["both to "+what], all["the first to "+what], all["the last to "+what] = both, first, last
	}
	return all
}

func TestHowDeepANodeMayBe(t *testing.T) {
	for _, deep := range []int{4, 99, 100} {
		for what, n := range deepNodes(deep) {
			if depthOf(n) != deep {
				t.Fatalf("%s: %d deep, want %d", what, depthOf(n), deep)
			}
			checkNode(t, fmt.Sprint(deep, " deep, ", what), n)
		}
	}
	for _, deep := range []int{101, 102, 200, 999} {
		for what, n := range deepNodes(deep) {
			what := fmt.Sprint(deep, " deep, ", what)
			checkNoNode(t, what, n)
			checkNoJson(t, what, nodeWords(n), refusal(nodeWords(n)))
		}
	}
}

// wideNodes are so many Nodes, each in another way; at least 200.
func wideNodes(count int) map[string]impl.Node {
	empty := slices.Repeat([]impl.Node{listOf()}, count)
	pairs := slices.Repeat([]impl.Node{objectOf("a", listOf())}, (count-1)/2)
	all := map[string]impl.Node{
		"lists":              listOf(empty[:count-1]...),
		"texts":              listOf(slices.Repeat([]impl.Node{leaf("")}, count-1)...),
		"long texts":         listOf(slices.Repeat([]impl.Node{leaf(strings.Repeat("t", 120))}, count-1)...),
		"nulls":              listOf(nulls(count - 1)...),
		"an object":          objectOfNulls(count - 1),
		"within the first":   listOf(listOf(empty[:count-3]...), objectOf("")),
		"within the last":    listOf(objectOf(""), listOf(empty[:count-3]...)),
		"half in each":       listOf(listOf(empty[:count/2]...), listOf(empty[:count-count/2-3]...)),
		"within lists":       inLists(98, listOf(empty[:count-99]...)),
		"within objects":     inObjects(98, listOf(empty[:count-99]...)),
		"objects and a list": listOf(append(pairs, empty[:(count-1)%2]...)...),
	}
	rest, deep := count-100, null()
	for range 99 {
		some := min(rest, count/99)
		deep = listOf(append([]impl.Node{deep}, empty[:some]...)...)
		rest -= some
	}
	all["at each depth"] = deep
	return all
}

func TestHowManyNodesThereMayBe(t *testing.T) {
	for _, count := range []int{200, 1999, 2000} {
		for what, n := range wideNodes(count) {
			if countNodes(n) != int64(count) || impl.NodesOf(n) != int64(count) {
				t.Fatalf("%s: %d Nodes, NodesOf is %d, want %d", what, countNodes(n), impl.NodesOf(n), count)
			}
			checkNode(t, fmt.Sprint(count, " Nodes, ", what), n)
		}
	}
	for _, count := range []int{2001, 2002, 2600} {
		short := 0
		for what, n := range wideNodes(count) {
			what := fmt.Sprint(count, " Nodes, ", what)
			checkNoNode(t, what, n)
			code := refusal(nodeWords(n))
			checkNoJson(t, what, nodeWords(n), code)
			if code == impl.ErrSyntax {
				short++
			}
		}
		if short < 5 {
			t.Errorf("%d Nodes: only %d texts are short enough to tell", count, short)
		}
	}
}

// What is written is put together of parts: none may be lost, or come twice, wherever one ends.
func TestWhatIsWrittenOfEachLength(t *testing.T) {
	for size := range 121 {
		text := strings.Repeat("t", size)
		for other := range 121 {
			checkNode(t, "two texts", listOf(leaf(text), leaf(strings.Repeat("u", other))))
		}
		for at := range 8 {
			checkNode(t, "a Key", objectOf("abcdefgh"[at:]+" x", leaf(text), null()))
		}
		for deep := range 99 {
			checkNode(t, "lists", inLists(deep, leaf(text)))
		}
		for count := range 40 {
			checkNode(t, "many", listOf(append(nulls(count), leaf(text), objectOf("b", listOf()))...))
		}
	}
}

// The longest of all: each Node has the longest Key and the longest Text.
func TestTheLongestThatIsWritten(t *testing.T) {
	n := objectOfNulls(1999)
	for at := range n.Kids {
		n.Keys[at] += "abcde"
		n.Kids[at] = leaf(strings.Repeat("t", 120))
	}
	const longest = 2 + 1999*(8+2+1+122) + 1998
	if impl.NodesOf(n) != 2000 || len(impl.Json(n)) != longest || impl.JsonLen(n) != longest {
		t.Errorf("%d Nodes, %d bytes, JsonLen %d, want %d", impl.NodesOf(n), len(impl.Json(n)), impl.JsonLen(n), longest)
	}
	checkNode(t, "the longest", n)
	n.Keys, n.Kids = append(n.Keys, "z"), append(n.Kids, null())
	checkNoNode(t, "one more", n)
}

// ofBytes is a right Node whose text has just so many bytes, at least 300.
func ofBytes(size int) impl.Node {
	n := listOf()
	// Each text has two quotes around it, and all but the last one a comma behind.
	rest := size - 2
	for ; rest > 200; rest -= 103 {
		n.Kids = append(n.Kids, leaf(strings.Repeat("t", 100)))
	}
	texts := rest - 5
	n.Kids = append(n.Kids, leaf(strings.Repeat("u", texts/2)), leaf(strings.Repeat("v", texts-texts/2)))
	return n
}

func TestJsonReadSize(t *testing.T) {
	for _, size := range []int{300, 301, 1000, impl.MaxBytes - 1, impl.MaxBytes, impl.MaxBytes + 1, impl.MaxBytes + 2, 2 * impl.MaxBytes} {
		n := ofBytes(size)
		if got := impl.JsonLen(n); got != int64(size) {
			t.Fatalf("JsonLen is %d, want %d", got, size)
		}
		checkNode(t, fmt.Sprint(size, " bytes"), n)
	}
	whole := impl.Json(ofBytes(impl.MaxBytes))
	for _, what := range []string{" ", "[", "]", "\"", "{", "}", ",", ":", "n", "null", "null,", "\x00", "\xff", "[]", "{\"a\":", "[\"", "\n"} {
		checkNoJson(t, "behind", whole+what, impl.ErrSize)
		checkNoJson(t, "ahead", what+whole, impl.ErrSize)
		many := strings.Repeat(what, 100*impl.MaxBytes)
		inTime(t, what, func() {
			checkNoJson(t, "of MaxBytes", many[:impl.MaxBytes], impl.ErrSyntax)
			checkNoJson(t, "of one less", many[:impl.MaxBytes-1], impl.ErrSyntax)
			checkNoJson(t, "of one more", many[:impl.MaxBytes+1], impl.ErrSize)
			checkNoJson(t, "of many more", many, impl.ErrSize)
		})
	}
}

func TestJsonReadSyntax(t *testing.T) {
	wrong := []string{
		"", " ", "\n", "\x00", "\xff", "\ufeffnull", "é",
		`nul`, `nulll`, `Null`, `NULL`, `nil`, `none`, `n`, `null null`, `nullnull`, `null,`, `,null`, `null,null`, `"null`, `null"`,
		`true`, `false`, `0`, `1`, `-1`, `1.5`, `1e3`, `NaN`, `undefined`, `[true]`, `[false]`, `[0]`, `[12]`, `{"a":true}`, `{"a":false}`, `{"a":0}`, `{"a":nil}`, `[nul]`, `[nulll]`, `{"a":Null}`,
		` null`, `null `, `nu ll`, "null\n", "\tnull", "null\x00",
		`"`, `"""`, `""""`, `"a`, `a"`, `a`, `'a'`, `"a'`, `"a"b`, `"a""b"`, `"a","b"`, ` "a"`, `"a" `, `"a" "b"`,
		`"\"`, `"\""`, `"\\"`, `"\n"`, `"\u0061"`, `"a\"b"`, "\"\n\"", "\"\t\"", "\"\x1f\"", "\"\x7f\"", "\"\x80\"", `"é"`, "\"\xff\"",
		`[`, `]`, `[]]`, `[[]`, `[[`, `]]`, `][`, `[}`, `[)`, `()`, `[][]`, `[],[]`, `[,]`, `[,,]`, `[,null]`, `[null,]`, `[null,,null]`, `[null null]`, `[nullnull]`, `[null;null]`, `["a""b"]`, `["a":"b"]`, `[:]`, `["a":]`, `[null:null]`, `[[],]`, `[[,]]`, `[[]null]`,
		`[ ]`, `[ null]`, `[null ]`, `[null ,null]`, `[null, null]`, ` []`, `[] `, "[\n]", "[null,\nnull]",
		`{`, `}`, `{}}`, `{{}`, `{{`, `}}`, `}{`, `{]`, `{}{}`, `{},{}`, `{,}`, `{null}`, `{"a"}`, `{"a":}`, `{"a",}`, `{:null}`, `{"a"null}`, `{"a"::null}`, `{"a":null:}`, `{"a";null}`, `{"a"=null}`, `{a:null}`, `{'a':null}`, `{"a:null}`, `{a":null}`, `{""a"":null}`, `{null:null}`, `{[]:null}`, `{{}:null}`, `{{}}`, `{[]}`,
		`{"a":null,}`, `{,"a":null}`, `{"a":null,,"b":null}`, `{"a":null"b":null}`, `{"a":null,"b"}`, `{"a":null,"b":}`, `{"a":null,null}`, `{"a":null,b:null}`, `{"a":"b":"c"}`, `{"a":null]`, `["a":null]`, `{"a":[}]`, `{"a":{]}`, `[{]}`, `[{"a":]}`,
		`{ }`, `{ "a":null}`, `{"a" :null}`, `{"a": null}`, `{"a":null }`, `{"a":null, "b":null}`, `{"a":null ,"b":null}`, `{"a ":null}`, `{" a":null}`, "{\"a\":\nnull}",
		`{"":null}`, `{"on":null}`, `{"fragment":null}`, `{"abcdefghi":null}`, `{"A":null}`, `{"aB":null}`, `{"a1":null}`, `{"1":null}`, `{"_":null}`, `{"a.b":null}`, `{"a:b":null}`, `{"a\"":null}`, `{"é":null}`, `{"\u0061":null}`,
		`{"a":null,"a":null}`, `{"a":null,"b":null,"a":null}`, `{"b":null,"a":null,"a":[]}`, `[{"a":{},"a":{}}]`, `{"x":{"a":"","b":"","a":""}}`,
		`/**/null`, `null//`, `[null]#`, `{"a":null};`,
	}
	for _, text := range wrong {
		if checkJson(t, "wrong", text) {
			t.Errorf("%q is read", text)
		}
		for _, around := range []string{"[%]", "[null,%]", "[%,null]", `{"x":%}`, `{"x":%,"y":null}`, `{"x":[{"y":%}]}`} {
			// Two things side by side are right in a list, so what stands around may make a right text.
			checkJson(t, "wrong, within", strings.Replace(around, "%", text, 1))
		}
	}
	right := []string{`null`, `""`, `"a"`, `" "`, `"null"`, `[]`, `[null]`, `["",""]`, `["[","]"]`, `["{","}",",",":"]`, `{}`, `{"null":null}`, `{"o":{},"n":[],"onn":"on"}`, `[{"a":null},{"a":null}]`, `{"a":{"a":{"a":[]}}}`, `"` + strings.Repeat("]", 120) + `"`}
	for _, text := range right {
		if !checkJson(t, "right", text) {
			t.Errorf("%q is none", text)
		}
	}
}

// longTexts are those of right Nodes, each of many parts.
func longTexts() []string {
	return []string{
		`{"a":[null,"b c",[]],"b":{},"fragmen":{"onn":["","x",{"null":"null","n":[[[null]]]}],"z":null},"abcdefgh":" !#[]{}~,:"}`,
		`[` + strings.Repeat(`{"a":null,"b":["t",{}]},`, 60) + `"` + strings.Repeat("t", 120) + `"]`,
		nodeWords(inLists(40, inObjects(59, leaf("bottom")))),
		nodeWords(objectOfNulls(200)),
		nodeWords(ofBytes(1500)),
	}
}

// What ends too early is none, wherever it ends, and so is what goes on behind its end.
func TestTextsThatEndTooEarlyOrTooLate(t *testing.T) {
	for _, text := range longTexts() {
		if !checkJson(t, "whole", text) {
			t.Fatalf("%q is none", text)
		}
		for at := range len(text) {
			checkNoJson(t, "too early", text[:at], impl.ErrSyntax)
		}
		for b := range 256 {
			checkNoJson(t, "too late", text+string([]byte{byte(b)}), impl.ErrSyntax)
		}
		for _, more := range []string{"null", `""`, "[]", "{}", ",null", ",", "]]", "}}", " null", "\r\n", text} {
			checkNoJson(t, "too late", text+more, impl.ErrSyntax)
		}
	}
	longest := nodeWords(inLists(9, ofBytes(impl.MaxBytes-18)))
	checkJson(t, "the longest", longest)
	for at := range len(longest) {
		checkNoJson(t, "too early", longest[:at], impl.ErrSyntax)
	}
}

// What may stand nowhere but in a text, and there anywhere.
func TestBlanksAnywhere(t *testing.T) {
	read := 0
	for _, text := range longTexts() {
		for at := range len(text) + 1 {
			for _, blank := range []string{" ", "  ", "\n", "\t", "\r"} {
				if checkJson(t, "a blank", text[:at]+blank+text[at:]) {
					read++
				}
			}
		}
	}
	if read < 100 {
		t.Errorf("only %d texts with a blank are read: too few to tell", read)
	}
}

// anyNode is a right one, no deeper than that, of any Texts and Keys; it takes of the room.
func (d *dice) anyNode(deep int, room *int) impl.Node {
	*room--
	kind := d.below(7)
	if deep == 1 {
		kind = d.below(3)
	}
	switch kind {
	case 0:
		return null()
	case 1, 2:
		return leaf(d.anyText())
	}
	n := listOf()
	if kind > 4 {
		n.Kind = impl.NoObj
	}
	for range d.below(7) {
		if *room <= 0 {
			break
		}
		key := d.anyWord()
		if n.Kind == impl.NoObj && (key == "on" || key == "fragment" || slices.Contains(n.Keys, key)) {
			continue
		}
		if n.Kind == impl.NoObj {
			n.Keys = append(n.Keys, key)
		}
		n.Kids = append(n.Kids, d.anyNode(deep-1, room))
	}
	return n
}

// anyText is one of any bytes that may be, of a few, or of as many as may be.
func (d *dice) anyText() string {
	var text []byte
	for range d.below([]int{1, 3, 20, 121}[d.below(4)]) {
		b := byte(32 + d.below(95))
		if b != '"' && b != '\\' {
			text = append(text, b)
		}
	}
	return string(text)
}

func (d *dice) anyWord() string {
	var word []byte
	for range 1 + d.below(8) {
		word = append(word, 'a'+byte(d.below(26)))
	}
	return string(word)
}

func TestThrownNodesComeBack(t *testing.T) {
	d := dice(23)
	short, long, many := 0, 0, 0
	for i := range 4000 {
		room := []int{5, 30, 300, 1500}[i%4]
		n := d.anyNode(2+d.below(30), &room)
		checkNode(t, "thrown", n)
		if impl.JsonLen(n) > impl.MaxBytes {
			long++
		} else if short++; countNodes(n) > 20 {
			many++
		}
		checkNode(t, "thrown", d.node(6))
	}
	if short < 1000 || long < 20 || many < 300 {
		t.Errorf("only %d come back, %d of them of many, and %d are too long: too few to tell", short, many, long)
	}
}

// Of a Node that is right but for one thing nothing is written, and of its text none is read.
func TestThrownNodesThatAreNotRight(t *testing.T) {
	d := dice(24)
	wrong := map[string]impl.Node{"of no Kind": {}, "a Text": leaf("\n"), "a Key": objectOf("A", null()), "two Keys": objectOf("a a", null(), null()), "a long Text": leaf(strings.Repeat("t", 121)), "too deep": inLists(100, null())}
	told := 0
	for range 200 {
		room := 30
		made := d.anyNode(5, &room)
		for what, one := range wrong {
			for at := range nodesIn(&made) {
				n := copiedNode(made)
				*nodesIn(&n)[at] = one
				checkNoNode(t, what, n)
				checkNoJson(t, what, nodeWords(n), refusal(nodeWords(n)))
				told++
			}
		}
	}
	if told < 5000 {
		t.Errorf("only %d Nodes were not right: too few to tell", told)
	}
}

// Texts with one byte turned, one taken out, one put in: what is read is written just so again.
func TestTurnedTextsOfNodes(t *testing.T) {
	d := dice(25)
	texts := []string{`{"a":[null,"b c",[]],"b":{}}`, `[[],{"a":{},"aa":[""]},"","null",null]`, `{"o":"","n":"","ab":{"ab":[]}}`, `{"abcdefgh":"x","fragmen":"y"}`, `"` + strings.Repeat("t", 120) + `"`}
	for len(texts) < 60 {
		room := 12
		if text := nodeWords(d.anyNode(5, &room)); len(text) < 250 {
			texts = append(texts, text)
		}
	}
	read, none := 0, 0
	for _, text := range texts {
		for _, other := range turned(text, "\" ,:[]{}\\anult0A\n\x7f") {
			if checkJson(t, "turned", other) {
				read++
			} else {
				none++
			}
		}
	}
	if read < 5000 || none < 50000 {
		t.Errorf("only %d turned texts are read, and %d are not: too few to tell", read, none)
	}
}

// Each place of a text with each byte put in, and in the place of what stood there.
func TestTurnedTextsOfEachByte(t *testing.T) {
	text := `[null,"b",{"a":[],"z":{}},""]`
	for at := range len(text) {
		for b := range 256 {
			one := string([]byte{byte(b)})
			checkJson(t, "put in", text[:at]+one+text[at:])
			checkJson(t, "turned", text[:at]+one+text[at+1:])
		}
	}
}

// Texts of parts put together at random: some are right.
func TestThrownTexts(t *testing.T) {
	d := dice(26)
	read := 0
	for range 200000 {
		text := ""
		for range 1 + d.below(9) {
			text += d.pick("null", `""`, `"a"`, "[", "]", "{", "}", ",", ":", `"a":`, `"b":`, "[]", "{}", "[null,", ",null]", `{"a":`)
		}
		if checkJson(t, "thrown", text) {
			read++
		}
	}
	if read < 2000 {
		t.Errorf("only %d thrown texts are read: too few to tell", read)
	}
}

// Whatever texts are handed in, they come back in time.
func TestTextsOfMaxBytesComeBackInTime(t *testing.T) {
	for _, part := range []string{"[", "\"", "{", "]", "}", ",", ":", "n", "[]", "{}", `""`, "[],", "null", "null,", "[null,", `["`, `{"`, `{"a":`, `":`, `"a":`, `{"a":[`, `[{"a":null,"b":`, "[[],", `[""`, `{"a":"`} {
		for _, ahead := range []string{"", "[", "\"", "{", `{"a":`, `["`, `{"`} {
			text := (ahead + strings.Repeat(part, impl.MaxBytes))[:impl.MaxBytes]
			inTime(t, text[:20], func() { checkNoJson(t, "many", text, impl.ErrSyntax) })
		}
	}
	inTime(t, "one text", func() {
		checkNoJson(t, "one text", `"`+strings.Repeat("t", impl.MaxBytes-2)+`"`, impl.ErrSyntax)
		checkNoJson(t, "one Key", `{"`+strings.Repeat("t", impl.MaxBytes-9)+`":null}`, impl.ErrSyntax)
		checkNoJson(t, "closed again", strings.Repeat("[", impl.MaxBytes/2)+strings.Repeat("]", impl.MaxBytes/2), impl.ErrSyntax)
		checkNode(t, "many Keys", objectOfNulls(700))
	})
}

// manyLists is a text of a Node with many lists.
func manyLists() string {
	one := `{"a":[null,"b c",[["d"],[null]]],"b":{"c":{"d":"e","f":[{"g":null}]},"h":["i",{"j":[]}]}}`
	return `[` + one + `,` + one + `,[` + one + `,{"x":` + one + `,"y":[` + one + `,null]}]]`
}

func TestWhatIsReadOfATextSharesNothing(t *testing.T) {
	text := manyLists()
	checkListsApart(t, func() impl.Node { return impl.JsonRead(text).Node })
	checkJson(t, "read again", text)
}

func TestWhatIsReadHoldsNothingOfItsText(t *testing.T) {
	text := strings.Clone(manyLists())
	n := impl.JsonRead(text).Node
	var told []string
	for _, one := range nodesIn(&n) {
		told = append(told, append(slices.Clone(one.Keys), one.Text)...)
	}
	if len(told) < 80 {
		t.Fatalf("only %q: too few to tell", told)
	}
	for _, one := range told {
		if within(one, text) {
			t.Errorf("%q is a part of what was handed in", one)
		}
	}
	// A text alone is not handed out as what is written of it either.
	for _, one := range told {
		if written := impl.Json(leaf(one)); within(written, one) || within(one, written) {
			t.Errorf("%q is written within what was handed in", one)
		}
	}
}

func TestNodesHandedInAreNotChanged(t *testing.T) {
	d := dice(27)
	for range 300 {
		room := 40
		n := d.anyNode(6, &room)
		// Those within come first: what stands around them is copied.
		for _, one := range slices.Backward(nodesIn(&n)) {
			one.Keys = append(one.Keys, "behind")[:len(one.Keys)]
			one.Kids = append(one.Kids, leaf("behind"))[:len(one.Kids)]
		}
		before := copiedNode(n)
		impl.NodeRight(n)
		impl.Json(n)
		impl.JsonLen(n)
		if nodeFields(n) != nodeFields(before) {
			t.Errorf("%s came to be %s", nodeFields(before), nodeFields(n))
		}
		for _, one := range nodesIn(&n) {
			if one.Keys[:len(one.Keys)+1][len(one.Keys)] != "behind" || one.Kids[:len(one.Kids)+1][len(one.Kids)].Text != "behind" {
				t.Errorf("%s was changed behind a list's end", nodeFields(before))
			}
		}
	}
}

func TestWhatIsWrittenIsToldTheSameAgain(t *testing.T) {
	long, text := ofBytes(5000), manyLists()
	first, written, size := impl.JsonRead(text), impl.Json(long), impl.JsonLen(long)
	for range 20 {
		impl.Json(leaf("other"))
		impl.JsonLen(impl.Node{})
		checkNoJson(t, "between", text[1:], impl.ErrSyntax)
		checkNode(t, "between", listOf(leaf("x"), objectOf("a", null())))
		if again := impl.JsonRead(text); !reflect.DeepEqual(first, again) {
			t.Errorf("got %+v, then %+v", first, again)
		}
		if impl.Json(long) != written || impl.JsonLen(long) != size || impl.NodeRight(impl.Node{}) {
			t.Errorf("got %q of %d bytes, then %q of %d", written, size, impl.Json(long), impl.JsonLen(long))
		}
	}
}

// What a question is told comes back too, and is no longer than it was said to be (promises 7 and 8).
func TestWhatIsToldComesBack(t *testing.T) {
	told := 0
	letByBounds(t, 28, 1500, func(dice *dice, s impl.Schema, made impl.Doc, b impl.Bounds) {
		if b.Nodes > 2000 {
			return
		}
		_, paths := replied(s, made, nil)
		paths = slices.DeleteFunc(paths, func(path string) bool { return len(path) > 100 })
		for count := range 4 {
			var l []impl.Answer
			for range count * 3 {
				l = append(l, dice.thrownAnswer(s, paths))
			}
			tree := impl.Exec(s, made, l).Tree
			checkNode(t, "told", tree)
			if size := impl.JsonLen(tree); size > b.Bytes {
				t.Errorf("%s with %+v is told %d bytes, but BoundOf is %+v", docWords(made), l, size, b)
			}
			told++
		}
	})
	if told < 1000 {
		t.Errorf("only %d told: too few to tell", told)
	}
}
