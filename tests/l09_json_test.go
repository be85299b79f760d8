package tests

import (
	"fmt"
	"slices"
	"strings"
	"testing"

	"loop.example/g00836/impl"
)

// lineOfNodes is so deep, itself being 1 deep.
func lineOfNodes(deep int) impl.Node {
	n := null()
	for range deep - 1 {
		n = listOf(n)
	}
	return n
}

// wrongNodes are not right, each in one way.
func wrongNodes() map[string]impl.Node {
	text, keys, kids := "a", []string{"a"}, []impl.Node{null()}
	all := map[string]impl.Node{
		"the zero one":            {},
		"Kind -1":                 {Kind: -1},
		"Kind 5":                  {Kind: 5},
		"null with Text":          {Kind: impl.NoNull, Text: text},
		"null with Keys":          {Kind: impl.NoNull, Keys: keys},
		"null with Kids":          {Kind: impl.NoNull, Kids: kids},
		"null with both":          {Kind: impl.NoNull, Keys: keys, Kids: kids},
		"a text with Keys":        {Kind: impl.NoText, Text: text, Keys: keys},
		"a text with Kids":        {Kind: impl.NoText, Kids: kids},
		"a list with Text":        {Kind: impl.NoList, Text: text, Kids: kids},
		"a list with Keys":        {Kind: impl.NoList, Keys: keys, Kids: kids},
		"a list with Keys alone":  {Kind: impl.NoList, Keys: keys},
		"an object with Text":     {Kind: impl.NoObj, Text: text, Keys: keys, Kids: kids},
		"a Key without a Kid":     {Kind: impl.NoObj, Keys: keys},
		"a Kid without a Key":     {Kind: impl.NoObj, Kids: kids},
		"fewer Keys than Kids":    {Kind: impl.NoObj, Keys: keys, Kids: []impl.Node{null(), null()}},
		"more Keys than Kids":     {Kind: impl.NoObj, Keys: []string{"a", "b"}, Kids: kids},
		"two of one Key":          objectOf("a a", null(), null()),
		"two Keys, not beside":    objectOf("a b c a", null(), null(), null(), null()),
		"a Text of 121 bytes":     leaf(strings.Repeat("t", 121)),
		"a long Text":             leaf(strings.Repeat("t", impl.MaxBytes+1)),
		"an empty Key":            {Kind: impl.NoObj, Keys: []string{""}, Kids: kids},
		"a Kid of no Kind":        listOf(null(), impl.Node{}, null()),
		"a Kid of no Kind, deep":  objectOf("a", listOf(objectOf("a", impl.Node{}))),
		"101 deep":                lineOfNodes(101),
		"2001 Nodes":              listOf(slices.Repeat([]impl.Node{null()}, 2000)...),
		"2001 Nodes, in two":      listOf(listOf(slices.Repeat([]impl.Node{null()}, 999)...), listOf(slices.Repeat([]impl.Node{null()}, 999)...)),
		"100000 Nodes":            listOf(slices.Repeat([]impl.Node{leaf("x")}, 100000)...),
		"an object of many Nodes": {Kind: impl.NoObj, Keys: slices.Repeat(keys, 100000), Kids: slices.Repeat(kids, 100000)},
	}
	for _, b := range []byte{0, 10, 31, '"', '\\', 127, 128, 255} {
		all[fmt.Sprint("a Text of byte ", b)] = leaf("a" + string([]byte{b}))
	}
	for _, key := range []string{"A", "on", "fragment", "abcdefghi", "a1", "a_", "a b", "é", "\""} {
		all[fmt.Sprintf("a Key %q", key)] = impl.Node{Kind: impl.NoObj, Keys: []string{"x", key}, Kids: []impl.Node{null(), null()}}
	}
	// Kids that hold themselves have no end; some that share their memory come to more than can be gone through.
	ring := []impl.Node{null(), listOf(), null()}
	ring[1].Kids = ring
	all["a ring"] = ring[1]
	rings := []impl.Node{listOf(), listOf()}
	rings[0].Kids, rings[1].Kids = rings, rings
	all["two rings"] = rings[0]
	shared := listOf(null(), null())
	for range 90 {
		shared = listOf(shared, shared)
	}
	all["shared"] = shared
	return all
}

func TestJson(t *testing.T) {
	cases := []struct {
		n    impl.Node
		want string
	}{
		{null(), `null`},
		{leaf(""), `""`},
		{leaf("abc"), `"abc"`},
		{leaf(" !#[]~{},:null"), `" !#[]~{},:null"`},
		{leaf(strings.Repeat("t", 120)), `"` + strings.Repeat("t", 120) + `"`},
		{listOf(), `[]`},
		{listOf(null()), `[null]`},
		{listOf(null(), leaf("a"), listOf(), objectOf("")), `[null,"a",[],{}]`},
		{objectOf(""), `{}`},
		{objectOf("a", null()), `{"a":null}`},
		{objectOf("b abcdefgh a", null(), leaf("x"), objectOf("a", listOf(leaf(""), leaf("y")))), `{"b":null,"abcdefgh":"x","a":{"a":["","y"]}}`},
		{impl.Node{Kind: impl.NoObj, Keys: []string{}, Kids: []impl.Node{}}, `{}`},
		{lineOfNodes(100), strings.Repeat("[", 99) + "null" + strings.Repeat("]", 99)},
		{listOf(slices.Repeat([]impl.Node{null()}, 1999)...), "[" + strings.Repeat("null,", 1998) + "null]"},
	}
	for _, c := range cases {
		if got := impl.Json(c.n); got != c.want || !impl.NodeRight(c.n) {
			t.Errorf("Json(%s) is %q, want %q", nodeFields(c.n), got, c.want)
		}
	}
	d := dice(22)
	for range 2000 {
		n := d.node(6)
		if got, want := impl.Json(n), nodeWords(n); got != want || !impl.NodeRight(n) {
			t.Errorf("Json(%s) is %q, want %q", nodeFields(n), got, want)
		}
	}
}

func TestJsonOfWhatIsNotRight(t *testing.T) {
	for what, n := range wrongNodes() {
		inTime(t, what, func() {
			if got := impl.Json(n); got != "" || impl.NodeRight(n) {
				t.Errorf("%s: Json is %q, NodeRight %t", what, got, impl.NodeRight(n))
			}
		})
	}
}
