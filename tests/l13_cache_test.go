package tests

import (
	"fmt"
	"math"
	"slices"
	"strings"
	"testing"

	"loop.example/g00836/impl"
)

// cacheSize is how many are kept at most.
const cacheSize = 6

// boundsFor are measures of which none is like another one's.
func boundsFor(n int64) impl.Bounds {
	return impl.Bounds{Depth: n, Calls: n + 1000, Nodes: n + 2000, Bytes: n + 3000}
}

func kept(text string, n int64) impl.Kept {
	return impl.Kept{Text: text, Bounds: boundsFor(n)}
}

// keptOf are of these texts, each with Bounds of its own.
func keptOf(texts ...string) []impl.Kept {
	var all []impl.Kept
	for i, text := range texts {
		all = append(all, kept(text, int64(i+1)))
	}
	return all
}

// manyTexts are so many, no two alike.
func manyTexts(count int) []string {
	var all []string
	for i := range count {
		all = append(all, fmt.Sprint("{ a", i, " }"))
	}
	return all
}

// nearTexts are those that a careless comparison takes for each other: they begin each other, or differ in a byte, or in what does not show.
func nearTexts() []string {
	return []string{"", " ", "a", "aa", "aaa", "ab", "b", "A", "a ", " a", "a\n", "a\x00", "\x00", "\x00\x00", "{ id }", "{ id } ", "{ id", "{  id }", "\u00e9", "e\u0301", "\xe9", "\xff", "\xfe", "\ufffd", "0", "00", "1", strings.Repeat("a", impl.MaxBytes), strings.Repeat("a", impl.MaxBytes-1)}
}

func cacheWords(c []impl.Kept) string {
	var all []string
	for _, k := range c {
		text := k.Text
		if len(text) > 20 {
			text = fmt.Sprint(text[:20], ".. of ", len(text))
		}
		all = append(all, fmt.Sprintf("%q %v", text, k.Bounds))
	}
	return "[" + strings.Join(all, ", ") + "]"
}

func cacheOutWords(out impl.CacheOut) string {
	return fmt.Sprintf("%s, Bounds %v, Has %t, Code %d", cacheWords(out.Cache), out.Bounds, out.Has, out.Code)
}

// sameCacheOut takes no list and an empty one for the same.
func sameCacheOut(a impl.CacheOut, b impl.CacheOut) bool {
	return slices.Equal(a.Cache, b.Cache) && a.Bounds == b.Bounds && a.Has == b.Has && a.Code == b.Code
}

// placeInCache is where a text stands, -1 if nowhere.
func placeInCache(c []impl.Kept, text string) int {
	for i, k := range c {
		if k.Text == text {
			return i
		}
	}
	return -1
}

// mayBeCache tells whether a cache is right, apart from the program.
func mayBeCache(c []impl.Kept) bool {
	if len(c) > cacheSize {
		return false
	}
	for i, k := range c {
		if placeInCache(c, k.Text) < i {
			return false
		}
	}
	return true
}

// cacheFault is the code that is told of what is not right.
func cacheFault(c []impl.Kept, text string) int64 {
	switch {
	case len(c) > 400 || len(text) > 8000:
		return 2
	case !mayBeCache(c):
		return 1
	}
	return 0
}

// without are the others, in the order in which they stand.
func without(c []impl.Kept, text string) []impl.Kept {
	var others []impl.Kept
	for _, k := range c {
		if k.Text != text {
			others = append(others, k)
		}
	}
	return others
}

// gotOfCache is what is to be told of a text.
func gotOfCache(c []impl.Kept, text string) impl.CacheOut {
	if code := cacheFault(c, text); code != 0 {
		return impl.CacheOut{Code: code}
	}
	at := placeInCache(c, text)
	if at < 0 {
		return impl.CacheOut{Cache: c}
	}
	return impl.CacheOut{Cache: append(without(c, text), c[at]), Bounds: c[at].Bounds, Has: true}
}

// putInCache is what is to be told when a text is put.
func putInCache(c []impl.Kept, text string, b impl.Bounds) impl.CacheOut {
	if code := cacheFault(c, text); code != 0 {
		return impl.CacheOut{Code: code}
	}
	all := append(without(c, text), impl.Kept{Text: text, Bounds: b})
	return impl.CacheOut{Cache: all[max(0, len(all)-cacheSize):]}
}

func checkCache(t *testing.T, c []impl.Kept, want bool) {
	t.Helper()
	if got := impl.CacheRight(c); got != want || mayBeCache(c) != want {
		once(t, "CacheRight(%s) is %t, want %t", cacheWords(c), got, want)
	}
}

func checkGet(t *testing.T, c []impl.Kept, text string) impl.CacheOut {
	t.Helper()
	got, want := impl.CacheGet(c, text), gotOfCache(c, text)
	if !sameCacheOut(got, want) {
		once(t, "CacheGet(%s, %.20q) is %s, want %s", cacheWords(c), text, cacheOutWords(got), cacheOutWords(want))
	}
	checkCache(t, got.Cache, true)
	return got
}

func checkPut(t *testing.T, c []impl.Kept, text string, b impl.Bounds) impl.CacheOut {
	t.Helper()
	got, want := impl.CachePut(c, text, b), putInCache(c, text, b)
	if !sameCacheOut(got, want) {
		once(t, "CachePut(%s, %.20q, %v) is %s, want %s", cacheWords(c), text, b, cacheOutWords(got), cacheOutWords(want))
	}
	checkCache(t, got.Cache, true)
	return got
}

// checkCode is of what is refused: all else is zero.
func checkCode(t *testing.T, c []impl.Kept, text string, code int64) {
	t.Helper()
	want := impl.CacheOut{Code: code}
	if got := checkGet(t, c, text); !sameCacheOut(got, want) {
		once(t, "CacheGet of %d Kept and %d bytes is %s, want %s", len(c), len(text), cacheOutWords(got), cacheOutWords(want))
	}
	if got := checkPut(t, c, text, boundsFor(70)); !sameCacheOut(got, want) {
		once(t, "CachePut of %d Kept and %d bytes is %s, want %s", len(c), len(text), cacheOutWords(got), cacheOutWords(want))
	}
}

func TestCacheRightOfNamedCaches(t *testing.T) {
	long := strings.Repeat("a", 8001)
	for _, c := range []struct {
		want  bool
		texts []string
	}{
		{true, nil},
		{true, []string{}},
		{true, []string{""}},
		{true, []string{"a"}},
		{true, []string{"a", "b"}},
		{true, []string{"b", "a"}},
		{false, []string{"a", "a"}},
		{false, []string{"", ""}},
		{true, []string{"", "a"}},
		{false, []string{"", "a", ""}},
		{false, []string{"a", "b", "a"}},
		{false, []string{"b", "a", "a"}},
		{false, []string{"a", "a", "b"}},
		{true, []string{"a", "aa", "aaa", "", "ab", "b"}},
		{true, []string{"ab", "b", "a", "A", " a", "a "}},
		{false, []string{"ab", "b", "a", "A", " a", "a ", "c"}},
		{false, []string{"a", "b", "c", "d", "e", "a"}},
		{false, []string{"a", "b", "c", "d", "d", "e"}},
		{true, []string{"a", "b", "c", "d", "e", "f"}},
		{false, []string{"a", "b", "c", "d", "e", "f", "g"}},
		{false, []string{"a", "b", "c", "d", "e", "f", ""}},
		{false, []string{"", "", "", "", "", ""}},
		{true, []string{long}},
		{true, []string{long, long[1:], long + "a", "a", ""}},
		{false, []string{long, strings.Clone(long)}},
		{true, []string{"{ id }", "{ id } ", "{id}"}},
	} {
		checkCache(t, keptOf(c.texts...), c.want)
		// Of which Bounds they are makes no difference.
		for _, b := range []impl.Bounds{{}, boundsFor(-5000), {Depth: math.MinInt64, Calls: math.MaxInt64, Nodes: math.MaxInt64, Bytes: math.MinInt64}} {
			all := keptOf(c.texts...)
			for i := range all {
				all[i].Bounds = b
			}
			checkCache(t, all, c.want)
		}
	}
}

func TestCacheRightOfEachLength(t *testing.T) {
	if impl.MaxCache != cacheSize {
		t.Errorf("MaxCache is %d", impl.MaxCache)
	}
	for count := range impl.MaxList + 5 {
		checkCache(t, keptOf(manyTexts(count)...), count <= cacheSize)
		checkCache(t, make([]impl.Kept, count), count <= 1)
		code := int64(impl.OK)
		switch {
		case count > impl.MaxList:
			code = impl.ErrSize
		case count > cacheSize:
			code = impl.ErrForm
		}
		for _, text := range []string{"", "a", manyTexts(1)[0], "{ a400 }", "{ a399 }"} {
			if code != impl.OK {
				checkCode(t, keptOf(manyTexts(count)...), text, code)
				checkCode(t, make([]impl.Kept, count), text, code)
			} else if got := checkGet(t, keptOf(manyTexts(count)...), text); got.Code != impl.OK {
				once(t, "of %d CacheGet is %s", count, cacheOutWords(got))
			}
		}
	}
}

// Of each two places, of each length, and of each text that is there twice.
func TestTwoOfOneTextAreNotRight(t *testing.T) {
	texts := append(nearTexts(), strings.Repeat("b", impl.MaxBytes+1))
	for count := 2; count <= cacheSize+1; count++ {
		for first := range count {
			for last := first + 1; last < count; last++ {
				for _, text := range texts {
					c := keptOf(manyTexts(count)...)
					c[first].Text, c[last].Text = text, strings.Clone(text)
					checkCache(t, c, false)
					for _, other := range []string{text, c[count-1].Text, c[0].Text, "z", ""} {
						if len(other) <= impl.MaxBytes {
							checkCode(t, c, other, impl.ErrForm)
						}
					}
					// One Kept twice is no better than two of other Bounds.
					c[last].Bounds = c[first].Bounds
					checkCache(t, c, false)
					checkCode(t, c, "z", impl.ErrForm)
					c[last].Text += "."
					checkCache(t, c, count <= cacheSize)
				}
			}
		}
	}
}

// Each two texts, and each six of those that are nearest to each other, are apart.
func TestTextsThatBeginEachOtherAreApart(t *testing.T) {
	all := nearTexts()
	for i, a := range all {
		for j, b := range all {
			c := []impl.Kept{kept(a, 1), kept(b, 2)}
			checkCache(t, c, i != j)
			if i == j {
				continue
			}
			for _, text := range all {
				got := checkGet(t, c, text)
				if got.Has != (text == a || text == b) {
					once(t, "CacheGet(%s, %.20q) is %s", cacheWords(c), text, cacheOutWords(got))
				}
				checkPut(t, c, text, boundsFor(9))
			}
		}
	}
	for at := range len(all) - cacheSize + 1 {
		c := keptOf(all[at : at+cacheSize]...)
		checkCache(t, c, true)
		for _, text := range all {
			checkGet(t, c, text)
			checkPut(t, c, text, boundsFor(9))
		}
	}
}

// Each measure is any number: what is kept is handed back just so.
func TestBoundsOfAnyNumbersAreKept(t *testing.T) {
	numbers := []int64{math.MinInt64, math.MinInt64 + 1, -1 << 32, -impl.Top, -2, -1, 0, 1, 4, impl.Top - 1, impl.Top, impl.Top + 1, 1 << 32, math.MaxInt64 - 1, math.MaxInt64}
	for measure := range 4 {
		for _, n := range numbers {
			for _, others := range []impl.Bounds{{}, boundsFor(7), {Depth: math.MaxInt64, Calls: math.MinInt64, Nodes: -1, Bytes: math.MaxInt64}} {
				b := withMeasure(others, measure, n)
				c := []impl.Kept{kept("a", 1), {Text: "b", Bounds: b}, kept("c", 3)}
				checkCache(t, c, true)
				if got := checkGet(t, c, "b"); got.Bounds != b || !got.Has || got.Cache[2].Bounds != b {
					once(t, "CacheGet(%s, b) is %s", cacheWords(c), cacheOutWords(got))
				}
				for _, text := range []string{"a", "b", "c", "z", ""} {
					got := checkPut(t, c, text, b)
					if last := got.Cache[len(got.Cache)-1]; last != (impl.Kept{Text: text, Bounds: b}) {
						once(t, "CachePut(%s, %q, %v) is %s", cacheWords(c), text, b, cacheOutWords(got))
					}
					if again := checkGet(t, got.Cache, text); again.Bounds != b || !again.Has {
						once(t, "%v was put, but CacheGet is %s", b, cacheOutWords(again))
					}
				}
			}
		}
	}
}

// A Text that is kept is a field of something: none is too long, though none that is longer than MaxBytes is ever got.
func TestKeptTextsMayBeLongerThanMaxBytes(t *testing.T) {
	for _, size := range []int{impl.MaxBytes - 1, impl.MaxBytes, impl.MaxBytes + 1, 2 * impl.MaxBytes, 1 << 20} {
		for at := range cacheSize {
			c := keptOf(manyTexts(cacheSize)...)
			c[at].Text = strings.Repeat("a", size)
			checkCache(t, c, true)
			for _, k := range c {
				if len(k.Text) > impl.MaxBytes {
					checkCode(t, c, k.Text, impl.ErrSize)
					continue
				}
				if got := checkGet(t, c, k.Text); !got.Has || got.Bounds != k.Bounds {
					once(t, "CacheGet(%s, %.20q) is %s", cacheWords(c), k.Text, cacheOutWords(got))
				}
				checkPut(t, c, k.Text, boundsFor(50))
			}
			if got := checkGet(t, c, "z"); got.Code != impl.OK || got.Has || !slices.Equal(got.Cache, c) {
				once(t, "CacheGet(%s, z) is %s", cacheWords(c), cacheOutWords(got))
			}
			if got := checkPut(t, c, "z", boundsFor(50)); len(got.Cache) != cacheSize || !slices.Equal(got.Cache[:cacheSize-1], c[1:]) {
				once(t, "CachePut(%s, z) is %s", cacheWords(c), cacheOutWords(got))
			}
		}
	}
}

// notRightCaches are those that are not right, in each way, some of them of more than MaxList.
func notRightCaches() map[string][]impl.Kept {
	all := map[string][]impl.Kept{
		"a text twice":         keptOf("a", "a"),
		"no text twice":        keptOf("", ""),
		"one twice at the end": keptOf("a", "b", "c", "d", "e", "a"),
		"one twice in between": keptOf("a", "b", "b", "d"),
		"one more":             keptOf(manyTexts(cacheSize + 1)...),
		"one more, of one":     append(keptOf(manyTexts(cacheSize)...), kept("{ a0 }", 1)),
		"all of one":           slices.Repeat(keptOf("a"), cacheSize),
		"MaxList":              keptOf(manyTexts(impl.MaxList)...),
		"MaxList of one":       slices.Repeat(keptOf("a"), impl.MaxList),
		"MaxList + 1":          keptOf(manyTexts(impl.MaxList + 1)...),
		"MaxList + 1 of one":   slices.Repeat(keptOf("a"), impl.MaxList+1),
		"nothing but zeros":    make([]impl.Kept, impl.MaxList+1),
		"very many":            slices.Repeat(keptOf("a", ""), 100000),
	}
	return all
}

// Too much is told ahead of what is not right, and what is not right ahead of all else.
func TestFaultsOfACacheInOrder(t *testing.T) {
	texts := map[int]string{}
	for _, size := range []int{0, 1, impl.MaxBytes - 1, impl.MaxBytes, impl.MaxBytes + 1, impl.MaxBytes + 2, 2 * impl.MaxBytes, 1 << 20} {
		texts[size] = strings.Repeat("a", size)
	}
	told := map[int64]int{}
	for what, c := range notRightCaches() {
		checkCache(t, c, false)
		for size, text := range texts {
			code := int64(impl.ErrForm)
			if len(c) > impl.MaxList || size > impl.MaxBytes {
				code = impl.ErrSize
			}
			checkCode(t, c, text, code)
			if t.Failed() {
				t.Fatalf("%s, and a text of %d bytes", what, size)
			}
			told[code]++
		}
	}
	for _, c := range [][]impl.Kept{nil, {}, keptOf(""), keptOf("a"), keptOf(manyTexts(cacheSize)...), keptOf(texts[impl.MaxBytes]), keptOf(texts[impl.MaxBytes+1], texts[impl.MaxBytes])} {
		for size, text := range texts {
			if size > impl.MaxBytes {
				checkCode(t, c, text, impl.ErrSize)
				continue
			}
			got, put := checkGet(t, c, text), checkPut(t, c, text, boundsFor(7))
			if got.Code != impl.OK || put.Code != impl.OK || got.Has != (placeInCache(c, text) >= 0) {
				once(t, "of %s and %d bytes CacheGet is %s, and CachePut %s", cacheWords(c), size, cacheOutWords(got), cacheOutWords(put))
			}
		}
	}
	if told[impl.ErrForm] < 30 || told[impl.ErrSize] < 30 {
		t.Errorf("told %v: too few to tell", told)
	}
}

func TestCacheGetOfNamedCaches(t *testing.T) {
	a, b, c, none := kept("a", 1), kept("b", 2), kept("c", 3), kept("", 4)
	all := func(all ...impl.Kept) []impl.Kept { return all }
	has := func(k impl.Kept, c ...impl.Kept) impl.CacheOut {
		return impl.CacheOut{Cache: c, Bounds: k.Bounds, Has: true}
	}
	not := func(c ...impl.Kept) impl.CacheOut { return impl.CacheOut{Cache: c} }
	form, size := impl.CacheOut{Code: 1}, impl.CacheOut{Code: 2}
	for _, one := range []struct {
		cache []impl.Kept
		text  string
		want  impl.CacheOut
	}{
		{nil, "", not()},
		{nil, "a", not()},
		{all(), "a", not()},
		{all(a), "a", has(a, a)},
		{all(a), "b", not(a)},
		{all(a), "", not(a)},
		{all(a), "aa", not(a)},
		{all(a), "A", not(a)},
		{all(none), "", has(none, none)},
		{all(none), "a", not(none)},
		{all(a, b), "a", has(a, b, a)},
		{all(a, b), "b", has(b, a, b)},
		{all(a, b), "ab", not(a, b)},
		{all(a, b, c), "a", has(a, b, c, a)},
		{all(a, b, c), "b", has(b, a, c, b)},
		{all(a, b, c), "c", has(c, a, b, c)},
		{all(c, b, a), "b", has(b, c, a, b)},
		{all(a, none, c), "", has(none, a, c, none)},
		{all(a, impl.Kept{Text: "b"}, c), "b", has(impl.Kept{}, a, c, impl.Kept{Text: "b"})},
		{all(a, a), "a", form},
		{all(a, a), "b", form},
		{all(a, b, a), "", form},
		{keptOf(manyTexts(7)...), "{ a0 }", form},
		{keptOf(manyTexts(400)...), "{ a0 }", form},
		{keptOf(manyTexts(401)...), "{ a0 }", size},
		{all(a, b), strings.Repeat("a", 8000), not(a, b)},
		{all(a, b), strings.Repeat("a", 8001), size},
		{all(a, a), strings.Repeat("a", 8000), form},
		{all(a, a), strings.Repeat("a", 8001), size},
	} {
		if got := checkGet(t, one.cache, one.text); !sameCacheOut(got, one.want) {
			once(t, "CacheGet(%s, %.20q) is %s, want %s", cacheWords(one.cache), one.text, cacheOutWords(got), cacheOutWords(one.want))
		}
	}
}

func TestCachePutOfNamedCaches(t *testing.T) {
	a, b, c, none, new9 := kept("a", 1), kept("b", 2), kept("c", 3), kept("", 4), boundsFor(9)
	all := func(all ...impl.Kept) []impl.Kept { return all }
	to := func(c ...impl.Kept) impl.CacheOut { return impl.CacheOut{Cache: c} }
	form, size := impl.CacheOut{Code: 1}, impl.CacheOut{Code: 2}
	a9, b9, c9, none9 := kept("a", 9), kept("b", 9), kept("c", 9), kept("", 9)
	six := keptOf("p", "q", "r", "s", "t", "u")
	p, q, r, s, u, v := six[0], six[1], six[2], six[3], six[4], six[5]
	for _, one := range []struct {
		cache []impl.Kept
		text  string
		want  impl.CacheOut
	}{
		{nil, "a", to(a9)},
		{all(), "", to(none9)},
		{all(a), "a", to(a9)},
		{all(a), "b", to(a, b9)},
		{all(a), "", to(a, none9)},
		{all(none), "", to(none9)},
		{all(a, b, c), "a", to(b, c, a9)},
		{all(a, b, c), "b", to(a, c, b9)},
		{all(a, b, c), "c", to(a, b, c9)},
		{all(a, none, c), "", to(a, c, none9)},
		{six, "p", to(q, r, s, u, v, kept("p", 9))},
		{six, "q", to(p, r, s, u, v, kept("q", 9))},
		{six, "t", to(p, q, r, s, v, kept("t", 9))},
		{six, "u", to(p, q, r, s, u, kept("u", 9))},
		{six, "a", to(q, r, s, u, v, a9)},
		{six, "", to(q, r, s, u, v, none9)},
		{six[:5], "a", to(p, q, r, s, u, a9)},
		{six[:5], "p", to(q, r, s, u, kept("p", 9))},
		{all(a, a), "a", form},
		{all(a, a), "b", form},
		{all(a, b, a), "", form},
		{keptOf(manyTexts(7)...), "{ a0 }", form},
		{keptOf(manyTexts(400)...), "{ a0 }", form},
		{keptOf(manyTexts(401)...), "{ a0 }", size},
		{all(a, b), strings.Repeat("a", 8000), to(a, b, kept(strings.Repeat("a", 8000), 9))},
		{all(a, b), strings.Repeat("a", 8001), size},
		{all(a, a), strings.Repeat("a", 8000), form},
		{all(a, a), strings.Repeat("a", 8001), size},
	} {
		if got := checkPut(t, one.cache, one.text, new9); !sameCacheOut(got, one.want) {
			once(t, "CachePut(%s, %.20q) is %s, want %s", cacheWords(one.cache), one.text, cacheOutWords(got), cacheOutWords(one.want))
		}
	}
	if got := impl.CachePut(all(a, b), "a", impl.Bounds{}); !sameCacheOut(got, to(b, impl.Kept{Text: "a"})) {
		t.Errorf("of no Bounds CachePut is %s", cacheOutWords(got))
	}
}

// Of each length, for each place at which a Text stands, and for one that stands nowhere.
func TestEachPlaceOfACache(t *testing.T) {
	for count := range cacheSize + 1 {
		for turn := range max(count, 1) {
			texts := manyTexts(count)
			c := keptOf(append(texts[turn:], texts[:turn]...)...)
			for at, k := range c {
				got, put := checkGet(t, c, k.Text), checkPut(t, c, k.Text, boundsFor(90))
				others := slices.Concat(c[:at], c[at+1:])
				if !got.Has || got.Bounds != k.Bounds || !slices.Equal(got.Cache, append(slices.Clone(others), k)) {
					once(t, "CacheGet(%s, %q) is %s", cacheWords(c), k.Text, cacheOutWords(got))
				}
				if put.Has || put.Bounds != (impl.Bounds{}) || !slices.Equal(put.Cache, append(others, kept(k.Text, 90))) {
					once(t, "CachePut(%s, %q) is %s", cacheWords(c), k.Text, cacheOutWords(put))
				}
			}
			for _, text := range []string{"", "z", "{ a }", "{ a0", "{ a0 } ", "{ a00 }"} {
				got, put := checkGet(t, c, text), checkPut(t, c, text, boundsFor(90))
				if got.Has || got.Bounds != (impl.Bounds{}) || got.Code != impl.OK || !slices.Equal(got.Cache, c) {
					once(t, "CacheGet(%s, %q) is %s", cacheWords(c), text, cacheOutWords(got))
				}
				left := append(slices.Clone(c), kept(text, 90))
				if count == cacheSize {
					left = left[1:]
				}
				if put.Has || put.Bounds != (impl.Bounds{}) || !slices.Equal(put.Cache, left) {
					once(t, "CachePut(%s, %q) is %s", cacheWords(c), text, cacheOutWords(put))
				}
			}
		}
	}
}

// What was put is got, till so many others were used: one after the other, each put, or got, or both, in each way.
func TestWhatWasPutIsGotTillAsManyOthersWereUsed(t *testing.T) {
	others := manyTexts(cacheSize + 2)
	for ways := range 1 << len(others) {
		// Some of them were put ahead of it, so that they can be got behind it.
		var c []impl.Kept
		for i, text := range others[:cacheSize-1] {
			c = checkPut(t, c, text, boundsFor(int64(i))).Cache
		}
		c = checkPut(t, c, "it", boundsFor(70)).Cache
		for used, text := range others {
			if ways>>used&1 == 1 {
				c = checkPut(t, c, text, boundsFor(int64(used))).Cache
			} else if got := checkGet(t, c, text); got.Has {
				c = got.Cache
			} else {
				c = checkPut(t, got.Cache, text, boundsFor(int64(used))).Cache
			}
			it := checkGet(t, c, "it")
			if it.Has != (used+1 < cacheSize) {
				once(t, "behind %d others CacheGet(%s, it) is %s", used+1, cacheWords(c), cacheOutWords(it))
			}
			if it.Has && (it.Bounds != boundsFor(70) || it.Cache[len(it.Cache)-1].Text != "it") {
				once(t, "CacheGet(%s, it) is %s", cacheWords(c), cacheOutWords(it))
			}
		}
	}
}

// What is used over and over, by any call, counts but once; and what is asked for, and not there, is not used.
func TestOthersThatAreUsedAgainCountOnce(t *testing.T) {
	others := manyTexts(cacheSize - 1)
	for _, start := range [][]impl.Kept{nil, keptOf("x", "y"), keptOf("u", "v", "w", "x", "y", "z")} {
		c := checkPut(t, start, "it", boundsFor(70)).Cache
		for round := range 50 {
			for i, text := range others {
				if (round+i)%3 == 0 {
					c = checkGet(t, c, text).Cache
				} else {
					c = checkPut(t, c, text, boundsFor(int64(round))).Cache
				}
				c = checkGet(t, c, "not there").Cache
			}
		}
		if it := checkGet(t, c, "it"); !it.Has || it.Bounds != boundsFor(70) {
			once(t, "CacheGet(%s, it) is %s", cacheWords(c), cacheOutWords(it))
		}
		c = checkPut(t, c, "one more", boundsFor(71)).Cache
		if it := checkGet(t, c, "it"); it.Has {
			once(t, "CacheGet(%s, it) is %s", cacheWords(c), cacheOutWords(it))
		}
	}
}

// uses tells, of calls made one after the other, what was put of each text, and which were used since, apart from any list of them.
type uses struct {
	put   map[string]impl.Bounds
	since map[string]map[string]bool
}

func (u uses) use(text string) {
	for _, others := range u.since {
		others[text] = true
	}
	u.since[text] = map[string]bool{}
}

func (u uses) has(text string) bool {
	others, was := u.since[text]
	return was && len(others) < cacheSize
}

// check holds a Cache against what was used.
func (u uses) check(t *testing.T, c []impl.Kept, texts []string) {
	t.Helper()
	checkCache(t, c, true)
	count := 0
	for _, text := range texts {
		got := impl.CacheGet(c, text)
		if got.Has != u.has(text) {
			once(t, "%q was used ahead of %d others, but CacheGet(%s) is %s", text, len(u.since[text]), cacheWords(c), cacheOutWords(got))
		}
		if !got.Has {
			continue
		}
		count++
		if got.Bounds != u.put[text] {
			once(t, "of %q %v were put, but CacheGet(%s) is %s", text, u.put[text], cacheWords(c), cacheOutWords(got))
		}
		if at := placeInCache(c, text); at+len(u.since[text]) != len(c)-1 {
			once(t, "%q was used ahead of %d others, but stands at %d of %s", text, len(u.since[text]), at, cacheWords(c))
		}
	}
	if count != len(c) {
		once(t, "%d are got of %s", count, cacheWords(c))
	}
}

// Promise 11: in rows of many calls, each of the Cache that the one before handed back.
func TestRowsOfManyCalls(t *testing.T) {
	d := dice(46)
	told := map[string]int{}
	for range 1500 {
		texts := append(manyTexts(3+d.below(12)), nearTexts()[:d.below(8)]...)
		u := uses{put: map[string]impl.Bounds{}, since: map[string]map[string]bool{}}
		var c []impl.Kept
		for range 60 {
			text := texts[d.below(len(texts))]
			if d.below(4) == 0 && len(c) > 0 {
				text = c[d.below(len(c))].Text
			}
			if d.below(2) == 0 {
				got := checkGet(t, c, text)
				if got.Has {
					u.use(text)
				}
				told[fmt.Sprint("got ", got.Has)]++
				c = got.Cache
			} else {
				b := boundsFor(int64(d.below(1000)) - 500)
				told[fmt.Sprint("put ", u.has(text), len(c) == cacheSize)]++
				c = checkPut(t, c, text, b).Cache
				u.use(text)
				u.put[text] = b
			}
			if len(c) > 0 && u.has(text) && c[len(c)-1].Text != text {
				once(t, "%q was used last, but the Cache is %s", text, cacheWords(c))
			}
			u.check(t, c, texts)
		}
	}
	for _, what := range []string{"got true", "got false", "put true false", "put true true", "put false false", "put false true"} {
		if told[what] < 1000 {
			t.Errorf("told %v: too few to tell", told)
		}
	}
}

// thrownCache is mostly a right one.
func (d *dice) thrownCache() []impl.Kept {
	texts := append(manyTexts(8), nearTexts()...)
	var all []impl.Kept
	for range d.below(cacheSize + 2) {
		k := kept(texts[d.below(len(texts))], int64(d.below(100)))
		if placeInCache(all, k.Text) < 0 || d.below(10) == 0 {
			all = append(all, k)
		}
	}
	return all
}

func TestThrownCaches(t *testing.T) {
	d := dice(47)
	texts := append(manyTexts(8), nearTexts()...)
	told := map[string]int{}
	for range 30000 {
		c := d.thrownCache()
		checkCache(t, c, mayBeCache(c))
		text := texts[d.below(len(texts))]
		if d.below(2) == 0 && len(c) > 0 {
			text = c[d.below(len(c))].Text
		}
		got := checkGet(t, c, text)
		put := checkPut(t, c, text, boundsFor(int64(d.below(100))))
		if got.Code != put.Code {
			once(t, "CacheGet(%s, %.20q) is %s, but CachePut %s", cacheWords(c), text, cacheOutWords(got), cacheOutWords(put))
		}
		told[fmt.Sprint(got.Code, got.Has)]++
	}
	for _, what := range []string{"0 true", "0 false", "1 false"} {
		if told[what] < 1000 {
			t.Errorf("told %v: too few to tell", told)
		}
	}
}

// cacheCalls are the calls of chapter 14 that hand back a Cache.
func cacheCalls() map[string]func(c []impl.Kept, text string) impl.CacheOut {
	return map[string]func(c []impl.Kept, text string) impl.CacheOut{
		"CacheGet": impl.CacheGet,
		"CachePut": func(c []impl.Kept, text string) impl.CacheOut { return impl.CachePut(c, text, boundsFor(60)) },
	}
}

// copiedCache has texts of its own.
func copiedCache(c []impl.Kept) []impl.Kept {
	other := slices.Clone(c)
	for i := range other {
		other[i].Text = strings.Clone(other[i].Text)
	}
	return other
}

// cachesToHandIn are right ones of each length, and some that are not, with more behind their ends.
func cachesToHandIn() [][]impl.Kept {
	all := [][]impl.Kept{nil, keptOf("a", "a"), keptOf(manyTexts(cacheSize + 1)...), keptOf(manyTexts(impl.MaxList + 1)...)}
	for count := range cacheSize + 1 {
		all = append(all, keptOf(manyTexts(count)...))
	}
	for i, c := range all {
		all[i] = append(copiedCache(c), kept("behind", 98), kept("behind it", 99))[:len(c)]
	}
	return all
}

// textsToAsk are those of a Cache, some that are not in it, and one that is too long.
func textsToAsk(c []impl.Kept) []string {
	texts := []string{"", "z", "behind", strings.Repeat("a", impl.MaxBytes+1)}
	for _, k := range c[:min(len(c), cacheSize+1)] {
		texts = append(texts, strings.Clone(k.Text))
	}
	return texts
}

func TestCachesThatAreHandedInAreNotChanged(t *testing.T) {
	for _, c := range cachesToHandIn() {
		before := copiedCache(c[:cap(c)])
		for _, text := range textsToAsk(c) {
			asked := strings.Clone(text)
			for what, call := range cacheCalls() {
				call(c, text)
				impl.CacheRight(c)
				if !slices.Equal(before, c[:cap(c)]) || asked != text {
					t.Fatalf("%s of %.20q: %s became %s", what, text, cacheWords(before), cacheWords(c[:cap(c)]))
				}
			}
		}
	}
}

// An answer stays as it is whatever becomes of what was handed in, or of another answer; and what was handed in, whatever becomes of an answer.
func TestCachesThatAreHandedBackShareNothing(t *testing.T) {
	spoil := func(c []impl.Kept) {
		c = c[:cap(c)]
		for i := range c {
			c[i] = kept("spoilt", -1)
		}
	}
	told := 0
	for _, c := range cachesToHandIn() {
		for _, text := range textsToAsk(c) {
			for what, call := range cacheCalls() {
				handed := append(copiedCache(c), kept("behind", 98))[:len(c)]
				first, second := call(handed, text), call(handed, text)
				want := call(c, text)
				spoil(second.Cache)
				if !slices.Equal(handed, c) || handed[:len(c)+1][len(c)] != kept("behind", 98) || !sameCacheOut(first, want) {
					t.Fatalf("%s of %s: an answer shares its memory", what, cacheWords(c))
				}
				spoil(handed)
				if !sameCacheOut(first, want) {
					t.Fatalf("%s of %s is %s, when what was handed in was changed", what, cacheWords(c), cacheOutWords(first))
				}
				told += len(first.Cache)
			}
		}
	}
	if told < 300 {
		t.Errorf("only %d are told: too few to tell", told)
	}
}

func TestCachesThatAreHandedBackHoldNothingOfTheTextsHandedIn(t *testing.T) {
	told := 0
	for _, c := range cachesToHandIn() {
		for _, text := range textsToAsk(c) {
			for what, call := range cacheCalls() {
				handed := []string{text}
				for _, k := range c {
					handed = append(handed, k.Text)
				}
				for _, k := range call(c, text).Cache {
					for _, other := range handed {
						if within(k.Text, other) {
							t.Errorf("%s of %.20q: %q is a part of what was handed in", what, text, k.Text)
						}
					}
					told++
				}
			}
		}
	}
	if told < 300 {
		t.Errorf("only %d are told: too few to tell", told)
	}
}

func TestOfACacheTheSameIsToldAgain(t *testing.T) {
	type asked struct {
		c    []impl.Kept
		text string
	}
	var all []asked
	d := dice(48)
	for range 300 {
		c := d.thrownCache()
		texts := textsToAsk(c)
		all = append(all, asked{c, texts[d.below(len(texts))]})
	}
	for _, c := range cachesToHandIn() {
		for _, text := range textsToAsk(c) {
			all = append(all, asked{c, text})
		}
	}
	for what, call := range cacheCalls() {
		var first []impl.CacheOut
		var right []bool
		for _, a := range all {
			first, right = append(first, call(a.c, a.text)), append(right, impl.CacheRight(a.c))
		}
		for range 20 {
			for i, a := range slices.Backward(all) {
				if again := call(a.c, a.text); !sameCacheOut(first[i], again) || impl.CacheRight(a.c) != right[i] {
					once(t, "%s(%s, %.20q): got %s, then %s", what, cacheWords(a.c), a.text, cacheOutWords(first[i]), cacheOutWords(again))
				}
			}
		}
	}
}

// Whatever is handed in, every call answers.
func TestWhateverACacheIsAskedIsAnswered(t *testing.T) {
	inTime(t, "whatever", func() {
		lists := append(cachesToHandIn(), make([]impl.Kept, cacheSize), make([]impl.Kept, 1<<20))
		for _, c := range notRightCaches() {
			lists = append(lists, c)
		}
		for _, c := range lists {
			checkCache(t, c, mayBeCache(c))
			for _, text := range append(nearTexts(), strings.Repeat("\x00", 1<<22)) {
				checkGet(t, c, text)
				for _, n := range []int64{math.MinInt64, -1, 0, math.MaxInt64 - 5000} {
					checkPut(t, c, text, boundsFor(n))
				}
			}
		}
	})
}
