package tests

import (
	"math"
	"math/big"
	"slices"
	"strings"
	"testing"

	"loop.example/g00836/impl"
)

// rising are numbers of the whole range of int64, each greater than the one ahead of it.
func rising() []int64 {
	all := []int64{
		-impl.Top - 1, -impl.Top, -impl.Top + 1,
		impl.Top/2 - 1, impl.Top / 2, impl.Top/2 + 1,
		impl.Top - 2, impl.Top - 1, impl.Top, impl.Top + 1, 2 * impl.Top, impl.Top * impl.Top,
		31622, 31623, 25000, 40000, 3, 7, 10, 99999999, 100000000,
		math.MaxInt64, math.MaxInt64 - 1, math.MinInt64, math.MinInt64 + 1,
	}
	for shift := range 63 {
		power := int64(1) << shift
		all = append(all, power-1, power, power+1, -power-1, -power, -power+1)
	}
	slices.Sort(all)
	return slices.Compact(all)
}

// cut is the number that the document makes of n: 0 of less than 0, Top of more.
func cut(n *big.Int) *big.Int {
	top := big.NewInt(impl.Top)
	if n.Sign() < 0 {
		return big.NewInt(0)
	}
	if n.Cmp(top) > 0 {
		return top
	}
	return n
}

// exactly reckons without a limit, of numbers that are cut first, and cuts the result.
func exactly(join func(a, b *big.Int) *big.Int, a, b int64) int64 {
	return cut(join(cut(big.NewInt(a)), cut(big.NewInt(b)))).Int64()
}

type satCase struct {
	name string
	got  func(a, b int64) int64
	want func(a, b *big.Int) *big.Int
}

func satCases() []satCase {
	return []satCase{
		{"SatAdd", impl.SatAdd, func(a, b *big.Int) *big.Int { return new(big.Int).Add(a, b) }},
		{"SatMul", impl.SatMul, func(a, b *big.Int) *big.Int { return new(big.Int).Mul(a, b) }},
		{"SatMax", impl.SatMax, func(a, b *big.Int) *big.Int {
			if a.Cmp(b) > 0 {
				return a
			}
			return b
		}},
	}
}

func TestSatOfNamedNumbers(t *testing.T) {
	const top, most, least = impl.Top, math.MaxInt64, math.MinInt64
	cases := []struct {
		a, b, sum, product, greater int64
	}{
		{0, 0, 0, 0, 0}, {0, 1, 1, 0, 1}, {1, 1, 2, 1, 1}, {2, 3, 5, 6, 3},
		{-1, 0, 0, 0, 0}, {-1, 1, 1, 0, 1}, {-5, 2, 2, 0, 2}, {-2, -3, 0, 0, 0},
		{top - 1, 0, top - 1, 0, top - 1}, {top - 1, 1, top, top - 1, top - 1}, {top - 1, 2, top, top, top - 1},
		{top, 0, top, 0, top}, {top, 1, top, top, top}, {top, -1, top, 0, top}, {top, top, top, top, top},
		{top + 1, 0, top, 0, top}, {top + 1, -1, top, 0, top},
		{500000000, 499999999, 999999999, top, 500000000}, {500000000, 500000000, top, top, 500000000},
		{40000, 25000, 65000, top, 40000}, {31622, 31622, 63244, 999950884, 31622}, {31623, 31623, 63246, top, 31623},
		{most, most, top, top, top}, {most, 1, top, top, top}, {most, 2, top, top, top}, {most, 0, top, 0, top},
		{least, least, 0, 0, 0}, {least, -1, 0, 0, 0}, {least, 7, 7, 0, 7}, {least, most, top, 0, top},
	}
	for _, c := range cases {
		got := []int64{impl.SatAdd(c.a, c.b), impl.SatMul(c.a, c.b), impl.SatMax(c.a, c.b)}
		if want := []int64{c.sum, c.product, c.greater}; !slices.Equal(got, want) {
			t.Errorf("%d and %d: got %v, want %v", c.a, c.b, got, want)
		}
	}
}

func TestSatOverAllOfInt64(t *testing.T) {
	all := rising()
	for _, c := range satCases() {
		for _, a := range all {
			for i, b := range all {
				got := c.got(a, b)
				if want := exactly(c.want, a, b); got != want {
					t.Errorf("%s(%d, %d): got %d, want %d", c.name, a, b, got, want)
				}
				if got < 0 || got > impl.Top {
					t.Errorf("%s(%d, %d): %d is not 0 to Top", c.name, a, b, got)
				}
				if turned := c.got(b, a); turned != got {
					t.Errorf("%s(%d, %d) is %d, turned round %d", c.name, a, b, got, turned)
				}
				if i > 0 && got < c.got(a, all[i-1]) {
					t.Errorf("%s(%d, %d) is less than of %d", c.name, a, b, all[i-1])
				}
			}
		}
	}
}

func TestSatGroupedInWhateverOrder(t *testing.T) {
	few := []int64{math.MinInt64, -1, 0, 1, 2, 3, 31623, impl.Top / 2, impl.Top - 1, impl.Top, impl.Top + 1, math.MaxInt64}
	for _, c := range satCases() {
		for _, a := range few {
			for _, b := range few {
				for _, d := range few {
					first, last := c.got(c.got(a, b), d), c.got(a, c.got(b, d))
					if first != last {
						t.Errorf("%s of %d, %d, %d: %d or %d", c.name, a, b, d, first, last)
					}
				}
			}
		}
	}
}

// times is a list of so many of this number.
func times(count int, n int64) []int64 {
	return slices.Repeat([]int64{n}, count)
}

func TestSatSum(t *testing.T) {
	cases := []struct {
		name string
		list []int64
		want int64
	}{
		{"nil", nil, 0},
		{"none", []int64{}, 0},
		{"one", []int64{7}, 7},
		{"one below 0", []int64{-7}, 0},
		{"one Top", []int64{impl.Top}, impl.Top},
		{"one above Top", []int64{impl.Top + 1}, impl.Top},
		{"the greatest", []int64{math.MaxInt64}, impl.Top},
		{"the least", []int64{math.MinInt64}, 0},
		{"some", []int64{1, 2, 3}, 6},
		{"below 0 counts as 0", []int64{5, -5, 6, math.MinInt64}, 11},
		{"below 0 takes nothing from Top", []int64{impl.Top + 5, -5}, impl.Top},
		{"below 0 takes nothing ahead", []int64{-5, impl.Top - 1}, impl.Top - 1},
		{"one less than Top", []int64{impl.Top - 2, 1}, impl.Top - 1},
		{"just Top", []int64{impl.Top - 1, 1}, impl.Top},
		{"past Top", []int64{impl.Top - 1, 2}, impl.Top},
		{"far past Top", []int64{math.MaxInt64, math.MaxInt64, math.MaxInt64}, impl.Top},
		{"399", times(impl.MaxList-1, 1), 399},
		{"MaxList", times(impl.MaxList, 1), 400},
		{"MaxList, just Top", times(impl.MaxList, impl.Top/impl.MaxList), impl.Top},
		{"MaxList, past Top", times(impl.MaxList, impl.Top/impl.MaxList+1), impl.Top},
		{"MaxList of the greatest", times(impl.MaxList, math.MaxInt64), impl.Top},
		{"one more than MaxList", times(impl.MaxList+1, 1), 0},
		{"one more than MaxList of Top", times(impl.MaxList+1, impl.Top), 0},
		{"many more than MaxList", times(10*impl.MaxList, 1), 0},
	}
	for _, c := range cases {
		before := slices.Clone(c.list)
		if got := impl.SatSum(c.list); got != c.want {
			t.Errorf("SatSum of %s: got %d, want %d", c.name, got, c.want)
		}
		if !slices.Equal(before, c.list) {
			t.Errorf("SatSum of %s changed what was handed in", c.name)
		}
	}
}

func TestSatSumIsEachAdded(t *testing.T) {
	all := rising()
	for start := range all {
		for size := range min(len(all)-start, 12) {
			list := slices.Clone(all[start : start+size])
			want := int64(0)
			for _, n := range list {
				want = impl.SatAdd(want, n)
			}
			got := impl.SatSum(list)
			slices.Reverse(list)
			if turned := impl.SatSum(list); got != want || turned != want {
				t.Errorf("SatSum of %v: got %d, turned round %d, want %d", list, got, turned, want)
			}
			if more := impl.SatSum(append(list, 1)); more < got {
				t.Errorf("SatSum of %v and 1: %d is less than %d", list, more, got)
			}
		}
	}
}

func TestQuotedLen(t *testing.T) {
	cases := []struct {
		text string
		want int64
	}{
		{"", 2}, {"a", 3}, {"abc", 5}, {"\x00", 3}, {"\xff\xfe", 4}, {"\"", 3}, {"ä", 4},
		{strings.Repeat("x", impl.MaxBytes-1), 8001},
		{strings.Repeat("x", impl.MaxBytes), 8002},
		{strings.Repeat("x", impl.MaxBytes+1), 0},
		{strings.Repeat("x", 10*impl.MaxBytes), 0},
	}
	for _, c := range cases {
		if got := impl.QuotedLen(c.text); got != c.want {
			t.Errorf("QuotedLen of %d bytes: got %d, want %d", len(c.text), got, c.want)
		}
	}
}
