package tests

import (
	"fmt"
	"math"
	"slices"
	"testing"

	"loop.example/g00836/impl"
)

// The greatest numbers of a purse.
const (
	greatestRate  = 1000
	greatestBurst = 10000
	greatestTime  = 1000000
)

// outOfAll are numbers that nothing of a purse may be, but for 0, some of which look right if they are cut to 32 bits.
var outOfAll = []int64{math.MinInt64, math.MinInt64 + 1, math.MinInt64 + 5, -1<<32 + 5, -1 << 32, -1000, -1, 0, 1 << 32, 1<<32 + 5, math.MaxInt64 - 5, math.MaxInt64 - 1, math.MaxInt64}

// purseField is a field of a purse.
type purseField struct {
	name string
	most int64
	at   func(p *impl.Purse) *int64
}

func purseFields() []purseField {
	return []purseField{
		{"Rate", greatestRate, func(p *impl.Purse) *int64 { return &p.Rate }},
		{"Burst", greatestBurst, func(p *impl.Purse) *int64 { return &p.Burst }},
		{"Left", greatestBurst, func(p *impl.Purse) *int64 { return &p.Left }},
		{"At", greatestTime, func(p *impl.Purse) *int64 { return &p.At }},
	}
}

func purse(rate int64, burst int64, left int64, at int64) impl.Purse {
	return impl.Purse{Rate: rate, Burst: burst, Left: left, At: at}
}

// from0 tells whether n is 0 to most.
func from0(n int64, most int64) bool {
	return uint64(n) <= uint64(most)
}

// mayBePurse tells whether a purse is right, apart from the program.
func mayBePurse(p impl.Purse) bool {
	return from0(p.Rate, greatestRate) && from0(p.Burst, greatestBurst) && from0(p.Left, p.Burst) && from0(p.At, greatestTime)
}

// inPurse is how much a purse has then: full, where so much time went by as the rest takes to come back.
func inPurse(p impl.Purse, now int64) int64 {
	if !mayBePurse(p) || !from0(now, greatestTime) || now < p.At {
		return -1
	}
	if p.Rate == 0 {
		return p.Left
	}
	rest, gone := p.Burst-p.Left, now-p.At
	if gone >= (rest+p.Rate-1)/p.Rate {
		return p.Burst
	}
	return p.Left + gone*p.Rate
}

// askedOfPurse is what a purse is to tell.
func askedOfPurse(p impl.Purse, cost int64, now int64) impl.PurseOut {
	if !mayBePurse(p) || cost < 0 || !from0(now, greatestTime) {
		return impl.PurseOut{Code: impl.ErrForm}
	}
	there := inPurse(p, now)
	switch {
	case there == -1:
		return impl.PurseOut{Code: impl.ErrRange}
	case there >= cost:
		return impl.PurseOut{Purse: purse(p.Rate, p.Burst, there-cost, now), Yes: true}
	}
	return impl.PurseOut{Purse: purse(p.Rate, p.Burst, there, now)}
}

func checkPurse(t *testing.T, p impl.Purse, want bool) {
	t.Helper()
	if got := impl.PurseRight(p); got != want || mayBePurse(p) != want {
		once(t, "PurseRight(%+v) is %t, want %t", p, got, want)
	}
}

func checkPurseAt(t *testing.T, p impl.Purse, now int64, want int64) {
	t.Helper()
	if got := impl.PurseAt(p, now); got != want || inPurse(p, now) != want {
		once(t, "PurseAt(%+v, %d) is %d, want %d", p, now, got, want)
	}
}

// checkPurseAsk holds what is told against what is to be told, and against what PurseAt tells ahead of it and behind it.
func checkPurseAsk(t *testing.T, p impl.Purse, cost int64, now int64) impl.PurseOut {
	t.Helper()
	had := impl.PurseAt(p, now)
	got := impl.PurseAsk(p, cost, now)
	if want := askedOfPurse(p, cost, now); got != want {
		once(t, "PurseAsk(%+v, %d, %d) is %+v, want %+v", p, cost, now, got, want)
	}
	if (got.Code == impl.OK) != (had >= 0 && cost >= 0) {
		once(t, "PurseAsk(%+v, %d, %d) is %+v, but PurseAt is %d", p, cost, now, got, had)
	}
	if got.Code != impl.OK {
		return got
	}
	gave := int64(0)
	if got.Yes {
		gave = cost
	}
	if !impl.PurseRight(got.Purse) || impl.PurseAt(got.Purse, now) != got.Purse.Left || got.Purse.Left+gave != had {
		once(t, "PurseAsk(%+v, %d, %d) hands back %+v, of %d", p, cost, now, got, had)
	}
	return got
}

// wrongPurses are those that are not right, in each way, and in two at once.
func wrongPurses() map[string]impl.Purse {
	all := map[string]impl.Purse{}
	rights := []impl.Purse{{}, purse(2, 5, 1, 10), purse(greatestRate, greatestBurst, greatestBurst, greatestTime), purse(1, 1, 0, 1), purse(0, greatestBurst, 0, 0)}
	for i, right := range rights {
		for _, f := range purseFields() {
			for _, n := range append([]int64{-1, f.most + 1}, outOfAll...) {
				p := right
				*f.at(&p) = n
				if n == 0 {
					continue
				}
				all[fmt.Sprint(i, ": ", f.name, " ", n)] = p
				for _, other := range purseFields() {
					for _, m := range []int64{-1, other.most + 1, math.MinInt64, math.MaxInt64} {
						if other.name != f.name {
							both := p
							*other.at(&both) = m
							all[fmt.Sprint(i, ": ", f.name, " ", n, ", ", other.name, " ", m)] = both
						}
					}
				}
			}
		}
		if right.Left < right.Burst {
			continue
		}
		above, below := right, right
		above.Left++
		all[fmt.Sprint(i, ": Left one above Burst")] = above
		if below.Burst > 0 {
			below.Burst--
			all[fmt.Sprint(i, ": Burst one below Left")] = below
		}
	}
	return all
}

func TestPurseRightOfNamedPurses(t *testing.T) {
	const most, least = math.MaxInt64, math.MinInt64
	for p, want := range map[impl.Purse]bool{
		{}:                                 true,
		purse(2, 5, 1, 10):                 true,
		purse(-1, 5, 1, 10):                false,
		purse(0, 5, 1, 10):                 true,
		purse(1000, 5, 1, 10):              true,
		purse(1001, 5, 1, 10):              false,
		purse(2, -1, 0, 10):                false,
		purse(2, -1, -1, 10):               false,
		purse(2, 0, 0, 10):                 true,
		purse(2, 10000, 1, 10):             true,
		purse(2, 10001, 1, 10):             false,
		purse(2, 5, -1, 10):                false,
		purse(2, 5, 0, 10):                 true,
		purse(2, 5, 5, 10):                 true,
		purse(2, 5, 6, 10):                 false,
		purse(2, 5, 1, -1):                 false,
		purse(2, 5, 1, 0):                  true,
		purse(2, 5, 1, 1000000):            true,
		purse(2, 5, 1, 1000001):            false,
		purse(2, 0, 1, 10):                 false,
		purse(2, 0, -1, 10):                false,
		purse(2, 1, 1, 10):                 true,
		purse(2, 1, 2, 10):                 false,
		purse(2, 10000, 9999, 10):          true,
		purse(2, 10000, 10000, 10):         true,
		purse(2, 10000, 10001, 10):         false,
		purse(2, 10001, 10001, 10):         false,
		purse(least, 5, 1, 10):             false,
		purse(most, 5, 1, 10):              false,
		purse(2, least, 1, 10):             false,
		purse(2, most, 1, 10):              false,
		purse(2, 5, least, 10):             false,
		purse(2, 5, most, 10):              false,
		purse(2, 5, 1, least):              false,
		purse(2, 5, 1, most):               false,
		purse(2, most, most, 10):           false,
		purse(2, least, least, 10):         false,
		purse(1000, 10000, 10000, 1000000): true,
	} {
		checkPurse(t, p, want)
	}
}

// Of each field each limit, and one beside it, beside others that are at their limits too.
func TestPurseRightAtEachLimit(t *testing.T) {
	told := map[bool]int{}
	for _, right := range []impl.Purse{{}, purse(2, 5, 1, 10), purse(greatestRate, greatestBurst, greatestBurst, greatestTime), purse(1, greatestBurst, 0, 5)} {
		for i, f := range purseFields() {
			numbers := slices.Concat(oneAside(0), oneAside(f.most), oneAside(right.Burst), oneAside(right.Left), oneAside(greatestRate), outOfAll)
			for _, n := range numbers {
				p := right
				*f.at(&p) = n
				want := n >= 0 && n <= f.most && p.Left <= p.Burst
				checkPurse(t, p, want)
				told[want]++
				// What is not right of another one does not make up for it.
				for j, other := range purseFields() {
					for _, m := range []int64{-1, other.most + 1, math.MinInt64, math.MaxInt64} {
						if both := p; i != j {
							*other.at(&both) = m
							checkPurse(t, both, false)
						}
					}
				}
			}
		}
	}
	if told[true] < 100 || told[false] < 100 {
		t.Errorf("only %d are right, and %d are not: too few to tell", told[true], told[false])
	}
}

func TestLeftIsAtMostBurst(t *testing.T) {
	for _, burst := range []int64{0, 1, 2, 9999, greatestBurst} {
		for left := int64(-2); left <= greatestBurst+2; left++ {
			checkPurse(t, purse(1, burst, left, 1), left >= 0 && left <= burst)
		}
	}
}

func checkPurseNew(t *testing.T, rate int64, burst int64, now int64) {
	t.Helper()
	want := impl.PurseOut{Code: impl.ErrForm}
	if from0(rate, greatestRate) && from0(burst, greatestBurst) && from0(now, greatestTime) {
		want = impl.PurseOut{Purse: purse(rate, burst, burst, now)}
	}
	got := impl.PurseNew(rate, burst, now)
	if got != want || !impl.PurseRight(got.Purse) {
		once(t, "PurseNew(%d, %d, %d) is %+v, want %+v", rate, burst, now, got, want)
	}
	if got.Code == impl.OK && impl.PurseAt(got.Purse, now) != burst {
		once(t, "PurseNew(%d, %d, %d) is %+v, which has not all of it", rate, burst, now, got)
	}
}

func TestPurseNewOfNamedNumbers(t *testing.T) {
	const most, least = math.MaxInt64, math.MinInt64
	form := impl.PurseOut{Code: 1}
	for in, want := range map[[3]int64]impl.PurseOut{
		{0, 0, 0}:              {},
		{2, 5, 10}:             {Purse: purse(2, 5, 5, 10)},
		{1000, 10000, 1000000}: {Purse: purse(1000, 10000, 10000, 1000000)},
		{0, 10000, 1000000}:    {Purse: purse(0, 10000, 10000, 1000000)},
		{1000, 0, 1000000}:     {Purse: purse(1000, 0, 0, 1000000)},
		{1000, 10000, 0}:       {Purse: purse(1000, 10000, 10000, 0)},
		{-1, 5, 10}:            form,
		{1001, 5, 10}:          form,
		{2, -1, 10}:            form,
		{2, 10001, 10}:         form,
		{2, 5, -1}:             form,
		{2, 5, 1000001}:        form,
		{least, 5, 10}:         form,
		{most, 5, 10}:          form,
		{2, least, 10}:         form,
		{2, most, 10}:          form,
		{2, 5, least}:          form,
		{2, 5, most}:           form,
		{least, least, least}:  form,
		{most, most, most}:     form,
		{least, most, 10}:      form,
		{most, 5, least}:       form,
		{2, least, most}:       form,
		{1<<32 + 2, 5, 10}:     form,
		{2, 1<<32 + 5, 10}:     form,
		{2, 5, 1<<32 + 10}:     form,
	} {
		if got := impl.PurseNew(in[0], in[1], in[2]); got != want {
			t.Errorf("PurseNew(%v) is %+v, want %+v", in, got, want)
		}
		checkPurseNew(t, in[0], in[1], in[2])
	}
}

func TestPurseNewAtEachLimit(t *testing.T) {
	around := func(most int64) []int64 {
		return slices.Concat(oneAside(0), oneAside(most), []int64{2, most / 2, most * 2}, outOfAll)
	}
	for _, rate := range around(greatestRate) {
		for _, burst := range around(greatestBurst) {
			for _, now := range around(greatestTime) {
				checkPurseNew(t, rate, burst, now)
			}
		}
	}
}

func TestPurseAtOfNamedPurses(t *testing.T) {
	const most, least = math.MaxInt64, math.MinInt64
	cases := []struct {
		p    impl.Purse
		want map[int64]int64
	}{
		{purse(2, 5, 1, 10), map[int64]int64{10: 1, 11: 3, 12: 5, 13: 5, 99: 5, 999999: 5, 1000000: 5, 9: -1, 0: -1, -1: -1, 1000001: -1, least: -1, most: -1}},
		{purse(3, 10, 0, 0), map[int64]int64{0: 0, 1: 3, 2: 6, 3: 9, 4: 10, 5: 10, 1000000: 10, -1: -1}},
		{purse(2, 10, 0, 7), map[int64]int64{7: 0, 11: 8, 12: 10, 13: 10, 6: -1}},
		{purse(0, 5, 3, 0), map[int64]int64{0: 3, 1: 3, 1000000: 3, 1000001: -1}},
		{purse(0, 5, 0, 0), map[int64]int64{0: 0, 1: 0, 1000000: 0}},
		{purse(0, 5, 5, 0), map[int64]int64{0: 5, 1: 5, 1000000: 5}},
		{purse(1, 10000, 0, 0), map[int64]int64{0: 0, 1: 1, 9999: 9999, 10000: 10000, 10001: 10000, 1000000: 10000}},
		{purse(1, 10000, 10000, 0), map[int64]int64{0: 10000, 1: 10000, 1000000: 10000}},
		{purse(1000, 10000, 0, 0), map[int64]int64{0: 0, 1: 1000, 9: 9000, 10: 10000, 11: 10000, 1000000: 10000}},
		{purse(1000, 10000, 1, 0), map[int64]int64{0: 1, 9: 9001, 10: 10000, 1000000: 10000}},
		{purse(1000, 10000, 9999, 0), map[int64]int64{0: 9999, 1: 10000, 2: 10000}},
		{purse(1000, 10000, 10000, 0), map[int64]int64{0: 10000, 1: 10000, 1000000: 10000}},
		{purse(1000, 0, 0, 0), map[int64]int64{0: 0, 1: 0, 1000000: 0}},
		{purse(1000, 1, 0, 0), map[int64]int64{0: 0, 1: 1, 1000000: 1}},
		{purse(1000, 10000, 5, 999999), map[int64]int64{999998: -1, 999999: 5, 1000000: 1005, 1000001: -1}},
		{purse(1000, 10000, 5, 1000000), map[int64]int64{999999: -1, 1000000: 5, 1000001: -1, most: -1, least: -1}},
		{impl.Purse{}, map[int64]int64{-1: -1, 0: 0, 1: 0, 1000000: 0, 1000001: -1}},
	}
	for _, c := range cases {
		for now, want := range c.want {
			checkPurseAt(t, c.p, now, want)
		}
	}
}

// rightPurses are those of many rates, of many sizes, with much and little left.
func rightPurses() []impl.Purse {
	var all []impl.Purse
	for _, rate := range []int64{0, 1, 2, 3, 7, 333, 999, greatestRate} {
		for _, burst := range []int64{0, 1, 2, 10, 999, 1000, 1001, 9999, greatestBurst} {
			for _, left := range []int64{0, 1, burst / 2, burst - 1, burst} {
				for _, at := range []int64{0, 1, 10, 500000, greatestTime - 1, greatestTime} {
					if left >= 0 && left <= burst {
						all = append(all, purse(rate, burst, left, at))
					}
				}
			}
		}
	}
	return all
}

// timesOf are those at which something changes of a purse, and those that are none.
func timesOf(p impl.Purse) []int64 {
	full := p.At
	if p.Rate > 0 {
		full += (p.Burst - p.Left) / p.Rate
	}
	return slices.Concat(oneAside(p.At), oneAside(full), []int64{full + 2, p.At + 3, p.At + 10000, p.At + 1<<32}, oneAside(0), oneAside(greatestTime), outOfAll)
}

func TestPurseAtOfEachTime(t *testing.T) {
	for _, p := range rightPurses() {
		for _, now := range timesOf(p) {
			checkPurseAt(t, p, now, inPurse(p, now))
			if got := impl.PurseAt(p, now); got > p.Burst || got >= 0 && got < p.Left {
				once(t, "PurseAt(%+v, %d) is %d", p, now, got)
			}
		}
	}
}

// Time by time so much comes back, until there is as much as may be.
func TestWhatComesBackInEachTime(t *testing.T) {
	for _, p := range []impl.Purse{purse(0, 10, 4, 0), purse(1, 10000, 0, 3), purse(1, 10000, 9999, 0), purse(3, 10000, 1, 989000), purse(7, 9999, 2, 100), purse(1000, 10000, 999, 0), purse(999, 10000, 0, 0), purse(1000, 1, 0, 0), purse(5, 0, 0, 0)} {
		want := p.Left
		for now := p.At; now <= min(p.At+11000, greatestTime); now++ {
			checkPurseAt(t, p, now, want)
			want = min(want+p.Rate, p.Burst)
		}
	}
}

func TestOfNoPurseNothingIsTold(t *testing.T) {
	all := wrongPurses()
	if len(all) < 500 {
		t.Fatalf("only %d are not right: too few to tell", len(all))
	}
	for what, p := range all {
		checkPurse(t, p, false)
		times := slices.Concat(oneAside(p.At), []int64{5, 11, 500000}, oneAside(0), oneAside(greatestTime), outOfAll)
		for _, now := range times {
			if got := impl.PurseAt(p, now); got != -1 {
				once(t, "%s: PurseAt(%+v, %d) is %d", what, p, now, got)
			}
			for _, cost := range []int64{0, 1, 5, p.Left, p.Burst, -1, math.MinInt64, math.MaxInt64} {
				if got := impl.PurseAsk(p, cost, now); got != (impl.PurseOut{Code: impl.ErrForm}) {
					once(t, "%s: PurseAsk(%+v, %d, %d) is %+v", what, p, cost, now, got)
				}
			}
		}
	}
}

func TestPurseAskOfNamedPurses(t *testing.T) {
	const most, least = math.MaxInt64, math.MinInt64
	form, early := impl.PurseOut{Code: 1}, impl.PurseOut{Code: 8}
	yes := func(p impl.Purse) impl.PurseOut { return impl.PurseOut{Purse: p, Yes: true} }
	no := func(p impl.Purse) impl.PurseOut { return impl.PurseOut{Purse: p} }
	p, right := purse(2, 5, 1, 10), purse(1000, 10000, 10000, 1000000)
	cases := []struct {
		p         impl.Purse
		cost, now int64
		want      impl.PurseOut
	}{
		{p, 0, 10, yes(purse(2, 5, 1, 10))},
		{p, 1, 10, yes(purse(2, 5, 0, 10))},
		{p, 2, 10, no(purse(2, 5, 1, 10))},
		{p, most, 10, no(purse(2, 5, 1, 10))},
		{p, 0, 11, yes(purse(2, 5, 3, 11))},
		{p, 3, 11, yes(purse(2, 5, 0, 11))},
		{p, 4, 11, no(purse(2, 5, 3, 11))},
		{p, most, 11, no(purse(2, 5, 3, 11))},
		{p, 5, 12, yes(purse(2, 5, 0, 12))},
		{p, 6, 12, no(purse(2, 5, 5, 12))},
		{p, 5, 13, yes(purse(2, 5, 0, 13))},
		{p, 6, 13, no(purse(2, 5, 5, 13))},
		{p, 4, 1000000, yes(purse(2, 5, 1, 1000000))},
		{p, 6, 1000000, no(purse(2, 5, 5, 1000000))},
		{p, most - 1, 1000000, no(purse(2, 5, 5, 1000000))},
		{p, 0, 9, early},
		{p, 1, 9, early},
		{p, 2, 9, early},
		{p, 6, 0, early},
		{p, most, 9, early},
		{p, -1, 10, form},
		{p, least, 10, form},
		{p, -1, 9, form},
		{p, least, 9, form},
		{p, 1, -1, form},
		{p, 1, least, form},
		{p, 1, 1000001, form},
		{p, 1, most, form},
		{p, -1, -1, form},
		{p, most, -1, form},
		{p, most, 1000001, form},
		{right, 0, 1000000, yes(right)},
		{right, 10000, 1000000, yes(purse(1000, 10000, 0, 1000000))},
		{right, 10001, 1000000, no(right)},
		{right, 1, 999999, early},
		{right, 10001, 999999, early},
		{right, -1, 999999, form},
		{right, 1, 1000001, form},
		{right, 1, -1, form},
		{impl.Purse{}, 0, 0, yes(impl.Purse{})},
		{impl.Purse{}, 1, 0, no(impl.Purse{})},
		{impl.Purse{}, 0, 7, yes(purse(0, 0, 0, 7))},
		{impl.Purse{}, 1, 7, no(purse(0, 0, 0, 7))},
		{purse(1000, 0, 0, 0), 1, 7, no(purse(1000, 0, 0, 7))},
		{purse(1000, 10000, 0, 0), 10000, 10, yes(purse(1000, 10000, 0, 10))},
		{purse(1000, 10000, 0, 0), 10000, 9, no(purse(1000, 10000, 9000, 9))},
		{purse(2, 5, 6, 10), 1, 10, form},
		{purse(2, 5, 6, 10), 1, 9, form},
		{purse(2, 5, -1, 10), 0, 10, form},
		{purse(-1, 5, 1, 10), 1, 9, form},
		{purse(1001, 5, 1, 10), 1, 10, form},
		{purse(2, -1, 0, 10), 0, 10, form},
		{purse(2, 10001, 1, 10), 1, 10, form},
		{purse(2, 5, 1, -1), 1, 10, form},
		{purse(2, 5, 1, 1000001), 1, 10, form},
	}
	for _, c := range cases {
		if got := impl.PurseAsk(c.p, c.cost, c.now); got != c.want {
			t.Errorf("PurseAsk(%+v, %d, %d) is %+v, want %+v", c.p, c.cost, c.now, got, c.want)
		}
		checkPurseAsk(t, c.p, c.cost, c.now)
	}
}

func TestPurseAskOfEachTimeAndCost(t *testing.T) {
	told := map[[2]bool]int{}
	for _, p := range rightPurses() {
		for _, now := range timesOf(p) {
			had := inPurse(p, now)
			for _, cost := range slices.Concat(oneAside(had), oneAside(0), []int64{p.Left, p.Burst, p.Burst + 1, greatestBurst + 1}, outOfAll) {
				got := checkPurseAsk(t, p, cost, now)
				told[[2]bool{got.Code == impl.OK, got.Yes}]++
			}
		}
	}
	if len(told) != 3 || min(told[[2]bool{true, true}], told[[2]bool{true, false}], told[[2]bool{false, false}]) < 10000 {
		t.Errorf("told %v: too few to tell", told)
	}
}

// What is told first where more than one thing is wrong: each that is not right, then a time that is too early, and the cost last.
func TestFaultsOfAPurseInOrder(t *testing.T) {
	for _, p := range rightPurses() {
		for _, cost := range []int64{0, p.Left, p.Burst + 1, math.MaxInt64} {
			for _, now := range []int64{0, 1, 2, p.At / 2, p.At - 2, p.At - 1} {
				if now < 0 || now >= p.At {
					continue
				}
				if got := impl.PurseAsk(p, cost, now); got != (impl.PurseOut{Code: impl.ErrRange}) {
					once(t, "PurseAsk(%+v, %d, %d) is %+v", p, cost, now, got)
				}
				for _, below := range []int64{-1, -cost - 1, math.MinInt64} {
					if got := impl.PurseAsk(p, below, now); got != (impl.PurseOut{Code: impl.ErrForm}) {
						once(t, "PurseAsk(%+v, %d, %d) is %+v", p, below, now, got)
					}
				}
			}
			for _, never := range []int64{-1, -p.At - 1, math.MinInt64, greatestTime + 1, 2 * greatestTime, math.MaxInt64} {
				for _, n := range []int64{cost, -1, math.MinInt64} {
					if got := impl.PurseAsk(p, n, never); got != (impl.PurseOut{Code: impl.ErrForm}) {
						once(t, "PurseAsk(%+v, %d, %d) is %+v", p, n, never, got)
					}
				}
			}
		}
	}
}

// given is what a purse gave, how much it had ahead of it, and when.
type given struct {
	had, gave, now int64
}

// checkGiven holds what one purse gave between each two times against what it had at most, and what came back.
func checkGiven(t *testing.T, p impl.Purse, row []given) {
	t.Helper()
	for i, first := range row {
		all := int64(0)
		for _, last := range row[i:] {
			all += last.gave
			back := p.Rate * (last.now - first.now)
			if all > p.Burst+back || all > first.had+back {
				once(t, "%+v gave %d from %d to %d, when it had %d first", p, all, first.now, last.now, first.had)
			}
		}
	}
}

// thrownPurse is a right one.
func (d *dice) thrownPurse() impl.Purse {
	rates, bursts := []int{0, 1, 5, 40, greatestRate}, []int{0, 1, 10, 100, 1000, greatestBurst}
	rate := d.below(rates[d.below(len(rates))] + 1)
	burst := d.below(bursts[d.below(len(bursts))] + 1)
	if d.below(3) == 0 {
		burst = bursts[d.below(len(bursts))]
	}
	return purse(int64(rate), int64(burst), int64(d.below(burst+1)), int64(d.below(greatestTime+1)))
}

// thrownCost is often about as much as there is, and seldom none that may be.
func (d *dice) thrownCost(there int64, burst int64) int64 {
	switch d.below(12) {
	case 0, 1, 2:
		return max(there, 0)
	case 3:
		return there + 1
	case 4:
		return 0
	case 5:
		return burst + int64(d.below(3))
	case 6:
		return outOfAll[d.below(len(outOfAll))]
	}
	return int64(d.below(int(burst) + 1))
}

// thrownTime is mostly the same one, or one soon behind it, and seldom too early, or none.
func (d *dice) thrownTime(at int64) int64 {
	switch d.below(20) {
	case 0:
		return at - 1
	case 1:
		return int64(d.below(greatestTime + 1))
	case 2:
		return outOfAll[d.below(len(outOfAll))]
	case 3:
		return at + int64(d.below(20000))
	case 4, 5, 6, 7, 8:
		return at + int64(d.below(5))
	case 9, 10, 11:
		return at + 1
	}
	return at
}

// Promise 10: in rows of many asks of one purse, each of what the one before handed back.
func TestAPurseGivesNoMoreThanItHadAndWhatComesBack(t *testing.T) {
	d := dice(42)
	told := map[string]int{}
	for range 4000 {
		first := d.thrownPurse()
		if d.below(3) == 0 {
			first = impl.PurseNew(first.Rate, first.Burst, first.At).Purse
		}
		if d.below(4) > 0 {
			first.At /= 100
		}
		p := first
		var row []given
		for range 80 {
			now := d.thrownTime(p.At)
			had := impl.PurseAt(p, now)
			cost := d.thrownCost(had, p.Burst)
			got := checkPurseAsk(t, p, cost, now)
			if got.Code != impl.OK {
				told[fmt.Sprint("code ", got.Code)]++
				continue
			}
			if got.Purse.Rate != first.Rate || got.Purse.Burst != first.Burst {
				once(t, "%+v became %+v", first, got.Purse)
			}
			told[fmt.Sprint("yes ", got.Yes)]++
			one := given{had: had, now: now}
			if got.Yes {
				one.gave = cost
			}
			row = append(row, one)
			p = got.Purse
		}
		checkGiven(t, first, row)
	}
	for _, what := range []string{"yes true", "yes false", "code 1", "code 8"} {
		if told[what] < 5000 {
			t.Errorf("told %v: too few to tell", told)
		}
	}
}

// Who takes all there is at each time gets just what was left, and what comes back in each time.
func TestAPurseGivesAllThatItHas(t *testing.T) {
	d := dice(43)
	for range 2000 {
		p := d.thrownPurse()
		p.At /= 2
		want, all := p.Left+200*min(p.Rate, p.Burst), int64(0)
		first := p
		for at := range int64(201) {
			now := first.At + at
			there := impl.PurseAt(p, now)
			for _, cost := range []int64{there + 1, there / 2, there - there/2, 1} {
				got := checkPurseAsk(t, p, cost, now)
				if got.Yes {
					all += cost
				}
				p = got.Purse
			}
		}
		if all != want {
			once(t, "%+v gave %d in 200 times, want %d", first, all, want)
		}
	}
}

// What is asked in between, and not given, changes nothing of what there is later; and who may have more may have less.
func TestWhatIsNotYesTakesNothing(t *testing.T) {
	d := dice(44)
	for range 20000 {
		p := d.thrownPurse()
		p.At /= 2
		between := p.At + int64(d.below(50))
		later := between + int64(d.below(50))
		there := impl.PurseAt(p, between)
		for _, cost := range []int64{0, there + 1, there + 1 + int64(d.below(1000)), math.MaxInt64} {
			kept := checkPurseAsk(t, p, cost, between).Purse
			if got, want := impl.PurseAt(kept, later), impl.PurseAt(p, later); got != want {
				once(t, "%+v, asked for %d at %d, has %d at %d, want %d", p, cost, between, got, later, want)
			}
		}
		for cost := range there + 3 {
			if cost > 5 && cost < there-5 {
				continue
			}
			if got := impl.PurseAsk(p, cost, between); got.Yes != (cost <= there) {
				once(t, "PurseAsk(%+v, %d, %d) is %+v", p, cost, between, got)
			}
		}
	}
}

// Whatever is handed in, in each place, every call answers, changes nothing, and tells the same again.
func TestWhateverAPurseIsAskedIsAnswered(t *testing.T) {
	all := []int64{math.MinInt64, -1, 0, 1, greatestRate, greatestBurst, greatestTime, math.MaxInt64}
	inTime(t, "whatever", func() {
		for _, rate := range all {
			for _, burst := range all {
				for _, left := range all {
					for _, at := range all {
						p := purse(rate, burst, left, at)
						checkPurse(t, p, mayBePurse(p))
						for _, now := range all {
							checkPurseAt(t, p, now, inPurse(p, now))
							for _, cost := range all {
								checkPurseAsk(t, p, cost, now)
							}
						}
						if p != purse(rate, burst, left, at) {
							once(t, "%+v was changed", p)
						}
					}
				}
			}
		}
	})
}

func TestOfAPurseTheSameIsToldAgain(t *testing.T) {
	type answer struct {
		right     bool
		there     int64
		made, out impl.PurseOut
	}
	tell := func(p impl.Purse, cost int64, now int64) answer {
		return answer{right: impl.PurseRight(p), there: impl.PurseAt(p, now), made: impl.PurseNew(p.Rate, p.Burst, now), out: impl.PurseAsk(p, cost, now)}
	}
	type call struct {
		p         impl.Purse
		cost, now int64
	}
	d := dice(45)
	var calls []call
	for range 5000 {
		p := d.thrownPurse()
		now := d.thrownTime(p.At)
		calls = append(calls, call{p, d.thrownCost(impl.PurseAt(p, now), p.Burst), now})
	}
	first := map[call]answer{}
	for _, c := range calls {
		first[c] = tell(c.p, c.cost, c.now)
	}
	for range 5 {
		slices.Reverse(calls)
		for _, c := range calls {
			if again := tell(c.p, c.cost, c.now); again != first[c] {
				once(t, "%+v: got %+v, then %+v", c, first[c], again)
			}
		}
	}
}
