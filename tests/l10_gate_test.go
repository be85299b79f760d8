package tests

import (
	"fmt"
	"math"
	"reflect"
	"regexp"
	"slices"
	"strings"
	"testing"

	"loop.example/g00836/impl"
)

// request is what is handed in at the gate.
type request struct {
	schema, question string
	most             impl.Bounds
	l                []impl.Answer
}

// leastMost and greatestMost are the least and the greatest limits that may be.
var (
	leastMost    = [4]int64{0, 0, 0, 4}
	greatestMost = [4]int64{1000000000, 1000000000, 2000, 8000}
)

var measureNames = [4]string{"depth", "calls", "nodes", "bytes"}

func boundsOf(n [4]int64) impl.Bounds {
	return impl.Bounds{Depth: n[0], Calls: n[1], Nodes: n[2], Bytes: n[3]}
}

func numbersOf(b impl.Bounds) [4]int64 {
	return [4]int64{b.Depth, b.Calls, b.Nodes, b.Bytes}
}

// withMeasure are the same Bounds, but for the one of that place.
func withMeasure(b impl.Bounds, at int, n int64) impl.Bounds {
	all := numbersOf(b)
	all[at] = n
	return boundsOf(all)
}

// mayBeMost tells whether limits are right, apart from the program.
func mayBeMost(most impl.Bounds) bool {
	for at, n := range numbersOf(most) {
		if n < leastMost[at] || n > greatestMost[at] {
			return false
		}
	}
	return true
}

var answerText = regexp.MustCompile(`^[ !#-\[\]-~]{0,120}$`)

// mayBeAnswers tells whether Answers are right, apart from the program.
func mayBeAnswers(l []impl.Answer) bool {
	wrong := func(a impl.Answer) bool {
		return !slices.Contains([]int64{1, 2, 3, 4, 5}, a.Kind) || len(a.Path) > 100 || uint64(a.N) > 1000 || strings.Contains(a.Text, "\n") || !answerText.MatchString(a.Text)
	}
	return len(l) <= 40 && !slices.ContainsFunc(l, wrong)
}

// mayBeQuestion tells whether this is the text of a right Doc, also of one of too many Sels.
func mayBeQuestion(text string) bool {
	count := 0
	for _, word := range strings.Split(text, " ") {
		switch {
		case word == "fragment":
			// Its own word, its name and the on are no Sels.
			count -= 2
		case word != "" && (word[0] == '.' || word[0] >= 'a' && word[0] <= 'z'):
			count++
		}
	}
	return count <= 60 && mayBeText(text)
}

// tooMuch is the first measure of which there is too much, apart from the program.
func tooMuch(b impl.Bounds, most impl.Bounds) string {
	for at, n := range numbersOf(b) {
		if n > numbersOf(most)[at] || n >= 1000000000 {
			return measureNames[at]
		}
	}
	return ""
}

// verdictOf is what is to be told, apart from the program but for the reading of texts that may be read.
func verdictOf(r request) impl.Verdict {
	switch {
	case len(r.schema) > 8000 || len(r.question) > 8000 || len(r.l) > 400:
		return impl.Verdict{Code: impl.ErrSize}
	case !mayBeMost(r.most) || !mayBeAnswers(r.l):
		return impl.Verdict{Code: impl.ErrForm}
	case !mayBeSchema(r.schema):
		return impl.Verdict{What: "schema", Code: impl.ErrSyntax}
	case !mayBeQuestion(r.question):
		return impl.Verdict{What: "question", Code: impl.ErrSyntax}
	}
	s, d := impl.SchemaRead(r.schema).Schema, impl.DocRead(r.question).Doc
	if wrong := validOf(s, d); wrong.Code != impl.OK {
		return impl.Verdict{What: wrong.What, Code: wrong.Code}
	}
	b := amountsOfSels(s, d, d.Sels, s.Types[0].Name).bounds()
	if what := tooMuch(b, r.most); what != "" {
		return impl.Verdict{What: what, Bounds: b, Code: impl.ErrFull}
	}
	told, _ := replied(s, d, r.l)
	return impl.Verdict{Bounds: b, Told: told, Text: nodeWords(told.Tree)}
}

func sameVerdict(a impl.Verdict, b impl.Verdict) bool {
	return a.What == b.What && a.Bounds == b.Bounds && sameTold(a.Told, b.Told) && a.Text == b.Text && a.Code == b.Code
}

func verdictWords(v impl.Verdict) string {
	return fmt.Sprintf("What %q, Bounds %+v, Told %s, Text %.300q, Code %d", v.What, v.Bounds, toldWords(v.Told), v.Text, v.Code)
}

func (r request) words() string {
	return fmt.Sprintf("Gate of %d and %d bytes, %.300q, %.300q, %+v, %d Answers, %.300s", len(r.schema), len(r.question), r.schema, r.question, r.most, len(r.l), fmt.Sprint(r.l))
}

func (r request) gate() impl.Verdict {
	return impl.Gate(r.schema, r.question, r.most, r.l)
}

// once tells the first thing that is wrong in a test: of what follows there may be thousands.
func once(t *testing.T, format string, args ...any) {
	t.Helper()
	if !t.Failed() {
		t.Errorf(format, args...)
	}
}

// checkVerdict holds what is told at the gate against what is to be told, and against what promise 8 says of it.
func checkVerdict(t *testing.T, what string, r request, want impl.Verdict) impl.Verdict {
	t.Helper()
	got := r.gate()
	if !sameVerdict(got, want) {
		once(t, "%s: %s: got %s, want %s", what, r.words(), verdictWords(got), verdictWords(want))
	}
	if got.Code == impl.OK {
		checkWithin(t, what, r, got)
	}
	return got
}

// checkWithin holds what was let by against its limits.
func checkWithin(t *testing.T, what string, r request, got impl.Verdict) {
	t.Helper()
	b, nodes, bytes := got.Bounds, impl.NodesOf(got.Told.Tree), int64(len(got.Text))
	if nodes == 0 || got.Told.Calls > b.Calls || nodes > b.Nodes || bytes > b.Bytes {
		once(t, "%s: %s: %d Calls, %d Nodes and %d bytes are told, but Bounds are %+v", what, r.words(), got.Told.Calls, nodes, bytes, b)
	}
	if b.Depth > r.most.Depth || b.Calls > r.most.Calls || b.Nodes > r.most.Nodes || b.Bytes > r.most.Bytes {
		once(t, "%s: %s: Bounds are %+v", what, r.words(), b)
	}
	if back := impl.JsonRead(got.Text); back.Code != impl.OK || !impl.NodeSame(back.Node, got.Told.Tree) || got.Text != impl.Json(got.Told.Tree) {
		once(t, "%s: %s: Text is %q, Json of the Tree %q", what, r.words(), got.Text, impl.Json(got.Told.Tree))
	}
	s, d := impl.SchemaRead(r.schema).Schema, impl.DocRead(r.question).Doc
	if b != impl.BoundOf(s, d) || !sameTold(got.Told, impl.Exec(s, d, r.l)) {
		once(t, "%s: %s: got %s, but BoundOf is %+v, and Exec %s", what, r.words(), verdictWords(got), impl.BoundOf(s, d), toldWords(impl.Exec(s, d, r.l)))
	}
}

// checkGate holds what is told at the gate, and what is admitted, against what was reckoned apart.
func checkGate(t *testing.T, what string, r request) impl.Verdict {
	t.Helper()
	got := checkVerdict(t, what, r, verdictOf(r))
	alone := r
	alone.l = nil
	want := verdictOf(alone).Code == impl.OK
	if admitted := impl.Admits(r.schema, r.question, r.most); admitted != want || admitted != (alone.gate().Code == impl.OK) {
		once(t, "%s: %s: Admits is %t, want %t", what, r.words(), admitted, want)
	}
	return got
}

// asking is a request of all that may be let by.
func asking(schema string, question string, l ...impl.Answer) request {
	return request{schema: schema, question: question, most: boundsOf(greatestMost), l: l}
}

// oneAside are numbers at a limit, one below and one above.
func oneAside(n int64) []int64 {
	return []int64{n - 1, n, n + 1}
}

func TestMostRight(t *testing.T) {
	check := func(most impl.Bounds, want bool) {
		t.Helper()
		if got := impl.MostRight(most); got != want {
			once(t, "MostRight(%+v) is %t, want %t", most, got, want)
		}
		r := asking(things, "{ ...on USER { id } }")
		r.most = most
		if got := checkGate(t, "limits", r); (got.Code == impl.ErrForm) == want {
			once(t, "with %+v Gate is %s", most, verdictWords(got))
		}
	}
	check(impl.Bounds{}, false)
	check(impl.Bounds{Bytes: 4}, true)
	check(boundsOf(leastMost), true)
	check(boundsOf(greatestMost), true)
	for _, others := range [][4]int64{leastMost, greatestMost, {7, 7, 7, 7}} {
		for i := range others {
			numbers := slices.Concat(oneAside(leastMost[i]), oneAside(greatestMost[i]), oneAside(0), oneAside(2000), oneAside(8000), []int64{math.MinInt64, -greatestMost[i], 100, 1 << 32, 1<<32 + 100, math.MaxInt64})
			for _, n := range numbers {
				b := withMeasure(boundsOf(others), i, n)
				want := n >= leastMost[i] && n <= greatestMost[i]
				check(b, want)
				// What is not right of another one does not make up for it.
				for j := range others {
					if j != i {
						check(withMeasure(b, j, leastMost[j]-1), false)
						check(withMeasure(b, j, greatestMost[j]+1), false)
						check(withMeasure(b, j, leastMost[j]), want)
						check(withMeasure(b, j, greatestMost[j]), want)
					}
				}
			}
		}
	}
	for _, n := range []int64{math.MinInt64, math.MaxInt64} {
		check(impl.Bounds{Depth: n, Calls: n, Nodes: n, Bytes: n}, false)
	}
}

// atFault is one thing that is wrong of a request: which part of that it takes, and what is told of it alone.
type atFault struct {
	what, part string
	rank       int
	make       func(r *request)
	want       impl.Verdict
}

// rightRequest is let by, and comes to just as much as may be.
func rightRequest(t *testing.T) request {
	t.Helper()
	r := asking(things, "{ id fix { id } user { self { id } } }", textAt("id", "abc"), failAt("fix.1"))
	r.most = impl.BoundOf(asks(t, r.schema), question(t, r.question))
	return r
}

// sizeAndFormFaults are those that are told ahead of any text being read.
func sizeAndFormFaults() []atFault {
	long := strings.Repeat("a", impl.MaxBytes+1)
	size, form := impl.Verdict{Code: impl.ErrSize}, impl.Verdict{Code: impl.ErrForm}
	all := []atFault{
		{"a long schema", "schema", 0, func(r *request) { r.schema = long }, size},
		{"a schema, and much behind it", "schema", 0, func(r *request) { r.schema = things + long[len(things):] }, size},
		{"a long question", "question", 0, func(r *request) { r.question = long }, size},
		{"a question of many Sels", "question", 0, func(r *request) { r.question = "{ " + strings.Repeat("id ", impl.MaxBytes/3) + "}" }, size},
		{"401 Answers", "l", 0, func(r *request) { r.l = manyAnswers(impl.MaxList + 1) }, size},
		{"401 zero Answers", "l", 0, func(r *request) { r.l = make([]impl.Answer, impl.MaxList+1) }, size},
		{"400 Answers", "l", 1, func(r *request) { r.l = manyAnswers(impl.MaxList) }, form},
		{"41 Answers", "l", 1, func(r *request) { r.l = manyAnswers(41) }, form},
		{"the zero Answer", "l", 1, func(r *request) { r.l = answers(impl.Answer{}) }, form},
	}
	for what, a := range wrongAnswers() {
		all = append(all, atFault{what, "l", 1, func(r *request) { r.l = answers(nullAt("id"), a) }, form})
	}
	for at, name := range measureNames {
		for _, n := range []int64{leastMost[at] - 1, greatestMost[at] + 1, math.MinInt64, math.MaxInt64} {
			all = append(all, atFault{fmt.Sprint(name, " at most ", n), name, 1, func(r *request) { r.most = withMeasure(r.most, at, n) }, form})
		}
	}
	return all
}

// readingFaults are those of texts that can not be read.
func readingFaults() []atFault {
	var all []atFault
	for _, text := range []string{"", " ", "\n", "x", "obj", "leaf STR 3\n", things[:len(things)-1], things + "\n", "\n" + things, strings.ToLower(things), "{ id }", strings.Repeat("a", impl.MaxBytes), things + strings.Repeat("\n", impl.MaxBytes-len(things))} {
		all = append(all, atFault{fmt.Sprintf("the schema %.20q of %d bytes", text, len(text)), "schema", 2, func(r *request) { r.schema = text }, impl.Verdict{What: "schema", Code: impl.ErrSyntax}})
	}
	for _, text := range []string{"", " ", "x", "{ }", "{ id", "{ id } ", " { id }", "{  id }", "{ id } fragment f on Q { }", "{ id(101) }", things, strings.Repeat("a", impl.MaxBytes), "{ id }" + strings.Repeat(" ", impl.MaxBytes-6), "{ " + strings.Repeat("id ", 61) + "}", "{ " + strings.Repeat("id ", 2665) + "}"} {
		all = append(all, atFault{fmt.Sprintf("the question %.20q of %d bytes", text, len(text)), "question", 3, func(r *request) { r.question = text }, impl.Verdict{What: "question", Code: impl.ErrSyntax}})
	}
	return all
}

// laterFaults are those of what can be read: what is not let by, and what comes to too much.
func laterFaults(t *testing.T) []atFault {
	var all []atFault
	b := rightRequest(t).most
	for text, want := range map[string]impl.Verdict{
		"{ id } fragment f on Q { ...f }":        {What: "f", Code: impl.ErrThere},
		"{ id zz }":                              {What: "zz", Code: impl.ErrNone},
		"{ id } fragment f on STR { id }":        {What: "STR", Code: impl.ErrNone},
		"{ id users(6) { id } }":                 {What: "users", Code: impl.ErrRange},
		"{ id k:user }":                          {What: "k", Code: impl.ErrState},
		"{ fix { any(2) { ...on Q { fix } } } }": {What: "fix", Code: impl.ErrState},
		"{ id k:id k:nil }":                      {What: "k", Code: impl.ErrThere},
		"{ tags(100) k:tags(100) zz { zz } }":    {What: "zz", Code: impl.ErrNone},
	} {
		all = append(all, atFault{"the question " + text, "question", 4, func(r *request) { r.question = text }, want})
	}
	for at, name := range measureNames {
		want := impl.Verdict{What: name, Bounds: b, Code: impl.ErrFull}
		for _, less := range []int64{1, numbersOf(b)[at] - leastMost[at]} {
			all = append(all, atFault{fmt.Sprint("too much of ", name, " by ", less), name, 5 + at, func(r *request) { r.most = withMeasure(r.most, at, numbersOf(b)[at]-less) }, want})
		}
	}
	return all
}

// Each fault alone, and each two of different parts at once: that one is told which is named first.
func TestTheFirstFaultAtTheGate(t *testing.T) {
	right := rightRequest(t)
	if got := checkGate(t, "right", right); got.Code != impl.OK || got.Bounds != right.most || got.Text == "" {
		t.Fatalf("what is right is not let by: %s", verdictWords(got))
	}
	all := slices.Concat(sizeAndFormFaults(), readingFaults(), laterFaults(t))
	pairs := map[[2]int]int{}
	for _, a := range all {
		one := right
		a.make(&one)
		checkGate(t, a.what, one)
		checkVerdict(t, a.what, one, a.want)
		for _, b := range all {
			if a.part == b.part || a.rank > b.rank {
				continue
			}
			pairs[[2]int{a.rank, b.rank}]++
			two := one
			b.make(&two)
			what := a.what + ", and " + b.what
			if got := checkVerdict(t, what, two, a.want); got.Code == impl.OK || impl.Admits(two.schema, two.question, two.most) && a.part != "l" {
				once(t, "%s: is let by", what)
			}
		}
	}
	for first := range 9 {
		for second := first + 1; second < 9; second++ {
			// Of these both are of the question.
			if pairs[[2]int{first, second}] == 0 && [2]int{first, second} != [2]int{3, 4} {
				t.Errorf("no two of rank %d and %d: too few to tell", first, second)
			}
		}
	}
}

// Of three at once, and of all, the first is told too.
func TestAllFaultsAtOnce(t *testing.T) {
	right := rightRequest(t)
	all := laterFaults(t)
	all = append(all, readingFaults()[:3]...)
	all = append(all, sizeAndFormFaults()[:9]...)
	d := dice(31)
	told := map[int64]int{}
	for range 3000 {
		r := right
		for range 2 + d.below(6) {
			all[d.below(len(all))].make(&r)
		}
		told[checkGate(t, "several faults", r).Code]++
	}
	for _, code := range []int64{impl.ErrForm, impl.ErrSize, impl.ErrSyntax, impl.ErrNone, impl.ErrThere, impl.ErrFull} {
		if told[code] < 10 {
			t.Errorf("too few of Code %d to tell: %v", code, told)
		}
	}
}

// No text of just MaxBytes bytes may be read, and no list of just MaxList is right, but they are not refused for their size.
func TestGateAtTheSizes(t *testing.T) {
	right := rightRequest(t)
	for size := impl.MaxBytes - 2; size <= impl.MaxBytes+2; size++ {
		for _, fill := range []string{" ", "\n", "a", "}", "\x00", "\xff"} {
			long := right
			long.schema += strings.Repeat(fill, size-len(long.schema))
			want := impl.Verdict{What: "schema", Code: impl.ErrSyntax}
			if size > impl.MaxBytes {
				want = impl.Verdict{Code: impl.ErrSize}
			}
			checkGate(t, "a schema", long)
			checkVerdict(t, "a schema", long, want)
			long = right
			long.question += strings.Repeat(fill, size-len(long.question))
			if size <= impl.MaxBytes {
				want.What = "question"
			}
			checkGate(t, "a question", long)
			checkVerdict(t, "a question", long, want)
		}
	}
	for _, count := range []int{0, 1, 39, 40, 41, 399, 400, 401, 402, 10000} {
		r := right
		r.l = manyAnswers(count)
		want := int64(impl.OK)
		switch {
		case count > 400:
			want = impl.ErrSize
		case count > 40:
			want = impl.ErrForm
		}
		if got := checkGate(t, "Answers", r); got.Code != want {
			t.Errorf("%d Answers: Code is %d, want %d", count, got.Code, want)
		}
	}
}

// Whatever is wrong of a text, What says which one, and nothing else is told; what can be read all the same goes on.
func TestTextsThatCanNotBeReadAtTheGate(t *testing.T) {
	const small = "obj Q id:STR! us:U[<5] an:AN\nleaf STR 10\nobj U id:STR ps:P[2]\nobj P id:STR\none AN U P\n"
	const asked = "{ id k:us(3) { ...f } an { ...on P { id } } } fragment f on U { ps { id } }"
	told := map[string]int{}
	check := func(r request) {
		t.Helper()
		got := checkGate(t, "turned", r)
		kind := fmt.Sprint("code ", got.Code)
		if got.Code == impl.ErrSyntax {
			kind = got.What
			checkVerdict(t, "turned", r, impl.Verdict{What: got.What, Code: impl.ErrSyntax})
		}
		told[kind]++
	}
	for _, text := range append(slices.Concat(turned(small, " :[<!aAQ1\n\x00"), moved(small, "\n"), moved(small, " ")), "", small, small+" ", small+small) {
		check(asking(text, asked))
		// One that can not be read is told ahead of a question that can not be.
		if impl.SchemaRead(text).Code != impl.OK {
			checkVerdict(t, "turned", asking(text, asked[1:]), impl.Verdict{What: "schema", Code: impl.ErrSyntax})
		}
	}
	for _, text := range append(slices.Concat(turned(asked, " {}(:.aAU1\n\x00"), moved(asked, " ")), "", asked, asked+" ", asked+asked) {
		check(asking(small, text))
	}
	for kind, least := range map[string]int{"schema": 1000, "question": 1000, "code 0": 100, "code 6": 100, "code 7": 1, "code 8": 3, "code 10": 10} {
		if told[kind] < least {
			t.Errorf("too few of %s to tell: %v", kind, told)
		}
	}
}

// Each cut of a text, from both ends.
func TestTextsThatAreCutAtTheGate(t *testing.T) {
	right := rightRequest(t)
	for at := range len(things) {
		for _, text := range []string{things[:at], things[at:], things[:at] + "\n", things[:at] + things[at+1:]} {
			r := right
			r.schema = text
			checkGate(t, "a schema that is cut", r)
		}
	}
	for at := range len(right.question) {
		for _, text := range []string{right.question[:at], right.question[at:], right.question[:at] + " }", right.question[:at] + right.question[at+1:]} {
			r := right
			r.question = text
			checkGate(t, "a question that is cut", r)
		}
	}
}

// What Validate tells is told, and nothing else.
func TestGateOfWhatIsNotLetBy(t *testing.T) {
	s := asks(t, things)
	told := map[int64]int{}
	for _, d := range notLetBy(t) {
		wrong := impl.Validate(s, d)
		want := impl.Verdict{What: wrong.What, Code: wrong.Code}
		told[wrong.Code]++
		for _, l := range [][]impl.Answer{nil, answers(failAt("id"), manyAt("fix", 9)), manyAnswers(40)} {
			r := asking(things, docWords(d), l...)
			checkGate(t, "not let by", r)
			checkVerdict(t, "not let by", r, want)
			// Within whatever limits.
			r.most = boundsOf(leastMost)
			checkVerdict(t, "not let by", r, want)
		}
	}
	for _, code := range []int64{impl.ErrNone, impl.ErrThere, impl.ErrRange, impl.ErrState} {
		if told[code] < 5 {
			t.Errorf("too few of Code %d to tell: %v", code, told)
		}
	}
	for _, a := range wrongTexts() {
		checkVerdict(t, "alone", asking(things, "{ "+a.text+" }"), impl.Verdict{What: a.out.What, Code: a.out.Code})
		for _, b := range wrongTexts() {
			checkVerdict(t, "two", asking(things, "{ "+a.text+" id "+b.text+" }"), impl.Verdict{What: a.out.What, Code: a.out.Code})
		}
	}
}

// Just as much as may be is let by; of too much the first measure is named, and Bounds are told beside it.
func TestTooMuchAtTheGate(t *testing.T) {
	s := asks(t, things)
	for _, text := range []string{
		"{ id }", "{ fix { id } }", "{ tags(100) }", "{ users(0) { self { id } } }", "{ any { ...on USER { self { id } } ...on POST { id k:id } } }",
		"{ user { ...f } users(5) { posts(1) { ...g } } } fragment f on USER { id self { id } } fragment g on POST { id user { id name } }",
	} {
		b := impl.BoundOf(s, question(t, text))
		for set := range 1 << len(measureNames) {
			r := asking(things, text)
			r.most = b
			want := ""
			for at := len(measureNames) - 1; at >= 0; at-- {
				if set>>at&1 == 1 {
					r.most = withMeasure(r.most, at, numbersOf(b)[at]-1)
					want = measureNames[at]
				}
			}
			got := checkGate(t, "one less", r)
			if want == "" && (got.Code != impl.OK || got.Bounds != b) {
				t.Errorf("%q: just as much as may be is %s", text, verdictWords(got))
			}
			if want != "" && !sameVerdict(got, impl.Verdict{What: want, Bounds: b, Code: impl.ErrFull}) {
				t.Errorf("%q: too much of %q is %s", text, want, verdictWords(got))
			}
			// What those that are asked would say is no matter.
			r.l = answers(nullAt("id"), manyAt("fix", 0), manyAt("tags", 0), failAt("user"), failAt("any"), failAt("users"))
			if again := checkGate(t, "one less, of little", r); again.Code != got.Code || again.What != got.What || again.Bounds != got.Bounds {
				t.Errorf("%q: with Answers got %s, without %s", text, verdictWords(again), verdictWords(got))
			}
		}
		// One measure alone, all others as great as may be.
		for at, name := range measureNames {
			r := asking(things, text)
			for _, n := range oneAside(numbersOf(b)[at]) {
				r.most = withMeasure(boundsOf(greatestMost), at, n)
				got := checkGate(t, "one measure", r)
				if (n < numbersOf(b)[at]) != (got.Code == impl.ErrFull && got.What == name) {
					t.Errorf("%q: at most %d of %s, of %+v, is %s", text, n, name, b, verdictWords(got))
				}
			}
		}
	}
}

// ofBytesAtMost is a schema, and a question, that come to so many bytes, from 7948 to 8048.
func ofBytesAtMost(bytes int64) (string, string) {
	rest := bytes - 7945
	return fmt.Sprintf("obj Q a:S[77] b:T\nleaf S 100\nleaf T %d\n", rest), "{ a b }"
}

func TestGateAtTheGreatestLimits(t *testing.T) {
	for bytes := int64(7990); bytes <= 8010; bytes++ {
		schema, text := ofBytesAtMost(bytes)
		got := checkGate(t, "bytes", asking(schema, text))
		want := ""
		if bytes > 8000 {
			want = "bytes"
		}
		if got.Bounds.Bytes != bytes || got.What != want {
			t.Errorf("of %d bytes: %s", bytes, verdictWords(got))
		}
	}
	// Each Node may be null, so 2000 of them are more bytes than may be: which measure is named tells where there are too many Nodes too.
	s := asks(t, "obj Q tags:S[<100]\nleaf S 1\n")
	for nodes := 1950; nodes <= 2010; nodes++ {
		text := docWords(nodesOf(s, nodes))
		got := checkGate(t, "nodes", asking(schemaWords(s), text))
		b := impl.BoundOf(s, question(t, text))
		if b.Nodes != int64(nodes) || b.Bytes < 8000 {
			t.Fatalf("%d Nodes: Bounds are %+v", nodes, b)
		}
		want := "bytes"
		if nodes > 2000 {
			want = "nodes"
		}
		if !sameVerdict(got, impl.Verdict{What: want, Bounds: b, Code: impl.ErrFull}) {
			t.Errorf("%d Nodes: %s", nodes, verdictWords(got))
		}
	}
}

// As many Nodes as may be let by, of no more than 8000 bytes: each is null at most, and a sign stands behind it.
func TestTheMostNodesThatAreLetBy(t *testing.T) {
	s := asks(t, "obj Q a:S[<100]\nleaf S 1\n")
	most := int64(0)
	for nodes := 1400; nodes <= 1700; nodes += 7 {
		text := docWords(nodesOf(s, nodes))
		text = strings.ReplaceAll(text, "tags", "a")
		r := asking(schemaWords(s), text)
		got := checkGate(t, "many nodes", r)
		if got.Code == impl.OK {
			most = max(most, impl.NodesOf(got.Told.Tree))
		}
		for _, less := range []int64{0, 1} {
			r.most.Nodes = got.Bounds.Nodes - less
			if again := checkGate(t, "many nodes", r); less == 1 && !sameVerdict(again, impl.Verdict{What: "nodes", Bounds: got.Bounds, Code: impl.ErrFull}) {
				t.Errorf("%d Nodes, one less: %s", nodes, verdictWords(again))
			}
		}
	}
	if most < 1500 {
		t.Errorf("at most %d Nodes are let by: too few to tell", most)
	}
}

// What comes to the top is too much, also where limits are at the top.
func TestGateOfBoundsAtTheTop(t *testing.T) {
	schema := schemaWords(hundreds())
	deep := func(count int, last string) string {
		return "{ " + strings.Repeat("in { ", count) + last + strings.Repeat(" }", count) + " }"
	}
	for _, c := range []struct {
		text  string
		least [4]int64
		want  string
	}{
		{deep(5, "l"), [4]int64{6, impl.Top, impl.Top, impl.Top}, "calls"},
		{deep(5, "ls"), [4]int64{6, impl.Top, impl.Top, impl.Top}, "calls"},
		{deep(4, "l"), [4]int64{5, 101010101, 202020202, impl.Top}, "nodes"},
		{deep(2, "ls"), [4]int64{3, 10101, 1020202, 0}, "nodes"},
		{deep(1, "l"), [4]int64{2, 101, 202, 0}, ""},
		{"{ none { " + strings.TrimSuffix(strings.TrimPrefix(deep(4, "l"), "{ "), " }") + " } }", [4]int64{6, 1, 2, 13}, ""},
	} {
		r := asking(schema, c.text)
		got := checkGate(t, "the top", r)
		for at, n := range numbersOf(got.Bounds) {
			if c.least[at] != 0 && n != c.least[at] {
				t.Errorf("%q: Bounds are %+v, want %v", c.text, got.Bounds, c.least)
			}
		}
		if got.What != c.want || (got.Code == impl.OK) != (c.want == "") {
			t.Errorf("%q: got %s, want %q", c.text, verdictWords(got), c.want)
		}
		// One less of Depth, and of Calls that are not at the top.
		r.most.Depth = got.Bounds.Depth - 1
		if checkGate(t, "less deep", r).What != "depth" {
			t.Errorf("%q: less deep is let by", c.text)
		}
		r.most.Depth++
		r.most.Calls = got.Bounds.Calls - 1
		if checkGate(t, "fewer calls", r).What != "calls" {
			t.Errorf("%q: fewer calls are let by", c.text)
		}
		r.most.Calls++
		if checkGate(t, "as many calls", r).What != c.want {
			t.Errorf("%q: just as many calls are not told as before", c.text)
		}
	}
}

// What is told at the gate, written out.
func TestGateLetsBy(t *testing.T) {
	for _, c := range []execCase{
		{"{ id }", nil, `{"id":"x"}`, 1, 0},
		{"{ nil k:id }", nil, `{"nil":"","k":"x"}`, 2, 0},
		{"{ ...on A { id } }", nil, `{}`, 0, 0},
		{"{ a { ...on B { id } } }", nil, `{"a":{}}`, 1, 0},
		{"{ id a { need } tags(2) }", nil, `{"id":"x","a":{"need":"x"},"tags":["x","x"]}`, 4, 0},
		{"{ tags(0) as { id } }", nil, `{"tags":[],"as":[{"id":"x"},{"id":"x"},{"id":"x"}]}`, 5, 0},
		{"{ one { ...on A { id } ...on B { b } } }", nil, `{"one":{"id":"x"}}`, 2, 0},
		{"{ one { ...on A { id } ...on B { b } } }", answers(typeAt("one", "B")), `{"one":{"b":"x"}}`, 2, 0},
		{"{ one { ...on A { id } ...on B { b } } }", answers(typeAt("one", "Q")), `{"one":null}`, 1, 1},
		{"{ id }", answers(textAt("id", "abcde")), `{"id":"abcde"}`, 1, 0},
		{"{ id }", answers(textAt("id", "abcdef")), `{"id":null}`, 1, 1},
		{"{ tags(2) }", answers(manyAt("tags", 1), textAt("tags.0", "abc")), `{"tags":["abc"]}`, 1, 0},
		{"{ tags(2) }", answers(manyAt("tags", 3)), `{"tags":null}`, 1, 1},
		{"{ id a { id } }", answers(nullAt("id"), nullAt("a")), `{"id":null,"a":null}`, 2, 0},
		{"{ id a { id } }", answers(failAt("id"), failAt("a")), `{"id":null,"a":null}`, 2, 2},
		// All is null.
		{"{ m { id } id }", answers(nullAt("m")), `null`, 2, 0},
		{"{ m { m { need } } a { id } id }", answers(failAt("m.m.need"), failAt("a.id")), `null`, 6, 2},
		{"{ ms { need } }", answers(manyAt("ms", 3)), `null`, 1, 1},
		// What is let by comes back whole, whoever answers.
		{"{ id }", answers(textAt("id", "] ~#")), `{"id":"] ~#"}`, 1, 0},
		{"{ id }", answers(manyAt("id", 1000), failAt("none"), textAt("id", "abc")), `{"id":"x"}`, 1, 0},
	} {
		r := asking(needs, c.text, c.l...)
		got := checkGate(t, "written", r)
		if got.Text != c.written || got.Told.Calls != c.calls || got.Told.Fails != c.fails || got.Code != impl.OK || got.What != "" || got.Told.Code != impl.OK {
			t.Errorf("%q with %+v: got %s, want %s, %d Calls, %d Fails", c.text, c.l, verdictWords(got), c.written, c.calls, c.fails)
		}
		r.most = got.Bounds
		if again := checkGate(t, "just as much", r); !sameVerdict(again, got) {
			t.Errorf("%q with %+v: just as much is %s, want %s", c.text, c.l, verdictWords(again), verdictWords(got))
		}
	}
}

// Lists of all lengths, in full, and of which there are fewer, as many, or more.
func TestListsOfAllLengthsAtTheGate(t *testing.T) {
	for n := range int64(101) {
		r := asking("obj Q tags:S[<100] fix:S["+fmt.Sprint(n)+"] us:U[<100]!\nleaf S 20\nobj U id:S!\n", fmt.Sprintf("{ tags(%d) fix us(%d) { id } }", n, n))
		full := checkGate(t, "in full", r)
		if full.Bounds.Nodes != 4+4*n || full.Bounds.Bytes <= 8000 && (full.Code != impl.OK || impl.NodesOf(full.Told.Tree) != 4+4*n || full.Told.Calls != 3+n) {
			t.Errorf("of %d: %s", n, verdictWords(full))
		}
		for _, many := range []int64{0, 1, n - 1, n, n + 1, 1000} {
			if many < 0 {
				continue
			}
			r.l = answers(manyAt("tags", many), manyAt("fix", n), textAt("tags.0", "abcdefghijklmnopqrst"), nullAt("fix.0"))
			checkGate(t, "tags", r)
			r.l = answers(manyAt("fix", many), failAt(fmt.Sprint("us.", n/2)))
			checkGate(t, "fix", r)
			r.l = answers(manyAt("us", many), failAt("us.0.id"))
			if got := checkGate(t, "us", r); full.Code == impl.OK && (got.Text == "null") != (many > n) {
				t.Errorf("%d of %d: %s", many, n, verdictWords(got))
			}
		}
	}
}

// As much is told as was said, where all texts are as long as may be.
func TestAllThatMayBeIsTold(t *testing.T) {
	for n := range 41 {
		var l []impl.Answer
		for at := range n {
			l = append(l, textAt(fmt.Sprint("a.", at), strings.Repeat("y", 100)))
		}
		r := asking(fmt.Sprintf("obj Q a:S[%d]\nleaf S 100\n", n), "{ a }", l...)
		got := checkGate(t, "in full", r)
		if got.Code != impl.OK || n > 0 && int64(len(got.Text)) != got.Bounds.Bytes || impl.NodesOf(got.Told.Tree) != got.Bounds.Nodes || got.Told.Calls != got.Bounds.Calls {
			t.Errorf("of %d: %s", n, verdictWords(got))
		}
	}
}

// Admits asks without Answers: what these would say is no matter, nor whether there are too many.
func TestAdmits(t *testing.T) {
	b := impl.Bounds{Depth: 2, Calls: 5, Nodes: 9, Bytes: 165}
	for _, c := range []struct {
		schema, question string
		most             impl.Bounds
		want             bool
	}{
		{things, "{ id u:users(3) { id } }", b, true},
		{things, "{ id u:users(2) { id } }", b, true},
		{things, "{ id u:users(4) { id } }", b, false},
		{things, "{ id u:users(3) { id } }", boundsOf(greatestMost), true},
		{things, "{ id u:users(3) { id } }", withMeasure(b, 0, 1), false},
		{things, "{ id u:users(3) { id } }", withMeasure(b, 1, 4), false},
		{things, "{ id u:users(3) { id } }", withMeasure(b, 2, 8), false},
		{things, "{ id u:users(3) { id } }", withMeasure(b, 3, 164), false},
		{things, "{ id u:users(3) { id } }", withMeasure(b, 3, 8001), false},
		{things, "{ id u:users(3) { id } }", impl.Bounds{}, false},
		{things, "{ id u:users(6) { id } }", boundsOf(greatestMost), false},
		{things, "{ zz }", boundsOf(greatestMost), false},
		{things, "{ id", boundsOf(greatestMost), false},
		{things, "", boundsOf(greatestMost), false},
		{things[1:], "{ id }", boundsOf(greatestMost), false},
		{"", "{ id }", boundsOf(greatestMost), false},
		{"", "", impl.Bounds{}, false},
		{things, "{ ...on USER { id } }", boundsOf(leastMost), false},
		{things, "{ ...on USER { id } }", impl.Bounds{Nodes: 1, Bytes: 4}, true},
		{strings.Repeat("a", impl.MaxBytes+1), "{ id }", b, false},
		{things, strings.Repeat("a", impl.MaxBytes+1), b, false},
	} {
		if got := impl.Admits(c.schema, c.question, c.most); got != c.want {
			t.Errorf("Admits(%.20q, %.40q, %+v) is %t, want %t", c.schema, c.question, c.most, got, c.want)
		}
		for _, l := range [][]impl.Answer{nil, answers(failAt("id")), answers(impl.Answer{}), manyAnswers(401)} {
			checkGate(t, "admitted", request{c.schema, c.question, c.most, l})
		}
	}
}

// thrownMost is most often near what is asked, and right.
func (d *dice) thrownMost(b impl.Bounds) impl.Bounds {
	var all [4]int64
	for at, n := range numbersOf(b) {
		switch d.below(12) {
		case 0:
			all[at] = n - 1
		case 1:
			all[at] = n + 1
		case 2, 3, 4, 5:
			all[at] = n
		case 6:
			all[at] = n/2 + int64(d.below(int(n)+1))
		default:
			all[at] = greatestMost[at]
		}
		if d.below(60) > 0 {
			all[at] = min(max(all[at], leastMost[at]), greatestMost[at])
		}
	}
	return boundsOf(all)
}

// thrownAnswers are for the paths of a question, most often right.
func (d *dice) thrownAnswers(s impl.Schema, paths []string, count int) []impl.Answer {
	var l []impl.Answer
	for range count {
		l = append(l, d.thrownAnswer(s, paths))
	}
	if d.below(60) == 0 {
		l = append(l, impl.Answer{Path: "id", Kind: int64(d.below(9)), N: int64(d.below(3) - 1)})
	}
	return l
}

// Promise 8: whatever there is, and is asked, and whatever those say that are asked, what is let by stays within its limits.
func TestThrownRequests(t *testing.T) {
	told := map[string]int{}
	letByBounds(t, 32, 4000, func(dice *dice, s impl.Schema, made impl.Doc, b impl.Bounds) {
		if t.Failed() {
			return
		}
		var paths []string
		if b.Nodes <= 2000 {
			_, paths = replied(s, made, nil)
			paths = slices.DeleteFunc(paths, func(path string) bool { return len(path) > 100 })
		}
		for i := range 6 {
			r := request{schema: schemaWords(s), question: docWords(made), most: dice.thrownMost(b), l: dice.thrownAnswers(s, paths, i*i)}
			if i == 5 {
				r.most = boundsOf(greatestMost)
			}
			got := checkGate(t, "thrown", r)
			told[fmt.Sprint("code ", got.Code)]++
			switch {
			case got.Code == impl.ErrFull:
				told[got.What]++
			case got.Code != impl.OK:
			case got.Text == "null":
				told["null"]++
			case got.Told.Fails > 1:
				told["failing"]++
			case got.Bounds == r.most:
				told["just as much"]++
			}
			if int64(len(got.Text)) == got.Bounds.Bytes {
				told["as long as may be"]++
			}
		}
	})
	for kind, least := range map[string]int{"code 0": 3000, "code 1": 50, "code 9": 1500, "depth": 300, "calls": 300, "nodes": 100, "bytes": 300, "null": 200, "failing": 300, "just as much": 50, "as long as may be": 50} {
		if told[kind] < least {
			t.Errorf("too few of %s to tell: %v", kind, told)
		}
	}
}

// What is thrown with more that is wrong: each code is told, in whatever the request is wrong.
func TestThrownRequestsAtOdds(t *testing.T) {
	d := dice(33)
	told := map[int64]int{}
	for i := range 6000 {
		a := asker{dice: &d, s: asks(t, things), odd: []int{8, 40, 200}[i%3]}
		if i%5 == 0 {
			a.s = d.rightSchema()
		}
		made := a.doc()
		r := asking(schemaWords(a.s), docWords(made), d.thrownAnswers(a.s, []string{"id", "k", "l", "user.id", "fix.0"}, d.below(4))...)
		switch d.below(20) {
		case 0:
			at := d.below(len(r.schema))
			r.schema = r.schema[:at] + d.pick("", " ", "A", "a", "\n") + r.schema[at+1:]
		case 1:
			at := d.below(len(r.question))
			r.question = r.question[:at] + d.pick("", " ", "A", "a", "}") + r.question[at+1:]
		case 2, 3:
			r.most = d.thrownMost(impl.Bounds{Depth: 2, Calls: 4, Nodes: 12, Bytes: 120})
		}
		told[checkGate(t, "at odds", r).Code]++
	}
	for _, code := range []int64{impl.OK, impl.ErrForm, impl.ErrSyntax, impl.ErrNone, impl.ErrThere, impl.ErrRange, impl.ErrFull, impl.ErrState} {
		if told[code] < 20 {
			t.Errorf("too few of Code %d to tell: %v", code, told)
		}
	}
}

// Each path is answered in each way, within limits that are just as much as may be.
func TestEachPathInEachWayAtTheGate(t *testing.T) {
	s := asks(t, needs)
	for _, text := range []string{
		"{ id nil a { m { ms(2) { need } } } ms { one { ...on A { id } ...on B { need } } } tags(2) one { ...on B { b } } }",
		"{ m { m { need } some { ...on A { ms(1) { need } } ...on B { need } } } as { a { id } m { need } } }",
	} {
		d := question(t, text)
		_, paths := replied(s, d, nil)
		for _, path := range paths {
			for _, a := range answers(nullAt(path), failAt(path), manyAt(path, 0), manyAt(path, 1), manyAt(path, 1000), textAt(path, ""), textAt(path, "abcde"), textAt(path, "abcdef"), typeAt(path, "A"), typeAt(path, "B"), typeAt(path, "Q")) {
				checkGate(t, "each path", request{needs, text, impl.BoundOf(s, d), answers(a)})
			}
		}
	}
}

// greatest is a schema of as many bytes as there may be, near enough, and what it is asked: 60 Sels, with Answers of as many bytes as may be.
func greatest() request {
	var types []impl.Type
	for _, name := range typeNames(9) {
		of := impl.Type{Name: (name + "AAAAAAAA")[:8], Kind: impl.KdObj}
		for _, key := range letters(8) {
			of.Fields = append(of.Fields, must(capped((key + "aaaaaaaa")[:8], "T", 100)))
		}
		types = append(types, of)
	}
	for at := range types {
		for i := range types[at].Fields {
			types[at].Fields[i].Type = types[(at+i)%len(types)].Name
		}
	}
	var names []string
	for _, of := range types[:5] {
		names = append(names, of.Name)
	}
	types = append(types, oneType("ZAAAAAAA", names...), leafType("ZBBBBBBB", 100))
	types[0].Fields[7] = plain(types[0].Fields[7].Name, "ZBBBBBBB")
	s := impl.Schema{Types: types}
	key := types[0].Fields[0].Name
	all := repeated(10, func(at int) impl.Sel {
		inner := keyed((letters(10)[at] + "bbbbbbbb")[:8], types[0].Fields[7].Name, -1)
		for range 5 {
			inner = keyed(key, key, 1, inner)
		}
		return inner
	})
	var l []impl.Answer
	for at := range 40 {
		l = append(l, textAt(fmt.Sprintf("%s.%090d", key, at), strings.Repeat("y", 120)))
	}
	return asking(schemaWords(s), docWords(doc(all)), l...)
}

func TestTheGreatestRequestsAreAnsweredInTime(t *testing.T) {
	r := greatest()
	if len(r.schema) < 1500 || len(r.question) < 900 || impl.DocRead(r.question).Code != impl.OK || !impl.AnswersRight(r.l) {
		t.Fatalf("%s: too little, or not right", r.words())
	}
	inTime(t, "the greatest", func() {
		if got := checkGate(t, "the greatest", r); got.Code != impl.OK {
			t.Errorf("got %s", verdictWords(got))
		}
		for range 200 {
			r.gate()
		}
	})
	s, d := most(t)
	full := asking(schemaWords(s), docWords(d), answers(failAt("in.3.in.3.l"))...)
	inTime(t, "of too many bytes", func() {
		if got := checkGate(t, "of too many bytes", full); got.What != "bytes" {
			t.Errorf("got %s", verdictWords(got))
		}
	})
	for _, text := range []string{strings.Repeat("{ ", 4000), strings.Repeat("a ", 4000), strings.Repeat("obj ", 2000), strings.Repeat("[", 8000), strings.Repeat("\n", 8000), "{ " + strings.Repeat("a { ", 1999), "obj Q" + strings.Repeat(" a:Q", 1998) + "\n", "obj Q a:Q\n" + strings.Repeat("leaf S 1\n", 880)} {
		inTime(t, text[:8], func() {
			checkGate(t, "long texts", asking(text, "{ id }"))
			checkGate(t, "long texts", asking(things, text))
			checkGate(t, "long texts", asking(text, text, manyAnswers(40)...))
		})
	}
}

// What is spread in many ways comes back in time, and is told as if it were spread once.
func TestWhatIsSpreadMostOftenPassesInTime(t *testing.T) {
	s := asks(t, ofThree)
	for what, all := range mostSpread() {
		want := checkGate(t, what, asking(schemaWords(s), docWords(all[0])))
		for _, d := range all[1:] {
			inTime(t, what, func() {
				r := asking(schemaWords(s), docWords(d))
				for range 50 {
					r.gate()
				}
				if got := r.gate(); !sameVerdict(got, want) || want.Code != impl.OK || !impl.Admits(r.schema, r.question, r.most) {
					t.Errorf("%s: got %s, want %s", r.words(), verdictWords(got), verdictWords(want))
				}
			})
		}
	}
	// In each of many fields, and of what these have.
	keys := letters(10)
	wide := ranks(func(next string) []impl.Sel {
		return repeated(5, func(at int) impl.Sel { return keyed(keys[at], "one", -1, spread(next)) })
	}, repeated(10, func(at int) impl.Sel { return keyed(keys[at], "l", -1) }))
	inTime(t, "wide", func() {
		r := asking(schemaWords(s), docWords(wide))
		got := r.gate()
		if got.Code != impl.ErrFull || got.What != "nodes" || got.Bounds != impl.BoundOf(s, wide) || impl.Admits(r.schema, r.question, r.most) {
			t.Errorf("got %s", verdictWords(got))
		}
	})
}

// Whatever bytes are handed in, every call answers.
func TestWhateverIsHandedInAtTheGateIsAnswered(t *testing.T) {
	d := dice(34)
	var every []byte
	for b := range 256 {
		every = append(every, byte(b))
	}
	text := func() string {
		var all []byte
		for range d.below(60) {
			all = append(all, every[d.below(256)])
		}
		return d.pick(string(all), "", things, "{ id }", "{ id user { id } }", string(every))
	}
	number := func() int64 {
		return []int64{math.MinInt64, -1, 0, 4, 100, 2000, impl.Top, math.MaxInt64}[d.below(8)]
	}
	inTime(t, "whatever", func() {
		for range 3000 {
			r := request{text(), text(), impl.Bounds{Depth: number(), Calls: number(), Nodes: number(), Bytes: number()}, nil}
			if d.below(2) == 0 {
				r.most = boundsOf(greatestMost)
			}
			for range d.below(3) {
				r.l = append(r.l, impl.Answer{Path: text(), Kind: int64(d.below(7)), N: number(), Text: text()})
			}
			checkGate(t, "whatever", r)
		}
	})
	checkGate(t, "nothing", request{})
	checkGate(t, "nothing, within limits", asking("", ""))
}

// sharingRequest is told many lists.
func sharingRequest(t *testing.T) request {
	s, d, l := toldOfMany(t)
	return asking(strings.Clone(schemaWords(s)), strings.Clone(docWords(d)), l...)
}

func TestWhatIsToldAtTheGateSharesNothing(t *testing.T) {
	r := sharingRequest(t)
	checkListsApart(t, func() impl.Node { return r.gate().Told.Tree })
	if got := checkGate(t, "told again", r); got.Code != impl.OK {
		t.Errorf("got %s", verdictWords(got))
	}
}

func TestWhatIsToldAtTheGateHoldsNothingOfTheRequest(t *testing.T) {
	r := sharingRequest(t)
	handed := []string{r.schema, r.question}
	for i := range r.l {
		r.l[i].Path, r.l[i].Text = strings.Clone(r.l[i].Path), strings.Clone(r.l[i].Text)
		handed = append(handed, r.l[i].Path, r.l[i].Text)
	}
	got := r.gate()
	told := []string{got.Text}
	for _, n := range nodesIn(&got.Told.Tree) {
		told = append(told, append(n.Keys, n.Text)...)
	}
	if len(told) < 60 {
		t.Fatalf("only %q: too few to tell", told)
	}
	for _, d := range notLetBy(t) {
		text := strings.Clone(docWords(d))
		told, handed = append(told, impl.Gate(things, text, r.most, nil).What), append(handed, text)
	}
	// A Text that is said to be a leaf's, alone.
	whole := asking("obj Q id:S\nleaf S 5\n", "{ id }", textAt("id", strings.Clone("abc")))
	told, handed = append(told, whole.gate().Told.Tree.Kids[0].Text), append(handed, whole.l[0].Text)
	for _, one := range told {
		for _, other := range handed {
			if within(one, other) {
				t.Errorf("%q is a part of what was handed in", one)
			}
		}
	}
}

func TestWhatIsHandedInAtTheGateIsNotChanged(t *testing.T) {
	d := dice(35)
	right := rightRequest(t)
	for _, fault := range append(slices.Concat(sizeAndFormFaults(), readingFaults(), laterFaults(t)), atFault{make: func(*request) {}}) {
		r := right
		fault.make(&r)
		r.l = append(slices.Clone(r.l), nullAt("behind"), failAt("behind"))[:len(r.l)]
		handed := slices.Clone(r.l[:cap(r.l)])
		schema, question := strings.Clone(r.schema), strings.Clone(r.question)
		r.gate()
		impl.Admits(r.schema, r.question, r.most)
		if !slices.Equal(handed, r.l[:cap(r.l)]) || schema != r.schema || question != r.question {
			t.Errorf("%s: what was handed in was changed: %+v", fault.what, r.l[:cap(r.l)])
		}
	}
	letByBounds(t, 36, 300, func(_ *dice, s impl.Schema, made impl.Doc, b impl.Bounds) {
		r := asking(schemaWords(s), docWords(made), d.thrownAnswers(s, []string{"id", "a", "b", "k"}, 5)...)
		handed := slices.Clone(r.l[:cap(r.l)])
		r.gate()
		if !slices.Equal(handed, r.l[:cap(r.l)]) {
			t.Errorf("Answers were changed: %+v, before %+v", r.l[:cap(r.l)], handed)
		}
	})
}

func TestGateTellsTheSameAgain(t *testing.T) {
	right := rightRequest(t)
	all := []request{right, sharingRequest(t), asking(needs, "{ m { need } }", failAt("m.need")), {}, asking("", "{ id }"), asking(things, "{ id")}
	for _, fault := range append(sizeAndFormFaults()[:9], laterFaults(t)...) {
		r := right
		fault.make(&r)
		all = append(all, r)
	}
	var first []impl.Verdict
	var admitted []bool
	for _, r := range all {
		first = append(first, checkGate(t, "first", r))
		admitted = append(admitted, impl.Admits(r.schema, r.question, r.most))
	}
	for range 10 {
		for at, r := range all {
			if again := r.gate(); !reflect.DeepEqual(first[at], again) {
				t.Errorf("%s: got %s, then %s", r.words(), verdictWords(first[at]), verdictWords(again))
			}
			if again := impl.Admits(r.schema, r.question, r.most); again != admitted[at] {
				t.Errorf("%s: Admits is %t, then %t", r.words(), admitted[at], again)
			}
		}
	}
}
