package tests

import (
	"hash/crc32"
	"math"
	"strings"
	"testing"

	"loop.example/g00836/impl"
)

const codedMost = "\xff\xff\xff\xff\xff\xff\xff\xff\xff\x01"

// numbers are those around every power of two, the ends of int64, and some between.
func numbers() []int64 {
	all := []int64{0, math.MaxInt64, math.MaxInt64 - 1, math.MinInt64, math.MinInt64 + 1}
	for shift := range 63 {
		power := int64(1) << shift
		all = append(all, power-1, power, power+1, -power-1, -power, -power+1)
	}
	state := uint64(1)
	for range 2000 {
		state = state*6364136223846793005 + 1442695040888963407
		all = append(all, int64(state), int64(state)>>(state>>58))
	}
	return all
}

// bytesNeeded counts in the document's words: seven bits a byte of 2n, or of -2n less 1.
func bytesNeeded(n int64) int {
	u := uint64(n) * 2
	if n < 0 {
		u = -uint64(n)*2 - 1
	}
	size := 1
	for u >= 128 {
		u /= 128
		size++
	}
	return size
}

func checkNum(t *testing.T, text string, at int64, want impl.NumOut) {
	t.Helper()
	if got := impl.GetNum(text, at); got != want {
		t.Errorf("GetNum(%.40q, %d): got %+v, want %+v", text, at, got, want)
	}
}

func checkText(t *testing.T, text string, at int64, want impl.TextOut) {
	t.Helper()
	if got := impl.GetText(text, at); got != want {
		t.Errorf("GetText(%.40q, %d): got %.80q at %d code %d, want %.80q at %d code %d", text, at, got.Text, got.At, got.Code, want.Text, want.At, want.Code)
	}
}

func TestPutNumBytes(t *testing.T) {
	cases := []struct {
		n    int64
		want string
	}{
		{0, "\x00"}, {-1, "\x01"}, {1, "\x02"}, {-2, "\x03"}, {63, "\x7e"}, {-64, "\x7f"},
		{64, "\x80\x01"}, {-65, "\x81\x01"}, {150, "\xac\x02"},
		{8191, "\xfe\x7f"}, {-8192, "\xff\x7f"}, {8192, "\x80\x80\x01"},
		{math.MaxInt64, "\xfe\xff\xff\xff\xff\xff\xff\xff\xff\x01"}, {math.MinInt64, codedMost},
	}
	for _, c := range cases {
		if got := impl.PutNum(c.n); got != c.want {
			t.Errorf("PutNum(%d): got %q, want %q", c.n, got, c.want)
		}
	}
}

func TestNumbersComeBack(t *testing.T) {
	for _, n := range numbers() {
		coded := impl.PutNum(n)
		size := int64(len(coded))
		if len(coded) != bytesNeeded(n) {
			t.Errorf("PutNum(%d) has %d bytes, want %d", n, size, bytesNeeded(n))
		}
		checkNum(t, coded, 0, impl.NumOut{N: n, At: size})
		checkNum(t, "\xff\x80\xff"+coded+"\xff\x00", 3, impl.NumOut{N: n, At: 3 + size})
		for cut := range coded {
			checkNum(t, coded[:cut], 0, impl.NumOut{Code: impl.ErrShort})
		}
	}
}

func TestNumbersOneBehindTheOther(t *testing.T) {
	var all strings.Builder
	list := numbers()[:200]
	for _, n := range list {
		all.WriteString(impl.PutNum(n))
	}
	at := int64(0)
	for _, n := range list {
		got := impl.GetNum(all.String(), at)
		checkNum(t, all.String(), at, impl.NumOut{N: n, At: at + int64(bytesNeeded(n))})
		at = got.At
	}
	if at != int64(all.Len()) {
		t.Errorf("ended at %d of %d", at, all.Len())
	}
}

func TestGetNumFaults(t *testing.T) {
	nine := strings.Repeat("\x80", 9)
	cases := []struct {
		text string
		at   int64
		code int64
	}{
		{"", 0, impl.ErrShort}, {"\x00", 1, impl.ErrShort}, {"\x00", 2, impl.ErrShort},
		{"\x00", math.MaxInt64, impl.ErrShort}, {"\x80", 0, impl.ErrShort}, {nine, 0, impl.ErrShort},
		{"\x00", -1, impl.ErrForm}, {"", -1, impl.ErrForm}, {"\x80\x00", -1, impl.ErrForm}, {"\x00", math.MinInt64, impl.ErrForm},
		{nine + "\x02", 0, impl.ErrSyntax}, {nine + "\x7f", 0, impl.ErrSyntax},
		{nine + "\x80", 0, impl.ErrSyntax}, {nine + "\x81", 0, impl.ErrSyntax}, {nine + "\xff", 0, impl.ErrSyntax},
		{nine + "\x80\x00", 0, impl.ErrSyntax}, {nine + "\x00", 0, impl.ErrSyntax},
		{"\x80\x00", 0, impl.ErrSyntax}, {"\xff\x00", 0, impl.ErrSyntax}, {"\x80\x80\x00", 0, impl.ErrSyntax},
		{"\x80\x00\x01", 0, impl.ErrSyntax},
	}
	for _, c := range cases {
		checkNum(t, c.text, c.at, impl.NumOut{Code: c.code})
		checkText(t, c.text, c.at, impl.TextOut{Code: c.code})
	}
	checkNum(t, nine+"\x01", 0, impl.NumOut{N: 1 << 62, At: 10})
	checkNum(t, codedMost, 0, impl.NumOut{N: math.MinInt64, At: 10})
}

func TestGetLimits(t *testing.T) {
	full := strings.Repeat("\x00", impl.MaxBytes)
	over := full + "\x00"
	for _, at := range []int64{math.MinInt64, -1, 0, impl.MaxBytes, impl.MaxBytes + 1, math.MaxInt64} {
		checkNum(t, over, at, impl.NumOut{Code: impl.ErrSize})
		checkText(t, over, at, impl.TextOut{Code: impl.ErrSize})
	}
	checkNum(t, full, impl.MaxBytes-1, impl.NumOut{At: impl.MaxBytes})
	checkText(t, full, impl.MaxBytes-1, impl.TextOut{At: impl.MaxBytes})
	checkNum(t, full, impl.MaxBytes, impl.NumOut{Code: impl.ErrShort})
	checkText(t, full, impl.MaxBytes, impl.TextOut{Code: impl.ErrShort})
}

func TestTextsComeBack(t *testing.T) {
	texts := []string{"", "a", "\x00", "\xff\x80", "a\nb\x00c", "\u00e9\u4e16"}
	for _, size := range []int{63, 64, 65, 127, 128, 1000, 7990} {
		texts = append(texts, strings.Repeat("\x81", size))
	}
	for _, text := range texts {
		coded := impl.PutText(text)
		if want := impl.PutNum(int64(len(text))) + text; coded != want {
			t.Errorf("PutText(%.20q): got %.20q, want %.20q", text, coded, want)
		}
		size := int64(len(coded))
		checkText(t, coded, 0, impl.TextOut{Text: text, At: size})
		checkText(t, "\xff\x80\xff"+coded+"\xff\x00", 3, impl.TextOut{Text: text, At: 3 + size})
		for cut := range len(coded) {
			checkText(t, coded[:cut], 0, impl.TextOut{Code: impl.ErrShort})
		}
	}
}

func TestTextLimits(t *testing.T) {
	// Two bytes tell the length, so this is the longest that fits in.
	fits := strings.Repeat("z", impl.MaxBytes-2)
	checkText(t, impl.PutText(fits), 0, impl.TextOut{Text: fits, At: impl.MaxBytes})
	most := fits + "zz"
	if got := impl.PutText(most); got != impl.PutNum(impl.MaxBytes)+most {
		t.Errorf("PutText of MaxBytes bytes: %d bytes", len(got))
	}
	checkText(t, impl.PutText(fits+"z"), 0, impl.TextOut{Code: impl.ErrSize})
	if got := impl.PutText(most + "z"); got != "" {
		t.Errorf("PutText of more than MaxBytes bytes: %d bytes", len(got))
	}
}

func TestGetTextLength(t *testing.T) {
	cases := []struct {
		size int64
		code int64
	}{
		{-1, impl.ErrSyntax}, {-2, impl.ErrSyntax}, {math.MinInt64, impl.ErrSyntax}, {math.MaxInt64, impl.ErrSyntax},
		{impl.MaxBytes + 1, impl.ErrSyntax}, {impl.MaxBytes, impl.ErrShort}, {1 << 32, impl.ErrSyntax}, {4, impl.ErrShort},
	}
	for _, c := range cases {
		checkText(t, impl.PutNum(c.size)+"abc", 0, impl.TextOut{Code: c.code})
		checkText(t, impl.PutNum(c.size), 0, impl.TextOut{Code: c.code})
	}
	checkText(t, impl.PutNum(3)+"abc", 0, impl.TextOut{Text: "abc", At: 4})
	checkText(t, impl.PutNum(2)+"abc", 0, impl.TextOut{Text: "ab", At: 3})
	checkText(t, impl.PutNum(0), 0, impl.TextOut{At: 1})
	// What is no number is told ahead of a text that ends too early.
	checkText(t, "\x84\x00", 0, impl.TextOut{Code: impl.ErrSyntax})
	checkText(t, impl.PutText("abc"), -1, impl.TextOut{Code: impl.ErrForm})
}

func TestCrc(t *testing.T) {
	texts := []string{"", "\x00", "\xff", "a", "123456789", "\x00\x00\x00\x00", strings.Repeat("ab\xfe", 300), strings.Repeat("\xff", impl.MaxBytes)}
	for _, text := range texts {
		if got, want := impl.Crc(text), int64(crc32.ChecksumIEEE([]byte(text))); got != want {
			t.Errorf("Crc(%.20q): got %d, want %d", text, got, want)
		}
	}
	for b := range 256 {
		text := string([]byte{byte(b)})
		if got, want := impl.Crc(text), int64(crc32.ChecksumIEEE([]byte(text))); got != want {
			t.Errorf("Crc(%q): got %d, want %d", text, got, want)
		}
	}
	if got := impl.Crc("123456789"); got != 0xCBF43926 {
		t.Errorf("Crc of the digits: %X", got)
	}
	if got := impl.Crc(strings.Repeat("a", impl.MaxBytes+1)); got != 0 {
		t.Errorf("Crc of more than MaxBytes bytes: %d", got)
	}
}

func TestCrcGoesOn(t *testing.T) {
	text := "goes on\x00\xff\x80 from text to text"
	for cut := range len(text) + 1 {
		if got, want := impl.CrcMore(impl.Crc(text[:cut]), text[cut:]), impl.Crc(text); got != want {
			t.Errorf("cut at %d: got %d, want %d", cut, got, want)
		}
	}
	full := strings.Repeat("\x81", impl.MaxBytes)
	want := int64(crc32.ChecksumIEEE([]byte(full + full)))
	if got := impl.CrcMore(impl.Crc(full), full); got != want {
		t.Errorf("two full texts: got %d, want %d", got, want)
	}
}

func TestCrcMoreArguments(t *testing.T) {
	for _, crc := range []int64{-1, 1 << 32, math.MinInt64, math.MaxInt64, 1<<32 + 5} {
		for _, text := range []string{"", "abc"} {
			if got := impl.CrcMore(crc, text); got != 0 {
				t.Errorf("CrcMore(%d, %q): got %d, want 0", crc, text, got)
			}
		}
	}
	for _, crc := range []int64{0, 1, 0xEDB88320, 1<<32 - 1} {
		if got := impl.CrcMore(crc, ""); got != crc {
			t.Errorf("CrcMore(%d, nothing): got %d", crc, got)
		}
		if got, want := impl.CrcMore(crc, "abc"), int64(crc32.Update(uint32(crc), crc32.IEEETable, []byte("abc"))); got != want {
			t.Errorf("CrcMore(%d, abc): got %d, want %d", crc, got, want)
		}
		if got := impl.CrcMore(crc, strings.Repeat("a", impl.MaxBytes+1)); got != 0 {
			t.Errorf("CrcMore(%d, more than MaxBytes bytes): got %d, want 0", crc, got)
		}
	}
}

func checkUnseal(t *testing.T, text string, want impl.TextOut) {
	t.Helper()
	if got := impl.Unseal(text); got != want {
		t.Errorf("Unseal(%.40q): got %.40q at %d code %d, want %.40q at %d code %d", text, got.Text, got.At, got.Code, want.Text, want.At, want.Code)
	}
}

func TestSealComesBack(t *testing.T) {
	if got, want := impl.Seal("123456789"), "123456789\x26\x39\xf4\xcb"; got != want {
		t.Errorf("Seal: got %q, want %q", got, want)
	}
	if got, want := impl.Seal(""), "\x00\x00\x00\x00"; got != want {
		t.Errorf("Seal of nothing: got %q, want %q", got, want)
	}
	for _, size := range []int{0, 1, 3, 4, 5, 100, impl.MaxBytes - 5, impl.MaxBytes - 4} {
		text := strings.Repeat("\x9c", size)
		sealed := impl.Seal(text)
		if len(sealed) != size+4 {
			t.Errorf("Seal of %d bytes has %d bytes", size, len(sealed))
		}
		checkUnseal(t, sealed, impl.TextOut{Text: text})
	}
	for _, size := range []int{impl.MaxBytes - 3, impl.MaxBytes, impl.MaxBytes + 1} {
		if got := impl.Seal(strings.Repeat("a", size)); got != "" {
			t.Errorf("Seal of %d bytes has %d bytes, want none", size, len(got))
		}
	}
}

func TestSealTurned(t *testing.T) {
	for _, text := range []string{"", "a", "turn any byte\x00\xff"} {
		sealed := []byte(impl.Seal(text))
		for place := range sealed {
			for by := 1; by < 256; by++ {
				sealed[place] ^= byte(by)
				checkUnseal(t, string(sealed), impl.TextOut{Code: impl.ErrSum})
				sealed[place] ^= byte(by)
			}
		}
	}
	full := []byte(impl.Seal(strings.Repeat("q", impl.MaxBytes-4)))
	for place := 0; place < len(full); place += 97 {
		full[place] ^= 128
		checkUnseal(t, string(full), impl.TextOut{Code: impl.ErrSum})
		full[place] ^= 128
	}
}

func TestUnsealLengths(t *testing.T) {
	for size := range 4 {
		checkUnseal(t, strings.Repeat("\x00", size), impl.TextOut{Code: impl.ErrShort})
		checkUnseal(t, strings.Repeat("\xff", size), impl.TextOut{Code: impl.ErrShort})
	}
	checkUnseal(t, "\x00\x00\x00\x00", impl.TextOut{})
	checkUnseal(t, "\x00\x00\x00\x01", impl.TextOut{Code: impl.ErrSum})
	checkUnseal(t, strings.Repeat("\x00", impl.MaxBytes), impl.TextOut{Code: impl.ErrSum})
	checkUnseal(t, strings.Repeat("\x00", impl.MaxBytes+1), impl.TextOut{Code: impl.ErrSize})
	// A right sum does not help what is too long.
	long := strings.Repeat("a", impl.MaxBytes-3)
	crc := crc32.ChecksumIEEE([]byte(long))
	checkUnseal(t, long+string([]byte{byte(crc), byte(crc >> 8), byte(crc >> 16), byte(crc >> 24)}), impl.TextOut{Code: impl.ErrSize})
}

func TestNameBytes(t *testing.T) {
	const first = "abcdefghijklmnopqrstuvwxyz"
	for b := range 256 {
		one := string([]byte{byte(b)})
		if got, want := impl.NameRight(one), strings.Contains(first, one); got != want {
			t.Errorf("NameRight(%q): got %t", one, got)
		}
		want := strings.Contains(first+"0123456789_", one)
		for _, name := range []string{"a" + one, "a" + one + "z", "abcdefghijklmnopqrs" + one} {
			if got := impl.NameRight(name); got != want {
				t.Errorf("NameRight(%q): got %t", name, got)
			}
		}
	}
}

func TestNameLengths(t *testing.T) {
	for size, want := range map[int]bool{0: false, 1: true, 2: true, 19: true, 20: true, 21: false, impl.MaxBytes: false, impl.MaxBytes + 1: false} {
		if got := impl.NameRight(strings.Repeat("a", size)); got != want {
			t.Errorf("NameRight of %d bytes: got %t", size, got)
		}
	}
}
