package impl

import (
	"errors"
	"strconv"
	"strings"
)

// Constants, see chapter 1.
const (
	OK        = 0
	ErrForm   = 1
	ErrSize   = 2
	ErrSyntax = 3
	ErrShort  = 4
	ErrSum    = 5
	ErrNone   = 6
	ErrThere  = 7
	ErrRange  = 8
	ErrFull   = 9
	ErrState  = 10
	MaxBytes  = 8000
	MaxList   = 400
	MaxTime   = 1000000
)

// NumOut is a thing of chapter 2.
type NumOut struct {
	N    int64
	At   int64
	Code int64
}

// TextOut is a thing of chapter 2.
type TextOut struct {
	Text string
	At   int64
	Code int64
}

// The sizes of chapter 2, and the numbers of its CRC.
const (
	maxNumBytes  = 10
	maxNameBytes = 20
	sumBytes     = 4
	crcTurn      = 0xEDB88320
	maxCrc       = 1<<32 - 1
)

// fault is why something can not be read.
type fault struct {
	code int64
}

func (f fault) Error() string {
	return "code " + strconv.FormatInt(f.code, 10)
}

// codeOf is the code of what went wrong, OK if nothing did.
func codeOf(err error) int64 {
	var f fault
	if errors.As(err, &f) {
		return f.code
	}
	return OK
}

// PutNum writes n in one to ten bytes.
func PutNum(n int64) string {
	// The sign goes to the lowest bit, so that small numbers below 0 are short too.
	u := uint64(n)<<1 ^ uint64(n>>63)
	var written [maxNumBytes]byte
	size := 0
	for u > 127 {
		written[size] = byte(u) | 128
		u >>= 7
		size++
	}
	written[size] = byte(u)
	return string(written[:size+1])
}

// GetNum reads the number that stands at a place of the text.
func GetNum(text string, at int64) NumOut {
	if len(text) > MaxBytes {
		return NumOut{Code: ErrSize}
	}
	n, behind, err := readNum(text, at)
	return NumOut{N: n, At: behind, Code: codeOf(err)}
}

// readNum tells the number at a place, and the place behind it.
func readNum(text string, at int64) (int64, int64, error) {
	if at < 0 {
		return 0, 0, fault{ErrForm}
	}
	if at > int64(len(text)) {
		return 0, 0, fault{ErrShort}
	}
	u, size, err := readBits(text[at:])
	if err != nil {
		return 0, 0, err
	}
	return int64(u>>1) ^ -int64(u&1), at + size, nil
}

// readBits puts together the bits of the bytes that text begins with, and tells how many bytes these are.
func readBits(text string) (uint64, int64, error) {
	var u uint64
	var b byte
	var size int
	var code int64

more:
	if size == len(text) {
		code = ErrShort
		goto wrong
	}
	b = text[size]
	size++
	if size == maxNumBytes && b > 1 {
		code = ErrSyntax
		goto wrong
	}
	u |= uint64(b&127) << (7 * (size - 1))
	if b < 128 {
		goto last
	}
	goto more

last:
	// A last byte of 0 adds nothing: fewer bytes would have done.
	if b == 0 && size > 1 {
		code = ErrSyntax
		goto wrong
	}
	return u, int64(size), nil

wrong:
	return 0, 0, fault{code}
}

// PutText writes the length of t, and t.
func PutText(t string) string {
	if len(t) > MaxBytes {
		return ""
	}
	return joined(PutNum(int64(len(t))), t)
}

// GetText reads the text that stands, behind its length, at a place of text.
func GetText(text string, at int64) TextOut {
	if len(text) > MaxBytes {
		return TextOut{Code: ErrSize}
	}
	t, behind, err := readText(text, at)
	return TextOut{Text: t, At: behind, Code: codeOf(err)}
}

// readText tells the text at a place, and the place behind it.
func readText(text string, at int64) (string, int64, error) {
	size, start, err := readNum(text, at)
	if err != nil {
		return "", 0, err
	}
	if size < 0 || size > MaxBytes {
		return "", 0, fault{ErrSyntax}
	}
	if size > int64(len(text))-start {
		return "", 0, fault{ErrShort}
	}
	return strings.Clone(text[start : start+size]), start + size, nil
}

// joined is a, and b behind it.
func joined(a string, b string) string {
	both := make([]byte, len(a)+len(b))
	copy(both, a)
	copy(both[len(a):], b)
	return string(both)
}

// NameRight tells whether t is a name.
func NameRight(t string) bool {
	if len(t) < 1 || len(t) > maxNameBytes || !isLower(t[0]) {
		return false
	}
	for i := range len(t) {
		if !isNameByte(t[i]) {
			return false
		}
	}
	return true
}

func isNameByte(b byte) bool {
	return isLower(b) || b >= '0' && b <= '9' || b == '_'
}

func isLower(b byte) bool {
	return b >= 'a' && b <= 'z'
}

// Crc is the CRC of the text.
func Crc(text string) int64 {
	// 0 is the CRC of the empty text, so every text stands behind one.
	return CrcMore(0, text)
}

// CrcMore is the CRC of a text whose CRC is crc, and of this text behind it.
func CrcMore(crc int64, text string) int64 {
	if len(text) > MaxBytes || crc < 0 || crc > maxCrc {
		return 0
	}
	register := ^uint32(crc)
	for i := range len(text) {
		register = crcByte(register, text[i])
	}
	return int64(^register)
}

// crcByte puts one byte into the register, the lowest bit first.
func crcByte(register uint32, b byte) uint32 {
	register ^= uint32(b)
	for range 8 {
		low := register & 1
		register >>= 1
		if low == 1 {
			register ^= crcTurn
		}
	}
	return register
}

// Seal is the text, and its CRC behind it.
func Seal(text string) string {
	if len(text) > MaxBytes-sumBytes {
		return ""
	}
	crc := Crc(text)
	sum := [sumBytes]byte{byte(crc), byte(crc >> 8), byte(crc >> 16), byte(crc >> 24)}
	return joined(text, string(sum[:]))
}

// Unseal is the text of which this is the Seal.
func Unseal(text string) TextOut {
	if len(text) > MaxBytes {
		return TextOut{Code: ErrSize}
	}
	if len(text) < sumBytes {
		return TextOut{Code: ErrShort}
	}
	inner := strings.Clone(text[:len(text)-sumBytes])
	if Seal(inner) != text {
		return TextOut{Code: ErrSum}
	}
	return TextOut{Text: inner}
}
