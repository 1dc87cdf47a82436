package impl

import (
	"errors"
	"strconv"
)

// Constants, see chapter 1.
const (
	OK        = 0
	ErrForm   = 1
	ErrSize   = 2
	ErrSyntax = 3
	ErrShort  = 4
	ErrSum    = 5
	ErrNone   = 6
	ErrThere  = 7
	ErrRange  = 8
	ErrFull   = 9
	ErrState  = 10
	MaxBytes  = 8000
	MaxList   = 400
	MaxTime   = 1000000
)

const (
	maxNumBytes   = 10
	maxName       = 20
	sumBytes      = 4
	crcPolynomial = 0xEDB88320
	maxCrc        = 1<<32 - 1
)

// NumOut is a thing of chapter 2.
type NumOut struct {
	N    int64
	At   int64
	Code int64
}

// TextOut is a thing of chapter 2.
type TextOut struct {
	Text string
	At   int64
	Code int64
}

// readFault is why nothing could be read at a place.
type readFault struct {
	code int64
}

// Error is there so that a fault can travel as an error.
func (f readFault) Error() string {
	return "cannot be read: code " + strconv.FormatInt(f.code, 10)
}

// codeOf takes the code out of what went wrong with reading.
func codeOf(err error) int64 {
	var fault readFault
	if errors.As(err, &fault) {
		return fault.code
	}
	return OK
}

// joinTexts puts two texts one behind the other, in new memory.
func joinTexts(first string, second string) string {
	b := make([]byte, len(first)+len(second))
	copy(b, first)
	copy(b[len(first):], second)
	return string(b)
}

// cutText copies a piece, so that an answer keeps no hold on a longer text.
func cutText(text string, from int64, to int64) string {
	b := make([]byte, to-from)
	copy(b, text[from:to])
	return string(b)
}

// foldSign interleaves numbers from 0 on with those below 0, so that short
// ones of both signs take few bytes.
func foldSign(n int64) uint64 {
	if n < 0 {
		return ^(uint64(n) << 1)
	}
	return uint64(n) << 1
}

func unfoldSign(u uint64) int64 {
	if u&1 == 1 {
		return int64(^(u >> 1))
	}
	return int64(u >> 1)
}

// PutNum: see chapter 2.
func PutNum(n int64) string {
	var b [maxNumBytes]byte
	u := foldSign(n)
	many := 0
	for u >= 128 {
		b[many] = byte(u&127) | 128
		u >>= 7
		many++
	}
	b[many] = byte(u)
	return string(b[:many+1])
}

// checkPlace looks for the faults that come ahead of what stands in the text.
func checkPlace(text string, at int64) error {
	if len(text) > MaxBytes {
		return readFault{ErrSize}
	}
	if at < 0 {
		return readFault{ErrForm}
	}
	return nil
}

// readBits reads the bytes of a number at a place that is not below 0, and
// tells the place behind it too.
func readBits(text string, at int64) (uint64, int64, error) {
	var u uint64
	var b byte
	many := 0
more:
	if at >= int64(len(text)) {
		return 0, 0, readFault{ErrShort}
	}
	b = text[at]
	if many == maxNumBytes-1 && b > 1 {
		goto wrong // only one bit of 64 is left for the tenth byte
	}
	u |= uint64(b&127) << (7 * many)
	at++
	many++
	if b < 128 {
		goto last
	}
	goto more
last:
	if b == 0 && many > 1 {
		goto wrong // the byte ahead could have been the last one
	}
	return u, at, nil
wrong:
	return 0, 0, readFault{ErrSyntax}
}

func readNum(text string, at int64) (int64, int64, error) {
	if err := checkPlace(text, at); err != nil {
		return 0, 0, err
	}
	u, next, err := readBits(text, at)
	return unfoldSign(u), next, err
}

func readText(text string, at int64) (string, int64, error) {
	size, start, err := readNum(text, at)
	if err != nil {
		return "", 0, err
	}
	if size < 0 || size > MaxBytes {
		return "", 0, readFault{ErrSyntax}
	}
	end := start + size
	if end > int64(len(text)) {
		return "", 0, readFault{ErrShort}
	}
	return cutText(text, start, end), end, nil
}

// GetNum: see chapter 2.
func GetNum(text string, at int64) NumOut {
	n, next, err := readNum(text, at)
	if err != nil {
		return NumOut{Code: codeOf(err)}
	}
	return NumOut{N: n, At: next}
}

// PutText: see chapter 2.
func PutText(t string) string {
	if len(t) > MaxBytes {
		return ""
	}
	return joinTexts(PutNum(int64(len(t))), t)
}

// GetText: see chapter 2.
func GetText(text string, at int64) TextOut {
	t, next, err := readText(text, at)
	if err != nil {
		return TextOut{Code: codeOf(err)}
	}
	return TextOut{Text: t, At: next}
}

func isLetter(b byte) bool {
	return b >= 'a' && b <= 'z'
}

func isDigit(b byte) bool {
	return b >= '0' && b <= '9'
}

// NameRight: see chapter 2.
func NameRight(t string) bool {
	if len(t) < 1 || len(t) > maxName || !isLetter(t[0]) {
		return false
	}
	for i := range len(t) {
		if !isLetter(t[i]) && !isDigit(t[i]) && t[i] != '_' {
			return false
		}
	}
	return true
}

// crcByte takes one byte into the register.
func crcByte(register uint32, b byte) uint32 {
	for bit := range 8 {
		turned := (register ^ uint32(b>>bit)) & 1
		register >>= 1
		if turned == 1 {
			register ^= crcPolynomial
		}
	}
	return register
}

// Crc: see chapter 2.
func Crc(text string) int64 {
	// 0 is the CRC of the empty text, which every text goes on from.
	return CrcMore(0, text)
}

// CrcMore: see chapter 2.
func CrcMore(crc int64, text string) int64 {
	if len(text) > MaxBytes || crc < 0 || crc > maxCrc {
		return 0
	}
	register := ^uint32(crc)
	for i := range len(text) {
		register = crcByte(register, text[i])
	}
	return int64(^register)
}

// sumText is the bytes that stand behind a sealed text.
func sumText(text string) string {
	crc := Crc(text)
	var b [sumBytes]byte
	for i := range sumBytes {
		b[i] = byte(crc >> (8 * i))
	}
	return string(b[:])
}

// Seal: see chapter 2.
func Seal(text string) string {
	if len(text) > MaxBytes-sumBytes {
		return ""
	}
	return joinTexts(text, sumText(text))
}

// Unseal: see chapter 2.
func Unseal(text string) TextOut {
	if len(text) > MaxBytes {
		return TextOut{Code: ErrSize}
	}
	if len(text) < sumBytes {
		return TextOut{Code: ErrShort}
	}
	inner := cutText(text, 0, int64(len(text)-sumBytes))
	if Seal(inner) != text {
		return TextOut{Code: ErrSum}
	}
	return TextOut{Text: inner}
}
