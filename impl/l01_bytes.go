package impl

import (
	"errors"
	"strconv"
)

// Constants, see chapter 1.
const (
	OK        = 0
	ErrForm   = 1
	ErrSize   = 2
	ErrSyntax = 3
	ErrShort  = 4
	ErrSum    = 5
	ErrNone   = 6
	ErrThere  = 7
	ErrRange  = 8
	ErrFull   = 9
	ErrState  = 10
	MaxBytes  = 20000
	MaxList   = 400
	MaxTime   = 1000000000
)

const (
	maxName    = 20
	tenthShift = 63 // the bits ahead of a number's tenth byte
	crcTaps    = 0xEDB88320
	maxCrc     = 0xFFFFFFFF
	sumBytes   = 4
)

// NumOut is a thing of chapter 2.
type NumOut struct {
	N    int64
	At   int64
	Code int64
}

// TextOut is a thing of chapter 2.
type TextOut struct {
	Text string
	At   int64
	Code int64
}

// byteFault is what is wrong with bytes that are read.
type byteFault struct {
	code int64
}

func (f byteFault) Error() string {
	return "bytes that can't be read: code " + strconv.FormatInt(f.code, 10)
}

// codeOf: the code that a caller is told of an error, OK of none.
func codeOf(err error) int64 {
	var fault byteFault
	if errors.As(err, &fault) {
		return fault.code
	}
	return OK
}

// joined: two texts, one behind the other.
func joined(first string, second string) string {
	out := make([]byte, len(first)+len(second))
	copy(out, first)
	copy(out[len(first):], second)
	return string(out)
}

// pieceOf is a copy, because an answer shares no memory with what was handed in.
func pieceOf(text string, from int64, to int64) string {
	out := make([]byte, to-from)
	copy(out, text[from:to])
	return string(out)
}

// unsignedOf puts numbers below 0 between the others, so that small ones of both signs need few bytes.
func unsignedOf(n int64) uint64 {
	if n < 0 {
		return 2*uint64(-(n+1)) + 1
	}
	return 2 * uint64(n)
}

// signedOf turns unsignedOf round.
func signedOf(u uint64) int64 {
	half := int64(u / 2)
	if u%2 == 1 {
		return -half - 1
	}
	return half
}

// PutNum: see chapter 2.
func PutNum(n int64) string {
	var out []byte
	rest := unsignedOf(n)
	for rest >= 128 {
		out = append(out, byte(rest%128)+128)
		rest /= 128
	}
	return string(append(out, byte(rest)))
}

// placeFault: what is wrong with a text to read from and a place in it, ahead of all that stands there.
func placeFault(text string, at int64) error {
	if len(text) > MaxBytes {
		return byteFault{ErrSize}
	}
	if at < 0 {
		return byteFault{ErrForm}
	}
	return nil
}

// readNum: the number at a place, and the place behind it.
func readNum(text string, at int64) (int64, int64, error) {
	var u uint64
	var shift uint
	var b byte
	var code int64
	err := placeFault(text, at)
	if err != nil {
		return 0, 0, err
	}
more:
	if at >= int64(len(text)) {
		code = ErrShort
		goto wrong
	}
	b = text[at]
	// The tenth byte is judged ahead of whether it is the last one: nothing may follow it.
	if shift == tenthShift && b > 1 {
		code = ErrSyntax
		goto wrong
	}
	u |= uint64(b%128) << shift
	at++
	if b < 128 {
		goto last
	}
	shift += 7
	goto more
last:
	// A last byte of 0 adds nothing, so the number had been written without it.
	if b == 0 && shift > 0 {
		code = ErrSyntax
		goto wrong
	}
	return signedOf(u), at, nil
wrong:
	return 0, 0, byteFault{code}
}

// GetNum: see chapter 2.
func GetNum(text string, at int64) NumOut {
	n, behind, err := readNum(text, at)
	return NumOut{N: n, At: behind, Code: codeOf(err)}
}

// PutText: see chapter 2.
func PutText(t string) string {
	if len(t) > MaxBytes {
		return ""
	}
	return joined(PutNum(int64(len(t))), t)
}

// readText: the text at a place, and the place behind it.
func readText(text string, at int64) (string, int64, error) {
	size, start, err := readNum(text, at)
	if err != nil {
		return "", 0, err
	}
	if size < 0 || size > MaxBytes {
		return "", 0, byteFault{ErrSyntax}
	}
	if size > int64(len(text))-start {
		return "", 0, byteFault{ErrShort}
	}
	return pieceOf(text, start, start+size), start + size, nil
}

// GetText: see chapter 2.
func GetText(text string, at int64) TextOut {
	t, behind, err := readText(text, at)
	return TextOut{Text: t, At: behind, Code: codeOf(err)}
}

func isLetter(b byte) bool {
	return b >= 'a' && b <= 'z'
}

func isNameByte(b byte) bool {
	return isLetter(b) || b >= '0' && b <= '9' || b == '_'
}

// NameRight: see chapter 2.
func NameRight(t string) bool {
	if len(t) < 1 || len(t) > maxName || !isLetter(t[0]) {
		return false
	}
	for i := 1; i < len(t); i++ {
		if !isNameByte(t[i]) {
			return false
		}
	}
	return true
}

// crcByte: the register behind one more byte.
func crcByte(register uint32, b byte) uint32 {
	for bit := 0; bit < 8; bit++ {
		both := (register ^ uint32(b)>>bit) & 1
		register >>= 1
		if both == 1 {
			register ^= crcTaps
		}
	}
	return register
}

// Crc: see chapter 2.
func Crc(text string) int64 {
	// 0 is the CRC of the empty text, and every text stands behind that one.
	return CrcMore(0, text)
}

// CrcMore: see chapter 2.
func CrcMore(crc int64, text string) int64 {
	if len(text) > MaxBytes || crc < 0 || crc > maxCrc {
		return 0
	}
	register := ^uint32(crc)
	for i := 0; i < len(text); i++ {
		register = crcByte(register, text[i])
	}
	return int64(^register)
}

// sumOf: the four bytes of a text's CRC, the lowest first.
func sumOf(text string) string {
	crc := Crc(text)
	out := make([]byte, sumBytes)
	for i := range out {
		out[i] = byte(crc >> (8 * i))
	}
	return string(out)
}

// Seal: see chapter 2.
func Seal(text string) string {
	if len(text) > MaxBytes-sumBytes {
		return ""
	}
	return joined(text, sumOf(text))
}

// readSealed: the text that a seal was put on.
func readSealed(text string) (string, error) {
	if len(text) > MaxBytes {
		return "", byteFault{ErrSize}
	}
	if len(text) < sumBytes {
		return "", byteFault{ErrShort}
	}
	body := pieceOf(text, 0, int64(len(text)-sumBytes))
	if Seal(body) != text {
		return "", byteFault{ErrSum}
	}
	return body, nil
}

// Unseal: see chapter 2.
func Unseal(text string) TextOut {
	body, err := readSealed(text)
	return TextOut{Text: body, Code: codeOf(err)}
}
