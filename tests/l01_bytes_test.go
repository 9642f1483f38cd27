package tests

import (
	"encoding/binary"
	"hash/crc32"
	"math"
	"strings"
	"testing"
	"unsafe"

	"loop.example/g00310/impl"
)

var tooLong = strings.Repeat("a", impl.MaxBytes+1)

func wantNum(t *testing.T, text string, at int64, want impl.NumOut) {
	t.Helper()
	if got := impl.GetNum(text, at); got != want {
		t.Errorf("GetNum(%.40q, %d): got %+v, want %+v", text, at, got, want)
	}
}

func wantText(t *testing.T, text string, at int64, want impl.TextOut) {
	t.Helper()
	if got := impl.GetText(text, at); got != want {
		t.Errorf("GetText(%.40q, %d): got %.60q at %d code %d, want %.60q at %d code %d",
			text, at, got.Text, got.At, got.Code, want.Text, want.At, want.Code)
	}
}

// bytesRun is a text of that many bytes in which all 256 of them stand.
func bytesRun(many int) string {
	out := make([]byte, many)
	for i := range out {
		out[i] = byte(i*7 + i/256)
	}
	return string(out)
}

// edgeNums: the numbers on both sides of each place where a byte more is needed, and the ends of int64.
func edgeNums() []int64 {
	out := []int64{0, 1, -1, 2, -2, 300, -300, math.MaxInt64, math.MaxInt64 - 1, math.MinInt64, math.MinInt64 + 1}
	for bits := 6; bits < 63; bits += 7 {
		edge := int64(1) << bits
		out = append(out, edge-1, edge, edge+1, -edge+1, -edge, -edge-1)
	}
	return out
}

func TestNumbersAsBytes(t *testing.T) {
	for _, c := range []struct {
		n    int64
		want string
	}{
		{0, "\x00"}, {-1, "\x01"}, {1, "\x02"}, {-2, "\x03"},
		{63, "\x7e"}, {-64, "\x7f"}, {64, "\x80\x01"}, {-65, "\x81\x01"},
		{8191, "\xfe\x7f"}, {-8192, "\xff\x7f"}, {8192, "\x80\x80\x01"}, {-8193, "\x81\x80\x01"},
		{math.MaxInt64, "\xfe\xff\xff\xff\xff\xff\xff\xff\xff\x01"},
		{math.MinInt64, "\xff\xff\xff\xff\xff\xff\xff\xff\xff\x01"},
	} {
		if got := impl.PutNum(c.n); got != c.want {
			t.Errorf("PutNum(%d): got %q, want %q", c.n, got, c.want)
		}
	}
	for _, n := range edgeNums() {
		if got, want := impl.PutNum(n), string(binary.AppendVarint(nil, n)); got != want {
			t.Errorf("PutNum(%d): got %q, want %q", n, got, want)
		}
	}
}

func TestNumbersComeBack(t *testing.T) {
	for _, n := range edgeNums() {
		text := impl.PutNum(n)
		size := int64(len(text))
		wantNum(t, text, 0, impl.NumOut{N: n, At: size})
		wantNum(t, "ab\xff"+text+"\x80z", 3, impl.NumOut{N: n, At: 3 + size})
	}
	for n := int64(-20000); n <= 20000; n += 17 {
		text := impl.PutNum(n)
		wantNum(t, text, 0, impl.NumOut{N: n, At: int64(len(text))})
	}
}

func TestNumbersAtAPlace(t *testing.T) {
	short := impl.NumOut{Code: impl.ErrShort}
	form := impl.NumOut{Code: impl.ErrForm}
	wantNum(t, "\x02\x04", 1, impl.NumOut{N: 2, At: 2})
	wantNum(t, "\x02\x04", -1, form)
	wantNum(t, "", -1, form)
	wantNum(t, "\x02\x04", math.MinInt64, form)
	wantNum(t, "", 0, short)
	wantNum(t, "\x02\x04", 2, short)
	wantNum(t, "\x02\x04", 3, short)
	wantNum(t, "\x02\x04", math.MaxInt64, short)
	full := strings.Repeat("\x80", impl.MaxBytes-1) + "\x02"
	wantNum(t, full, impl.MaxBytes-1, impl.NumOut{N: 1, At: impl.MaxBytes})
	wantNum(t, full, impl.MaxBytes, short)
}

func TestNumbersThatEndTooEarly(t *testing.T) {
	for _, n := range edgeNums() {
		text := impl.PutNum(n)
		for cut := range len(text) {
			wantNum(t, text[:cut], 0, impl.NumOut{Code: impl.ErrShort})
			wantText(t, text[:cut], 0, impl.TextOut{Code: impl.ErrShort})
		}
	}
	wantNum(t, strings.Repeat("\x80", 9), 0, impl.NumOut{Code: impl.ErrShort})
	wantNum(t, "z"+strings.Repeat("\xff", 9), 1, impl.NumOut{Code: impl.ErrShort})
}

func TestNumbersThatAreNone(t *testing.T) {
	syntax := impl.NumOut{Code: impl.ErrSyntax}
	nine := strings.Repeat("\xff", 9)
	for _, text := range []string{
		"\x80\x00", "\xff\x00", "\x80\x80\x00", "\x81\x80\x80\x00", // more bytes than are needed
		nine + "\x00", strings.Repeat("\x80", 9) + "\x00",
		nine + "\x02", nine + "\x7f", nine + "\x80", nine + "\x81", nine + "\xff", // the tenth byte is above 1
		nine + "\x80\x00", nine + "\x81\x01", strings.Repeat("\x80", 11),
	} {
		wantNum(t, text, 0, syntax)
		wantNum(t, "\x00"+text+"\x00", 1, syntax)
		wantText(t, text, 0, impl.TextOut{Code: impl.ErrSyntax})
	}
}

// Of two bytes all pairs are either written by PutNum, or refused.
func TestAllPairsOfBytes(t *testing.T) {
	for a := range 256 {
		for b := range 256 {
			text := string([]byte{byte(a), byte(b)})
			got := impl.GetNum(text, 0)
			switch {
			case a < 128:
				want, _ := binary.Varint([]byte{byte(a)})
				wantNum(t, text, 0, impl.NumOut{N: want, At: 1})
			case b >= 128:
				wantNum(t, text, 0, impl.NumOut{Code: impl.ErrShort})
			case b == 0:
				wantNum(t, text, 0, impl.NumOut{Code: impl.ErrSyntax})
			default:
				want, _ := binary.Varint([]byte(text))
				wantNum(t, text, 0, impl.NumOut{N: want, At: 2})
				if impl.PutNum(got.N) != text {
					t.Errorf("PutNum(%d) is not %q", got.N, text)
				}
			}
		}
	}
}

func TestTextsComeBack(t *testing.T) {
	for _, size := range []int{0, 1, 2, 63, 64, 65, 8191, 8192, 8193, impl.MaxBytes - 3} {
		body := bytesRun(size)
		text := impl.PutText(body)
		if want := string(binary.AppendVarint(nil, int64(size))) + body; text != want {
			t.Errorf("PutText of %d bytes: got %.20q, want %.20q", size, text, want)
		}
		wantText(t, text, 0, impl.TextOut{Text: body, At: int64(len(text))})
	}
	first, second := impl.PutText("first"), impl.PutText("")
	both := "!" + first + second + "behind"
	wantText(t, both, 1, impl.TextOut{Text: "first", At: 7})
	wantText(t, both, 7, impl.TextOut{Text: "", At: 8})
}

// A text of MaxBytes bytes has its bytes, but these are too many to be handed in again.
func TestTextsOfMaxBytes(t *testing.T) {
	for size := impl.MaxBytes - 2; size <= impl.MaxBytes; size++ {
		body := bytesRun(size)
		text := impl.PutText(body)
		if want := string(binary.AppendVarint(nil, int64(size))) + body; text != want {
			t.Errorf("PutText of %d bytes is not its length and it", size)
		}
		wantText(t, text, 0, impl.TextOut{Code: impl.ErrSize})
	}
	if got := impl.PutText(tooLong); got != "" {
		t.Errorf("PutText of too many bytes: got %d bytes", len(got))
	}
}

func TestTextsThatAreNone(t *testing.T) {
	short := impl.TextOut{Code: impl.ErrShort}
	syntax := impl.TextOut{Code: impl.ErrSyntax}
	form := impl.TextOut{Code: impl.ErrForm}
	wantText(t, "\x04ab", -1, form)
	wantText(t, "", math.MinInt64, form)
	wantText(t, "", 0, short)
	wantText(t, "\x04ab", 3, short)
	wantText(t, "\x04ab", 4, short)
	wantText(t, "\x04ab", math.MaxInt64, short)
	wantText(t, "\x04a", 0, short)
	wantText(t, "\x02", 0, short)
	for _, size := range []int64{-1, -2, -300, math.MinInt64, impl.MaxBytes + 1, impl.MaxBytes + 2, math.MaxInt64} {
		wantText(t, impl.PutNum(size), 0, syntax)
		wantText(t, impl.PutNum(size)+"abc", 0, syntax)
	}
	wantText(t, impl.PutNum(impl.MaxBytes), 0, short)
	full := impl.PutText(bytesRun(impl.MaxBytes))
	wantText(t, full[:impl.MaxBytes], 0, short)
}

// That a text is too long is told ahead of what is wrong with the place.
func TestTextsHandedInThatAreTooLong(t *testing.T) {
	for _, at := range []int64{math.MinInt64, -1, 0, impl.MaxBytes, impl.MaxBytes + 1, impl.MaxBytes + 2, math.MaxInt64} {
		wantNum(t, tooLong, at, impl.NumOut{Code: impl.ErrSize})
		wantText(t, tooLong, at, impl.TextOut{Code: impl.ErrSize})
	}
	wantNum(t, tooLong[1:], 0, impl.NumOut{N: -49, At: 1})
	wantNum(t, tooLong[1:], -1, impl.NumOut{Code: impl.ErrForm})
	wantText(t, "\x04"+tooLong[2:], 0, impl.TextOut{Text: "aa", At: 3})
}

func TestNames(t *testing.T) {
	for _, name := range []string{"a", "z", "a_", "a_9", "z0", "host_1", strings.Repeat("a", 20), "a" + strings.Repeat("_", 19)} {
		if !impl.NameRight(name) {
			t.Errorf("%q is a name", name)
		}
	}
	for _, name := range []string{"", strings.Repeat("a", 21), "_", "_a", "0", "9a", "A", "aB", "a-", "a ", " a", "a.", "a\n", "a\x00", "é", "aé", tooLong} {
		if impl.NameRight(name) {
			t.Errorf("%.40q is no name", name)
		}
	}
	for b := range 256 {
		c := byte(b)
		letter := strings.IndexByte("abcdefghijklmnopqrstuvwxyz", c) >= 0
		inside := letter || strings.IndexByte("0123456789_", c) >= 0
		if impl.NameRight(string([]byte{c})) != letter || impl.NameRight(string([]byte{c, 'a'})) != letter {
			t.Errorf("the first byte %d: should be right: %v", b, letter)
		}
		if impl.NameRight(string([]byte{'a', c})) != inside || impl.NameRight(string([]byte{'a', c, 'a'})) != inside {
			t.Errorf("the byte %d: should be right: %v", b, inside)
		}
	}
}

func TestCrc(t *testing.T) {
	if got := impl.Crc("123456789"); got != 0xCBF43926 {
		t.Errorf("Crc of the digits: got %x", got)
	}
	if got := impl.Crc(""); got != 0 {
		t.Errorf("Crc of the empty text: got %x", got)
	}
	for _, size := range []int{1, 2, 3, 4, 255, 256, 1000, impl.MaxBytes - 1, impl.MaxBytes} {
		text := bytesRun(size)
		if got, want := impl.Crc(text), int64(crc32.ChecksumIEEE([]byte(text))); got != want {
			t.Errorf("Crc of %d bytes: got %x, want %x", size, got, want)
		}
	}
	for b := range 256 {
		text := string([]byte{byte(b)})
		if got, want := impl.Crc(text), int64(crc32.ChecksumIEEE([]byte(text))); got != want {
			t.Errorf("Crc of the byte %d: got %x, want %x", b, got, want)
		}
	}
	if got := impl.Crc(tooLong); got != 0 {
		t.Errorf("Crc of too many bytes: got %x", got)
	}
}

func TestCrcGoesOn(t *testing.T) {
	text := bytesRun(300)
	for cut := range len(text) + 1 {
		if got, want := impl.CrcMore(impl.Crc(text[:cut]), text[cut:]), impl.Crc(text); got != want {
			t.Errorf("CrcMore from %d on: got %x, want %x", cut, got, want)
		}
	}
	full := bytesRun(impl.MaxBytes)
	want := int64(crc32.ChecksumIEEE([]byte(full + full)))
	if got := impl.CrcMore(impl.Crc(full), full); got != want {
		t.Errorf("CrcMore of two full texts: got %x, want %x", got, want)
	}
	for _, crc := range []int64{0, 1, 1 << 31, 1<<32 - 1} {
		if got := impl.CrcMore(crc, ""); got != crc {
			t.Errorf("CrcMore(%x) of the empty text: got %x", crc, got)
		}
		want := int64(crc32.Update(uint32(crc), crc32.IEEETable, []byte("abc")))
		if got := impl.CrcMore(crc, "abc"); got != want {
			t.Errorf("CrcMore(%x): got %x, want %x", crc, got, want)
		}
	}
	for _, crc := range []int64{-1, 1 << 32, 1<<32 + 1, math.MaxInt64, math.MinInt64} {
		if got := impl.CrcMore(crc, "abc"); got != 0 {
			t.Errorf("CrcMore(%d), which is none: got %x", crc, got)
		}
	}
	if got := impl.CrcMore(1, tooLong); got != 0 {
		t.Errorf("CrcMore of too many bytes: got %x", got)
	}
}

func wantUnsealed(t *testing.T, text string, want impl.TextOut) {
	t.Helper()
	if got := impl.Unseal(text); got != want {
		t.Errorf("Unseal(%.40q): got %.40q at %d code %d, want %.40q code %d", text, got.Text, got.At, got.Code, want.Text, want.Code)
	}
}

func TestSealedTextsComeBack(t *testing.T) {
	if got := impl.Seal(""); got != "\x00\x00\x00\x00" {
		t.Errorf("Seal of the empty text: got %q", got)
	}
	if got := impl.Seal("123456789"); got != "123456789\x26\x39\xf4\xcb" {
		t.Errorf("Seal of the digits: got %q", got)
	}
	for _, size := range []int{0, 1, 2, 3, 4, 5, 100, impl.MaxBytes - 5, impl.MaxBytes - 4} {
		body := bytesRun(size)
		sealed := impl.Seal(body)
		if len(sealed) != size+4 {
			t.Errorf("Seal of %d bytes has %d", size, len(sealed))
		}
		wantUnsealed(t, sealed, impl.TextOut{Text: body})
	}
	for _, size := range []int{impl.MaxBytes - 3, impl.MaxBytes - 2, impl.MaxBytes, impl.MaxBytes + 1} {
		if got := impl.Seal(bytesRun(size)); got != "" {
			t.Errorf("Seal of %d bytes: got %d bytes", size, len(got))
		}
	}
}

func TestSealsThatAreBroken(t *testing.T) {
	sum := impl.TextOut{Code: impl.ErrSum}
	for _, body := range []string{"", "a", "ab", "some text\x00\xff", bytesRun(70)} {
		sealed := []byte(impl.Seal(body))
		for i := range sealed {
			for turn := 1; turn < 256; turn++ {
				sealed[i] ^= byte(turn)
				wantUnsealed(t, string(sealed), sum)
				sealed[i] ^= byte(turn)
			}
		}
		for cut := range 4 {
			wantUnsealed(t, string(sealed[:cut]), impl.TextOut{Code: impl.ErrShort})
		}
	}
	wantUnsealed(t, "abc", impl.TextOut{Code: impl.ErrShort})
	wantUnsealed(t, "abcd", sum)
	wantUnsealed(t, tooLong, impl.TextOut{Code: impl.ErrSize})
	wantUnsealed(t, tooLong[1:], sum)
	// A right sum does not help a text that is too long.
	long := bytesRun(impl.MaxBytes - 3)
	wantUnsealed(t, string(binary.LittleEndian.AppendUint32([]byte(long), crc32.ChecksumIEEE([]byte(long)))), impl.TextOut{Code: impl.ErrSize})
	// The highest byte first is another sum.
	wantUnsealed(t, "123456789\xcb\xf4\x39\x26", sum)
}

func sharesMemory(a string, b string) bool {
	if len(a) == 0 || len(b) == 0 {
		return false
	}
	from := uintptr(unsafe.Pointer(unsafe.StringData(a)))
	start := uintptr(unsafe.Pointer(unsafe.StringData(b)))
	return from < start+uintptr(len(b)) && start < from+uintptr(len(a))
}

func TestTextsAreNewMemory(t *testing.T) {
	body := bytesRun(1000)
	text := impl.PutText(body)
	sealed := impl.Seal(body)
	if sharesMemory(impl.GetText(text, 0).Text, text) {
		t.Error("GetText hands out a piece of its argument")
	}
	if sharesMemory(impl.Unseal(sealed).Text, sealed) {
		t.Error("Unseal hands out a piece of its argument")
	}
	if sharesMemory(text, body) || sharesMemory(sealed, body) {
		t.Error("PutText or Seal hands out its argument")
	}
}
