package tests

import (
	"encoding/binary"
	"hash/crc32"
	"math"
	"math/rand"
	"strings"
	"testing"

	"loop.example/g00550/impl"
)

// sameNum asks for the whole answer, so that what stands beside a code is held too.
func sameNum(t *testing.T, what string, got impl.NumOut, want impl.NumOut) {
	t.Helper()
	if got != want {
		t.Errorf("%s: got %+v, want %+v", what, got, want)
	}
}

func sameText(t *testing.T, what string, got impl.TextOut, want impl.TextOut) {
	t.Helper()
	if got != want {
		t.Errorf("%s: got code %d, at %d, %d bytes %.40q; want code %d, at %d, %d bytes %.40q", what,
			got.Code, got.At, len(got.Text), got.Text, want.Code, want.At, len(want.Text), want.Text)
	}
}

// edgeNums has the two numbers at either side of each step to one byte more, and the ends of int64.
func edgeNums() []int64 {
	l := []int64{0, 1, -1, 2, -2, 300, -300, math.MaxInt64, math.MaxInt64 - 1, math.MinInt64, math.MinInt64 + 1}
	for bits := 6; bits < 63; bits += 7 {
		step := int64(1) << bits
		l = append(l, step-1, step, -step, -step-1)
	}
	return l
}

func manyNums() []int64 {
	l := edgeNums()
	draw := rand.New(rand.NewSource(1))
	for range 2000 {
		l = append(l, int64(draw.Uint64())>>draw.Intn(64))
	}
	return l
}

func randomText(draw *rand.Rand, size int) string {
	b := make([]byte, size)
	draw.Read(b)
	return string(b)
}

func TestCodesAndLimits(t *testing.T) {
	got := []int64{impl.OK, impl.ErrForm, impl.ErrSize, impl.ErrSyntax, impl.ErrShort, impl.ErrSum, impl.ErrNone,
		impl.ErrThere, impl.ErrRange, impl.ErrFull, impl.ErrState}
	for i, code := range got {
		if code != int64(i) {
			t.Errorf("code %d is %d", i, code)
		}
	}
	if impl.MaxBytes != 8000 || impl.MaxList != 400 || impl.MaxTime != 1000000 {
		t.Error("a limit is not what the document says")
	}
}

func TestPutNumBytes(t *testing.T) {
	known := []struct {
		n    int64
		want string
	}{
		{0, "\x00"}, {-1, "\x01"}, {1, "\x02"}, {-64, "\x7f"}, {63, "\x7e"}, {64, "\x80\x01"}, {-65, "\x81\x01"},
		{8191, "\xfe\x7f"}, {8192, "\x80\x80\x01"},
		{math.MaxInt64, "\xfe\xff\xff\xff\xff\xff\xff\xff\xff\x01"},
		{math.MinInt64, "\xff\xff\xff\xff\xff\xff\xff\xff\xff\x01"},
	}
	for _, k := range known {
		if got := impl.PutNum(k.n); got != k.want {
			t.Errorf("PutNum(%d): got %q, want %q", k.n, got, k.want)
		}
	}
	for _, n := range manyNums() {
		if got, want := impl.PutNum(n), string(binary.AppendVarint(nil, n)); got != want {
			t.Errorf("PutNum(%d): got %q, want %q", n, got, want)
		}
	}
}

func TestPutNumSizes(t *testing.T) {
	for size := 1; size <= 9; size++ {
		greatest := int64(1)<<(7*size-1) - 1
		for _, n := range []int64{greatest, -greatest - 1} {
			if got := len(impl.PutNum(n)); got != size {
				t.Errorf("PutNum(%d): %d bytes, want %d", n, got, size)
			}
		}
		for _, n := range []int64{greatest + 1, -greatest - 2} {
			if got := len(impl.PutNum(n)); got != size+1 {
				t.Errorf("PutNum(%d): %d bytes, want %d", n, got, size+1)
			}
		}
	}
}

// Promise 1, of numbers.
func TestNumbersComeBack(t *testing.T) {
	for _, n := range manyNums() {
		b := impl.PutNum(n)
		size := int64(len(b))
		sameNum(t, "alone", impl.GetNum(b, 0), impl.NumOut{N: n, At: size})
		sameNum(t, "within", impl.GetNum("\xff\x00"+b+"\x80", 2), impl.NumOut{N: n, At: 2 + size})
		filled := strings.Repeat("\x80", impl.MaxBytes-len(b)) + b
		sameNum(t, "at the end", impl.GetNum(filled, impl.MaxBytes-size), impl.NumOut{N: n, At: impl.MaxBytes})
	}
}

func TestNumbersInARow(t *testing.T) {
	row, at := "", int64(0)
	for _, n := range edgeNums() {
		row += impl.PutNum(n)
	}
	for _, n := range edgeNums() {
		got := impl.GetNum(row, at)
		if got.Code != impl.OK || got.N != n {
			t.Fatalf("at %d: got %+v, want the number %d", at, got, n)
		}
		at = got.At
	}
	sameNum(t, "behind the row", impl.GetNum(row, at), impl.NumOut{Code: impl.ErrShort})
}

func TestGetNumPlaces(t *testing.T) {
	for _, at := range []int64{-1, -7, math.MinInt64} {
		sameNum(t, "below 0", impl.GetNum("\x02", at), impl.NumOut{Code: impl.ErrForm})
		sameNum(t, "below 0 of none", impl.GetNum("", at), impl.NumOut{Code: impl.ErrForm})
		sameText(t, "below 0", impl.GetText("\x02a", at), impl.TextOut{Code: impl.ErrForm})
		sameText(t, "below 0 of none", impl.GetText("", at), impl.TextOut{Code: impl.ErrForm})
	}
	for _, at := range []int64{2, 3, 9000, math.MaxInt64 - 1, math.MaxInt64} {
		sameNum(t, "at the end or behind it", impl.GetNum("\x02a", at), impl.NumOut{Code: impl.ErrShort})
		sameText(t, "at the end or behind it", impl.GetText("\x02a", at), impl.TextOut{Code: impl.ErrShort})
	}
	sameNum(t, "of none", impl.GetNum("", 0), impl.NumOut{Code: impl.ErrShort})
	sameText(t, "of none", impl.GetText("", 0), impl.TextOut{Code: impl.ErrShort})
}

func TestGetNumTooLongText(t *testing.T) {
	full := "\x02a" + strings.Repeat("b", impl.MaxBytes-2)
	sameNum(t, "MaxBytes", impl.GetNum(full, 0), impl.NumOut{N: 1, At: 1})
	sameText(t, "MaxBytes", impl.GetText(full, 0), impl.TextOut{Text: "a", At: 2})
	for _, at := range []int64{0, -1, impl.MaxBytes + 1, math.MaxInt64} {
		sameNum(t, "one more", impl.GetNum(full+"c", at), impl.NumOut{Code: impl.ErrSize})
		sameText(t, "one more", impl.GetText(full+"c", at), impl.TextOut{Code: impl.ErrSize})
	}
}

func TestGetNumShort(t *testing.T) {
	for _, n := range edgeNums() {
		b := impl.PutNum(n)
		for end := range len(b) {
			sameNum(t, "cut", impl.GetNum(b[:end], 0), impl.NumOut{Code: impl.ErrShort})
			sameText(t, "cut", impl.GetText("x"+b[:end], 1), impl.TextOut{Code: impl.ErrShort})
		}
	}
	for _, b := range []string{"\x80", "\xff", strings.Repeat("\x80", 9), strings.Repeat("\xff", 9)} {
		sameNum(t, "no last byte", impl.GetNum(b, 0), impl.NumOut{Code: impl.ErrShort})
	}
}

func TestGetNumTenthByte(t *testing.T) {
	for _, nine := range []string{strings.Repeat("\x80", 9), strings.Repeat("\xff", 9)} {
		for tenth := 2; tenth < 256; tenth++ {
			for _, behind := range []string{"", "\x00", "\x01\x01"} {
				b := nine + string([]byte{byte(tenth)}) + behind
				sameNum(t, "above 1", impl.GetNum(b, 0), impl.NumOut{Code: impl.ErrSyntax})
				sameText(t, "above 1", impl.GetText(b, 0), impl.TextOut{Code: impl.ErrSyntax})
			}
		}
		sameNum(t, "nought", impl.GetNum(nine+"\x00", 0), impl.NumOut{Code: impl.ErrSyntax})
	}
	sameNum(t, "1", impl.GetNum(strings.Repeat("\x80", 9)+"\x01", 0), impl.NumOut{N: 1 << 62, At: 10})
	sameNum(t, "all", impl.GetNum(strings.Repeat("\xff", 9)+"\x01", 0), impl.NumOut{N: math.MinInt64, At: 10})
}

func TestGetNumNeedlessBytes(t *testing.T) {
	for _, n := range edgeNums() {
		b := []byte(impl.PutNum(n))
		b[len(b)-1] |= 128
		for many := 0; len(b)+many < 10; many++ {
			long := string(b) + strings.Repeat("\x80", many) + "\x00"
			sameNum(t, "needless", impl.GetNum(long, 0), impl.NumOut{Code: impl.ErrSyntax})
			sameText(t, "needless", impl.GetText(long+"abc", 0), impl.TextOut{Code: impl.ErrSyntax})
		}
	}
}

// What GetNum takes is what PutNum makes, and nothing else.
func TestGetNumTakesOnlyPutNum(t *testing.T) {
	draw := rand.New(rand.NewSource(2))
	taken := 0
	for range 20000 {
		b := []byte(randomText(draw, draw.Intn(13)))
		for i := range b {
			if draw.Intn(4) > 0 {
				b[i] |= 128
			} else if draw.Intn(2) == 0 {
				b[i] &= 1
			}
		}
		got := impl.GetNum(string(b), 0)
		n, size := binary.Varint(b)
		switch {
		case size == 0 && len(b) < 10:
			sameNum(t, "short", got, impl.NumOut{Code: impl.ErrShort})
		case size <= 0 || size > 1 && b[size-1] == 0:
			sameNum(t, "no number", got, impl.NumOut{Code: impl.ErrSyntax})
		default:
			taken++
			sameNum(t, "a number", got, impl.NumOut{N: n, At: int64(size)})
		}
	}
	if taken < 100 {
		t.Errorf("only %d numbers were drawn", taken)
	}
}

// Promise 1, of texts.
func TestTextsComeBack(t *testing.T) {
	draw := rand.New(rand.NewSource(3))
	for _, size := range []int{0, 1, 2, 63, 64, 65, 100, 4000, 7997, 7998} {
		in := randomText(draw, size)
		b := impl.PutText(in)
		if b != impl.PutNum(int64(size))+in {
			t.Errorf("PutText of %d bytes is not its length and it", size)
		}
		sameText(t, "alone", impl.GetText(b, 0), impl.TextOut{Text: in, At: int64(len(b))})
		if len(b)+3 <= impl.MaxBytes {
			sameText(t, "within", impl.GetText("\x80\x80"+b+"z", 2), impl.TextOut{Text: in, At: int64(len(b)) + 2})
		}
	}
}

func TestTextsInARow(t *testing.T) {
	texts := []string{"", "a", "", "\x00\xff", strings.Repeat("long", 30), "end"}
	row, at := "", int64(0)
	for _, in := range texts {
		row += impl.PutText(in)
	}
	for _, in := range texts {
		got := impl.GetText(row, at)
		if got.Code != impl.OK || got.Text != in {
			t.Fatalf("at %d: got %+v, want %q", at, got, in)
		}
		at = got.At
	}
	sameText(t, "behind the row", impl.GetText(row, at), impl.TextOut{Code: impl.ErrShort})
}

func TestPutTextLimit(t *testing.T) {
	full := strings.Repeat("f", impl.MaxBytes)
	if got := impl.PutText(full); got != "\x80\x7d"+full {
		t.Errorf("MaxBytes: %d bytes, beginning %.4q", len(got), got)
	}
	if got := impl.PutText(full + "f"); got != "" {
		t.Errorf("one more: %d bytes, want none", len(got))
	}
	// With its length ahead of it the greatest text is itself too long to be handed in.
	sameText(t, "MaxBytes", impl.GetText(impl.PutText(full), 0), impl.TextOut{Code: impl.ErrSize})
}

func TestGetTextLength(t *testing.T) {
	for _, n := range []int64{-1, -2, -8000, impl.MaxBytes + 1, 1 << 40, math.MaxInt64, math.MinInt64} {
		sameText(t, "wrong length", impl.GetText(impl.PutNum(n)+"abc", 0), impl.TextOut{Code: impl.ErrSyntax})
		sameText(t, "wrong length at the end", impl.GetText(impl.PutNum(n), 0), impl.TextOut{Code: impl.ErrSyntax})
	}
	for _, n := range []int64{1, 2, 64, 7999, impl.MaxBytes} {
		sameText(t, "ends at once", impl.GetText(impl.PutNum(n), 0), impl.TextOut{Code: impl.ErrShort})
	}
	sameText(t, "one lacks", impl.GetText("\x06ab", 0), impl.TextOut{Code: impl.ErrShort})
	sameText(t, "none lacks", impl.GetText("\x06abc", 0), impl.TextOut{Text: "abc", At: 4})
	sameText(t, "one more", impl.GetText("\x06abcd", 0), impl.TextOut{Text: "abc", At: 4})
	most := impl.PutNum(impl.MaxBytes) + strings.Repeat("m", impl.MaxBytes-2)
	sameText(t, "MaxBytes, two lack", impl.GetText(most, 0), impl.TextOut{Code: impl.ErrShort})
}

func TestNameRight(t *testing.T) {
	right := []string{"a", "z", "a0", "a9", "a_", "zz_09", "abcdefghijklmnopqrst", "a1234567890123456789", "a___________________"}
	for _, name := range right {
		if !impl.NameRight(name) {
			t.Errorf("%q is a name", name)
		}
	}
	wrong := []string{"", "_", "0", "9a", "_a", "A", "aB", "a b", " a", "a ", "a-b", "a\x00", "a\n", "é", "aé",
		"abcdefghijklmnopqrstu", strings.Repeat("a", impl.MaxBytes), strings.Repeat("a", impl.MaxBytes+1)}
	for _, name := range wrong {
		if impl.NameRight(name) {
			t.Errorf("%.30q is no name", name)
		}
	}
}

func TestNameRightByteByByte(t *testing.T) {
	const letters, others = "abcdefghijklmnopqrstuvwxyz", "0123456789_"
	for i := range 256 {
		b := string([]byte{byte(i)})
		first, later := strings.Contains(letters, b), strings.Contains(letters+others, b)
		if got := impl.NameRight(b); got != first {
			t.Errorf("%q alone: got %v", b, got)
		}
		if got := impl.NameRight(b + "a"); got != first {
			t.Errorf("%q first: got %v", b, got)
		}
		if got := impl.NameRight("a" + b + "a"); got != later {
			t.Errorf("%q within: got %v", b, got)
		}
		if got := impl.NameRight(strings.Repeat("a", 19) + b); got != later {
			t.Errorf("%q last of 20: got %v", b, got)
		}
	}
}

func TestCrc(t *testing.T) {
	known := []struct {
		text string
		want int64
	}{{"", 0}, {"a", 0xe8b7be43}, {"123456789", 0xcbf43926}, {"\x00", 0xd202ef8d}, {"\xff\xff\xff\xff", 0xffffffff}}
	for _, k := range known {
		if got := impl.Crc(k.text); got != k.want {
			t.Errorf("Crc(%q): got %x, want %x", k.text, got, k.want)
		}
	}
	draw := rand.New(rand.NewSource(4))
	for _, size := range []int{1, 2, 3, 4, 5, 31, 1000, 7999, impl.MaxBytes} {
		in := randomText(draw, size)
		if got, want := impl.Crc(in), int64(crc32.ChecksumIEEE([]byte(in))); got != want {
			t.Errorf("Crc of %d bytes: got %x, want %x", size, got, want)
		}
	}
	if got := impl.Crc(strings.Repeat("a", impl.MaxBytes+1)); got != 0 {
		t.Errorf("Crc of one more than MaxBytes: got %x", got)
	}
}

// Promise 2, of the CRC: it goes on from text to text.
func TestCrcGoesOn(t *testing.T) {
	draw := rand.New(rand.NewSource(5))
	for range 200 {
		first, second := randomText(draw, draw.Intn(60)), randomText(draw, draw.Intn(60))
		if got, want := impl.CrcMore(impl.Crc(first), second), impl.Crc(first+second); got != want {
			t.Errorf("%q and %q: got %x, want %x", first, second, got, want)
		}
	}
	most := randomText(draw, impl.MaxBytes)
	all := int64(crc32.ChecksumIEEE([]byte(most + most)))
	if got := impl.CrcMore(impl.Crc(most), most); got != all {
		t.Errorf("both of MaxBytes: got %x, want %x", got, all)
	}
	for _, crc := range []int64{0, 1, 0x12345678, 1<<31 - 1, 1 << 31, 1<<32 - 1} {
		if got := impl.CrcMore(crc, ""); got != crc {
			t.Errorf("CrcMore(%x, none): got %x", crc, got)
		}
		if got, want := impl.CrcMore(crc, "more"), int64(crc32.Update(uint32(crc), crc32.IEEETable, []byte("more"))); got != want {
			t.Errorf("CrcMore(%x, more): got %x, want %x", crc, got, want)
		}
	}
}

func TestCrcMoreRefuses(t *testing.T) {
	for _, crc := range []int64{-1, -2, -1 << 32, math.MinInt64, 1 << 32, 1<<32 + 1, math.MaxInt64} {
		for _, text := range []string{"", "a", "more"} {
			if got := impl.CrcMore(crc, text); got != 0 {
				t.Errorf("CrcMore(%d, %q): got %x, want 0", crc, text, got)
			}
		}
	}
	for _, crc := range []int64{0, 1, 1<<32 - 1, -1} {
		if got := impl.CrcMore(crc, strings.Repeat("a", impl.MaxBytes+1)); got != 0 {
			t.Errorf("CrcMore(%d, one more than MaxBytes): got %x, want 0", crc, got)
		}
	}
}

// Promise 2, of seals: a sealed text comes back.
func TestSealsComeBack(t *testing.T) {
	if got := impl.Seal("123456789"); got != "123456789\x26\x39\xf4\xcb" {
		t.Errorf("Seal: got %q", got)
	}
	if got := impl.Seal(""); got != "\x00\x00\x00\x00" {
		t.Errorf("Seal of none: got %q", got)
	}
	draw := rand.New(rand.NewSource(6))
	for _, size := range []int{0, 1, 2, 3, 4, 5, 100, 4000, impl.MaxBytes - 5, impl.MaxBytes - 4} {
		in := randomText(draw, size)
		sealed := impl.Seal(in)
		sum := binary.LittleEndian.AppendUint32(nil, crc32.ChecksumIEEE([]byte(in)))
		if sealed != in+string(sum) {
			t.Errorf("Seal of %d bytes is not it and its CRC", size)
		}
		sameText(t, "sealed", impl.Unseal(sealed), impl.TextOut{Text: in})
	}
}

func TestSealLimit(t *testing.T) {
	most := strings.Repeat("s", impl.MaxBytes-4)
	if got := len(impl.Seal(most)); got != impl.MaxBytes {
		t.Errorf("MaxBytes less 4: %d bytes", got)
	}
	for _, more := range []string{"s", "ssss", "sssss", most} {
		if got := impl.Seal(most + more); got != "" {
			t.Errorf("%d bytes: a seal of %d bytes, want none", len(most)+len(more), len(got))
		}
	}
}

func TestUnsealRefuses(t *testing.T) {
	for _, text := range []string{"", "a", "\x00\x00", "\x00\x00\x00"} {
		sameText(t, "fewer than four", impl.Unseal(text), impl.TextOut{Code: impl.ErrShort})
	}
	sameText(t, "just four", impl.Unseal("\x00\x00\x00\x00"), impl.TextOut{})
	for _, text := range []string{"\x00\x00\x00\x01", "abcd", "abcde", "123456789\xcb\xf4\x39\x26"} {
		sameText(t, "no seal", impl.Unseal(text), impl.TextOut{Code: impl.ErrSum})
	}
	sealed := impl.Seal("some text")
	sameText(t, "one byte less", impl.Unseal(sealed[:len(sealed)-1]), impl.TextOut{Code: impl.ErrSum})
	sameText(t, "one byte more", impl.Unseal(sealed+"x"), impl.TextOut{Code: impl.ErrSum})
	most := impl.Seal(strings.Repeat("s", impl.MaxBytes-4))
	sameText(t, "one more than MaxBytes", impl.Unseal(most+"x"), impl.TextOut{Code: impl.ErrSize})
}

// Promise 2, of seals: with one byte turned it is refused.
func TestTurnedSealsAreRefused(t *testing.T) {
	draw := rand.New(rand.NewSource(7))
	for _, in := range []string{"", "a", "ab", "123456789", randomText(draw, 70)} {
		sealed := []byte(impl.Seal(in))
		for i := range sealed {
			for turn := 1; turn < 256; turn++ {
				sealed[i] ^= byte(turn)
				sameText(t, "turned", impl.Unseal(string(sealed)), impl.TextOut{Code: impl.ErrSum})
				sealed[i] ^= byte(turn)
			}
		}
	}
	long := []byte(impl.Seal(randomText(draw, impl.MaxBytes-4)))
	for i := 0; i < len(long); i += 61 {
		long[i] ^= 1
		sameText(t, "turned", impl.Unseal(string(long)), impl.TextOut{Code: impl.ErrSum})
		long[i] ^= 1
	}
}
