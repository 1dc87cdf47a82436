package tests

import (
	"encoding/binary"
	"hash/crc32"
	"math"
	"math/rand"
	"slices"
	"strconv"
	"strings"
	"testing"

	"loop.example/g00550/impl"
)

// wantSealed puts the CRC behind a text, of whatever length.
func wantSealed(text string) string {
	return string(binary.LittleEndian.AppendUint32([]byte(text), crc32.ChecksumIEEE([]byte(text))))
}

// wantNums writes numbers as the library does.
func wantNums(nums ...int64) string {
	var b []byte
	for _, n := range nums {
		b = binary.AppendVarint(b, n)
	}
	return string(b)
}

// form is what a short form tells, part by part, so that a test can turn one of them.
type form struct {
	bytes, at, many, above int64
	table                  []int64
	bits                   string
}

func (f form) text() string {
	return "\x01" + wantNums(f.bytes, f.at, f.many, f.above) + wantNums(f.table...) + wantPacked(f.bits)
}

// formWith tells a block with the lengths that are handed in.
func formWith(block string, lengths []int64) form {
	sorted := wantBwt(block)
	symbols := wantZeros(wantFront(sorted.Text))
	f := form{bytes: int64(len(block)), at: sorted.At, many: int64(len(symbols))}
	for number, length := range lengths {
		if length > 0 {
			f.above++
			f.table = append(f.table, int64(number), length)
		}
	}
	codes := wantCodes(lengths)
	for _, symbol := range symbols {
		f.bits += codes[symbol]
	}
	return f
}

func lengthsOfBlock(block string) []int64 {
	counts := make([]int64, 257)
	for _, symbol := range wantZeros(wantFront(wantBwt(block).Text)) {
		counts[symbol]++
	}
	lengths, _ := wantLengths(counts)
	return lengths
}

func formOf(block string) form {
	return formWith(block, lengthsOfBlock(block))
}

// wantPack is a block made short by the counterparts of what it is made of.
func wantPack(block string) string {
	if short := formOf(block).text(); len(short) < len(block)+1 {
		return wantSealed(short)
	}
	return wantSealed("\x00" + block)
}

// shortBlocks is blocks that BlockPack makes short.
func shortBlocks() []string {
	blocks := []string{
		strings.Repeat("a", 13), strings.Repeat("a", 40), strings.Repeat("a", 48), strings.Repeat("\x00", 48), strings.Repeat("\xff", 48),
		strings.Repeat("ab", 24), strings.Repeat("ba", 24), strings.Repeat("aab", 16), strings.Repeat("banana", 8), strings.Repeat("abcd", 12),
		strings.Repeat("a", 47) + "b", "b" + strings.Repeat("a", 47), strings.Repeat("\x00\xff", 20), strings.Repeat("\xff\x00\x00", 15),
		strings.Repeat("one two ", 6), strings.Repeat("a", 20) + strings.Repeat("b", 20), "\x00\x01" + strings.Repeat("\x00", 30) + "\x02\x03",
	}
	draw := rand.New(rand.NewSource(61))
	for range 200 {
		b := make([]byte, 30+draw.Intn(19))
		for i := range b {
			b[i] = "abc"[draw.Intn(10)/5*draw.Intn(3)]
		}
		if wantPack(string(b))[0] == 1 {
			blocks = append(blocks, string(b))
		}
	}
	return blocks
}

func packBlocks() []string {
	return append(someBlocks(), shortBlocks()...)
}

func refused(t *testing.T, what string, text string, code int64) {
	t.Helper()
	sameText(t, what+" "+strconv.Quote(text[:min(len(text), 60)]), impl.BlockUnpack(text), impl.TextOut{Code: code})
}

func noPack(t *testing.T, what string, inner string) {
	t.Helper()
	refused(t, what, wantSealed(inner), impl.ErrSyntax)
}

// judged asks that a sealed text is read just if it is what a block is made.
func judged(t *testing.T, what string, inner string) {
	t.Helper()
	text := wantSealed(inner)
	got := impl.BlockUnpack(text)
	if got.Code == impl.OK && got.At == 0 && wantPack(got.Text) == text {
		return
	}
	sameText(t, what+" "+strconv.Quote(inner), got, impl.TextOut{Code: impl.ErrSyntax})
}

func TestBlockLimits(t *testing.T) {
	if impl.MaxFile != 1000 {
		t.Errorf("MaxFile is %d", impl.MaxFile)
	}
}

func TestPackKnown(t *testing.T) {
	known := []struct{ block, inner string }{
		{"", "\x00"}, {"a", "\x00a"}, {"\x00", "\x00\x00"}, {"\xff", "\x00\xff"}, {"xy", "\x00xy"}, {"\x00\xff", "\x00\x00\xff"},
		{strings.Repeat("a", 12), "\x00" + strings.Repeat("a", 12)},
		{strings.Repeat("a", 13), "\x01\x1a\x00\x08\x06" + "\x00\x04\x02\x02\xc4\x01\x04" + "\xd0"},
		{strings.Repeat("\x00", 48), "\x01\x60\x00\x0a\x04" + "\x00\x02\x02\x02" + "\x88"},
	}
	for _, k := range known {
		if got, want := impl.BlockPack(k.block), wantSealed(k.inner); got != want {
			t.Errorf("BlockPack of %q: got %q, want %q", k.block, got, want)
		}
		sameText(t, "BlockUnpack of "+strconv.Quote(k.inner), impl.BlockUnpack(wantSealed(k.inner)), impl.TextOut{Text: k.block})
	}
}

// Promise 8.
func TestBlocksComeBackFromWhatTheyAreMade(t *testing.T) {
	check := func(block string) {
		packed := impl.BlockPack(block)
		if want := wantPack(block); packed != want {
			t.Errorf("BlockPack of %q: got %q, want %q", block, packed, want)
		}
		if len(packed) > len(block)+5 {
			t.Errorf("BlockPack of %q has %d bytes", block, len(packed))
		}
		sameText(t, "BlockUnpack of a BlockPack of "+strconv.Quote(block), impl.BlockUnpack(packed), impl.TextOut{Text: block})
	}
	for _, block := range packBlocks() {
		check(block)
	}
	eachText(6, "\x00a\xff", check)
	for b := range 256 {
		for _, size := range []int{1, 2, 11, 12, 13, 47, 48} {
			check(strings.Repeat(string([]byte{byte(b)}), size))
		}
	}
}

// A short form comes only where it has fewer bytes: with as many, the block itself stands there.
func TestPackAtTheTurningPoint(t *testing.T) {
	seen := map[int]int{}
	for _, block := range packBlocks() {
		short := formOf(block).text()
		mark, size := byte(0), len(block)+1
		if len(short) < size {
			mark, size = 1, len(short)
		}
		packed := impl.BlockPack(block)
		if len(packed) != size+4 || packed[0] != mark {
			t.Errorf("BlockPack of %q: %d bytes with the mark %d, want %d with %d", block, len(packed), packed[0], size+4, mark)
		}
		seen[len(short)-len(block)-1]++
	}
	for _, k := range []struct{ size, more, packed int }{{11, 1, 16}, {12, 0, 17}, {13, -1, 17}} {
		block := strings.Repeat("a", k.size)
		if got := len(formOf(block).text()) - len(block) - 1; got != k.more {
			t.Fatalf("the short form of %q has %d bytes more", block, got)
		}
		if got := len(impl.BlockPack(block)); got != k.packed {
			t.Errorf("BlockPack of %q has %d bytes, want %d", block, got, k.packed)
		}
		sameText(t, "BlockUnpack at the turning point", impl.BlockUnpack(impl.BlockPack(block)), impl.TextOut{Text: block})
	}
	for more := -1; more <= 1; more++ {
		if seen[more] < 2 {
			t.Errorf("only %d blocks have a short form of %d bytes more", seen[more], more)
		}
	}
}

func TestPackOfNoBlock(t *testing.T) {
	for _, one := range []string{"a", "ab", "\x00", "\xff\x00"} {
		full := strings.Repeat(one, 48)[:48]
		sameText(t, "MaxBlock bytes", impl.BlockUnpack(impl.BlockPack(full)), impl.TextOut{Text: full})
		for _, size := range []int{49, 50, 96, 400, 401, 1000, 7995, 7996, 7997, 8000, 8001, 20000} {
			if got := impl.BlockPack(strings.Repeat(one, size)[:size]); got != "" {
				t.Errorf("BlockPack of %d bytes: got %q", size, got)
			}
		}
	}
}

func TestUnpackWithoutASeal(t *testing.T) {
	for _, text := range []string{"", "x", "\x00", "\x01", "ab", "\x00\x00", "abc", "\x00\x00\x00"} {
		refused(t, "too short for a seal", text, impl.ErrShort)
	}
	for _, text := range []string{"\x00\x00\x00\x01", "\x01\x00\x00\x00", "abcd", "\x00abcde", "\x02abcd", strings.Repeat("\x00", 5), strings.Repeat("\x01", 60)} {
		refused(t, "with no seal", text, impl.ErrSum)
	}
	noPack(t, "the empty text sealed", "")
	refused(t, "four bytes 0, the empty text sealed", "\x00\x00\x00\x00", impl.ErrSyntax)
}

func TestUnpackWithAByteTurned(t *testing.T) {
	for _, block := range append(shortBlocks()[:17], "", "a", "xy", "banana", strings.Repeat("a", 12)) {
		packed := []byte(impl.BlockPack(block))
		for i := range packed {
			for _, with := range []byte{1, 2, 128, 255, byte(i) | 4} {
				packed[i] ^= with
				refused(t, "with a byte turned", string(packed), impl.ErrSum)
				packed[i] ^= with
			}
		}
		refused(t, "with a byte more", string(packed)+"\x00", impl.ErrSum)
		refused(t, "without the last byte", string(packed[:len(packed)-1]), impl.ErrSum)
	}
}

func TestUnpackMarks(t *testing.T) {
	long := formOf(strings.Repeat("a", 40)).text()[1:]
	for mark := 2; mark < 256; mark++ {
		m := string([]byte{byte(mark)})
		for _, rest := range []string{"", "a", "xy", long, strings.Repeat("b", 48)} {
			noPack(t, "with another mark", m+rest)
		}
	}
	sameText(t, "a byte 0 alone", impl.BlockUnpack(wantSealed("\x00")), impl.TextOut{})
	noPack(t, "a byte 1 alone", "\x01")
}

func TestUnpackInTheWrongForm(t *testing.T) {
	for _, block := range shortBlocks() {
		noPack(t, "told with a byte 0, but made short", "\x00"+block)
	}
	for _, block := range someBlocks() {
		if wantPack(block)[0] == 0 {
			noPack(t, "told with a byte 1, but not made short", formOf(block).text())
		}
	}
	noPack(t, "the empty block told with a byte 1", "\x01\x00\x00\x00\x00")
	noPack(t, "one byte told with a byte 1", formOf("a").text())
	noPack(t, "just as many bytes, told with a byte 1", formOf(strings.Repeat("a", 12)).text())
	noPack(t, "one more, told with a byte 1", formOf(strings.Repeat("a", 11)).text())
	draw := rand.New(rand.NewSource(62))
	for _, size := range []int{49, 50, 100, 7995} {
		noPack(t, "a byte 0 ahead of no block", "\x00"+randomText(draw, size))
		noPack(t, "a byte 0 ahead of no block", "\x00"+strings.Repeat("a", size))
	}
}

// A row of more than MaxBlock bytes can be told short, but it is of no block.
func TestUnpackOfTooLongRows(t *testing.T) {
	for _, size := range []int{49, 50, 100, 399, 400, 401, 1000} {
		f := formOf(strings.Repeat("a", size))
		noPack(t, "a row that is too long", f.text())
		f.bytes = 48
		noPack(t, "a row that is longer than told", f.text())
	}
}

// turnedForms is short forms of a block in each of which something is turned, with what that is.
func turnedForms(block string) map[string]form {
	is := formOf(block)
	turned := map[string]form{}
	put := func(what string, turn func(f *form)) {
		f := is
		f.table = slices.Clone(is.table)
		turn(&f)
		turned[what] = f
	}
	for _, n := range []int64{-1, 1, 2, 64, -is.bytes, math.MaxInt64 - is.bytes, math.MinInt64} {
		put("bytes by "+strconv.FormatInt(n, 10), func(f *form) { f.bytes += n })
	}
	for _, n := range []int64{-1 - is.at, -2 - is.at, is.bytes - is.at, math.MaxInt64 - is.at, math.MinInt64} {
		put("at by "+strconv.FormatInt(n, 10), func(f *form) { f.at += n })
	}
	for _, n := range []int64{-1, 1, 16, -is.many, 400 - is.many, 401 - is.many, -is.many - 1, math.MaxInt64 - is.many, math.MinInt64} {
		put("symbols by "+strconv.FormatInt(n, 10), func(f *form) { f.many += n })
	}
	for _, n := range []int64{-1, 1, -is.above, 257 - is.above, 258 - is.above, -is.above - 1, math.MaxInt64 - is.above, math.MinInt64} {
		put("lengths by "+strconv.FormatInt(n, 10), func(f *form) { f.above += n })
	}
	for i, n := range is.table {
		others := []int64{-1, 257, 258, 300, math.MaxInt64, math.MinInt64}
		if i%2 == 1 {
			others = append(others, 0, 12, 13, n-1, n+1, 256)
		} else if i > 0 {
			others = append(others, is.table[i-2], is.table[i-2]-1) // a symbol's number that does not rise
		}
		for _, m := range others {
			if m != n {
				put("table "+strconv.Itoa(i)+" is "+strconv.FormatInt(m, 10), func(f *form) { f.table[i] = m })
			}
		}
	}
	put("a length more", func(f *form) { f.above, f.table = f.above+1, append(f.table, 256, 1) })
	put("a length 0", func(f *form) { f.above, f.table = f.above+1, append(f.table, 256, 0) })
	put("a length twice", func(f *form) { f.above, f.table = f.above+1, append(f.table, f.table[len(f.table)-2:]...) })
	put("a table that falls", func(f *form) {
		slices.Reverse(f.table)
		for i := 0; i < len(f.table); i += 2 {
			f.table[i], f.table[i+1] = f.table[i+1], f.table[i]
		}
	})
	put("eight bits more", func(f *form) { f.bits += strings.Repeat("0", 8) })
	put("eight other bits more", func(f *form) { f.bits += strings.Repeat("1", 8) })
	put("eight bits fewer", func(f *form) { f.bits = f.bits[:max(0, len(f.bits)-8)] })
	put("no bits", func(f *form) { f.bits = "" })
	return turned
}

func TestUnpackWithSomethingTurned(t *testing.T) {
	for _, block := range shortBlocks() {
		is := formOf(block).text()
		for what, f := range turnedForms(block) {
			if f.text() == is {
				t.Fatalf("%s turns nothing in %q", what, block)
			}
			noPack(t, what+" of "+strconv.Quote(block), f.text())
		}
	}
}

// With another symbol's number it may be another block.
func TestUnpackWithOtherSymbols(t *testing.T) {
	for _, block := range shortBlocks()[:40] {
		is := formOf(block)
		for i := 0; i < len(is.table); i += 2 {
			f := is
			f.table = slices.Clone(is.table)
			for symbol := range int64(258) {
				f.table[i] = symbol
				judged(t, "another symbol", f.text())
			}
		}
	}
}

// The bits that fill the last byte up are 0.
func TestUnpackOfTheLastBits(t *testing.T) {
	filled := 0
	for _, block := range shortBlocks() {
		f := formOf(block)
		for many := 1; (len(f.bits)+many-1)%8 != 0; many++ {
			more := f
			more.bits += strings.Repeat("0", many-1) + "1"
			noPack(t, "bits that are not 0 at the end", more.text())
			filled++
		}
	}
	if filled < 100 {
		t.Errorf("only %d bits were turned", filled)
	}
}

// Of turns that are the same, Bwt tells the first one; of the others a block is told with another At.
func TestUnpackOfOtherPlaces(t *testing.T) {
	never := 0
	for _, block := range shortBlocks() {
		f := formOf(block)
		order := wantOrder(block)
		for at := range f.bytes {
			other := f
			other.at = at
			turn := block[order[at]:] + block[:order[at]]
			if wantBwt(turn).At != at {
				noPack(t, "an at that Bwt never tells", other.text())
				never++
			} else {
				sameText(t, "another at", impl.BlockUnpack(wantSealed(other.text())), impl.TextOut{Text: turn})
			}
		}
	}
	if never < 100 {
		t.Errorf("only %d places are never told", never)
	}
}

// Symbols may make a row that is of no block's turns.
func TestUnpackOfNoTurns(t *testing.T) {
	row := strings.Repeat("a", 20) + strings.Repeat("b", 20)
	symbols := wantZeros(wantFront(row))
	counts := make([]int64, 257)
	for _, symbol := range symbols {
		counts[symbol]++
	}
	lengths, _ := wantLengths(counts)
	f := formWith("", lengths)
	f.bytes, f.many = 40, int64(len(symbols))
	codes := wantCodes(lengths)
	for _, symbol := range symbols {
		f.bits += codes[symbol]
	}
	if len(f.text()) >= 41 {
		t.Fatal("the form is not short")
	}
	for at := range f.bytes {
		f.at = at
		noPack(t, "a row of no turns", f.text())
	}
}

// Lengths that are whole, and with which all symbols come, but that LengthsOf does not give.
func TestUnpackWithOtherLengths(t *testing.T) {
	others := 0
	for _, block := range shortBlocks() {
		is := lengthsOfBlock(block)
		for i := range is {
			for j := range i {
				if is[i] == is[j] || is[i] == 0 || is[j] == 0 {
					continue
				}
				other := slices.Clone(is)
				other[i], other[j] = is[j], is[i]
				noPack(t, "other lengths", formWith(block, other).text())
				others++
			}
		}
		// A symbol that never comes has no code, though the bits could be read.
		deepest := slices.Index(is, slices.Max(is))
		more := slices.Clone(is)
		more[deepest]++
		more[slices.Index(is, 0)] = is[deepest] + 1
		noPack(t, "a length of a symbol that never comes", formWith(block, more).text())
	}
	if others < 100 {
		t.Errorf("only %d other lengths were asked", others)
	}
}

// Each number in its place, written with a byte more than it needs.
func TestUnpackOfLongerNumbers(t *testing.T) {
	for _, block := range shortBlocks() {
		f := formOf(block)
		nums := append([]int64{f.bytes, f.at, f.many, f.above}, f.table...)
		for i, n := range nums {
			b := []byte(wantNums(n))
			b[len(b)-1] |= 128
			longer := wantNums(nums[:i]...) + string(b) + "\x00" + wantNums(nums[i+1:]...)
			noPack(t, "a number that is written longer", "\x01"+longer+wantPacked(f.bits))
			wrong := wantNums(nums[:i]...) + strings.Repeat("\xff", 9) + "\x02" + wantNums(nums[i+1:]...)
			noPack(t, "a number of no 64 bits", "\x01"+wrong+wantPacked(f.bits))
			noPack(t, "a number that does not end", "\x01"+wantNums(nums[:i]...)+"\x80")
		}
	}
}

func TestUnpackOfTextsThatEndTooEarly(t *testing.T) {
	for _, block := range shortBlocks() {
		inner := formOf(block).text()
		for end := 1; end < len(inner); end++ {
			noPack(t, "an end too early", inner[:end])
		}
		for _, more := range []string{"\x00", "\x01", "\xff", "\x00\x00", inner, strings.Repeat("\x00", 1001)} {
			noPack(t, "with something behind it", inner+more)
		}
	}
}

// All that is one byte away from a short form is judged by the counterpart.
func TestUnpackOfNeighbours(t *testing.T) {
	for _, block := range shortBlocks()[:25] {
		inner := formOf(block).text()
		for i := range len(inner) {
			for b := range 256 {
				one := string([]byte{byte(b)})
				judged(t, "another byte", inner[:i]+one+inner[i+1:])
				if b%5 == 0 {
					judged(t, "a byte more", inner[:i]+one+inner[i:])
				}
			}
			judged(t, "a byte fewer", inner[:i]+inner[i+1:])
		}
	}
}

func TestUnpackOfAnyTexts(t *testing.T) {
	for a := range 256 {
		judged(t, "one byte", string([]byte{byte(a)}))
		for b := range 256 {
			judged(t, "two bytes", string([]byte{byte(a), byte(b)}))
		}
	}
	eachText(7, "\x00\x01\x02\x04", func(rest string) {
		judged(t, "few bytes", "\x01"+rest)
	})
	draw := rand.New(rand.NewSource(63))
	for range 3000 {
		judged(t, "some bytes", "\x01"+randomText(draw, draw.Intn(60)))
	}
}

func TestUnpackOfTooLongTexts(t *testing.T) {
	long := formOf(strings.Repeat("a", 40)).text()
	for _, first := range []string{"\x00", "\x01", "\x02", long} {
		full := first + strings.Repeat("\x00", 7996-len(first))
		refused(t, "MaxBytes bytes, sealed", wantSealed(full), impl.ErrSyntax)
		refused(t, "MaxBytes bytes, not sealed", full+"abcd", impl.ErrSum)
		refused(t, "more than MaxBytes bytes, sealed", wantSealed(full+"\x00"), impl.ErrSize)
		refused(t, "more than MaxBytes bytes, not sealed", full+"abcde", impl.ErrSize)
		refused(t, "far more than MaxBytes bytes", wantSealed(full+full), impl.ErrSize)
	}
}

// wantCut takes byte by byte into the last block, till that is full.
func wantCut(file string, size int64) []string {
	var blocks []string
	for i := range len(file) {
		if int64(i)%size == 0 {
			blocks = append(blocks, "")
		}
		blocks[len(blocks)-1] += file[i : i+1]
	}
	if len(blocks) > 64 {
		return nil
	}
	return blocks
}

func sameCut(t *testing.T, file string, size int64, want []string) {
	t.Helper()
	what := strconv.Itoa(len(file)) + " bytes by " + strconv.FormatInt(size, 10)
	if got := impl.Blocks(file, size); !slices.Equal(got, want) {
		t.Errorf("Blocks of %s: got %d %.60q, want %d %.60q", what, len(got), got, len(want), want)
	}
	var pieces []string
	for _, block := range want {
		pieces = append(pieces, wantPack(block))
	}
	if got := impl.PiecesOf(file, size); !slices.Equal(got, pieces) {
		t.Errorf("PiecesOf of %s: got %d %.60q, want %d %.60q", what, len(got), got, len(pieces), pieces)
	}
}

// someFile is a file with parts that are made short, and some that are not.
func someFile(size int) string {
	draw := rand.New(rand.NewSource(64))
	var file strings.Builder
	for file.Len() < size {
		file.WriteString(randomText(draw, draw.Intn(30)))
		file.WriteString(strings.Repeat(randomText(draw, 1+draw.Intn(2)), draw.Intn(60)))
	}
	return file.String()[:size]
}

func TestBlocksKnown(t *testing.T) {
	sameCut(t, "abcde", 2, []string{"ab", "cd", "e"})
	sameCut(t, "abcdef", 2, []string{"ab", "cd", "ef"})
	sameCut(t, "abcde", 1, []string{"a", "b", "c", "d", "e"})
	sameCut(t, "abcde", 5, []string{"abcde"})
	sameCut(t, "abcde", 6, []string{"abcde"})
	sameCut(t, "abcde", 48, []string{"abcde"})
	sameCut(t, "a", 1, []string{"a"})
	sameCut(t, "\x00\xff\x00", 2, []string{"\x00\xff", "\x00"})
	sameCut(t, strings.Repeat("a", 49), 48, []string{strings.Repeat("a", 48), "a"})
}

func TestBlocksOfAllSizes(t *testing.T) {
	for _, many := range []int{0, 1, 2, 47, 48, 49, 63, 64, 65, 96, 127, 128, 129, 500, 959, 960, 961, 999, 1000} {
		file := someFile(many)
		for size := int64(1); size <= 48; size++ {
			sameCut(t, file, size, wantCut(file, size))
		}
	}
}

func TestBlocksAtMostLeaves(t *testing.T) {
	for size := int64(1); size <= 15; size++ {
		full := someFile(int(64 * size))
		if got := len(impl.Blocks(full, size)); got != 64 {
			t.Errorf("Blocks of 64 by %d: got %d", size, got)
		}
		if got := len(impl.PiecesOf(full, size)); got != 64 {
			t.Errorf("PiecesOf of 64 by %d: got %d", size, got)
		}
		sameCut(t, someFile(int(64*size)+1), size, nil)
		sameCut(t, someFile(1000), size, nil)
	}
	if got := len(impl.Blocks(someFile(1000), 16)); got != 63 {
		t.Errorf("Blocks of MaxFile bytes by 16: got %d", got)
	}
	if got := len(impl.Blocks(someFile(1000), 48)); got != 21 {
		t.Errorf("Blocks of MaxFile bytes by 48: got %d", got)
	}
}

func TestBlocksRefused(t *testing.T) {
	wrong := []int64{0, -1, -48, 49, 50, 96, 1000, 8001, 1 << 32, 1<<32 + 1, 1 << 58, -1 << 32, math.MaxInt64, math.MinInt64}
	for _, file := range []string{"", "a", "abc", someFile(48), someFile(1000)} {
		for _, size := range wrong {
			sameCut(t, file, size, nil)
		}
	}
	for _, many := range []int{1001, 1002, 3072, 8000, 8001, 20000} {
		for _, size := range []int64{1, 16, 17, 47, 48, 0, 49, -1, math.MaxInt64} {
			sameCut(t, someFile(many), size, nil)
		}
	}
}

// What is put together of the pieces is the file.
func TestFilesComeBackFromTheirPieces(t *testing.T) {
	for _, many := range []int{0, 1, 47, 48, 49, 64, 700, 1000} {
		file := someFile(many)
		for _, size := range []int64{1, 2, 7, 16, 31, 47, 48} {
			if wantCut(file, size) == nil {
				continue
			}
			back := ""
			for _, piece := range impl.PiecesOf(file, size) {
				block := impl.BlockUnpack(piece)
				if block.Code != impl.OK {
					t.Fatalf("a piece of %d bytes by %d: code %d", many, size, block.Code)
				}
				back += block.Text
			}
			if back != file {
				t.Errorf("%d bytes by %d do not come back", many, size)
			}
		}
	}
}

func TestBlocksAreNewEachTime(t *testing.T) {
	for _, cut := range []func(string, int64) []string{impl.Blocks, impl.PiecesOf} {
		one, two := cut("abcde", 2), cut("abcde", 2)
		was := slices.Clone(two)
		for i := range one {
			one[i] = "turned"
		}
		if !slices.Equal(two, was) {
			t.Errorf("two answers share a list: %q", two)
		}
	}
}
