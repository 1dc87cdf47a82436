package tests

import (
	"math"
	"math/big"
	"math/rand"
	"slices"
	"sort"
	"strconv"
	"strings"
	"testing"

	"loop.example/g00550/impl"
)

// wantBits writes a number with so many digits of two, the highest first.
func wantBits(n int64, width int) string {
	digits := strconv.FormatInt(n, 2)
	return strings.Repeat("0", width-len(digits)) + digits
}

// wantPacked reads eight digits of two after the other as a number.
func wantPacked(bits string) string {
	var b []byte
	for len(bits) > 0 {
		eight := (bits + "0000000")[:8]
		n, _ := strconv.ParseUint(eight, 2, 8)
		b = append(b, byte(n))
		bits = bits[min(8, len(bits)):]
	}
	return string(b)
}

func wantOpened(text string) string {
	var all strings.Builder
	for i := range len(text) {
		all.WriteString(wantBits(int64(text[i]), 8))
	}
	return all.String()
}

func randomBits(draw *rand.Rand, size int) string {
	b := make([]byte, size)
	for i := range b {
		b[i] = '0' + byte(draw.Intn(2))
	}
	return string(b)
}

// knot is a tree whose symbols are found by going down from the last one.
type knot struct {
	weight, born int
	symbol       int
	left, right  *knot
}

func (k *knot) depths(depth int64, lengths []int64) {
	if k.left == nil {
		lengths[k.symbol] = max(depth, 1)
		return
	}
	k.left.depths(depth+1, lengths)
	k.right.depths(depth+1, lengths)
}

// wantLengths sorts all trees by weight and birth ahead of each step, and tells too how often all was done anew.
func wantLengths(counts []int64) ([]int64, int) {
	now := slices.Clone(counts)
	for again := 0; ; again++ {
		lengths := make([]int64, len(now))
		var knots []*knot
		for i, c := range now {
			if c > 0 {
				knots = append(knots, &knot{weight: int(c), born: i, symbol: i})
			}
		}
		for born := len(now); len(knots) > 1; born++ {
			sort.Slice(knots, func(i, j int) bool {
				if knots[i].weight != knots[j].weight {
					return knots[i].weight < knots[j].weight
				}
				return knots[i].born < knots[j].born
			})
			both := &knot{weight: knots[0].weight + knots[1].weight, born: born, left: knots[0], right: knots[1]}
			knots = append(knots[2:], both)
		}
		if len(knots) == 1 {
			knots[0].depths(0, lengths)
		}
		if len(lengths) == 0 || slices.Max(lengths) <= 12 {
			return lengths, again
		}
		for i, c := range now {
			if c > 0 {
				now[i] = c/2 + 1
			}
		}
	}
}

// wantSum is the sum of two to the power of less the length.
func wantSum(lengths []int64) *big.Rat {
	sum := new(big.Rat)
	for _, l := range lengths {
		if l > 0 {
			sum.Add(sum, big.NewRat(1, 1<<l))
		}
	}
	return sum
}

func wantRight(lengths []int64) bool {
	for _, l := range lengths {
		if l < 0 || l > 12 {
			return false
		}
	}
	return len(lengths) <= 257 && wantSum(lengths).Cmp(big.NewRat(1, 1)) <= 0
}

func wantWhole(lengths []int64) bool {
	above := slices.DeleteFunc(slices.Clone(lengths), func(l int64) bool { return l == 0 })
	return wantRight(lengths) && (wantSum(lengths).Cmp(big.NewRat(1, 1)) == 0 || slices.Equal(above, []int64{1}))
}

// wantCodes goes from code to code, in the order of their lengths.
func wantCodes(lengths []int64) []string {
	if !wantRight(lengths) {
		return nil
	}
	var order []int
	for i, l := range lengths {
		if l > 0 {
			order = append(order, i)
		}
	}
	sort.SliceStable(order, func(i, j int) bool { return lengths[order[i]] < lengths[order[j]] })
	codes := make([]string, len(lengths))
	ahead := ""
	for _, i := range order {
		if ahead == "" {
			ahead = strings.Repeat("0", int(lengths[i]))
		} else {
			n, _ := strconv.ParseInt(ahead, 2, 64)
			ahead = wantBits(n+1, len(ahead)) + strings.Repeat("0", int(lengths[i])-len(ahead))
		}
		codes[i] = ahead
	}
	return codes
}

// wantGot looks at each code in turn, for each symbol.
func wantGot(lengths []int64, bits string, many int) impl.NumsOut {
	codes := wantCodes(lengths)
	var out impl.NumsOut
	for range many {
		rest := bits[out.At:]
		at := slices.IndexFunc(codes, func(c string) bool { return c != "" && strings.HasPrefix(rest, c) })
		if at >= 0 {
			out.Nums, out.At = append(out.Nums, int64(at)), out.At+int64(len(codes[at]))
		} else if slices.ContainsFunc(codes, func(c string) bool { return c != "" && strings.HasPrefix(c, rest) }) {
			return impl.NumsOut{Code: impl.ErrShort}
		} else {
			return impl.NumsOut{Code: impl.ErrSyntax}
		}
	}
	return out
}

func sameNums(t *testing.T, what string, got []int64, want []int64) {
	t.Helper()
	if !slices.Equal(got, want) {
		t.Errorf("%s: got %v, want %v", what, got, want)
	}
}

func sameGot(t *testing.T, what string, got impl.NumsOut, want impl.NumsOut) {
	t.Helper()
	if !slices.Equal(got.Nums, want.Nums) || got.At != want.At || got.Code != want.Code {
		t.Errorf("%s: got %v, want %v", what, got, want)
	}
}

// alike is a list of one number, so many times.
func alike(n int64, many int) []int64 {
	return slices.Repeat([]int64{n}, many)
}

// stairs is the lengths 1, 2, .. up to last, and last once more: whole, and each as long as may be.
func stairs(last int64) []int64 {
	var l []int64
	for i := int64(1); i <= last; i++ {
		l = append(l, i)
	}
	return append(l, last)
}

// eachList calls f with each list of at most size numbers from 0 to most.
func eachList(size int, most int64, f func([]int64)) {
	lists := [][]int64{nil}
	for len(lists) > 0 {
		l := lists[0]
		lists = lists[1:]
		f(l)
		if len(l) == size {
			continue
		}
		for n := int64(0); n <= most; n++ {
			lists = append(lists, append(slices.Clone(l), n))
		}
	}
}

// someCounts is lists of counts that lead to lengths of all kinds.
func someCounts() [][]int64 {
	var powers, stepped, steep []int64
	for c := int64(1); c <= 8192; c *= 2 {
		powers = append(powers, c)
	}
	a, b := int64(1), int64(1)
	for a <= 10000 {
		stepped = append(stepped, a)
		a, b = b, a+b
	}
	for i := range int64(257) {
		steep = append(steep, 1+i*i*10000/(256*256+1))
	}
	lists := [][]int64{
		{0, 1}, {1, 0}, {10000}, {1, 1}, {2, 1}, {1, 1, 1}, {1, 1, 1, 1}, {2, 1, 1, 2}, {1, 2, 2, 1}, {1, 1, 2, 2, 3},
		{5, 0, 1, 2, 1}, {10000, 10000}, {0, 10000, 1, 0}, powers, powers[:12], powers[:13], stepped, stepped[:13],
		stepped[:14], steep, alike(1, 257), alike(10000, 257), alike(7, 5), append(alike(0, 200), stepped...),
		append(slices.Clone(stepped), alike(10000, 200)...), append(slices.Clone(powers), powers...),
	}
	draw := rand.New(rand.NewSource(41))
	for range 150 {
		l := make([]int64, draw.Intn(40)+1)
		if draw.Intn(10) == 0 {
			l = make([]int64, 257)
		}
		for i := range l {
			switch draw.Intn(4) {
			case 0:
				l[i] = draw.Int63n(4)
			case 1:
				l[i] = draw.Int63n(10001)
			case 2:
				l[i] = 1 << draw.Intn(14)
			}
		}
		lists = append(lists, l)
	}
	return lists
}

// someLengths is whole lengths of all kinds.
func someLengths() [][]int64 {
	lists := [][]int64{
		{1}, {0, 1}, {1, 0, 0}, {1, 1}, {0, 1, 0, 1}, {2, 2, 2, 2}, {3, 1, 0, 2, 3}, stairs(12), stairs(3),
		alike(8, 256), append(alike(8, 256), 0), append(alike(8, 255), 9, 9), append([]int64{0}, alike(8, 256)...),
	}
	for _, counts := range someCounts() {
		if l, _ := wantLengths(counts); wantWhole(l) {
			lists = append(lists, l)
		}
	}
	return lists
}

func TestCodeLimits(t *testing.T) {
	if impl.MaxLength != 12 || impl.MaxSymbols != 257 {
		t.Errorf("MaxLength is %d, MaxSymbols %d", impl.MaxLength, impl.MaxSymbols)
	}
}

func TestBitsOf(t *testing.T) {
	for width := int64(1); width <= 20; width++ {
		end := int64(1) << width
		for _, n := range []int64{0, 1, 2, 5, end / 3, end / 2, end/2 - 1, end - 2, end - 1} {
			if n < 0 || n >= end {
				continue
			}
			if got := impl.BitsOf(n, width); got != wantBits(n, int(width)) {
				t.Errorf("BitsOf(%d, %d): got %q", n, width, got)
			}
		}
		for _, n := range []int64{end, end + 1, 2 * end, -1, -end, math.MinInt64, math.MaxInt64} {
			if got := impl.BitsOf(n, width); got != "" {
				t.Errorf("BitsOf(%d, %d): got %q", n, width, got)
			}
		}
	}
}

func TestBitsOfWrongWidth(t *testing.T) {
	for _, width := range []int64{0, -1, -20, 21, 22, 62, 63, 64, 65, 1000, math.MinInt64, math.MaxInt64} {
		for _, n := range []int64{0, 1, -1, 5, math.MaxInt64, math.MinInt64} {
			if got := impl.BitsOf(n, width); got != "" {
				t.Errorf("BitsOf(%d, %d): got %q", n, width, got)
			}
		}
	}
}

func TestBitsPack(t *testing.T) {
	known := []struct{ bits, want string }{
		{"", ""}, {"0", "\x00"}, {"1", "\x80"}, {"0000001", "\x02"}, {"1111111", "\xfe"}, {"00000001", "\x01"},
		{"11111111", "\xff"}, {"000000001", "\x00\x80"}, {"010000011", "A\x80"}, {"1000000000000001", "\x80\x01"},
	}
	for _, k := range known {
		if got := impl.BitsPack(k.bits); got != k.want {
			t.Errorf("BitsPack(%q): got %x, want %x", k.bits, got, k.want)
		}
	}
	draw := rand.New(rand.NewSource(42))
	for size := range 200 {
		bits := randomBits(draw, size)
		if got := impl.BitsPack(bits); got != wantPacked(bits) {
			t.Errorf("BitsPack(%q): got %x", bits, got)
		}
	}
}

func TestBitsPackNoBits(t *testing.T) {
	for b := range 256 {
		text := string([]byte{byte(b)})
		isBit := text == "0" || text == "1"
		for _, bits := range []string{text, text + "0", "1" + text, "0110110" + text, "01101100" + text, "01" + text + "0101111"} {
			if got := impl.BitsPack(bits); (got != "") != isBit {
				t.Errorf("BitsPack(%q): got %x", bits, got)
			}
		}
	}
}

func TestBitsComeBack(t *testing.T) {
	draw := rand.New(rand.NewSource(43))
	sizes := []int{0, 1, 6, 7, 8, 9, 15, 16, 17, 7993, 7999, 8000}
	for range 100 {
		sizes = append(sizes, draw.Intn(500))
	}
	for _, size := range sizes {
		bits := randomBits(draw, size)
		packed := impl.BitsPack(bits)
		if len(packed) != (size+7)/8 {
			t.Errorf("%d bits are packed in %d bytes", size, len(packed))
		}
		if got := impl.BitsOpen(packed, int64(size)); got != bits {
			t.Errorf("%d bits do not come back", size)
		}
	}
	for size := range 60 {
		text := randomText(draw, size)
		if got := impl.BitsPack(impl.BitsOpen(text, int64(8*size))); got != text {
			t.Errorf("the text %x comes back as %x", text, got)
		}
	}
}

func TestBitsPackLimit(t *testing.T) {
	if got := impl.BitsPack(strings.Repeat("1", 8000)); got != strings.Repeat("\xff", 1000) {
		t.Errorf("8000 bits are packed in %d bytes", len(got))
	}
	for _, size := range []int{8001, 8008, 20000} {
		if got := impl.BitsPack(strings.Repeat("1", size)); got != "" {
			t.Errorf("%d bits are packed in %d bytes", size, len(got))
		}
	}
}

func TestBitsOpen(t *testing.T) {
	for _, text := range []string{"", "A", "A\x80", "\x00\x01\xfe\xff"} {
		all := wantOpened(text)
		for many := range len(all) + 1 {
			if got := impl.BitsOpen(text, int64(many)); got != all[:many] {
				t.Errorf("BitsOpen(%x, %d): got %q", text, many, got)
			}
		}
		end := int64(len(all))
		for _, many := range []int64{-1, -8, end + 1, end + 8, math.MinInt64, math.MaxInt64, 1 << 61} {
			if got := impl.BitsOpen(text, many); got != "" {
				t.Errorf("BitsOpen(%x, %d): got %q", text, many, got)
			}
		}
	}
}

func TestBitsOpenLimit(t *testing.T) {
	long := strings.Repeat("U", 8000)
	for _, many := range []int64{1, 8000, 8001, 63999, 64000} {
		if got := impl.BitsOpen(long, many); got != strings.Repeat("01", 32000)[:many] {
			t.Errorf("BitsOpen of 8000 bytes, %d: got %d bits", many, len(got))
		}
	}
	if got := impl.BitsOpen(long, 64001); got != "" {
		t.Errorf("BitsOpen of 8000 bytes, 64001: got %d bits", len(got))
	}
	for _, many := range []int64{0, 1, 8, 64008, 64009} {
		if got := impl.BitsOpen(long+"U", many); got != "" {
			t.Errorf("BitsOpen of 8001 bytes, %d: got %d bits", many, len(got))
		}
	}
}

func TestLengthsKnown(t *testing.T) {
	known := []struct{ counts, want []int64 }{
		{nil, nil},
		{[]int64{0}, []int64{0}},
		{[]int64{0, 0, 0}, []int64{0, 0, 0}},
		{[]int64{7}, []int64{1}},
		{[]int64{0, 10000, 0}, []int64{0, 1, 0}},
		{[]int64{1, 10000}, []int64{1, 1}},
		{[]int64{0, 3, 0, 3}, []int64{0, 1, 0, 1}},
		{[]int64{5, 0, 1, 2, 1}, []int64{1, 0, 3, 2, 3}},
		// Alike: the first two go together, then the one that is left and their tree.
		{[]int64{1, 1, 1}, []int64{2, 2, 1}},
		{[]int64{4, 4, 4, 4}, []int64{2, 2, 2, 2}},
		{[]int64{1, 1, 1, 1, 1}, []int64{3, 3, 2, 2, 2}},
		// A tree of both comes behind a count that weighs the same.
		{[]int64{2, 1, 1, 2}, []int64{2, 2, 2, 2}},
		{[]int64{1, 1, 2, 2, 4}, []int64{3, 3, 2, 2, 2}},
		{[]int64{4, 1, 1, 2}, []int64{1, 3, 3, 2}},
		{[]int64{1, 2, 4, 8, 16}, []int64{4, 4, 3, 2, 1}},
	}
	for _, k := range known {
		sameNums(t, "LengthsOf", impl.LengthsOf(k.counts), k.want)
	}
	sameNums(t, "of 13 steps", impl.LengthsOf([]int64{1, 1, 2, 4, 8, 16, 32, 64, 128, 256, 512, 1024, 2048}),
		[]int64{12, 12, 11, 10, 9, 8, 7, 6, 5, 4, 3, 2, 1})
	// 14 steps are 13 deep; so are they made half (1, 1, 2, 3, 5, 9, .. 2049); once more (1, 1, 2, 2, 3, 5, .. 1025) they are 11 deep.
	sameNums(t, "of 14 steps", impl.LengthsOf([]int64{1, 1, 2, 4, 8, 16, 32, 64, 128, 256, 512, 1024, 2048, 4096}),
		[]int64{11, 11, 10, 10, 10, 9, 9, 7, 6, 5, 4, 3, 2, 1})
}

func TestLengthsOfEachShortList(t *testing.T) {
	eachList(5, 4, func(counts []int64) {
		want, _ := wantLengths(counts)
		sameNums(t, "LengthsOf "+strconv.Itoa(len(counts)), impl.LengthsOf(counts), want)
	})
}

func TestLengthsDoneAnew(t *testing.T) {
	var seen [20]int
	for _, counts := range someCounts() {
		want, again := wantLengths(counts)
		seen[again]++
		got := impl.LengthsOf(counts)
		sameNums(t, "LengthsOf", got, want)
		if slices.ContainsFunc(counts, func(c int64) bool { return c > 0 }) && !impl.Whole(got) {
			t.Errorf("the lengths %v are not whole", got)
		}
	}
	if seen[0] == 0 || seen[1] == 0 || seen[2] == 0 || seen[3] == 0 {
		t.Errorf("how often all was done anew: %v", seen)
	}
}

func TestLengthsOfWrongCounts(t *testing.T) {
	sameNums(t, "of 257", impl.LengthsOf(alike(1, 257)), append(alike(9, 2), alike(8, 255)...))
	sameNums(t, "of 257 noughts", impl.LengthsOf(alike(0, 257)), alike(0, 257))
	sameNums(t, "of 10000", impl.LengthsOf([]int64{10000, 10000, 1}), []int64{2, 1, 2})
	wrong := [][]int64{
		{10001}, {1, 10001}, {10001, 1, 1}, {-1}, {0, -1}, {3, 4, -1}, {math.MinInt64}, {math.MaxInt64, 1},
		alike(1, 258), alike(0, 258), alike(1, 400), alike(1, 401), alike(0, 401), alike(-1, 500),
	}
	for _, counts := range wrong {
		sameNums(t, "of wrong counts", impl.LengthsOf(counts), nil)
	}
}

func TestCodesKnown(t *testing.T) {
	known := []struct {
		lengths []int64
		want    []string
		whole   bool
	}{
		{nil, nil, false},
		{[]int64{0}, []string{""}, false},
		{[]int64{0, 0}, []string{"", ""}, false},
		{[]int64{1}, []string{"0"}, true},
		{[]int64{0, 1, 0}, []string{"", "0", ""}, true},
		{[]int64{2}, []string{"00"}, false},
		{[]int64{0, 12}, []string{"", "000000000000"}, false},
		{[]int64{13}, nil, false},
		{[]int64{1, 13}, nil, false},
		{[]int64{-1}, nil, false},
		{[]int64{1, 1, -1}, nil, false},
		{[]int64{1, 1}, []string{"0", "1"}, true},
		{[]int64{1, 2}, []string{"0", "10"}, false},
		{[]int64{1, 1, 1}, nil, false},
		{[]int64{1, 1, 12}, nil, false},
		{[]int64{1, 2, 2}, []string{"0", "10", "11"}, true},
		{[]int64{2, 1, 2}, []string{"10", "0", "11"}, true},
		{[]int64{3, 0, 2, 2, 2, 3}, []string{"110", "", "00", "01", "10", "111"}, true},
		{[]int64{1, 0, 3, 2, 3}, []string{"0", "", "110", "10", "111"}, true},
		{[]int64{3, 1, 3}, []string{"100", "0", "101"}, false},
		{[]int64{4, 2, 4, 3}, []string{"0110", "00", "0111", "010"}, false},
		{[]int64{math.MaxInt64}, nil, false},
		{[]int64{math.MinInt64, 1}, nil, false},
	}
	for _, k := range known {
		sameTexts(t, "CodesOf", impl.CodesOf(k.lengths), k.want)
		if got := impl.Whole(k.lengths); got != k.whole {
			t.Errorf("Whole(%v): got %v", k.lengths, got)
		}
	}
}

func TestCodesOfEachShortList(t *testing.T) {
	eachList(5, 5, func(lengths []int64) {
		sameTexts(t, "CodesOf", impl.CodesOf(lengths), wantCodes(lengths))
		if got := impl.Whole(lengths); got != wantWhole(lengths) {
			t.Errorf("Whole(%v): got %v", lengths, got)
		}
	})
}

// longLengths is lists at the limits, right and not.
func longLengths() [][]int64 {
	return [][]int64{
		stairs(11), stairs(12), stairs(12)[:12], append(stairs(12), 12), append(stairs(12), 0), stairs(13), append(stairs(12), -1),
		alike(8, 255), alike(8, 256), alike(8, 257), append(alike(8, 256), 0), append(alike(8, 256), 12), append(alike(8, 255), 9, 9),
		alike(12, 256), alike(12, 257), alike(0, 257), alike(9, 257), append(alike(0, 256), 1), append(alike(0, 256), 2),
		alike(0, 258), alike(9, 258), append(alike(8, 256), 0, 0), append([]int64{1}, alike(0, 257)...),
		alike(0, 400), alike(0, 401), append([]int64{1, 1}, alike(0, 399)...), alike(12, 500),
	}
}

func TestCodesAtTheLimits(t *testing.T) {
	right := 0
	for _, lengths := range longLengths() {
		sameTexts(t, "CodesOf", impl.CodesOf(lengths), wantCodes(lengths))
		if got := impl.Whole(lengths); got != wantWhole(lengths) {
			t.Errorf("Whole of %d lengths from %d on: got %v", len(lengths), lengths[0], got)
		}
		if wantRight(lengths) {
			right++
		}
	}
	if right < 10 || right > 20 {
		t.Errorf("%d lists are right", right)
	}
}

func TestNoCodeBeginsAnother(t *testing.T) {
	for _, lengths := range someLengths() {
		codes := impl.CodesOf(lengths)
		sameTexts(t, "CodesOf", codes, wantCodes(lengths))
		for i, a := range codes {
			if int64(len(a)) != lengths[i] {
				t.Errorf("the code %q has not %d bits", a, lengths[i])
			}
			for j, b := range codes {
				if i != j && a != "" && strings.HasPrefix(b, a) {
					t.Errorf("the code %q begins %q", a, b)
				}
			}
		}
	}
}

// drawSymbols draws symbols that have a code.
func drawSymbols(draw *rand.Rand, lengths []int64, many int) []int64 {
	var some []int64
	for i, l := range lengths {
		if l > 0 {
			some = append(some, int64(i))
		}
	}
	symbols := make([]int64, many)
	for i := range symbols {
		symbols[i] = some[draw.Intn(len(some))]
	}
	return symbols
}

func TestSymbolsComeBack(t *testing.T) {
	draw := rand.New(rand.NewSource(44))
	for _, lengths := range someLengths() {
		codes := wantCodes(lengths)
		for _, many := range []int{0, 1, 2, draw.Intn(60), 400} {
			symbols := drawSymbols(draw, lengths, many)
			want := ""
			for _, s := range symbols {
				want += codes[s]
			}
			bits := impl.CodePut(lengths, symbols)
			if bits != want {
				t.Errorf("CodePut(%v, %v): got %q", lengths, symbols, bits)
			}
			for _, behind := range []string{"", "0", "1", "0110"} {
				got := impl.CodeGet(lengths, bits+behind, int64(many))
				sameGot(t, "CodeGet", got, impl.NumsOut{Nums: symbols, At: int64(len(bits))})
			}
			packed := impl.BitsPack(bits)
			opened := impl.BitsOpen(packed, 8*int64(len(packed)))
			sameGot(t, "by bytes", impl.CodeGet(lengths, opened, int64(many)), impl.NumsOut{Nums: symbols, At: int64(len(bits))})
		}
	}
}

func TestCountedSymbolsComeBack(t *testing.T) {
	draw := rand.New(rand.NewSource(45))
	for range 200 {
		symbols := make([]int64, draw.Intn(400)+1)
		counts := make([]int64, impl.MaxSymbols)
		most := draw.Intn(impl.MaxSymbols) + 1
		for i := range symbols {
			symbols[i] = int64(draw.Intn(draw.Intn(most) + 1))
			counts[symbols[i]]++
		}
		lengths := impl.LengthsOf(counts)
		bits := impl.CodePut(lengths, symbols)
		got := impl.CodeGet(lengths, bits, int64(len(symbols)))
		sameGot(t, "counted", got, impl.NumsOut{Nums: symbols, At: int64(len(bits))})
	}
}

func TestCodePutWrong(t *testing.T) {
	whole := []int64{1, 0, 3, 2, 3}
	for _, symbols := range [][]int64{{1}, {5}, {-1}, {0, 1}, {0, 4, 3, 5}, {1, 0}, {math.MaxInt64}, {math.MinInt64}, {257}} {
		if got := impl.CodePut(whole, symbols); got != "" {
			t.Errorf("CodePut of %v: got %q", symbols, got)
		}
	}
	for _, lengths := range append(longLengths(), nil, []int64{0}, []int64{2}, []int64{1, 2}, []int64{1, 1, 1}, []int64{-1, 1}) {
		many := slices.IndexFunc(lengths, func(l int64) bool { return l > 0 })
		if got := impl.CodePut(lengths, []int64{int64(many)}); (got != "") != wantWhole(lengths) {
			t.Errorf("CodePut of %d lengths: got %q", len(lengths), got)
		}
		if got := impl.CodePut(lengths, nil); got != "" {
			t.Errorf("CodePut of no symbols: got %q", got)
		}
	}
}

func TestCodePutLimits(t *testing.T) {
	if got := impl.CodePut([]int64{0, 1}, alike(1, 400)); got != strings.Repeat("0", 400) {
		t.Errorf("CodePut of 400 symbols: got %d bits", len(got))
	}
	// The longest that can be: MaxList codes of MaxLength bits.
	if got := impl.CodePut(stairs(12), alike(12, 400)); got != strings.Repeat("1", 4800) {
		t.Errorf("CodePut of 400 long codes: got %d bits", len(got))
	}
	for _, many := range []int{401, 402, 1000, 9000} {
		if got := impl.CodePut([]int64{0, 1}, alike(1, many)); got != "" {
			t.Errorf("CodePut of %d symbols: got %d bits", many, len(got))
		}
	}
}

func TestCodeGetOfAllShortBits(t *testing.T) {
	for _, lengths := range [][]int64{{1}, {0, 0, 1}, {1, 1}, {0, 1, 1}, {2, 1, 2}, {1, 0, 3, 2, 3}, {2, 2, 2, 2}, {2, 2, 2, 0, 3, 3}} {
		for size := range 8 {
			for n := range int64(1) << size {
				bits := wantBits(n, max(size, 1))[:size]
				for many := range size + 2 {
					got := impl.CodeGet(lengths, bits, int64(many))
					sameGot(t, "CodeGet "+bits+" "+strconv.Itoa(many), got, wantGot(lengths, bits, many))
				}
			}
		}
	}
}

func TestCodeGetFaultsWithin(t *testing.T) {
	whole := []int64{1, 0, 3, 2, 3}
	short, syntax := impl.NumsOut{Code: impl.ErrShort}, impl.NumsOut{Code: impl.ErrSyntax}
	known := []struct {
		lengths []int64
		bits    string
		many    int64
		want    impl.NumsOut
	}{
		{whole, "", 0, impl.NumsOut{}},
		{whole, "11111", 0, impl.NumsOut{}},
		{whole, "", 1, short},
		{whole, "1", 1, short},
		{whole, "11", 1, short},
		{whole, "111", 1, impl.NumsOut{Nums: []int64{4}, At: 3}},
		{whole, "111", 2, short},
		{whole, "1111", 2, short},
		{whole, "1111", 1, impl.NumsOut{Nums: []int64{4}, At: 3}},
		{whole, "011110", 3, impl.NumsOut{Nums: []int64{0, 4, 3}, At: 6}},
		{whole, "011110", 4, short},
		{whole, "011110", 400, short},
		{[]int64{0, 1}, "1", 0, impl.NumsOut{}},
		{[]int64{0, 1}, "1", 1, syntax},
		{[]int64{0, 1}, "001", 2, impl.NumsOut{Nums: []int64{1, 1}, At: 2}},
		{[]int64{0, 1}, "001", 3, syntax},
		{[]int64{0, 1}, "0010", 4, syntax},
		{[]int64{0, 1}, "00", 3, short},
		{[]int64{0, 1}, "", 1, short},
		{[]int64{0, 1}, strings.Repeat("1", 30), 1, syntax},
		{stairs(12), strings.Repeat("1", 11), 1, short},
		{stairs(12), strings.Repeat("1", 12), 1, impl.NumsOut{Nums: []int64{12}, At: 12}},
		{stairs(12), strings.Repeat("1", 11) + "0", 1, impl.NumsOut{Nums: []int64{11}, At: 12}},
		{stairs(12), strings.Repeat("1", 23), 2, short},
	}
	for _, k := range known {
		sameGot(t, "CodeGet "+k.bits, impl.CodeGet(k.lengths, k.bits, k.many), k.want)
	}
}

func TestCodeGetForm(t *testing.T) {
	form := impl.NumsOut{Code: impl.ErrForm}
	whole := []int64{1, 1}
	for _, many := range []int64{-1, -2, 401, 402, 8001, math.MinInt64, math.MaxInt64} {
		sameGot(t, "wrong many", impl.CodeGet(whole, "01", many), form)
		sameGot(t, "wrong many, and no code", impl.CodeGet([]int64{1}, "1", many), form)
	}
	for _, bits := range []string{"2", "01 ", "0a", "/", "\x00", "0\xff", "011\n"} {
		for _, many := range []int64{0, 1, 2, 400} {
			sameGot(t, "no bits", impl.CodeGet(whole, bits, many), form)
		}
	}
	for _, lengths := range append(longLengths(), nil, []int64{0}, []int64{0, 0}, []int64{2}, []int64{1, 2}, []int64{1, 1, 1}, []int64{-1}, []int64{13}) {
		if wantWhole(lengths) {
			continue
		}
		want := form
		if len(lengths) > 400 {
			want.Code = impl.ErrSize
		}
		for _, bits := range []string{"", "0", "1", "x", strings.Repeat("0", 8000)} {
			sameGot(t, "not whole", impl.CodeGet(lengths, bits, 0), want)
			sameGot(t, "not whole", impl.CodeGet(lengths, bits, 1), want)
			sameGot(t, "not whole, wrong many", impl.CodeGet(lengths, bits, -1), want)
		}
	}
}

func TestCodeGetSize(t *testing.T) {
	size := impl.NumsOut{Code: impl.ErrSize}
	zeros := strings.Repeat("0", 8001)
	sameGot(t, "8000 bits", impl.CodeGet([]int64{0, 1}, zeros[1:], 400), impl.NumsOut{Nums: alike(1, 400), At: 400})
	sameGot(t, "8001 bits", impl.CodeGet([]int64{0, 1}, zeros, 1), size)
	sameGot(t, "8001 bits, none asked", impl.CodeGet([]int64{0, 1}, zeros, 0), size)
	sameGot(t, "8001 bits, wrong many", impl.CodeGet([]int64{0, 1}, zeros, -1), size)
	sameGot(t, "8001 bits, not whole", impl.CodeGet(nil, zeros, 401), size)
	sameGot(t, "8001 bytes, no bits", impl.CodeGet([]int64{0, 1}, zeros[1:]+"x", 1), size)
	sameGot(t, "401 lengths", impl.CodeGet(append([]int64{1}, alike(0, 400)...), "x", -1), size)
	sameGot(t, "400 lengths", impl.CodeGet(append([]int64{1}, alike(0, 399)...), "0", 1), impl.NumsOut{Code: impl.ErrForm})
}

func TestCodesLeaveTheirListsAsTheyWere(t *testing.T) {
	for _, counts := range someCounts() {
		was := slices.Clone(counts)
		lengths := impl.LengthsOf(counts)
		sameNums(t, "the counts", counts, was)
		wasLengths := slices.Clone(lengths)
		impl.CodesOf(lengths)
		impl.Whole(lengths)
		symbols := []int64{0, 0}
		impl.CodeGet(lengths, impl.CodePut(lengths, symbols), 2)
		sameNums(t, "the lengths", lengths, wasLengths)
		sameNums(t, "the symbols", symbols, []int64{0, 0})
		clear(lengths)
		sameNums(t, "the counts", counts, was)
	}
}
