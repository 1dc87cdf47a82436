package tests

import (
	"math"
	"math/rand"
	"slices"
	"strconv"
	"strings"
	"testing"

	"loop.example/g00550/impl"
)

// wantOrder counts for each place how many turns stand ahead of its own.
func wantOrder(block string) []int64 {
	twice := block + block
	order := make([]int64, len(block))
	for i := range len(block) {
		ahead := 0
		for j := range len(block) {
			is := strings.Compare(twice[j:j+len(block)], twice[i:i+len(block)])
			if is < 0 || is == 0 && j < i {
				ahead++
			}
		}
		order[ahead] = int64(i)
	}
	return order
}

func wantBwt(block string) impl.SortOut {
	var out impl.SortOut
	for i, place := range wantOrder(block) {
		if place == 0 {
			out.At = int64(i)
			out.Text += block[len(block)-1:]
		} else {
			out.Text += block[place-1 : place]
		}
	}
	return out
}

// wantFront counts the unlike bytes since a byte came last; ahead of one that never came stand all that did, and the
// lesser ones that did not.
func wantFront(text string) []int64 {
	var places []int64
	for i := range len(text) {
		since := text[strings.LastIndexByte(text[:i], text[i])+1 : i]
		there := make([]bool, 256)
		for j := range len(since) {
			there[since[j]] = true
		}
		if !strings.Contains(text[:i], text[i:i+1]) {
			for b := range text[i] {
				there[b] = true
			}
		}
		place := int64(0)
		for _, is := range there {
			if is {
				place++
			}
		}
		places = append(places, place)
	}
	return places
}

// wantZeros writes one more than the zeros are with digits of two, and leaves the highest one out.
func wantZeros(l []int64) []int64 {
	var told []int64
	for len(l) > 0 {
		zeros := slices.IndexFunc(l, func(n int64) bool { return n != 0 })
		if zeros == 0 {
			told = append(told, l[0]+1)
			l = l[1:]
			continue
		}
		if zeros < 0 {
			zeros = len(l)
		}
		digits := strconv.FormatInt(int64(zeros)+1, 2)[1:]
		for i := len(digits) - 1; i >= 0; i-- {
			told = append(told, int64(digits[i]-'0'))
		}
		l = l[zeros:]
	}
	return told
}

func sameSorted(t *testing.T, what string, got impl.SortOut, want impl.SortOut) {
	t.Helper()
	if got != want {
		t.Errorf("%s: got %+q at %d with code %d, want %+q at %d with code %d", what, got.Text, got.At, got.Code, want.Text, want.At, want.Code)
	}
}

// eachText calls f with each text of at most size bytes out of some.
func eachText(size int, some string, f func(string)) {
	eachList(size, int64(len(some)-1), func(l []int64) {
		b := make([]byte, len(l))
		for i, n := range l {
			b[i] = some[n]
		}
		f(string(b))
	})
}

// someBlocks is blocks of all kinds and sizes.
func someBlocks() []string {
	blocks := []string{
		"banana", "abracadabra", "mississippi", "a file that many hand round, piece by piece", "ab", "ba", "\x00", "\xff",
		"\x00\xff", "\xff\x00", "\xff\xfe\x80\x7f\x01\x00", "a\x00b\x00a", strings.Repeat("ab", 24), strings.Repeat("ba", 24),
		strings.Repeat("aab", 16), strings.Repeat("banana", 8), strings.Repeat("\xff\x00\x00", 5), "aaaaaaab", "baaaaaaa",
		"zyxwvutsrqponmlkjihgfedcba", "abcdefghijklmnopqrstuvwxyz", "ü ä ö ß", strings.Repeat("a", 47) + "b", "b" + strings.Repeat("a", 47),
	}
	draw := rand.New(rand.NewSource(51))
	for size := range 49 {
		some := randomText(draw, size)
		few := make([]byte, size)
		for i := range few {
			few[i] = "\x00a\xff"[draw.Intn(3)]
		}
		half := some[:size/2]
		blocks = append(blocks, some, string(few), half+half, strings.Repeat("a", size), strings.Repeat("\xff", size), strings.Repeat("\x00", size))
	}
	return blocks
}

func TestSortLimits(t *testing.T) {
	if impl.MaxBlock != 48 {
		t.Errorf("MaxBlock is %d", impl.MaxBlock)
	}
}

func TestOrderKnown(t *testing.T) {
	known := []struct {
		block string
		want  []int64
	}{
		{"", nil}, {"a", []int64{0}}, {"\x00", []int64{0}}, {"\xff", []int64{0}}, {"ab", []int64{0, 1}}, {"ba", []int64{1, 0}},
		{"banana", []int64{5, 3, 1, 0, 4, 2}}, {"aaaa", []int64{0, 1, 2, 3}}, {"abab", []int64{0, 2, 1, 3}}, {"baba", []int64{1, 3, 0, 2}},
		{"bcabca", []int64{2, 5, 0, 3, 1, 4}}, {"\xff\x00", []int64{1, 0}}, {"\x00\xff\x00", []int64{2, 0, 1}}, {"\x7f\x80", []int64{0, 1}},
		{"\x80\x7f", []int64{1, 0}}, {"aab", []int64{0, 1, 2}}, {"aba", []int64{2, 0, 1}}, {"a\x00", []int64{1, 0}},
	}
	for _, k := range known {
		sameNums(t, "OrderOf "+strconv.Quote(k.block), impl.OrderOf(k.block), k.want)
	}
}

func TestBwtKnown(t *testing.T) {
	known := []struct {
		block string
		want  impl.SortOut
	}{
		{"", impl.SortOut{}}, {"a", impl.SortOut{Text: "a"}}, {"\x00", impl.SortOut{Text: "\x00"}}, {"\xff", impl.SortOut{Text: "\xff"}},
		{"banana", impl.SortOut{Text: "nnbaaa", At: 3}}, {"aaaa", impl.SortOut{Text: "aaaa"}}, {"abab", impl.SortOut{Text: "bbaa"}},
		{"baba", impl.SortOut{Text: "bbaa", At: 2}}, {"abracadabra", impl.SortOut{Text: "rdarcaaaabb", At: 2}},
		{"ba", impl.SortOut{Text: "ba", At: 1}}, {"ab", impl.SortOut{Text: "ba"}}, {"\xff\x00", impl.SortOut{Text: "\xff\x00", At: 1}},
	}
	for _, k := range known {
		sameSorted(t, "Bwt of "+strconv.Quote(k.block), impl.Bwt(k.block), k.want)
	}
}

func TestTurnsAreSorted(t *testing.T) {
	for _, block := range someBlocks() {
		sameNums(t, "OrderOf "+strconv.Quote(block), impl.OrderOf(block), wantOrder(block))
		sameSorted(t, "Bwt of "+strconv.Quote(block), impl.Bwt(block), wantBwt(block))
	}
}

func TestBlocksComeBackFromTheirTurns(t *testing.T) {
	for _, block := range someBlocks() {
		x := impl.Bwt(block)
		sameText(t, "Unbwt of "+strconv.Quote(block), impl.Unbwt(x.Text, x.At), impl.TextOut{Text: block})
	}
}

func TestNoBlock(t *testing.T) {
	for _, k := range []struct {
		size int
		code int64
	}{{49, impl.ErrForm}, {50, impl.ErrForm}, {400, impl.ErrForm}, {401, impl.ErrForm}, {8000, impl.ErrForm}, {8001, impl.ErrSize}, {20000, impl.ErrSize}} {
		text := strings.Repeat("ab", k.size)[:k.size]
		sameNums(t, "OrderOf "+strconv.Itoa(k.size), impl.OrderOf(text), nil)
		sameSorted(t, "Bwt of "+strconv.Itoa(k.size), impl.Bwt(text), impl.SortOut{Code: k.code})
		for _, at := range []int64{0, 1, 47, 48, int64(k.size) - 1, int64(k.size), -1, math.MinInt64, math.MaxInt64} {
			sameText(t, "Unbwt of "+strconv.Itoa(k.size), impl.Unbwt(text, at), impl.TextOut{Code: k.code})
		}
	}
}

func TestUnbwtPlaces(t *testing.T) {
	sameText(t, "Unbwt of the empty text", impl.Unbwt("", 0), impl.TextOut{})
	full := impl.Bwt(strings.Repeat("a", 47) + "b")
	texts := []string{"", "a", "ba", "nnbaaa", "abc", full.Text, strings.Repeat("a", 48)}
	for _, text := range texts {
		end := int64(len(text))
		wrong := []int64{end, end + 1, end + 100, -1, -2, -end - 1, math.MinInt64, math.MaxInt64, 1 << 32, -1 << 32}
		if end == 0 {
			wrong[0] = 1
		}
		for _, at := range wrong {
			sameText(t, "Unbwt of "+strconv.Quote(text)+" at "+strconv.FormatInt(at, 10), impl.Unbwt(text, at), impl.TextOut{Code: impl.ErrForm})
		}
		for at := range end {
			if got := impl.Unbwt(text, at); got.Code == impl.ErrForm {
				t.Errorf("Unbwt of %q at %d is of no form", text, at)
			}
		}
	}
}

func TestUnbwtKnown(t *testing.T) {
	known := []struct {
		text string
		at   int64
		want impl.TextOut
	}{
		{"nnbaaa", 0, impl.TextOut{Text: "abanan"}}, {"nnbaaa", 3, impl.TextOut{Text: "banana"}}, {"nnbaaa", 5, impl.TextOut{Text: "nanaba"}},
		{"ba", 0, impl.TextOut{Text: "ab"}}, {"ba", 1, impl.TextOut{Text: "ba"}}, {"ab", 0, impl.TextOut{Code: impl.ErrSyntax}},
		{"ab", 1, impl.TextOut{Code: impl.ErrSyntax}}, {"bbaa", 0, impl.TextOut{Text: "abab"}}, {"bbaa", 1, impl.TextOut{Code: impl.ErrSyntax}},
		{"bbaa", 2, impl.TextOut{Text: "baba"}}, {"bbaa", 3, impl.TextOut{Code: impl.ErrSyntax}}, {"aaa", 0, impl.TextOut{Text: "aaa"}},
		{"aaa", 1, impl.TextOut{Code: impl.ErrSyntax}}, {"aaa", 2, impl.TextOut{Code: impl.ErrSyntax}}, {"banana", 3, impl.TextOut{Code: impl.ErrSyntax}},
		{"\xff\x00", 1, impl.TextOut{Text: "\xff\x00"}}, {"\x00\xff", 1, impl.TextOut{Code: impl.ErrSyntax}},
	}
	for _, k := range known {
		sameText(t, "Unbwt of "+strconv.Quote(k.text)+" at "+strconv.FormatInt(k.at, 10), impl.Unbwt(k.text, k.at), k.want)
	}
}

// What Bwt tells of all short blocks is written down; Unbwt is asked for all short texts at all places.
func TestUnbwtOfAllShortTexts(t *testing.T) {
	for _, k := range []struct {
		some string
		size int
	}{{"\x00a\xff", 6}, {"ab", 9}} {
		blocks := map[impl.SortOut]string{}
		eachText(k.size, k.some, func(block string) {
			blocks[wantBwt(block)] = block
		})
		eachText(k.size, k.some, func(text string) {
			for at := range max(int64(len(text)), 1) {
				block, there := blocks[impl.SortOut{Text: text, At: at}]
				want := impl.TextOut{Text: block}
				if !there {
					want.Code = impl.ErrSyntax
				}
				sameText(t, "Unbwt of "+strconv.Quote(text)+" at "+strconv.FormatInt(at, 10), impl.Unbwt(text, at), want)
			}
		})
	}
}

func TestUnbwtOfLongTexts(t *testing.T) {
	draw := rand.New(rand.NewSource(52))
	for _, block := range someBlocks() {
		if block == "" {
			continue
		}
		x := impl.Bwt(block)
		// Of turns that are the same only the first one is told.
		for at := range int64(len(block)) {
			place := wantOrder(block)[at]
			turn := block[place:] + block[:place]
			want := impl.TextOut{Text: turn}
			if wantBwt(turn).At != at {
				want = impl.TextOut{Code: impl.ErrSyntax}
			}
			sameText(t, "Unbwt of "+strconv.Quote(x.Text)+" at "+strconv.FormatInt(at, 10), impl.Unbwt(x.Text, at), want)
		}
		b := []byte(x.Text)
		draw.Shuffle(len(b), func(i, j int) { b[i], b[j] = b[j], b[i] })
		at := draw.Int63n(int64(len(b)))
		got := impl.Unbwt(string(b), at)
		if got.Code == impl.OK {
			sameSorted(t, "Bwt of an Unbwt", wantBwt(got.Text), impl.SortOut{Text: string(b), At: at})
		} else {
			sameText(t, "Unbwt of "+strconv.Quote(string(b)), got, impl.TextOut{Code: impl.ErrSyntax})
		}
	}
}

// someRows is texts of all kinds and sizes, MaxList among them.
func someRows() []string {
	var all, fall []byte
	for b := range 256 {
		all = append(all, byte(b))
		fall = append(fall, byte(255-b))
	}
	rows := []string{
		"", "a", "\x00", "\xff", "aab", "abab", "\x00\x00\x00", "\xff\xff\xff\xff", "\x00\xff\x00\xff", "\xff\x00\xff\x00",
		string(all), string(fall), string(all) + string(fall)[:144], strings.Repeat("\xff", 400), strings.Repeat("\x00\xff", 200),
	}
	draw := rand.New(rand.NewSource(53))
	for range 60 {
		rows = append(rows, randomText(draw, draw.Intn(401)))
	}
	return append(append(rows, randomText(draw, 399), randomText(draw, 400)), someBlocks()...)
}

func TestFrontKnown(t *testing.T) {
	known := []struct {
		text string
		want []int64
	}{
		{"", nil}, {"\x00", []int64{0}}, {"\xff", []int64{255}}, {"a", []int64{97}}, {"aaa", []int64{97, 0, 0}}, {"aab", []int64{97, 0, 98}},
		{"ba", []int64{98, 98}}, {"aba", []int64{97, 98, 1}}, {"\xff\x00", []int64{255, 1}}, {"\x00\xff\x00", []int64{0, 255, 1}},
		{"\xff\xff\xfe", []int64{255, 0, 255}}, {"\x01\x00\x01", []int64{1, 1, 1}}, {"abcabc", []int64{97, 98, 99, 2, 2, 2}},
	}
	for _, k := range known {
		sameNums(t, "FrontOf "+strconv.Quote(k.text), impl.FrontOf(k.text), k.want)
	}
}

func TestTextsComeBackFromTheirPlaces(t *testing.T) {
	for _, text := range someRows() {
		places := impl.FrontOf(text)
		sameNums(t, "FrontOf "+strconv.Quote(text), places, wantFront(text))
		if got := impl.FrontBack(places); got != text {
			t.Errorf("FrontBack of FrontOf %q: got %q", text, got)
		}
	}
}

func TestPlacesComeBackFromTheirTexts(t *testing.T) {
	draw := rand.New(rand.NewSource(54))
	for _, most := range []int64{0, 1, 2, 5, 254, 255} {
		for _, size := range []int{0, 1, 2, 3, 50, 255, 256, 257, 258, 399, 400} {
			l := make([]int64, size)
			for i := range l {
				l[i] = draw.Int63n(most + 1)
			}
			text := impl.FrontBack(l)
			if len(text) != size {
				t.Fatalf("FrontBack of %d numbers: got %d bytes", size, len(text))
			}
			sameNums(t, "the places of FrontBack", wantFront(text), l)
		}
		l := alike(most, 400)
		sameNums(t, "the places of one number", wantFront(impl.FrontBack(l)), l)
	}
}

func TestFrontLimits(t *testing.T) {
	if got := impl.FrontOf(strings.Repeat("b", 400)); len(got) != 400 {
		t.Errorf("FrontOf 400 bytes: got %d places", len(got))
	}
	for _, size := range []int{401, 402, 8000, 8001, 20000} {
		sameNums(t, "FrontOf "+strconv.Itoa(size), impl.FrontOf(strings.Repeat("b", size)), nil)
	}
	if got := impl.FrontBack(alike(255, 400)); len(got) != 400 {
		t.Errorf("FrontBack of 400 numbers: got %d bytes", len(got))
	}
	for _, size := range []int{401, 402, 8001} {
		for _, n := range []int64{0, 255} {
			if got := impl.FrontBack(alike(n, size)); got != "" {
				t.Errorf("FrontBack of %d numbers: got %q", size, got)
			}
		}
	}
}

// wrongNums is lists in each of which one number is out of 0 to most.
func wrongNums(most int64) [][]int64 {
	var lists [][]int64
	for _, n := range []int64{most + 1, most + 2, most + 256, -1, -2, -256, math.MinInt64, math.MaxInt64, 1 << 32, -1 << 32} {
		lists = append(lists, []int64{n}, []int64{n, 1}, []int64{1, n}, []int64{0, n, 0}, append(alike(0, 399), n), append([]int64{n}, alike(most, 399)...))
	}
	return lists
}

func TestFrontBackWrong(t *testing.T) {
	for _, l := range wrongNums(255) {
		if got := impl.FrontBack(l); got != "" {
			t.Errorf("FrontBack of %v: got %q", l, got)
		}
	}
	if got := impl.FrontBack([]int64{255, 0}); got != "\xff\xff" {
		t.Errorf("FrontBack of 255, 0: got %q", got)
	}
}

func TestZerosKnown(t *testing.T) {
	known := []struct{ list, want []int64 }{
		{nil, nil}, {[]int64{}, nil}, {alike(0, 1), []int64{0}}, {alike(0, 2), []int64{1}}, {alike(0, 3), []int64{0, 0}}, {alike(0, 4), []int64{1, 0}},
		{alike(0, 5), []int64{0, 1}}, {alike(0, 6), []int64{1, 1}}, {alike(0, 7), []int64{0, 0, 0}}, {alike(0, 8), []int64{1, 0, 0}},
		{alike(0, 14), []int64{1, 1, 1}}, {alike(0, 15), []int64{0, 0, 0, 0}}, {alike(0, 254), alike(1, 7)}, {alike(0, 255), alike(0, 8)},
		{alike(0, 400), []int64{1, 0, 0, 0, 1, 0, 0, 1}}, {[]int64{1}, []int64{2}}, {[]int64{255}, []int64{256}}, {[]int64{254, 255}, []int64{255, 256}},
		{[]int64{0, 5}, []int64{0, 6}}, {[]int64{5, 0}, []int64{6, 0}}, {[]int64{0, 0, 5, 0, 0, 0}, []int64{1, 6, 0, 0}},
		{[]int64{5, 0, 0, 6}, []int64{6, 1, 7}}, {[]int64{0, 1, 0, 1, 0}, []int64{0, 2, 0, 2, 0}}, {[]int64{0, 0, 0, 5, 0}, []int64{0, 0, 6, 0}},
	}
	for _, k := range known {
		sameNums(t, "ZerosOf", impl.ZerosOf(k.list), k.want)
		sameNums(t, "ZerosBack", impl.ZerosBack(k.want), k.list)
	}
}

func TestZerosComeBack(t *testing.T) {
	check := func(l []int64) {
		told := impl.ZerosOf(l)
		sameNums(t, "ZerosOf", told, wantZeros(l))
		sameNums(t, "ZerosBack of ZerosOf", impl.ZerosBack(told), l)
	}
	eachList(7, 2, check)
	for r := range 401 {
		check(alike(0, r))
		check(append(alike(0, r), alike(255, 400-r)...))
		check(append(alike(1, 400-r), alike(0, r)...))
		check(slices.Concat(alike(7, (400-r)/2), alike(0, r), alike(8, (400-r)/2)))
	}
	draw := rand.New(rand.NewSource(55))
	for range 300 {
		l := make([]int64, draw.Intn(401))
		for i := range l {
			if draw.Intn(4) == 0 {
				l[i] = draw.Int63n(256)
			}
		}
		check(l)
	}
}

func TestEachToldComesOfZeros(t *testing.T) {
	eachList(7, 2, func(told []int64) {
		sameNums(t, "what is told of ZerosBack", wantZeros(impl.ZerosBack(told)), told)
	})
	draw := rand.New(rand.NewSource(56))
	for range 300 {
		told := make([]int64, draw.Intn(40))
		for i := range told {
			if told[i] = draw.Int63n(2); i%6 == 5 || draw.Intn(3) == 0 {
				told[i] = draw.Int63n(255) + 2
			}
		}
		// At most 40 items of at most 64 zeros each: cut until they fit.
		for len(impl.ZerosBack(told)) == 0 && len(told) > 0 {
			told = told[1:]
		}
		sameNums(t, "what is told of ZerosBack", wantZeros(impl.ZerosBack(told)), told)
	}
}

func TestZerosWrong(t *testing.T) {
	for _, l := range wrongNums(255) {
		sameNums(t, "ZerosOf", impl.ZerosOf(l), nil)
	}
	for _, l := range wrongNums(256) {
		sameNums(t, "ZerosBack", impl.ZerosBack(l), nil)
	}
	sameNums(t, "ZerosOf", impl.ZerosOf([]int64{3, 256}), nil)
	sameNums(t, "ZerosBack", impl.ZerosBack([]int64{3, 256}), []int64{2, 255})
	sameNums(t, "ZerosBack", impl.ZerosBack([]int64{3, 257}), nil)
}

func TestZerosOfLimits(t *testing.T) {
	sameNums(t, "ZerosOf 400", impl.ZerosOf(alike(9, 400)), alike(10, 400))
	for _, size := range []int{401, 402, 1000} {
		sameNums(t, "ZerosOf too many", impl.ZerosOf(alike(9, size)), nil)
		sameNums(t, "ZerosOf too many zeros", impl.ZerosOf(alike(0, size)), nil)
	}
}

func TestZerosBackLimits(t *testing.T) {
	sameNums(t, "ZerosBack of 400", impl.ZerosBack(alike(10, 400)), alike(9, 400))
	sameNums(t, "ZerosBack of 400 with a 0", impl.ZerosBack(append(alike(10, 399), 0)), append(alike(9, 399), 0))
	for _, l := range [][]int64{alike(10, 401), alike(2, 402), alike(0, 401), alike(1, 401), append(alike(10, 399), 1), append([]int64{1}, alike(10, 399)...)} {
		sameNums(t, "ZerosBack of too many", impl.ZerosBack(l), nil)
	}
	for r := 390; r <= 600; r++ {
		for _, more := range []int{0, 1, 2, 10} {
			told := wantZeros(append(alike(0, r), alike(3, more)...))
			behind := wantZeros(append(alike(3, more), alike(0, r)...))
			if r+more <= 400 {
				sameNums(t, "ZerosBack at the limit", impl.ZerosBack(told), append(alike(0, r), alike(3, more)...))
				sameNums(t, "ZerosBack at the limit", impl.ZerosBack(behind), append(alike(3, more), alike(0, r)...))
			} else {
				sameNums(t, "ZerosBack behind the limit", impl.ZerosBack(told), nil)
				sameNums(t, "ZerosBack behind the limit", impl.ZerosBack(behind), nil)
			}
		}
	}
	for size := 9; size <= 400; size++ {
		for _, n := range []int64{0, 1} {
			l := alike(n, size)
			sameNums(t, "ZerosBack of very many", impl.ZerosBack(l), nil)
			l[size/2] = 1 - n
			sameNums(t, "ZerosBack of very many", impl.ZerosBack(l), nil)
		}
	}
}

func TestBlocksComeBackThroughAll(t *testing.T) {
	for _, block := range someBlocks() {
		x := impl.Bwt(block)
		told := impl.ZerosOf(impl.FrontOf(x.Text))
		back := impl.Unbwt(impl.FrontBack(impl.ZerosBack(told)), x.At)
		sameText(t, "a block through all", back, impl.TextOut{Text: block})
	}
}

func TestSortingLeavesItsListsAsTheyWere(t *testing.T) {
	room := make([]int64, 12, 40)
	copy(room, []int64{3, 0, 0, 1, 255, 0, 0, 0, 2, 1, 0, 0})
	was := slices.Clone(room[:40])
	for _, told := range [][]int64{impl.ZerosOf(room), impl.ZerosBack(room)} {
		for i := range told {
			told[i] = 77
		}
	}
	impl.FrontBack(room)
	sameNums(t, "a list that was handed in", room[:40], was)
	one, two := impl.OrderOf("banana"), impl.OrderOf("banana")
	one[0] = 77
	sameNums(t, "a list that is told twice", two, []int64{5, 3, 1, 0, 4, 2})
}
