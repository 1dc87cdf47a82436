package tests

import (
	"fmt"
	"math"
	"math/rand"
	"slices"
	"strconv"
	"strings"
	"testing"

	"loop.example/g00550/impl"
)

// wantCount takes block by block off the size, till none is left.
func wantCount(size int64, block int64) int64 {
	many := int64(0)
	for ; size > 0; size -= block {
		many++
	}
	return many
}

func wantListRight(l impl.List) bool {
	if l.Size < 0 || l.Size > 1000 || l.Block < 1 || l.Block > 48 || len(l.Root) != 32 {
		return false
	}
	return wantCount(l.Size, l.Block) <= 64
}

func wantPieces(file string, block int64) []string {
	var pieces []string
	for _, b := range wantCut(file, block) {
		pieces = append(pieces, wantPack(b))
	}
	return pieces
}

func wantList(file string, block int64) impl.List {
	return impl.List{Size: int64(len(file)), Block: block, Root: wantTree(wantPieces(file, block))}
}

func wantListBytes(l impl.List) string {
	return wantNums(l.Size, l.Block, int64(len(l.Root))) + l.Root
}

// wantWay puts digests together from below, by the bits of the index and of the last one (as RFC 9162, 2.1.3.2,
// does); none, if the path is not as long as that needs.
func wantWay(index int64, size int64, piece string, path []string) []string {
	way := []string{"\x00" + piece}
	at, last := index, size-1
	for _, side := range path {
		if last == 0 {
			return nil
		}
		below := wantDigest(way[len(way)-1])
		if at%2 == 1 || at == last {
			way = append(way, "\x01"+side+below)
			for at%2 == 0 && at > 0 {
				at, last = at/2, last/2
			}
		} else {
			way = append(way, "\x01"+below+side)
		}
		at, last = at/2, last/2
	}
	if last != 0 {
		return nil
	}
	return way
}

// listOfSize is a right list of so many blocks of one byte, with any root.
func listOfSize(many int64) impl.List {
	return impl.List{Size: many, Block: 1, Root: wantDigest("root")}
}

func somePath(many int) []string {
	path := make([]string, many)
	for i := range path {
		path[i] = wantDigest("side " + strconv.Itoa(i))
	}
	return path
}

// stepsIn is how many digests lead from an index to the root.
func stepsIn(index int64, size int64) int {
	return len(wantPath(someEntries(int(size)), int(index)))
}

func told(l impl.List) string {
	return fmt.Sprintf("a list of %d by %d, root %.40x of %d bytes", l.Size, l.Block, l.Root, len(l.Root))
}

func sameList(t *testing.T, what string, got impl.ListOut, want impl.ListOut) {
	t.Helper()
	if got != want {
		t.Errorf("%s: got %s with the code %d, want %s with %d", what, told(got.List), got.Code, told(want.List), want.Code)
	}
}

func sameRight(t *testing.T, l impl.List) {
	t.Helper()
	right, many := wantListRight(l), int64(0)
	if right {
		many = wantCount(l.Size, l.Block)
	}
	if got := impl.ListRight(l); got != right {
		t.Errorf("ListRight of %s: got %t", told(l), got)
	}
	if got := impl.CountOf(l); got != many {
		t.Errorf("CountOf %s: got %d, want %d", told(l), got, many)
	}
}

// wrongLists are lists that are not right, each by one thing alone where that may be.
func wrongLists() []impl.List {
	root := wantDigest("root")
	l := []impl.List{
		{}, {Root: root}, {Size: 5, Root: root}, {Size: 5, Block: 2}, {Size: -1, Block: 2, Root: root}, {Size: 1001, Block: 48, Root: root},
		{Size: 5, Block: 0, Root: root}, {Size: 5, Block: -1, Root: root}, {Size: 5, Block: 49, Root: root}, {Size: 0, Block: 0, Root: root},
		{Size: 5, Block: 2, Root: root[:31]}, {Size: 5, Block: 2, Root: root + "x"}, {Size: 0, Block: 2, Root: ""},
		{Size: 65, Block: 1, Root: root}, {Size: 129, Block: 2, Root: root}, {Size: 961, Block: 15, Root: root}, {Size: 1000, Block: 15, Root: root},
		{Size: 5, Block: 2, Root: strings.Repeat("r", 8000)}, {Size: 5, Block: 2, Root: strings.Repeat("r", 8001)},
	}
	for _, n := range []int64{math.MinInt64, math.MaxInt64, 1 << 32, -1 << 32} {
		l = append(l, impl.List{Size: n, Block: 2, Root: root}, impl.List{Size: 5, Block: n, Root: root}, impl.List{Size: n, Block: n, Root: root})
	}
	return l
}

func TestListRightOfEachSize(t *testing.T) {
	root := wantDigest("root")
	for size := int64(-2); size <= 1002; size++ {
		for block := int64(-2); block <= 50; block++ {
			sameRight(t, impl.List{Size: size, Block: block, Root: root})
		}
	}
	for _, bytes := range []int{0, 1, 31, 32, 33, 64, 8000, 8001} {
		for _, size := range []int64{-1, 0, 1, 64, 65, 1000, 1001} {
			for _, block := range []int64{0, 1, 16, 48, 49} {
				sameRight(t, impl.List{Size: size, Block: block, Root: strings.Repeat("r", bytes)})
			}
		}
	}
	for _, l := range wrongLists() {
		if wantListRight(l) {
			t.Fatalf("%s is right", told(l))
		}
		sameRight(t, l)
	}
}

func TestCountOfKnown(t *testing.T) {
	root := wantDigest("root")
	for _, k := range []struct{ size, block, many int64 }{
		{0, 1, 0}, {0, 48, 0}, {1, 1, 1}, {1, 48, 1}, {47, 48, 1}, {48, 48, 1}, {49, 48, 2}, {96, 48, 2}, {97, 48, 3},
		{5, 2, 3}, {6, 2, 3}, {7, 2, 4}, {64, 1, 64}, {65, 1, 0}, {128, 2, 64}, {127, 2, 64}, {129, 2, 0}, {126, 2, 63},
		{960, 15, 64}, {961, 15, 0}, {1000, 15, 0}, {1000, 16, 63}, {1000, 48, 21}, {1001, 48, 0}, {-1, 48, 0},
	} {
		l := impl.List{Size: k.size, Block: k.block, Root: root}
		if got := impl.CountOf(l); got != k.many {
			t.Errorf("CountOf %d by %d: got %d, want %d", k.size, k.block, got, k.many)
		}
	}
}

// cutFile is a file, and how long its blocks are.
type cutFile struct {
	file  string
	block int64
}

// listFiles are files of which there is a list.
func listFiles() []cutFile {
	var l []cutFile
	for _, many := range []int{0, 1, 2, 5, 15, 47, 48, 49, 63, 64, 65, 96, 128, 129, 500, 960, 961, 999, 1000} {
		for _, block := range []int64{1, 2, 7, 15, 16, 31, 47, 48} {
			if wantCount(int64(many), block) <= 64 {
				l = append(l, cutFile{someFile(many), block})
			}
		}
	}
	return l
}

func TestListOfFiles(t *testing.T) {
	for _, k := range listFiles() {
		what := "ListOf " + strconv.Itoa(len(k.file)) + " bytes by " + strconv.FormatInt(k.block, 10)
		sameList(t, what, impl.ListOf(k.file, k.block), impl.ListOut{List: wantList(k.file, k.block)})
	}
	for block := int64(1); block <= 48; block++ {
		sameList(t, "ListOf the empty file", impl.ListOf("", block), impl.ListOut{List: impl.List{Block: block, Root: wantDigest("")}})
	}
	sameList(t, "ListOf one piece", impl.ListOf("ab", 2), impl.ListOut{List: impl.List{Size: 2, Block: 2, Root: wantDigest("\x00" + wantSealed("\x00ab"))}})
	left, right := wantDigest("\x00"+wantSealed("\x00ab")), wantDigest("\x00"+wantSealed("\x00c"))
	sameList(t, "ListOf two pieces", impl.ListOf("abc", 2), impl.ListOut{List: impl.List{Size: 3, Block: 2, Root: wantDigest("\x01" + left + right)}})
}

func TestListOfRefused(t *testing.T) {
	form, size := impl.ListOut{Code: impl.ErrForm}, impl.ListOut{Code: impl.ErrSize}
	wrong := []int64{0, -1, -48, 49, 50, 1000, 1 << 32, 1<<32 + 1, 1 << 58, -1 << 32, math.MaxInt64, math.MinInt64}
	for _, many := range []int{0, 1, 5, 48, 64, 1000} {
		for _, block := range wrong {
			sameList(t, "a block that may not be", impl.ListOf(someFile(many), block), form)
		}
	}
	for block := int64(1); block <= 15; block++ {
		full := someFile(int(64*block) + 1)
		sameList(t, "just MaxLeaves blocks", impl.ListOf(full[:64*block], block), impl.ListOut{List: wantList(full[:64*block], block)})
		sameList(t, "one block too many", impl.ListOf(full, block), form)
		sameList(t, "MaxFile bytes in too many blocks", impl.ListOf(someFile(1000), block), form)
	}
	for _, many := range []int{1001, 1002, 3072, 7999, 8000} {
		for _, block := range []int64{1, 16, 48, 0, 49, -1} {
			sameList(t, "a file longer than MaxFile", impl.ListOf(someFile(many), block), form)
		}
	}
	for _, many := range []int{8001, 8002, 20000} {
		for _, block := range []int64{1, 48, 0, 49, -1, math.MinInt64} {
			sameList(t, "a text longer than MaxBytes", impl.ListOf(strings.Repeat("a", many), block), size)
		}
	}
}

func TestListBytesKnown(t *testing.T) {
	root := wantDigest("root")
	for _, k := range []struct {
		size, block int64
		head        string
	}{
		{0, 1, "\x00\x02\x40"}, {5, 2, "\x0a\x04\x40"}, {63, 1, "\x7e\x02\x40"}, {64, 1, "\x80\x01\x02\x40"}, {1000, 48, "\xd0\x0f\x60\x40"},
	} {
		l := impl.List{Size: k.size, Block: k.block, Root: root}
		if got := impl.ListBytes(l); got != k.head+root {
			t.Errorf("ListBytes of %d by %d: got %q", k.size, k.block, got)
		}
		sameList(t, "ListRead of known bytes", impl.ListRead(k.head+root), impl.ListOut{List: l})
	}
}

func TestListsComeBackFromTheirBytes(t *testing.T) {
	draw := rand.New(rand.NewSource(71))
	for size := int64(0); size <= 1000; size++ {
		for block := int64(1); block <= 48; block++ {
			l := impl.List{Size: size, Block: block, Root: randomText(draw, 32)}
			if !wantListRight(l) {
				continue
			}
			text := impl.ListBytes(l)
			if want := wantListBytes(l); text != want {
				t.Errorf("ListBytes of %s: got %q, want %q", told(l), text, want)
			}
			sameList(t, "ListRead of ListBytes", impl.ListRead(text), impl.ListOut{List: l})
		}
	}
	for _, k := range listFiles() {
		l := impl.ListOf(k.file, k.block)
		sameList(t, "ListRead of a file's ListBytes", impl.ListRead(impl.ListBytes(l.List)), l)
	}
}

func noList(t *testing.T, what string, text string) {
	t.Helper()
	sameList(t, what+" "+strconv.Quote(text[:min(len(text), 60)]), impl.ListRead(text), impl.ListOut{Code: impl.ErrSyntax})
}

// What would be the bytes of a list that is not right are nobody's.
func TestBytesOfWrongLists(t *testing.T) {
	for _, l := range wrongLists() {
		if got := impl.ListBytes(l); got != "" {
			t.Errorf("ListBytes of %s: got %q", told(l), got)
		}
		text := wantListBytes(l)
		if len(text) <= 8000 {
			noList(t, "a list that is not right", text)
		} else {
			sameList(t, "a list that is too long", impl.ListRead(text), impl.ListOut{Code: impl.ErrSize})
		}
	}
	root := wantDigest("root")
	for size := int64(-2); size <= 1002; size++ {
		for _, block := range []int64{-1, 0, 1, 2, 15, 16, 48, 49} {
			l := impl.List{Size: size, Block: block, Root: root}
			if !wantListRight(l) {
				noList(t, "numbers out of their bounds", wantListBytes(l))
			}
		}
	}
	for bytes := range 65 {
		if bytes != 32 {
			noList(t, "a root of another length", wantListBytes(impl.List{Size: 5, Block: 2, Root: strings.Repeat("r", bytes)}))
		}
	}
	noList(t, "a root whose length is below 0", wantNums(5, 2, -32)+root)
	noList(t, "a root whose length may not be", wantNums(5, 2, 8001)+root)
	noList(t, "a root whose length may not be", wantNums(5, 2, math.MaxInt64)+root)
}

func rightLists() []impl.List {
	root := wantDigest("root")
	return []impl.List{
		{Size: 0, Block: 1, Root: root}, {Size: 0, Block: 48, Root: wantDigest("")}, {Size: 5, Block: 2, Root: root}, {Size: 64, Block: 1, Root: root},
		{Size: 960, Block: 15, Root: root}, {Size: 1000, Block: 16, Root: root}, {Size: 1000, Block: 48, Root: strings.Repeat("\x00", 32)},
		{Size: 32, Block: 32, Root: strings.Repeat("\xff", 32)}, {Size: 63, Block: 48, Root: strings.Repeat("\x80", 32)},
	}
}

func TestListReadOfOtherTexts(t *testing.T) {
	noList(t, "the empty text", "")
	for _, l := range rightLists() {
		text := wantListBytes(l)
		for end := range len(text) {
			noList(t, "an end too early", text[:end])
			noList(t, "a beginning too late", text[end+1:])
		}
		for _, more := range []string{"\x00", "\x01", "\xff", "x", l.Root, text, strings.Repeat("\x00", 7000)} {
			noList(t, "bytes behind the last one", text+more)
			noList(t, "bytes ahead of the first one", more+text)
		}
	}
}

// Each number in its place, written with a byte more than it needs, or as none.
func TestListReadOfLongerNumbers(t *testing.T) {
	for _, l := range rightLists() {
		nums := []int64{l.Size, l.Block, 32}
		for i, n := range nums {
			b := []byte(wantNums(n))
			b[len(b)-1] |= 128
			ahead, behind := wantNums(nums[:i]...), wantNums(nums[i+1:]...)+l.Root
			noList(t, "a number that is written longer", ahead+string(b)+"\x00"+behind)
			noList(t, "a number that is written far longer", ahead+string(b)+"\x80\x80\x00"+behind)
			noList(t, "a number of no 64 bits", ahead+strings.Repeat("\xff", 9)+"\x02"+behind)
			noList(t, "a number that does not end", ahead+"\x80")
			noList(t, "a number that is not there", ahead+behind)
			noList(t, "a number that is there twice", ahead+wantNums(n, n)+behind)
		}
		noList(t, "a root ahead", wantNums(32)+l.Root+wantNums(l.Size, l.Block))
	}
}

// All that is one byte away from a list's bytes is judged by the way there.
func TestListReadOfNeighbours(t *testing.T) {
	judge := func(text string) {
		t.Helper()
		got := impl.ListRead(text)
		if got.Code == impl.OK && wantListRight(got.List) && wantListBytes(got.List) == text {
			return
		}
		sameList(t, "a neighbour "+strconv.Quote(text), got, impl.ListOut{Code: impl.ErrSyntax})
	}
	for _, l := range rightLists() {
		text := wantListBytes(l)
		for i := range len(text) {
			judge(text[:i] + text[i+1:])
			for b := range 256 {
				one := string([]byte{byte(b)})
				judge(text[:i] + one + text[i+1:])
				judge(text[:i] + one + text[i:])
			}
		}
		// In the root each byte may be another one.
		other := impl.List{Size: l.Size, Block: l.Block, Root: turned(l.Root, 7)}
		sameList(t, "another root", impl.ListRead(wantListBytes(other)), impl.ListOut{List: other})
	}
}

func TestListReadOfTooLongTexts(t *testing.T) {
	for _, l := range rightLists() {
		text := wantListBytes(l)
		noList(t, "MaxBytes bytes", text+strings.Repeat("x", 8000-len(text)))
		for _, more := range []int{1, 2, 12000} {
			long := text + strings.Repeat("x", 8000-len(text)+more)
			sameList(t, "more than MaxBytes bytes", impl.ListRead(long), impl.ListOut{Code: impl.ErrSize})
		}
	}
	sameList(t, "no list, and too long", impl.ListRead(strings.Repeat("\x80", 8001)), impl.ListOut{Code: impl.ErrSize})
}

// Promise 9.
func TestPiecesFitAndMakeTheFile(t *testing.T) {
	for _, k := range listFiles() {
		l := impl.ListOf(k.file, k.block).List
		pieces := impl.PiecesOf(k.file, k.block)
		if got := impl.CountOf(l); got != int64(len(pieces)) {
			t.Fatalf("CountOf the list of %d pieces: got %d", len(pieces), got)
		}
		for i, piece := range pieces {
			path := impl.PathOf(pieces, int64(i))
			sameTexts(t, "a piece's path", path, wantPath(wantPieces(k.file, k.block), i))
			if !impl.Fits(l, int64(i), piece, path) {
				t.Errorf("piece %d of %d bytes by %d does not fit", i, l.Size, l.Block)
			}
		}
		for many := range len(pieces) + 1 {
			want := k.file[:min(many*int(k.block), len(k.file))]
			if got := impl.FileOf(l, pieces[:many]); got != want {
				t.Errorf("FileOf the first %d pieces of %d bytes by %d: got %q, want %q", many, l.Size, l.Block, got, want)
			}
		}
	}
}

// fitting is a list with one of its pieces, and how that fits.
type fitting struct {
	list  impl.List
	index int64
	piece string
	path  []string
}

func (f fitting) fits() bool {
	return impl.Fits(f.list, f.index, f.piece, f.path)
}

// someFittings are pieces that fit lists of few pieces and many, no two of one list alike.
func someFittings() []fitting {
	var all []fitting
	draw := rand.New(rand.NewSource(74))
	for _, many := range []int{1, 2, 3, 4, 5, 6, 7, 8, 9, 15, 16, 17, 31, 33, 48, 63, 64} {
		file := randomText(draw, many*3-many%3)
		l, pieces := wantList(file, 3), wantPieces(file, 3)
		for index := range pieces {
			if index < 3 || index%7 == 0 || index+3 > len(pieces) {
				all = append(all, fitting{l, int64(index), pieces[index], wantPath(pieces, index)})
			}
		}
	}
	return all
}

func TestFitsOtherwise(t *testing.T) {
	deny := func(what string, f fitting) {
		t.Helper()
		if f.fits() {
			t.Errorf("%s: index %d of %d fits", what, f.index, wantCount(f.list.Size, f.list.Block))
		}
	}
	for _, f := range someFittings() {
		if !f.fits() {
			t.Fatalf("index %d of %d does not fit", f.index, f.list.Size)
		}
		many, leaf := wantCount(f.list.Size, f.list.Block), wantDigest("\x00"+f.piece)
		for _, index := range []int64{-1, -f.index - 1, f.index - 1, f.index + 1, many, many + 1, f.index + many, f.index - many, f.index ^ 1<<32, math.MaxInt64, math.MinInt64} {
			other := f
			other.index = index
			deny("another index", other)
		}
		for _, piece := range []string{"", f.piece + "x", f.piece[1:], turned(f.piece, 0), turned(f.piece, len(f.piece)-1), "\x00" + f.piece, leaf, "bad"} {
			other := f
			other.piece = piece
			deny("another piece", other)
		}
		for _, root := range []string{"", leaf + "x", turned(f.list.Root, 0), turned(f.list.Root, 31), f.list.Root[:31], f.list.Root + "x"} {
			other := f
			other.list.Root = root
			deny("another root", other)
		}
		paths := [][]string{append(slices.Clone(f.path), f.list.Root), append([]string{leaf}, f.path...), append(slices.Clone(f.path), "")}
		for step := range f.path {
			paths = append(paths, f.path[:step], f.path[step+1:], slices.Delete(slices.Clone(f.path), step, step+1),
				slices.Insert(slices.Clone(f.path), step, leaf), with(f.path, step, turned(f.path[step], step%32)), with(f.path, step, ""),
				with(f.path, step, f.path[step][:31]), with(f.path, step, f.path[step]+"x"))
		}
		for _, path := range paths {
			other := f
			other.path = path
			deny("another path", other)
		}
	}
}

// The list says how many there are, and so does the way that is gone.
func TestFitsInListsOfOtherSizes(t *testing.T) {
	for _, f := range someFittings() {
		many := wantCount(f.list.Size, f.list.Block)
		for size := int64(-1); size <= 70; size++ {
			other := f
			other.list.Size, other.list.Block = size, 1
			want := false
			if wantListRight(other.list) && f.index < size {
				way := wantWay(f.index, size, f.piece, f.path)
				want = way != nil && wantDigest(way[len(way)-1]) == f.list.Root
			}
			if size == many && !want {
				t.Fatalf("index %d of %d does not fit", f.index, size)
			}
			if got := other.fits(); got != want {
				t.Errorf("index %d of %d in a list of %d: got %t", f.index, many, size, got)
			}
		}
	}
}

func TestFitsInWrongLists(t *testing.T) {
	piece := wantPack("ab")
	leaf := wantDigest("\x00" + piece)
	right := impl.List{Size: 2, Block: 2, Root: leaf}
	if !impl.Fits(right, 0, piece, nil) || !impl.Fits(right, 0, piece, []string{}) {
		t.Error("one piece alone does not fit")
	}
	for _, n := range []impl.List{{Size: -1, Block: 2}, {Size: 1, Block: 0}, {Size: 1, Block: -1}, {Size: 1, Block: 49}, {Size: 1, Block: math.MaxInt64}, {Size: 1, Block: math.MinInt64}, {Size: math.MinInt64, Block: math.MinInt64}} {
		n.Root = leaf
		if impl.Fits(n, 0, piece, nil) {
			t.Errorf("it fits a list of %d by %d", n.Size, n.Block)
		}
	}
	// Of 65 entries the last one has one step alone.
	side := wantDigest("side")
	great := impl.List{Size: 65, Block: 1, Root: wantDigest("\x01" + side + leaf)}
	if impl.Fits(great, 64, piece, []string{side}) {
		t.Error("it fits a list of more than MaxLeaves blocks")
	}
	great.Size, great.Block = 1040, 16
	if impl.Fits(great, 64, piece, []string{side}) {
		t.Error("it fits a list of more than MaxFile bytes")
	}
	for _, l := range wrongLists() {
		for _, index := range []int64{0, 1, -1} {
			for _, path := range [][]string{nil, {side}, {side, side}} {
				if impl.Fits(l, index, piece, path) {
					t.Errorf("it fits %s", told(l))
				}
			}
		}
	}
}

func TestFitsTheEmptyFile(t *testing.T) {
	for _, root := range []string{wantDigest(""), wantDigest("\x00"), wantDigest("\x00" + wantPack(""))} {
		for _, index := range []int64{0, -1, 1, math.MaxInt64, math.MinInt64} {
			for _, piece := range []string{"", wantPack("")} {
				if impl.Fits(impl.List{Block: 2, Root: root}, index, piece, nil) {
					t.Errorf("%q fits the empty file at %d", piece, index)
				}
			}
		}
	}
}

// What a piece is, its list does not ask: only how long it is, and its digest.
func TestFitsAtTheLimits(t *testing.T) {
	for _, bytes := range []int{0, 1, 53, 99, 100, 101, 102, 8000, 8001} {
		piece := strings.Repeat("p", bytes)
		leaf := wantDigest("\x00" + piece)
		want := bytes <= 100
		if got := impl.Fits(impl.List{Size: 1, Block: 1, Root: leaf}, 0, piece, nil); got != want {
			t.Errorf("a piece of %d bytes alone: got %t", bytes, got)
		}
		side := wantDigest("side")
		if got := impl.Fits(impl.List{Size: 2, Block: 1, Root: wantDigest("\x01" + side + leaf)}, 1, piece, []string{side}); got != want {
			t.Errorf("a piece of %d bytes, one of two: got %t", bytes, got)
		}
	}
	piece, list := "p", listOfSize(64)
	way := wantWay(63, 64, piece, somePath(6))
	list.Root = wantDigest(way[6])
	if !impl.Fits(list, 63, piece, somePath(6)) {
		t.Error("the last one of MaxLeaves does not fit")
	}
	for _, many := range []int{0, 1, 5, 7, 63, 64, 400, 401} {
		if impl.Fits(list, 63, piece, somePath(many)) {
			t.Errorf("a path of %d fits", many)
		}
	}
}

func sameFile(t *testing.T, what string, l impl.List, pieces []string, want string) {
	t.Helper()
	if got := impl.FileOf(l, pieces); got != want {
		t.Errorf("%s: got %q, want %q", what, got, want)
	}
}

func TestFileOfWrongPieces(t *testing.T) {
	for _, k := range listFiles() {
		l, pieces := wantList(k.file, k.block), wantPieces(k.file, k.block)
		sameFile(t, "no piece", l, nil, "")
		sameFile(t, "no piece", l, []string{}, "")
		sameFile(t, "a piece more", l, append(slices.Clone(pieces), wantPack("x")), k.file)
		sameFile(t, "a wrong piece more", l, append(slices.Clone(pieces), "x"), k.file)
		sameFile(t, "all pieces twice", l, slices.Concat(pieces, pieces), k.file)
		for i := range pieces {
			if i > 1 && i%13 != 0 && i+2 < len(pieces) {
				continue
			}
			ahead := k.file[:i*int(k.block)]
			size := min(int(k.block), len(k.file)-len(ahead))
			for _, wrong := range []string{"", "x", "abcd", pieces[i] + "x", pieces[i][1:], turned(pieces[i], len(pieces[i])/2), "\x00\x00\x00\x00", wantSealed("\x02x"), strings.Repeat("x", 8001)} {
				sameFile(t, "a wrong piece in the midst", l, with(pieces, i, wrong), ahead)
			}
			for _, other := range []int{0, 1, size - 1, size + 1, 48} {
				if other != size && other >= 0 && other <= 48 {
					sameFile(t, "a block of another length", l, with(pieces, i, wantPack(strings.Repeat("y", other))), ahead)
				}
			}
			// A piece that does not fit by its digest is still one, if its block is as long as it has to be.
			another := strings.Repeat("z", size)
			sameFile(t, "another block", l, with(pieces, i, wantPack(another)), ahead+another+k.file[len(ahead)+size:])
		}
	}
}

func TestFileOfKnown(t *testing.T) {
	root := wantDigest("root")
	l := impl.List{Size: 5, Block: 2, Root: root}
	ab, cd, e, ef, none := wantPack("ab"), wantPack("cd"), wantPack("e"), wantPack("ef"), wantPack("")
	for _, k := range []struct {
		pieces []string
		want   string
	}{
		{nil, ""}, {[]string{ab}, "ab"}, {[]string{ab, cd}, "abcd"}, {[]string{ab, cd, e}, "abcde"}, {[]string{cd, ab, e}, "cdabe"},
		{[]string{ab, cd, ef}, "abcd"}, {[]string{ab, e, cd}, "ab"}, {[]string{e, ab, cd}, ""}, {[]string{ab, cd, none}, "abcd"},
		{[]string{none, ab, cd, e}, ""}, {[]string{ab, "", e}, "ab"}, {[]string{"", cd, e}, ""}, {[]string{ab, cd, "", e}, "abcd"},
		{[]string{ab, cd, e, ab}, "abcde"}, {[]string{ab, cd, e, none, ""}, "abcde"}, {[]string{ab, ab, e}, "ababe"},
	} {
		sameFile(t, "FileOf a list of 5 by 2", l, k.pieces, k.want)
	}
	l.Size = 6
	sameFile(t, "a last block that is full", l, []string{ab, cd, ef}, "abcdef")
	sameFile(t, "a last block that is not", l, []string{ab, cd, e}, "abcd")
	l.Size = 0
	sameFile(t, "the empty file", l, []string{ab, cd}, "")
	sameFile(t, "the empty file", l, []string{none}, "")
}

func TestFileOfWrongLists(t *testing.T) {
	for _, l := range wrongLists() {
		for _, pieces := range [][]string{nil, {wantPack("ab"), wantPack("cd"), wantPack("e")}, {wantPack("a"), wantPack("b")}, {wantPack("")}, slices.Repeat([]string{wantPack("a")}, 65)} {
			sameFile(t, "a list that is not right", l, pieces, "")
		}
	}
}

func TestFileOfManyPieces(t *testing.T) {
	one := wantPack("a")
	for _, many := range []int{63, 64, 65, 399, 400} {
		sameFile(t, strconv.Itoa(many)+" pieces", listOfSize(64), slices.Repeat([]string{one}, many), strings.Repeat("a", min(many, 64)))
	}
	for _, many := range []int{401, 402, 1000} {
		sameFile(t, strconv.Itoa(many)+" pieces", listOfSize(64), slices.Repeat([]string{one}, many), "")
		sameFile(t, strconv.Itoa(many)+" pieces", listOfSize(2), slices.Repeat([]string{one}, many), "")
	}
}

func TestWayKnown(t *testing.T) {
	leaf := func(piece string) string { return wantDigest("\x00" + piece) }
	path := somePath(2)
	sameTexts(t, "WayOf one alone", impl.WayOf(0, 1, "p", nil), []string{"\x00p"})
	sameTexts(t, "WayOf the empty piece", impl.WayOf(0, 1, "", []string{}), []string{"\x00"})
	sameTexts(t, "WayOf the first of two", impl.WayOf(0, 2, "p", path[:1]), []string{"\x00p", "\x01" + leaf("p") + path[0]})
	sameTexts(t, "WayOf the last of two", impl.WayOf(1, 2, "p", path[:1]), []string{"\x00p", "\x01" + path[0] + leaf("p")})
	one := "\x01" + path[0] + leaf("p")
	sameTexts(t, "WayOf the second of three", impl.WayOf(1, 3, "p", path), []string{"\x00p", one, "\x01" + wantDigest(one) + path[1]})
	sameTexts(t, "WayOf the last of three", impl.WayOf(2, 3, "p", path[:1]), []string{"\x00p", one})
	sameTexts(t, "WayOf the last of four", impl.WayOf(3, 4, "p", path), []string{"\x00p", one, "\x01" + path[1] + wantDigest(one)})
}

// At each size the last text leads to the tree of all, and each one is in the next.
func TestWayOfEachSize(t *testing.T) {
	draw := rand.New(rand.NewSource(72))
	for size := 1; size <= 64; size++ {
		entries := randomEntries(draw, size)
		root := wantTree(entries)
		for index := range size {
			path := wantPath(entries, index)
			way := impl.WayOf(int64(index), int64(size), entries[index], path)
			sameTexts(t, "WayOf "+strconv.Itoa(index)+" of "+strconv.Itoa(size), way, wantWay(int64(index), int64(size), entries[index], path))
			if len(way) != len(path)+1 {
				t.Fatalf("the way of %d of %d has %d texts", index, size, len(way))
			}
			sameDigest(t, "the last text of "+strconv.Itoa(index)+" of "+strconv.Itoa(size), wantDigest(way[len(way)-1]), root)
			for i, text := range way[:len(way)-1] {
				if below := wantDigest(text); way[i+1] != "\x01"+below+path[i] && way[i+1] != "\x01"+path[i]+below {
					t.Errorf("text %d of %d of %d is not put together with its side", i, index, size)
				}
			}
		}
	}
}

func noWay(t *testing.T, what string, index int64, size int64, piece string, path []string) {
	t.Helper()
	if got := impl.WayOf(index, size, piece, path); len(got) != 0 {
		t.Errorf("%s: WayOf %d of %d, %d bytes, path of %d: got %d texts", what, index, size, len(piece), len(path), len(got))
	}
}

func TestWayOfWrongPaths(t *testing.T) {
	for size := int64(1); size <= 64; size++ {
		for index := range size {
			need := stepsIn(index, size)
			for many := range 10 {
				if many != need {
					noWay(t, "a path of another length", index, size, "p", somePath(many))
				}
			}
			for at := range need {
				for _, wrong := range []string{"", "d", somePath(1)[0][:31], somePath(1)[0] + "x", strings.Repeat("d", 8001)} {
					noWay(t, "a digest of another length", index, size, "p", with(somePath(need), at, wrong))
				}
			}
			for _, many := range []int{62, 63, 64, 65, 400, 401} {
				noWay(t, "a path far too long", index, size, "p", somePath(many))
			}
		}
	}
	noWay(t, "a path with an empty digest more", 0, 1, "p", []string{""})
}

func TestWayOfWrongPlaces(t *testing.T) {
	for size := int64(1); size <= 64; size++ {
		for _, index := range []int64{-1, -size, size, size + 1, 1 << 32, math.MaxInt64, math.MinInt64} {
			for many := range 8 {
				noWay(t, "an index that is none", index, size, "p", somePath(many))
			}
		}
	}
	for _, size := range []int64{0, -1, -64, math.MinInt64, 65, 66, 128, 1000, 1 << 32, 1 << 62, math.MaxInt64} {
		for _, index := range []int64{0, 1, -1, 64, size - 1, size, size + 1} {
			for _, many := range []int{0, 1, 2, 6, 7, 8, 10, 32, 62, 63} {
				noWay(t, "a size that may not be", index, size, "p", somePath(many))
			}
		}
	}
	if got := len(impl.WayOf(63, 64, "p", somePath(6))); got != 7 {
		t.Errorf("the last of MaxLeaves has %d texts", got)
	}
}

func TestWayOfPiecesAtTheLimit(t *testing.T) {
	for _, bytes := range []int{0, 1, 99, 100} {
		piece := strings.Repeat("p", bytes)
		sameTexts(t, "a piece of "+strconv.Itoa(bytes), impl.WayOf(0, 1, piece, nil), []string{"\x00" + piece})
		sameTexts(t, "a piece of "+strconv.Itoa(bytes), impl.WayOf(2, 5, piece, somePath(3)), wantWay(2, 5, piece, somePath(3)))
	}
	for _, bytes := range []int{101, 102, 7999, 8000, 8001, 20000} {
		noWay(t, "a piece too long", 0, 1, strings.Repeat("p", bytes), nil)
		noWay(t, "a piece too long", 2, 5, strings.Repeat("p", bytes), somePath(3))
	}
}

// leadsTo tells whether a piece has a way whose last text has the list's root as its digest.
func leadsTo(f fitting) bool {
	way := impl.WayOf(f.index, impl.CountOf(f.list), f.piece, f.path)
	return len(way) > 0 && wantDigest(way[len(way)-1]) == f.list.Root
}

// turnedFittings are fittings in which something may be another thing.
func turnedFittings(f fitting) []fitting {
	all := []fitting{f}
	put := func(turn func(o *fitting)) {
		o := f
		o.path = slices.Clone(f.path)
		turn(&o)
		all = append(all, o)
	}
	for _, by := range []int64{-65, -64, -2, -1, 1, 2, 64} {
		put(func(o *fitting) { o.index += by })
		put(func(o *fitting) { o.list.Size += by })
		put(func(o *fitting) { o.list.Block += by })
	}
	put(func(o *fitting) { o.list.Root = turned(o.list.Root, 5) })
	put(func(o *fitting) { o.list.Root = o.list.Root[:31] })
	put(func(o *fitting) { o.piece += "x" })
	put(func(o *fitting) { o.piece = turned(o.piece, 1) })
	put(func(o *fitting) { o.piece = strings.Repeat("p", 101) })
	put(func(o *fitting) { o.path = append(o.path, o.list.Root) })
	put(func(o *fitting) { o.path = append(o.path, "") })
	put(func(o *fitting) { slices.Reverse(o.path) })
	for at := range f.path {
		put(func(o *fitting) { o.path[at] = turned(o.path[at], at%32) })
		put(func(o *fitting) { o.path[at] = o.path[at][1:] })
		put(func(o *fitting) { o.path = slices.Delete(o.path, at, at+1) })
	}
	return all
}

// Promise 10, of pieces of files and of what is like them.
func TestFitsJustIfTheWayLeadsToTheRoot(t *testing.T) {
	fit, not := 0, 0
	for _, k := range someFittings() {
		for _, f := range turnedFittings(k) {
			leads := leadsTo(f)
			if got := f.fits(); got != leads {
				t.Errorf("index %d of %d: fits %t, but leads to the root %t", f.index, f.list.Size, got, leads)
			}
			if leads {
				fit++
			} else {
				not++
			}
		}
	}
	if fit < 100 || not < 1000 {
		t.Errorf("only %d fit, and %d do not", fit, not)
	}
}

// Promise 10, of any piece, path and place: a list whose root is where the way leads is one that it fits, and no other.
func TestFitsWhereItsWayLeads(t *testing.T) {
	draw := rand.New(rand.NewSource(73))
	for size := int64(1); size <= 64; size++ {
		for index := range size {
			var path []string
			for range stepsIn(index, size) {
				path = append(path, randomText(draw, 32))
			}
			piece := randomText(draw, draw.Intn(101))
			way := impl.WayOf(index, size, piece, path)
			if len(way) == 0 {
				t.Fatalf("there is no way from %d of %d", index, size)
			}
			l := impl.List{Size: size * 3, Block: 3, Root: wantDigest(way[len(way)-1])}
			if !impl.Fits(l, index, piece, path) {
				t.Errorf("index %d of %d does not fit where its way leads", index, size)
			}
			for i, text := range way {
				l.Root = turned(wantDigest(text), i)
				if impl.Fits(l, index, piece, path) {
					t.Errorf("index %d of %d fits elsewhere", index, size)
				}
				l.Root = wantDigest(text)
				if last := i == len(way)-1; impl.Fits(l, index, piece, path) != last {
					t.Errorf("index %d of %d, root at text %d of %d: fits %t", index, size, i, len(way), !last)
				}
			}
		}
	}
}

// What is handed in stays as it is, with what stands behind its end too.
func TestListCallsChangeNothing(t *testing.T) {
	file := someFile(30)
	l, pieces := wantList(file, 2), wantPieces(file, 2)
	path := append(wantPath(pieces, 5), "behind")
	list := append(slices.Clone(pieces), "behind")
	wasPath, wasList := slices.Clone(path), slices.Clone(list)
	short := path[:len(path)-1]
	one, two := impl.WayOf(5, 15, pieces[5], short), impl.WayOf(5, 15, pieces[5], short)
	impl.Fits(l, 5, pieces[5], short)
	impl.FileOf(l, list[:len(pieces)])
	sameTexts(t, "the path that was handed in", path, wasPath)
	sameTexts(t, "the pieces that were handed in", list, wasList)
	was := slices.Clone(two)
	for i := range one {
		one[i] = "turned"
	}
	sameTexts(t, "another way", two, was)
	sameTexts(t, "the path beside a way that is changed", path, wasPath)
}
