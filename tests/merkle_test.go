package tests

import (
	"math"
	"math/bits"
	"math/rand"
	"slices"
	"strconv"
	"strings"
	"testing"

	"loop.example/g00550/impl"
)

// wantTree puts digests together level by level from below, an odd one at the end moving up as it is.
func wantTree(entries []string) string {
	if len(entries) == 0 {
		return wantDigest("")
	}
	var level []string
	for _, e := range entries {
		level = append(level, wantDigest("\x00"+e))
	}
	for len(level) > 1 {
		var next []string
		for i := 0; i+1 < len(level); i += 2 {
			next = append(next, wantDigest("\x01"+level[i]+level[i+1]))
		}
		if len(level)%2 == 1 {
			next = append(next, level[len(level)-1])
		}
		level = next
	}
	return level[0]
}

// wantPath takes the neighbour on each level from below; one that has none moves up without a step.
func wantPath(entries []string, index int) []string {
	var level, path []string
	for _, e := range entries {
		level = append(level, wantDigest("\x00"+e))
	}
	for len(level) > 1 {
		if beside := index ^ 1; beside < len(level) {
			path = append(path, level[beside])
		}
		var next []string
		for i := 0; i < len(level); i += 2 {
			if i+1 < len(level) {
				next = append(next, wantDigest("\x01"+level[i]+level[i+1]))
			} else {
				next = append(next, level[i])
			}
		}
		level, index = next, index/2
	}
	return path
}

// wantConsistent walks a proof from below, by the bits of both sizes, as RFC 9162 (2.1.4.2) does.
func wantConsistent(old, size int64, proof []string, was, root string) bool {
	if old == size {
		return len(proof) == 0 && was == root
	}
	if old&(old-1) == 0 {
		proof = append([]string{was}, proof...)
	}
	if len(proof) == 0 {
		return false
	}
	fn, sn := old-1, size-1
	for fn&1 == 1 {
		fn, sn = fn>>1, sn>>1
	}
	fr, sr := proof[0], proof[0]
	for _, c := range proof[1:] {
		if sn == 0 {
			return false
		}
		if fn&1 == 1 || fn == sn {
			fr, sr = wantDigest("\x01"+c+fr), wantDigest("\x01"+c+sr)
			for fn&1 == 0 && fn != 0 {
				fn, sn = fn>>1, sn>>1
			}
		} else {
			sr = wantDigest("\x01" + sr + c)
		}
		fn, sn = fn>>1, sn>>1
	}
	return fr == was && sr == root && sn == 0
}

func someEntries(many int) []string {
	l := make([]string, many)
	for i := range l {
		l[i] = "entry " + strconv.Itoa(i)
	}
	return l
}

func randomEntries(draw *rand.Rand, many int) []string {
	l := make([]string, many)
	for i := range l {
		l[i] = randomText(draw, draw.Intn(impl.MaxEntry+1))
	}
	return l
}

func sameTexts(t *testing.T, what string, got []string, want []string) {
	t.Helper()
	if !slices.Equal(got, want) {
		t.Errorf("%s: got %x, want %x", what, got, want)
	}
}

// turned has one byte of a text changed.
func turned(text string, at int) string {
	b := []byte(text)
	b[at] ^= 1 << (at % 8)
	return string(b)
}

func with(list []string, at int, text string) []string {
	l := slices.Clone(list)
	l[at] = text
	return l
}

func TestTreeLimits(t *testing.T) {
	if impl.MaxLeaves != 64 || impl.MaxEntry != 100 {
		t.Errorf("MaxLeaves is %d, MaxEntry %d", impl.MaxLeaves, impl.MaxEntry)
	}
}

func TestLeafHash(t *testing.T) {
	for _, size := range []int{0, 1, 32, 54, 55, 63, 64, 99, 100} {
		text := strings.Repeat("e", size)
		sameDigest(t, "LeafHash", impl.LeafHash(text), wantDigest("\x00"+text))
	}
	for _, size := range []int{101, 102, 8000, 8001} {
		sameDigest(t, "LeafHash of a text too long", impl.LeafHash(strings.Repeat("e", size)), "")
	}
}

func TestNodeHash(t *testing.T) {
	a, b := wantDigest("a"), wantDigest("b")
	sameDigest(t, "NodeHash", impl.NodeHash(a, b), wantDigest("\x01"+a+b))
	sameDigest(t, "NodeHash turned round", impl.NodeHash(b, a), wantDigest("\x01"+b+a))
	for _, size := range []int{0, 1, 31, 33, 64, 8000, 8001} {
		wrong := strings.Repeat("d", size)
		sameDigest(t, "NodeHash, left wrong", impl.NodeHash(wrong, b), "")
		sameDigest(t, "NodeHash, right wrong", impl.NodeHash(a, wrong), "")
		sameDigest(t, "NodeHash, both wrong", impl.NodeHash(wrong, wrong), "")
	}
	sameDigest(t, "NodeHash of 64 bytes cut wrongly", impl.NodeHash(a[:31], b+"x"), "")
}

func TestTreeKnown(t *testing.T) {
	entries := []string{"", "00", "10", "2021", "3031", "40414243", "5051525354555657", "606162636465666768696a6b6c6d6e6f"}
	roots := []string{
		"6e340b9cffb37a989ca544e6bb780a2c78901d3fb33738768511a30617afa01d",
		"fac54203e7cc696cf0dfcb42c92a1d9dbaf70ad9e621f4bd8d98662f00e3c125",
		"aeb6bcfe274b70a14fb067a5e5578264db0fa9b51af5e0ba159158f329e06e77",
		"d37ee418976dd95753c1c73862b9398fa2a2cf9b4ff0fdfe8b30cd95209614b7",
		"4e3bbb1f7b478dcfe71fb631631519a3bca12c9aefca1612bfce4c13a86264d4",
		"76e67dadbcdf1e10e1b74ddc608abd2f98dfb16fbce75277b5232a127f2087ef",
		"ddb89be403809e325750d3d263cd78929c2942b7942a34b77e122c9594a74c8c",
		"5dc9da79a70659a9ad559cb701ded9a2ab9d823aad2f4960cfe370eff4604328",
	}
	for i := range entries {
		entries[i] = unhex(t, entries[i])
		sameDigest(t, "TreeHash of known entries", impl.TreeHash(entries[:i+1]), unhex(t, roots[i]))
	}
}

func TestTreeOfEachSize(t *testing.T) {
	draw := rand.New(rand.NewSource(7))
	for many := range impl.MaxLeaves + 1 {
		entries := randomEntries(draw, many)
		sameDigest(t, "TreeHash of "+strconv.Itoa(many), impl.TreeHash(entries), wantTree(entries))
	}
	sameDigest(t, "TreeHash of an empty list", impl.TreeHash([]string{}), wantDigest(""))
	sameDigest(t, "TreeHash of the empty entry", impl.TreeHash([]string{""}), wantDigest("\x00"))
}

// wrongEntries are lists that no call takes as entries.
func wrongEntries() [][]string {
	long := strings.Repeat("e", impl.MaxEntry+1)
	return [][]string{
		someEntries(impl.MaxLeaves + 1), someEntries(impl.MaxList), someEntries(impl.MaxList + 1),
		{long}, {"a", long}, {long, "a", "b"}, with(someEntries(64), 63, long),
		{strings.Repeat("e", impl.MaxBytes+1)},
	}
}

func TestWrongEntries(t *testing.T) {
	for _, entries := range wrongEntries() {
		sameDigest(t, "TreeHash", impl.TreeHash(entries), "")
		for _, at := range []int64{0, 1, 2, int64(len(entries)) - 1, int64(len(entries))} {
			sameTexts(t, "PathOf", impl.PathOf(entries, at), nil)
			sameTexts(t, "ProofOf", impl.ProofOf(entries, at), nil)
		}
	}
	full := strings.Repeat("e", impl.MaxEntry)
	entries := []string{full, "", full}
	sameDigest(t, "TreeHash of full entries", impl.TreeHash(entries), wantTree(entries))
}

// Promise 4, at every index of 1 to 64 entries.
func TestEachEntryIsIncluded(t *testing.T) {
	draw := rand.New(rand.NewSource(8))
	for many := 1; many <= impl.MaxLeaves; many++ {
		entries := randomEntries(draw, many)
		root := impl.TreeHash(entries)
		for i, e := range entries {
			path := impl.PathOf(entries, int64(i))
			sameTexts(t, "PathOf", path, wantPath(entries, i))
			if !impl.Included(impl.LeafHash(e), int64(i), int64(many), path, root) {
				t.Errorf("entry %d of %d isn't included", i, many)
			}
		}
	}
}

func TestIncludedOtherwise(t *testing.T) {
	for many := 1; many <= impl.MaxLeaves; many++ {
		entries := someEntries(many)
		root, size := impl.TreeHash(entries), int64(many)
		for i := range size {
			leaf, path := impl.LeafHash(entries[i]), impl.PathOf(entries, i)
			deny := func(what string, leaf string, index int64, size int64, path []string, root string) {
				t.Helper()
				if impl.Included(leaf, index, size, path, root) {
					t.Errorf("%s: entry %d of %d is included", what, i, many)
				}
			}
			for other := int64(-1); other <= size; other++ {
				if other != i {
					deny("another index", leaf, other, size, path, root)
				}
			}
			at := int(i) % 32
			deny("a leaf turned", turned(leaf, at), i, size, path, root)
			deny("a root turned", leaf, i, size, path, turned(root, at))
			deny("the root behind", leaf, i, size, append(slices.Clone(path), root), root)
			deny("the leaf ahead", leaf, i, size, append([]string{leaf}, path...), root)
			for step := range path {
				deny("a step turned", leaf, i, size, with(path, step, turned(path[step], at)), root)
				deny("a step more within", leaf, i, size, slices.Insert(slices.Clone(path), step+1, leaf), root)
				deny("a step less", leaf, i, size, slices.Delete(slices.Clone(path), step, step+1), root)
				deny("a step short", leaf, i, size, with(path, step, path[step][:31]), root)
				deny("a step long", leaf, i, size, with(path, step, path[step]+"x"), root)
				deny("a step empty", leaf, i, size, with(path, step, ""), root)
			}
		}
	}
}

func TestPathOfWrongIndex(t *testing.T) {
	for many := range impl.MaxLeaves + 1 {
		entries := someEntries(many)
		for _, index := range []int64{-1, int64(many), int64(many) + 1, math.MinInt64, math.MaxInt64} {
			sameTexts(t, "PathOf", impl.PathOf(entries, index), nil)
		}
	}
}

func TestIncludedWrong(t *testing.T) {
	leaf := impl.LeafHash("a")
	if !impl.Included(leaf, 0, 1, nil, leaf) || !impl.Included(leaf, 0, 1, []string{}, leaf) {
		t.Error("one leaf alone isn't its tree")
	}
	for _, size := range []int64{0, -1, math.MinInt64} {
		for _, index := range []int64{0, -1, size, size - 1} {
			if impl.Included(leaf, index, size, nil, leaf) {
				t.Errorf("index %d of size %d is included", index, size)
			}
		}
	}
	for _, bytes := range []int{0, 31, 33, 8000, 8001} {
		wrong := strings.Repeat("d", bytes)
		if impl.Included(wrong, 0, 1, nil, wrong) {
			t.Errorf("a leaf of %d bytes is included", bytes)
		}
	}
	// A path of digests that fits in length, of a step that NodeHash refuses, must not meet a root that is empty.
	if impl.Included(leaf, 0, 2, []string{"short"}, "") {
		t.Error("an empty root was led to")
	}
}

// In a tree of a power of two the bits of an index tell at which side each step stands.
func TestIncludedInGreatTrees(t *testing.T) {
	draw := rand.New(rand.NewSource(9))
	for high := 1; high <= 62; high++ {
		size := int64(1) << high
		index := draw.Int63n(size)
		leaf := randomText(draw, 32)
		root, path := leaf, []string(nil)
		for step := range high {
			side := randomText(draw, 32)
			path = append(path, side)
			if index>>step&1 == 0 {
				root = wantDigest("\x01" + root + side)
			} else {
				root = wantDigest("\x01" + side + root)
			}
		}
		if !impl.Included(leaf, index, size, path, root) {
			t.Errorf("index %d of %d isn't included", index, size)
		}
		if impl.Included(leaf, index^1, size, path, root) || impl.Included(leaf, index, size, path[1:], root) {
			t.Errorf("index %d of %d is included otherwise", index, size)
		}
	}
}

func TestIncludedInTheGreatestTree(t *testing.T) {
	draw := rand.New(rand.NewSource(10))
	leaf := randomText(draw, 32)
	root, path := leaf, []string(nil)
	for range 63 {
		side := randomText(draw, 32)
		path = append(path, side)
		root = wantDigest("\x01" + root + side)
	}
	if !impl.Included(leaf, 0, math.MaxInt64, path, root) {
		t.Error("a path of 63 isn't taken")
	}
	longer := append(slices.Clone(path), leaf)
	if impl.Included(leaf, 0, math.MaxInt64, longer, wantDigest("\x01"+root+leaf)) {
		t.Error("a path of 64 is taken")
	}
	many := make([]string, impl.MaxList+1)
	for i := range many {
		many[i] = leaf
	}
	if impl.Included(leaf, 0, math.MaxInt64, many, root) || impl.Consistent(1, math.MaxInt64, many, leaf, root) {
		t.Error("a list too long is taken")
	}
	// The last entry of a tree of one more than a power of two has one step alone.
	last := int64(1) << 62
	if !impl.Included(leaf, last, last+1, path[:1], wantDigest("\x01"+path[0]+leaf)) {
		t.Error("the last entry behind a power of two isn't included")
	}
}

// Promise 5, at every old of 1 to 64 entries.
func TestTheFirstAreTheBeginning(t *testing.T) {
	draw := rand.New(rand.NewSource(11))
	for many := 1; many <= impl.MaxLeaves; many++ {
		entries := randomEntries(draw, many)
		root := impl.TreeHash(entries)
		for old := 1; old <= many; old++ {
			proof, was := impl.ProofOf(entries, int64(old)), impl.TreeHash(entries[:old])
			if !wantConsistent(int64(old), int64(many), proof, was, root) {
				t.Errorf("the proof of %d of %d is none", old, many)
			}
			if !impl.Consistent(int64(old), int64(many), proof, was, root) {
				t.Errorf("%d of %d aren't told to be the beginning", old, many)
			}
			if old == many && len(proof) != 0 {
				t.Errorf("the proof of all %d isn't empty", many)
			}
		}
	}
}

// The proofs of seven entries as RFC 6962 (2.1.3) has them.
func TestProofKnown(t *testing.T) {
	l := []string{"0", "1", "2", "3", "4", "5", "6"}
	leaf := func(i int) string { return wantDigest("\x00" + l[i]) }
	node := func(a, b string) string { return wantDigest("\x01" + a + b) }
	c, d := leaf(2), leaf(3)
	g, h, i, j := node(leaf(0), leaf(1)), node(c, d), node(leaf(4), leaf(5)), leaf(6)
	k, more := node(g, h), node(i, j)
	sameTexts(t, "proof of 3", impl.ProofOf(l, 3), []string{c, d, g, more})
	sameTexts(t, "proof of 4", impl.ProofOf(l, 4), []string{more})
	sameTexts(t, "proof of 6", impl.ProofOf(l, 6), []string{i, j, k})
	sameTexts(t, "proof of 7", impl.ProofOf(l, 7), nil)
	sameTexts(t, "path of 3", impl.PathOf(l, 3), []string{c, g, more})
	sameTexts(t, "path of 6", impl.PathOf(l, 6), []string{i, k})
}

func TestConsistentOtherwise(t *testing.T) {
	for many := 1; many <= 40; many++ {
		entries := someEntries(many)
		root, size := impl.TreeHash(entries), int64(many)
		for old := int64(1); old <= size; old++ {
			was, proof := impl.TreeHash(entries[:old]), impl.ProofOf(entries, old)
			deny := func(what string, old int64, size int64, proof []string, was string, root string) {
				t.Helper()
				if impl.Consistent(old, size, proof, was, root) {
					t.Errorf("%s: %d of %d are told to be the beginning", what, old, size)
				}
			}
			at := int(old) % 32
			deny("was turned", old, size, proof, turned(was, at), root)
			deny("root turned", old, size, proof, was, turned(root, at))
			deny("a digest behind", old, size, append(slices.Clone(proof), root), was, root)
			deny("a digest ahead", old, size, append([]string{was}, proof...), was, root)
			deny("old 0", 0, size, proof, was, root)
			deny("old below 0", -old, size, proof, was, root)
			deny("old one more than size", size+1, size, proof, was, root)
			deny("was too short", old, size, proof, was[:31], root)
			deny("root too short", old, size, proof, was, root[:31])
			for step := range proof {
				deny("a digest turned", old, size, with(proof, step, turned(proof[step], at)), was, root)
				deny("a digest more within", old, size, slices.Insert(slices.Clone(proof), step+1, was), was, root)
				deny("a digest less", old, size, slices.Delete(slices.Clone(proof), step, step+1), was, root)
				deny("a digest short", old, size, with(proof, step, proof[step][:31]), was, root)
				deny("a digest long", old, size, with(proof, step, proof[step]+"x"), was, root)
			}
		}
	}
}

// A proof, sizes and digests that do not belong together are told apart as the walk from below does.
func TestConsistentAgainstTheWalkFromBelow(t *testing.T) {
	entries := someEntries(17)
	for n := int64(1); n <= 17; n++ {
		for m := int64(1); m <= n; m++ {
			proof := impl.ProofOf(entries[:n], m)
			was, root := wantTree(entries[:m]), wantTree(entries[:n])
			for size := int64(1); size <= 20; size++ {
				for old := int64(1); old <= size; old++ {
					want := wantConsistent(old, size, proof, was, root)
					if got := impl.Consistent(old, size, proof, was, root); got != want {
						t.Errorf("proof of %d of %d held as %d of %d: %t", m, n, old, size, got)
					}
				}
			}
		}
	}
}

func TestConsistentOfAlike(t *testing.T) {
	a, b := wantDigest("a"), wantDigest("b")
	for _, size := range []int64{1, 2, 3, 64, 1000, math.MaxInt64} {
		if !impl.Consistent(size, size, nil, a, a) || !impl.Consistent(size, size, []string{}, a, a) {
			t.Errorf("all of %d aren't their beginning", size)
		}
		if impl.Consistent(size, size, nil, a, b) || impl.Consistent(size, size, []string{a}, a, a) {
			t.Errorf("all of %d are told with another root, or a proof", size)
		}
		if impl.Consistent(size, size, nil, "", "") || impl.Consistent(size, size, nil, a+"x", a+"x") {
			t.Errorf("digests of %d that are none are taken", size)
		}
	}
	for _, size := range []int64{0, -1, math.MinInt64} {
		if impl.Consistent(size, size, nil, a, a) {
			t.Errorf("old and size %d are taken", size)
		}
	}
}

func TestConsistentOfGreatTrees(t *testing.T) {
	draw := rand.New(rand.NewSource(12))
	// One of a power of two: the first leaf, and the neighbour at each step.
	was := randomText(draw, 32)
	root, proof := was, []string(nil)
	for high := 1; high <= 62; high++ {
		side := randomText(draw, 32)
		proof = append(proof, side)
		root = wantDigest("\x01" + root + side)
		if !impl.Consistent(1, 1<<high, proof, was, root) {
			t.Errorf("one of 2 to the power of %d isn't the beginning", high)
		}
	}
	// All but the last one of 2 to the power of 63, less 2: that one at the right, all other trees at the left.
	size := int64(math.MaxInt64)
	proof = []string{randomText(draw, 32)}
	was, root = proof[0], proof[0]
	side := randomText(draw, 32)
	proof = append(proof, side)
	root = wantDigest("\x01" + root + side)
	for range 61 {
		side = randomText(draw, 32)
		proof = append(proof, side)
		was, root = wantDigest("\x01"+side+was), wantDigest("\x01"+side+root)
	}
	if !wantConsistent(size-2, size-1, proof, was, root) || !impl.Consistent(size-2, size-1, proof, was, root) {
		t.Errorf("a proof of %d isn't taken", len(proof))
	}
	longer := append(slices.Clone(proof), side)
	for len(longer) <= 65 {
		if impl.Consistent(size-2, size-1, longer, was, root) {
			t.Errorf("a proof of %d is taken", len(longer))
		}
		longer = append(longer, side)
	}
}

func TestProofOfWrongOld(t *testing.T) {
	for many := range impl.MaxLeaves + 1 {
		entries := someEntries(many)
		for _, old := range []int64{0, -1, int64(many) + 1, math.MinInt64, math.MaxInt64} {
			sameTexts(t, "ProofOf", impl.ProofOf(entries, old), nil)
		}
	}
}

func sameRange(t *testing.T, what string, got impl.Range, want impl.Range) {
	t.Helper()
	if got.Size != want.Size || !slices.Equal(got.Nodes, want.Nodes) {
		t.Errorf("%s: got %d with %d nodes, want %d with %d nodes", what, got.Size, len(got.Nodes), want.Size, len(want.Nodes))
	}
}

// wantRange has the tree of each bit of how many there are, the greatest first.
func wantRange(entries []string) impl.Range {
	r := impl.Range{Size: int64(len(entries))}
	for bit := 62; bit >= 0; bit-- {
		if part := 1 << bit; len(entries)&part != 0 {
			from := len(entries) &^ (2*part - 1)
			r.Nodes = append(r.Nodes, wantTree(entries[from:from+part]))
		}
	}
	return r
}

func TestRangeFromNoneOn(t *testing.T) {
	draw := rand.New(rand.NewSource(13))
	entries := randomEntries(draw, 300)
	entries[5], entries[6] = "", strings.Repeat("e", impl.MaxEntry)
	var r impl.Range
	for many := range len(entries) {
		sameRange(t, "Range of "+strconv.Itoa(many), r, wantRange(entries[:many]))
		root := impl.RangeRoot(r)
		sameDigest(t, "RangeRoot of "+strconv.Itoa(many), root, wantTree(entries[:many]))
		if many <= impl.MaxLeaves {
			sameDigest(t, "RangeRoot against TreeHash", root, impl.TreeHash(entries[:many]))
		}
		r = impl.RangeAdd(r, entries[many])
	}
}

// rangeOfSize has as many nodes as a size has bits 1.
func rangeOfSize(size int64) impl.Range {
	r := impl.Range{Size: size}
	for i := range bits.OnesCount64(uint64(size)) {
		r.Nodes = append(r.Nodes, wantDigest("node "+strconv.Itoa(i)))
	}
	return r
}

func TestRangeAtItsEnd(t *testing.T) {
	before := rangeOfSize(999999)
	got := impl.RangeAdd(before, "last")
	node := impl.LeafHash("last")
	many := len(before.Nodes) - 6
	for i := len(before.Nodes) - 1; i >= many; i-- {
		node = wantDigest("\x01" + before.Nodes[i] + node)
	}
	sameRange(t, "the last entry", got, impl.Range{Size: 1000000, Nodes: append(slices.Clone(before.Nodes[:many]), node)})
	sameRange(t, "one more than the last", impl.RangeAdd(got, "more"), got)
	if impl.RangeRoot(got) == "" || impl.RangeRoot(before) == "" {
		t.Error("a Range of 1000000 or one less has no root")
	}
	// A carry through 19 bits leaves one node.
	full := rangeOfSize(1<<19 - 1)
	if one := impl.RangeAdd(full, ""); one.Size != 1<<19 || len(one.Nodes) != 1 || impl.RangeRoot(one) != one.Nodes[0] {
		t.Errorf("got %d with %d nodes", one.Size, len(one.Nodes))
	}
}

func wrongRanges() []impl.Range {
	d := wantDigest("d")
	l := []impl.Range{
		{Size: 0, Nodes: []string{d}}, {Size: 1}, {Size: 1, Nodes: []string{d, d}}, {Size: 2, Nodes: []string{d, d}},
		{Size: 3, Nodes: []string{d}}, {Size: 3, Nodes: []string{d, d, d}}, {Size: 1, Nodes: []string{""}},
		{Size: 1, Nodes: []string{d[:31]}}, {Size: 1, Nodes: []string{d + "x"}}, {Size: 3, Nodes: []string{d, d[1:]}},
		{Size: 3, Nodes: []string{d[1:], d}}, {Size: 0, Nodes: slices.Repeat([]string{d}, impl.MaxList+1)},
	}
	for _, size := range []int64{-1, -2, 1000001, 1 << 20, math.MinInt64, math.MaxInt64} {
		l = append(l, impl.Range{Size: size}, rangeOfSize(size))
	}
	return l
}

func TestRangeWrong(t *testing.T) {
	for _, r := range wrongRanges() {
		want := impl.Range{Size: r.Size, Nodes: slices.Clone(r.Nodes)}
		got := impl.RangeAdd(r, "entry")
		sameRange(t, "RangeAdd to a wrong one", got, want)
		sameDigest(t, "RangeRoot of a wrong one", impl.RangeRoot(r), "")
		if len(got.Nodes) > 0 {
			got.Nodes[0] = "changed"
			sameRange(t, "what was handed in", r, want)
		}
	}
}

func TestRangeAddTextTooLong(t *testing.T) {
	for _, size := range []int64{0, 1, 3, 7, 1000000} {
		r := rangeOfSize(size)
		for _, bytes := range []int{101, 102, impl.MaxBytes} {
			sameRange(t, "a text above MaxEntry", impl.RangeAdd(r, strings.Repeat("e", bytes)), r)
		}
		sameRange(t, "a text above MaxBytes", impl.RangeAdd(r, strings.Repeat("e", impl.MaxBytes+1)), impl.Range{})
	}
}

// What was handed in stays as it was, and the answer shares no memory with it, even where there is room behind it.
func TestRangeAddSharesNothing(t *testing.T) {
	for size := int64(0); size < 40; size++ {
		given := rangeOfSize(size)
		roomy := append(make([]string, 0, len(given.Nodes)+4), given.Nodes...)
		r := impl.Range{Size: size, Nodes: roomy}
		first := impl.RangeAdd(r, "first")
		kept := slices.Clone(first.Nodes)
		second := impl.RangeAdd(r, "second")
		for i := range second.Nodes {
			second.Nodes[i] = "changed"
		}
		sameRange(t, "the argument", r, given)
		sameTexts(t, "the first answer", first.Nodes, kept)
		if behind := roomy[:cap(roomy)][len(given.Nodes)]; behind != "" {
			t.Errorf("the room behind the argument was written to: %x", behind)
		}
	}
}

func TestEntriesStayAsTheyWere(t *testing.T) {
	entries := someEntries(13)
	kept := slices.Clone(entries)
	for i := range int64(13) {
		path, proof := impl.PathOf(entries, i), impl.ProofOf(entries, i+1)
		for at := range path {
			path[at] = "changed"
		}
		for at := range proof {
			proof[at] = "changed"
		}
		again := impl.PathOf(entries, i)
		given := slices.Clone(again)
		impl.Included(impl.LeafHash(entries[i]), i, 13, given, impl.TreeHash(entries))
		impl.Consistent(i+1, 13, given, impl.TreeHash(entries), impl.TreeHash(entries))
		sameTexts(t, "the path that was handed in", given, again)
	}
	sameTexts(t, "the entries", entries, kept)
}
