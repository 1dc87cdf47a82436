package tests

import (
	"encoding/binary"
	"fmt"
	"math"
	"math/rand"
	"slices"
	"strconv"
	"strings"
	"testing"

	"loop.example/g00550/impl"
)

// kept is what a record of a log tells.
type kept struct {
	index int64
	piece string
	path  []string
}

func wantText(text string) string {
	return wantNums(int64(len(text))) + text
}

// recordIn is a record around any text, with a seal that holds.
func recordIn(inner string) string {
	return wantText(wantSealed(inner))
}

func (r kept) inner() string {
	text := wantNums(r.index) + wantText(r.piece) + wantNums(int64(len(r.path)))
	for _, side := range r.path {
		text += wantText(side)
	}
	return text
}

func (r kept) text() string {
	return recordIn(r.inner())
}

func wantLog(records ...kept) string {
	log := ""
	for _, r := range records {
		log += r.text()
	}
	return log
}

// wantFit asks the way from the piece upwards where it leads.
func wantFit(l impl.List, r kept) bool {
	if !wantListRight(l) || r.index < 0 || r.index >= wantCount(l.Size, l.Block) || len(r.piece) > 100 {
		return false
	}
	for _, side := range r.path {
		if len(side) != 32 {
			return false
		}
	}
	way := wantWay(r.index, wantCount(l.Size, l.Block), r.piece, r.path)
	return len(way) > 0 && wantDigest(way[len(way)-1]) == l.Root
}

// takeNum and takeText cut off what the library reads at the beginning of a text.
func takeNum(text string) (int64, string, bool) {
	n, used := binary.Varint([]byte(text))
	if used <= 0 || text[:used] != wantNums(n) {
		return 0, "", false
	}
	return n, text[used:], true
}

func takeText(text string) (string, string, bool) {
	size, rest, is := takeNum(text)
	if !is || size < 0 || size > int64(len(rest)) {
		return "", "", false
	}
	return rest[:size], rest[size:], true
}

func takeRecord(log string) (kept, string, bool) {
	sealed, rest, is := takeText(log)
	if !is || len(sealed) < 4 || wantSealed(sealed[:len(sealed)-4]) != sealed {
		return kept{}, "", false
	}
	var r kept
	var many int64
	text := sealed[:len(sealed)-4]
	if r.index, text, is = takeNum(text); !is {
		return kept{}, "", false
	}
	if r.piece, text, is = takeText(text); !is {
		return kept{}, "", false
	}
	if many, text, is = takeNum(text); !is || many < 0 || many > 20 {
		return kept{}, "", false
	}
	for range many {
		var side string
		if side, text, is = takeText(text); !is {
			return kept{}, "", false
		}
		r.path = append(r.path, side)
	}
	return r, rest, text == ""
}

// wantGone is what a log tells up to where it is gone through, and how many bytes that are.
func wantGone(l impl.List, log string) ([]kept, int) {
	var records []kept
	there := map[int64]int{}
	for rest := log; ; {
		r, next, is := takeRecord(rest)
		if !is || !wantFit(l, r) || there[r.index] > 0 {
			return records, len(log) - len(rest)
		}
		there[r.index]++
		records, rest = append(records, r), next
	}
}

func wantKeepRight(k impl.Keep) bool {
	if !wantListRight(k.List) || len(k.Log) > 8000 || k.Synced < 0 || k.Synced > int64(len(k.Log)) {
		return false
	}
	_, end := wantGone(k.List, k.Log)
	return end == len(k.Log)
}

func wantAdd(k impl.Keep, r kept) impl.KeepOut {
	if len(r.piece) > 8000 || len(r.path) > 400 {
		return impl.KeepOut{Code: impl.ErrSize}
	}
	if !wantKeepRight(k) {
		return impl.KeepOut{Code: impl.ErrForm}
	}
	if !wantFit(k.List, r) || len(r.path) > 20 {
		return impl.KeepOut{Code: impl.ErrSum}
	}
	records, _ := wantGone(k.List, k.Log)
	if slices.ContainsFunc(records, func(o kept) bool { return o.index == r.index }) {
		return impl.KeepOut{Code: impl.ErrThere}
	}
	k.Log += r.text()
	if len(k.Log) > 8000 {
		return impl.KeepOut{Code: impl.ErrFull}
	}
	return impl.KeepOut{Keep: k}
}

func wantSync(k impl.Keep) impl.Keep {
	if wantKeepRight(k) {
		k.Synced = int64(len(k.Log))
	}
	return k
}

// wantCrash lets the bytes behind what is synced come one by one.
func wantCrash(k impl.Keep, keep int64) impl.Keep {
	if k.Synced < 0 || k.Synced > int64(len(k.Log)) {
		return k
	}
	end := k.Synced
	for ; keep > 0 && end < int64(len(k.Log)); keep-- {
		end++
	}
	return impl.Keep{List: k.List, Log: k.Log[:end], Synced: end}
}

func wantRecover(k impl.Keep) impl.Keep {
	if !wantListRight(k.List) || len(k.Log) > 8000 {
		return k
	}
	_, end := wantGone(k.List, k.Log)
	return impl.Keep{List: k.List, Log: k.Log[:end], Synced: int64(end)}
}

func toldKeep(k impl.Keep) string {
	return fmt.Sprintf("%s, a log of %d bytes %.60x, synced %d", told(k.List), len(k.Log), k.Log, k.Synced)
}

func sameKeep(t *testing.T, what string, got impl.Keep, want impl.Keep) {
	t.Helper()
	if got != want {
		t.Errorf("%s: got %s; want %s", what, toldKeep(got), toldKeep(want))
	}
}

func sameKeepOut(t *testing.T, what string, got impl.KeepOut, want impl.KeepOut) {
	t.Helper()
	if got.Code != want.Code {
		t.Errorf("%s: got the code %d, want %d", what, got.Code, want.Code)
	}
	sameKeep(t, what, got.Keep, want.Keep)
}

func sameAdd(t *testing.T, what string, k impl.Keep, r kept) {
	t.Helper()
	sameKeepOut(t, what, impl.KeepAdd(k, r.index, r.piece, r.path), wantAdd(k, r))
}

func refusedAdd(t *testing.T, what string, k impl.Keep, r kept, code int64) {
	t.Helper()
	sameKeepOut(t, what, impl.KeepAdd(k, r.index, r.piece, r.path), impl.KeepOut{Code: code})
}

// sameThere asks a keep for all that is there, and for what lies around it.
func sameThere(t *testing.T, what string, k impl.Keep, records []kept) {
	t.Helper()
	var indexes []int64
	for _, r := range records {
		indexes = append(indexes, r.index)
		sameText(t, what+": PieceOf "+strconv.FormatInt(r.index, 10), impl.PieceOf(k, r.index), impl.TextOut{Text: r.piece})
	}
	slices.Sort(indexes)
	sameNums(t, what+": Have", impl.Have(k), indexes)
	many := wantCount(k.List.Size, k.List.Block)
	for _, index := range []int64{-1, -2, many, many + 1, 1 << 32, math.MaxInt64, math.MinInt64} {
		sameText(t, what+": an index that is none", impl.PieceOf(k, index), impl.TextOut{Code: impl.ErrNone})
	}
	for index := range many {
		if !slices.Contains(indexes, index) {
			sameText(t, what+": an index that is not there", impl.PieceOf(k, index), impl.TextOut{Code: impl.ErrNone})
		}
	}
}

// nothingThere asks a keep that is not right for what it has.
func nothingThere(t *testing.T, what string, k impl.Keep) {
	t.Helper()
	if got := impl.Have(k); len(got) != 0 {
		t.Errorf("%s: Have tells %v", what, got)
	}
	for _, index := range []int64{-1, 0, 1, 2, 63, 64, math.MaxInt64, math.MinInt64} {
		sameText(t, what+": PieceOf", impl.PieceOf(k, index), impl.TextOut{Code: impl.ErrForm})
	}
	if got := impl.Output(k); got != "" {
		t.Errorf("%s: Output is %q", what, got)
	}
}

// keepJudged holds all that is told of a keep against the counterparts here.
func keepJudged(t *testing.T, what string, k impl.Keep) {
	t.Helper()
	right := wantKeepRight(k)
	if got := impl.KeepRight(k); got != right {
		t.Errorf("%s: KeepRight is %t of %s", what, got, toldKeep(k))
	}
	sameKeep(t, what+": KeepSync", impl.KeepSync(k), wantSync(k))
	sameKeep(t, what+": KeepRecover", impl.KeepRecover(k), wantRecover(k))
	left := int64(len(k.Log)) - k.Synced
	for _, keep := range []int64{math.MinInt64, -1, 0, 1, 7, left - 1, left, left + 1, math.MaxInt64 - 1, math.MaxInt64} {
		if keep <= 8001 {
			sameKeep(t, what+": KeepCrash", impl.KeepCrash(k, keep), wantCrash(k, keep))
		} else {
			sameKeep(t, what+": KeepCrash", impl.KeepCrash(k, keep), wantCrash(k, int64(len(k.Log))))
		}
	}
	if !right {
		nothingThere(t, what, k)
		return
	}
	records, _ := wantGone(k.List, k.Log)
	sameThere(t, what, k, records)
}

// keptFile is the list of a file, and the record of each of its pieces.
func keptFile(file string, block int64) (impl.List, []kept) {
	pieces := wantPieces(file, block)
	var records []kept
	for i, piece := range pieces {
		records = append(records, kept{int64(i), piece, wantPath(pieces, i)})
	}
	return impl.List{Size: int64(len(file)), Block: block, Root: wantTree(pieces)}, records
}

// keptTexts is a list whose pieces are any texts, and the records of these.
func keptTexts(texts []string) (impl.List, []kept) {
	var records []kept
	for i, text := range texts {
		records = append(records, kept{int64(i), text, wantPath(texts, i)})
	}
	return impl.List{Size: int64(len(texts)), Block: 1, Root: wantTree(texts)}, records
}

// added adds records one by one, each of which has to come in.
func added(t *testing.T, k impl.Keep, records ...kept) impl.Keep {
	t.Helper()
	for _, r := range records {
		out := impl.KeepAdd(k, r.index, r.piece, r.path)
		if out.Code != impl.OK {
			t.Fatalf("index %d is not added: code %d", r.index, out.Code)
		}
		k = out.Keep
	}
	return k
}

func picked(records []kept, order []int) []kept {
	var some []kept
	for _, i := range order {
		some = append(some, records[i])
	}
	return some
}

// eachOrder calls f with each order of 0 to many less 1.
func eachOrder(many int, f func(order []int)) {
	order := make([]int, many)
	for i := range order {
		order[i] = i
	}
	var place func(at int)
	place = func(at int) {
		if at == many {
			f(slices.Clone(order))
			return
		}
		for i := at; i < many; i++ {
			order[at], order[i] = order[i], order[at]
			place(at + 1)
			order[at], order[i] = order[i], order[at]
		}
	}
	place(0)
}

// beginning is the file up to the first block that lacks.
func beginning(file string, block int64, records []kept) string {
	there := map[int64]int{}
	for _, r := range records {
		there[r.index]++
	}
	end := int64(0)
	for there[end] > 0 {
		end++
	}
	return file[:min(end*block, int64(len(file)))]
}

func TestRecordBytesKnown(t *testing.T) {
	piece := wantSealed("\x00ab")
	l := impl.List{Size: 2, Block: 2, Root: wantDigest("\x00" + piece)}
	inner := "\x00" + "\x0e" + piece + "\x00"
	k := added(t, impl.KeepNew(l), kept{0, piece, nil})
	sameKeep(t, "one piece alone", k, impl.Keep{List: l, Log: "\x1c" + wantSealed(inner)})

	left, right := wantSealed("\x00ab"), wantSealed("\x00c")
	side := wantDigest("\x00" + left)
	l = impl.List{Size: 3, Block: 2, Root: wantDigest("\x01" + side + wantDigest("\x00"+right))}
	inner = "\x02" + "\x0c" + right + "\x02" + "\x40" + side
	k = added(t, impl.KeepNew(l), kept{1, right, []string{side}})
	sameKeep(t, "the last one of two", k, impl.Keep{List: l, Log: "\x5c" + wantSealed(inner)})
}

func TestKeepNew(t *testing.T) {
	for _, l := range rightLists() {
		k := impl.KeepNew(l)
		sameKeep(t, "KeepNew", k, impl.Keep{List: l})
		keepJudged(t, "a new keep", k)
		if !impl.KeepRight(k) {
			t.Errorf("a new keep of %s is not right", told(l))
		}
	}
	for _, l := range wrongLists() {
		sameKeep(t, "KeepNew of "+told(l), impl.KeepNew(l), impl.Keep{})
	}
}

// Promise 11: what is added is there, as it was handed in, with what was there ahead.
func TestAddedPiecesAreThere(t *testing.T) {
	for _, c := range listFiles() {
		if len(c.file) > 500 && c.block%16 != 0 {
			continue
		}
		l, records := keptFile(c.file, c.block)
		k := impl.KeepNew(l)
		for i, r := range records {
			want := wantAdd(k, r)
			sameAdd(t, "a piece that fits", k, r)
			if want.Code != impl.OK {
				break
			}
			k = want.Keep
			if i%9 == 0 || i+1 == len(records) {
				sameThere(t, "pieces that were added", k, records[:i+1])
			}
		}
		if !impl.KeepRight(k) {
			t.Errorf("a keep of %d bytes by %d is not right", len(c.file), c.block)
		}
	}
}

func TestAddKeepsWhatIsSynced(t *testing.T) {
	l, records := keptFile("abcdefgh", 2)
	k := added(t, impl.KeepNew(l), records[1], records[3])
	for synced := range int64(len(k.Log)) + 1 {
		k.Synced = synced
		want := impl.Keep{List: l, Log: k.Log + records[2].text(), Synced: synced}
		sameKeepOut(t, "a piece more", impl.KeepAdd(k, 2, records[2].piece, records[2].path), impl.KeepOut{Keep: want})
	}
}

// Promise 11: nothing that does not fit is there.
func TestNothingThatDoesNotFitIsAdded(t *testing.T) {
	for _, f := range someFittings() {
		if f.index%7 != 0 && f.index > 3 {
			continue
		}
		for _, o := range turnedFittings(f) {
			r := kept{o.index, o.piece, o.path}
			k := impl.KeepNew(f.list)
			sameAdd(t, "what may not fit", k, r)
			if !wantFit(f.list, r) {
				refusedAdd(t, "what does not fit", k, r, impl.ErrSum)
				log := impl.Keep{List: f.list, Log: r.text()}
				if impl.KeepRight(log) || len(impl.Have(log)) != 0 {
					t.Errorf("index %d is there though it does not fit", r.index)
				}
				sameKeep(t, "what does not fit", impl.KeepRecover(log), impl.Keep{List: f.list})
			}
		}
	}
}

func TestAddAtOtherIndexes(t *testing.T) {
	l, records := keptFile("abcdefghi", 2)
	k := added(t, impl.KeepNew(l), records[0])
	for _, index := range []int64{-1, -5, 5, 6, 64, 1 << 32, 1<<32 + 1, math.MaxInt64, math.MinInt64} {
		for _, r := range records {
			refusedAdd(t, "an index that is none", k, kept{index, r.piece, r.path}, impl.ErrSum)
		}
	}
	sameAdd(t, "the last index", k, records[4])
	if got := impl.KeepAdd(k, 4, records[4].piece, records[4].path).Code; got != impl.OK {
		t.Errorf("the last index: code %d", got)
	}
	for index := range int64(5) {
		for _, r := range records {
			if r.index != index {
				refusedAdd(t, "the piece of another index", k, kept{index, r.piece, r.path}, impl.ErrSum)
				refusedAdd(t, "the piece of another index", k, kept{index, r.piece, records[index].path}, impl.ErrSum)
			}
		}
	}
}

func TestAddWithOtherPaths(t *testing.T) {
	l, records := keptFile(someFile(128), 2)
	empty := impl.KeepNew(l)
	for _, many := range []int{0, 1, 5, 7, 19, 20, 21, 22, 62, 63, 64, 65, 399, 400} {
		refusedAdd(t, "a path of "+strconv.Itoa(many), empty, kept{9, records[9].piece, somePath(many)}, impl.ErrSum)
	}
	for _, many := range []int{401, 402, 1000} {
		for _, k := range []impl.Keep{empty, {}, {List: l, Log: "x"}, {List: l, Synced: -1}} {
			refusedAdd(t, "a path of "+strconv.Itoa(many), k, kept{9, records[9].piece, somePath(many)}, impl.ErrSize)
			refusedAdd(t, "a path of nothing "+strconv.Itoa(many), k, kept{-1, "", make([]string, many)}, impl.ErrSize)
		}
	}
	for many := 7; many <= 22; many++ {
		longer := append(slices.Clone(records[9].path), somePath(many-6)...)
		refusedAdd(t, "a path with digests more", empty, kept{9, records[9].piece, longer}, impl.ErrSum)
	}
	one, alone := keptFile("ab", 2)
	sameAdd(t, "no path", impl.KeepNew(one), alone[0])
	sameKeepOut(t, "an empty path", impl.KeepAdd(impl.KeepNew(one), 0, alone[0].piece, []string{}), wantAdd(impl.KeepNew(one), alone[0]))
	refusedAdd(t, "a digest of no bytes", impl.KeepNew(one), kept{0, alone[0].piece, []string{""}}, impl.ErrSum)
	refusedAdd(t, "a text of many bytes in the path", impl.KeepNew(one), kept{0, alone[0].piece, []string{strings.Repeat("d", 8001)}}, impl.ErrSum)
}

func TestAddOfLongPieces(t *testing.T) {
	for _, bytes := range []int{0, 1, 63, 64, 99, 100} {
		l, records := keptTexts([]string{strings.Repeat("p", bytes), "other"})
		k := added(t, impl.KeepNew(l), records...)
		sameThere(t, "pieces at the limit", k, records)
	}
	for _, bytes := range []int{101, 102, 7999, 8000} {
		l, records := keptTexts([]string{strings.Repeat("p", bytes), "other"})
		refusedAdd(t, "a piece that is too long to fit", impl.KeepNew(l), records[0], impl.ErrSum)
		refusedAdd(t, "a piece that is too long to fit, in no keep", impl.Keep{}, records[0], impl.ErrForm)
	}
	for _, bytes := range []int{8001, 8002, 20000} {
		l, records := keptTexts([]string{strings.Repeat("p", bytes), "other"})
		for _, k := range []impl.Keep{impl.KeepNew(l), {}, {List: l, Log: "x"}, {List: l, Synced: 1}} {
			refusedAdd(t, "a piece of more than MaxBytes", k, records[0], impl.ErrSize)
		}
	}
}

func TestAddOfWhatIsThere(t *testing.T) {
	for _, many := range []int{1, 2, 3, 5, 9} {
		l, records := keptFile(someFile(many*2), 2)
		k := added(t, impl.KeepNew(l), records...)
		for _, now := range []impl.Keep{k, impl.KeepSync(k)} {
			for _, r := range records {
				refusedAdd(t, "an index that is there", now, r, impl.ErrThere)
				refusedAdd(t, "what does not fit where one is there", now, kept{r.index, r.piece + "x", r.path}, impl.ErrSum)
				refusedAdd(t, "what does not fit where one is there", now, kept{r.index, r.piece, append(slices.Clone(r.path), l.Root)}, impl.ErrSum)
			}
		}
	}
}

func TestAddToWrongKeeps(t *testing.T) {
	l, records := keptFile("abcdefgh", 2)
	log := wantLog(records[:2]...)
	for _, k := range []impl.Keep{
		{}, {Log: log}, {List: impl.List{Size: 8, Block: 2}, Log: log}, {List: impl.List{Size: 8, Block: 49, Root: l.Root}}, {List: l, Log: log, Synced: -1},
		{List: l, Log: log, Synced: int64(len(log)) + 1}, {List: l, Synced: 1}, {List: l, Log: log[:len(log)-1]}, {List: l, Log: log + "\x00"},
		{List: l, Log: turned(log, 5)}, {List: l, Log: log + records[0].text()}, {List: l, Log: strings.Repeat("\x00", 8001)},
	} {
		if wantKeepRight(k) {
			t.Fatalf("%s is right", toldKeep(k))
		}
		refusedAdd(t, "a piece that fits", k, records[2], impl.ErrForm)
		refusedAdd(t, "a piece that is there", k, records[1], impl.ErrForm)
		refusedAdd(t, "a piece that does not fit", k, kept{2, "bad", records[2].path}, impl.ErrForm)
		refusedAdd(t, "an index that is none", k, kept{-1, records[2].piece, records[2].path}, impl.ErrForm)
		refusedAdd(t, "a path that is too long", k, kept{2, records[2].piece, somePath(21)}, impl.ErrForm)
		refusedAdd(t, "a path of MaxList", k, kept{2, records[2].piece, somePath(400)}, impl.ErrForm)
		refusedAdd(t, "a piece of MaxBytes", k, kept{2, strings.Repeat("p", 8000), nil}, impl.ErrForm)
	}
}

// fullTexts are pieces of which the first 26 make a log of just so many bytes, 7908 to 8008.
func fullTexts(bytes int) []string {
	texts := make([]string, 64)
	for i := range texts {
		texts[i] = strings.Repeat(string(rune('A'+i%26)), 100)
	}
	_, records := keptTexts(texts)
	last := bytes - len(wantLog(records[:25]...)) - len(records[25].text()) + 100
	texts[25] = texts[25][:last]
	texts[40] = ""
	return texts
}

func TestLogOfMaxBytes(t *testing.T) {
	for _, bytes := range []int{7998, 7999, 8000, 8001, 8002} {
		l, records := keptTexts(fullTexts(bytes))
		k := added(t, impl.KeepNew(l), records[:25]...)
		if got := len(wantLog(records[:26]...)); got != bytes {
			t.Fatalf("the log has %d bytes, not %d", got, bytes)
		}
		sameAdd(t, "a log of "+strconv.Itoa(bytes), k, records[25])
		full := impl.Keep{List: l, Log: wantLog(records[:26]...), Synced: 8}
		if bytes > 8000 {
			refusedAdd(t, "a log of "+strconv.Itoa(bytes), k, records[25], impl.ErrFull)
			refusedAdd(t, "a piece more in a log that is too long", full, records[30], impl.ErrForm)
			sameKeep(t, "a log that is too long to recover", impl.KeepRecover(full), full)
			sameKeep(t, "a log that is too long to sync", impl.KeepSync(full), full)
			sameKeep(t, "a log that is too long, behind a crash", impl.KeepCrash(full, 7990), impl.Keep{List: l, Log: full.Log[:7998], Synced: 7998})
			sameKeep(t, "a log that is too long, behind a crash", impl.KeepCrash(full, 9999), impl.Keep{List: l, Log: full.Log, Synced: int64(bytes)})
		} else {
			refusedAdd(t, "a piece more in a full log", full, records[40], impl.ErrFull)
			refusedAdd(t, "what is there, in a full log", full, records[3], impl.ErrThere)
			refusedAdd(t, "what does not fit, in a full log", full, kept{40, "x", records[40].path}, impl.ErrSum)
		}
		if got := impl.KeepRight(full); got != (bytes <= 8000) {
			t.Errorf("a keep with a log of %d bytes: right %t", bytes, got)
		}
		keepJudged(t, "a log of "+strconv.Itoa(bytes), full)
	}
}

// Of a file of many pieces not all have room in a log.
func TestFileThatFillsTheLog(t *testing.T) {
	file := someFile(960)
	l, records := keptFile(file, 15)
	k := impl.KeepNew(l)
	full := 0
	for _, r := range records {
		want := wantAdd(k, r)
		sameAdd(t, "a piece of many", k, r)
		if want.Code == impl.OK {
			k = want.Keep
		} else {
			full++
		}
	}
	there, _ := wantGone(l, k.Log)
	if full == 0 || len(there)+full != 64 {
		t.Errorf("%d have room, %d have none", len(there), full)
	}
	sameThere(t, "a full log", k, there)
	if got, want := impl.Output(k), beginning(file, 15, there); got != want {
		t.Errorf("Output of a full log: got %d bytes, want %d", len(got), len(want))
	}
}

func TestRightBySynced(t *testing.T) {
	l, records := keptFile("abcde", 2)
	log := wantLog(records[2], records[0])
	for _, text := range []string{"", log} {
		end := int64(len(text))
		for synced := int64(-2); synced <= end+2; synced++ {
			k := impl.Keep{List: l, Log: text, Synced: synced}
			if got := impl.KeepRight(k); got != (synced >= 0 && synced <= end) {
				t.Errorf("%d synced of %d: right %t", synced, end, got)
			}
			if synced < 3 || synced > end-2 || synced%10 == 0 {
				keepJudged(t, "some synced", k)
			}
		}
		for _, synced := range []int64{math.MinInt64, math.MaxInt64, 1 << 32, 1<<32 + 1, -1 << 32, end + 1<<32} {
			keepJudged(t, "synced out of its bounds", impl.Keep{List: l, Log: text, Synced: synced})
		}
	}
}

func TestRightByList(t *testing.T) {
	l, records := keptFile("abcde", 2)
	log := wantLog(records...)
	for _, wrong := range wrongLists() {
		for _, k := range []impl.Keep{{List: wrong}, {List: wrong, Log: log}, {List: wrong, Log: log, Synced: 5}, {List: wrong, Log: "x", Synced: 1}} {
			keepJudged(t, "a list that is not right", k)
			sameKeep(t, "KeepSync of a list that is not right", impl.KeepSync(k), k)
			sameKeep(t, "KeepRecover of a list that is not right", impl.KeepRecover(k), k)
		}
		crashed := impl.KeepCrash(impl.Keep{List: wrong, Log: log, Synced: 5}, 2)
		sameKeep(t, "KeepCrash of a list that is not right", crashed, impl.Keep{List: wrong, Log: log[:7], Synced: 7})
	}
	for _, other := range []impl.List{{Size: 5, Block: 2, Root: turned(l.Root, 3)}, {Size: 5, Block: 1, Root: l.Root}, {Size: 4, Block: 2, Root: l.Root}, {Size: 9, Block: 2, Root: l.Root}, {Size: 0, Block: 2, Root: l.Root}} {
		keepJudged(t, "the log of another list", impl.Keep{List: other, Log: log})
		sameKeep(t, "the log of another list", impl.KeepRecover(impl.Keep{List: other, Log: log[len(records[0].text()):]}), impl.Keep{List: other})
	}
	// Of four the first two have ways as of three, the last one of three has none.
	keepJudged(t, "a list of one piece more", impl.Keep{List: impl.List{Size: 7, Block: 2, Root: l.Root}, Log: log})
	// What the digests hang on is how many there are, not how long the last one is.
	longer := impl.Keep{List: impl.List{Size: 6, Block: 2, Root: l.Root}, Log: log}
	keepJudged(t, "a list of a longer file", longer)
	if got := impl.Output(longer); got != "abcd" {
		t.Errorf("Output of a list of a longer file: %q", got)
	}
}

// longNum writes a number with a byte more than it needs.
func longNum(n int64) string {
	b := []byte(wantNums(n))
	b[len(b)-1] |= 128
	return string(b) + "\x00"
}

// noRecords are texts that are no record, though they are sealed where that may be; r fits.
func noRecords(r kept) map[string]string {
	index, piece, many := wantNums(r.index), wantText(r.piece), wantNums(int64(len(r.path)))
	head := index + piece
	sides := ""
	for _, side := range r.path {
		sides += wantText(side)
	}
	sealed := wantSealed(r.inner())
	no := map[string]string{
		"nothing in it": wantText(""), "three bytes": wantText("abc"), "a seal of nothing": recordIn(""), "no seal": wantText(r.inner()),
		"another seal": wantText(turned(sealed, len(sealed)-1)), "bytes behind the seal": wantText(sealed + "x"), "bytes behind the path": recordIn(r.inner() + "\x00"),
		"a record twice in one": recordIn(r.inner() + r.inner()), "a longer index": recordIn(longNum(r.index) + piece + many + sides),
		"a longer length of the piece": recordIn(index + longNum(int64(len(r.piece))) + r.piece + many + sides),
		"a longer number of digests":   recordIn(head + longNum(int64(len(r.path))) + sides),
		"a longer length ahead":        longNum(int64(len(sealed))) + sealed, "a length below 0": wantNums(-int64(len(sealed))) + sealed,
		"a length of more than MaxBytes": wantNums(8001) + sealed, "the greatest length": wantNums(math.MaxInt64) + sealed,
		"a number of no 64 bits": strings.Repeat("\xff", 9) + "\x02" + sealed, "the piece alone": recordIn(piece), "the index alone": recordIn(index),
		"no number of digests": recordIn(head + sides), "no path": recordIn(head), "digests below 0": recordIn(head + wantNums(-1)),
		"the least number of digests": recordIn(head + wantNums(math.MinInt64)), "the greatest number of digests": recordIn(head + wantNums(math.MaxInt64) + sides),
		"a digest more said": recordIn(head + wantNums(int64(len(r.path))+1) + sides), "a digest that is empty": recordIn(head + wantNums(int64(len(r.path))+1) + sides + wantText("")),
		"a piece whose length is below 0": recordIn(index + wantNums(-1) + r.piece + many + sides), "a piece too long for it": recordIn(index + wantNums(500) + r.piece + many + sides),
		"sealed twice": wantText(wantSealed(sealed)), "a text in a text": wantText(wantText(sealed)),
	}
	for _, sides := range []int{20, 21, 22, 64} {
		no["a path of "+strconv.Itoa(sides)] = kept{r.index, r.piece, somePath(sides)}.text()
		no["a path and more, "+strconv.Itoa(sides)] = kept{r.index, r.piece, append(slices.Clone(r.path), somePath(sides-len(r.path))...)}.text()
	}
	if len(r.path) > 0 {
		no["no digests said"] = recordIn(head + wantNums(0) + sides)
		no["a digest fewer said"] = recordIn(head + wantNums(int64(len(r.path))-1) + sides)
		no["a longer length of a digest"] = recordIn(head + many + longNum(32) + sides[1:])
		no["a digest of 31 bytes"] = kept{r.index, r.piece, with(r.path, 0, r.path[0][:31])}.text()
		no["a digest of 33 bytes"] = kept{r.index, r.piece, with(r.path, 0, r.path[0]+"x")}.text()
		no["another digest"] = kept{r.index, r.piece, with(r.path, 0, turned(r.path[0], 9))}.text()
	}
	for _, index := range []int64{-1, r.index + 1, r.index - 1, 64, 1 << 32, math.MaxInt64, math.MinInt64} {
		no["the index "+strconv.FormatInt(index, 10)] = kept{index, r.piece, r.path}.text()
	}
	no["another piece"] = kept{r.index, r.piece + "x", r.path}.text()
	no["an empty piece"] = kept{r.index, "", r.path}.text()
	no["a piece too long to fit"] = kept{r.index, strings.Repeat("p", 101), r.path}.text()
	return no
}

// What is no record that fits ends a log wherever it stands, whatever stands behind it.
func TestLogsWithWhatIsNoRecord(t *testing.T) {
	for _, many := range []int{1, 2, 3, 5} {
		l, records := keptFile(someFile(many*2), 2)
		last := records[many-1]
		ahead := wantLog(records[:many-1]...)
		for what, no := range noRecords(last) {
			for _, log := range []string{ahead + no, ahead + no + last.text(), no + ahead} {
				for _, synced := range []int64{0, int64(len(ahead)), int64(len(log))} {
					keepJudged(t, what, impl.Keep{List: l, Log: log, Synced: synced})
				}
			}
			k := impl.Keep{List: l, Log: ahead + no + last.text(), Synced: 3}
			if impl.KeepRight(k) {
				t.Errorf("%s: a keep of %d pieces is right", what, many)
			}
			sameKeep(t, what, impl.KeepRecover(k), impl.Keep{List: l, Log: ahead, Synced: int64(len(ahead))})
			sameKeep(t, what, impl.KeepSync(k), k)
		}
	}
}

func TestLogsWithAnIndexTwice(t *testing.T) {
	l, records := keptFile("abcdefghi", 2)
	for _, first := range records {
		for _, second := range records {
			if first.index == second.index {
				continue
			}
			ahead := wantLog(first, second)
			for _, r := range []kept{first, second} {
				k := impl.Keep{List: l, Log: ahead + r.text() + records[4].text()}
				if impl.KeepRight(k) {
					t.Errorf("index %d is there twice", r.index)
				}
				keepJudged(t, "an index twice", k)
				sameKeep(t, "an index twice", impl.KeepRecover(k), impl.Keep{List: l, Log: ahead, Synced: int64(len(ahead))})
			}
		}
	}
	// One piece at two indexes is there at both.
	l, records = keptFile("ababab", 2)
	k := added(t, impl.KeepNew(l), records[1], records[0])
	if records[0].piece != records[1].piece || !impl.KeepRight(k) {
		t.Error("one piece at two indexes is not right")
	}
	sameThere(t, "one piece at two indexes", k, records[:2])
}

func TestLogsCutAndLengthened(t *testing.T) {
	l, records := keptFile("abcde", 2)
	log := wantLog(records[1], records[2], records[0])
	ends := map[int]int{0: 1, len(records[1].text()): 1, len(wantLog(records[1], records[2])): 1, len(log): 1}
	for end := range len(log) + 1 {
		k := impl.Keep{List: l, Log: log[:end], Synced: int64(end) / 2}
		if got := impl.KeepRight(k); got != (ends[end] > 0) {
			t.Errorf("a log cut at %d: right %t", end, got)
		}
		keepJudged(t, "a log that is cut", k)
		if end > 0 {
			keepJudged(t, "a log whose beginning is cut", impl.Keep{List: l, Log: log[end:]})
		}
	}
	for _, more := range []string{"\x00", "\x01", "\x80", "\xff", "x", records[1].text(), log, strings.Repeat("\x00", 7000), strings.Repeat("\xff", 7000)} {
		k := impl.Keep{List: l, Log: log + more, Synced: 1}
		if impl.KeepRight(k) {
			t.Errorf("a log with %d bytes behind it is right", len(more))
		}
		keepJudged(t, "bytes behind the last record", k)
		sameKeep(t, "bytes behind the last record", impl.KeepRecover(k), impl.Keep{List: l, Log: log, Synced: int64(len(log))})
	}
}

func TestLogsWithOneByteTurned(t *testing.T) {
	l, records := keptFile("abcde", 2)
	order := []kept{records[2], records[0], records[1]}
	log := wantLog(order...)
	for i := range len(log) {
		ahead := ""
		for _, r := range order {
			if len(ahead)+len(r.text()) > i {
				break
			}
			ahead += r.text()
		}
		for bit := range 8 {
			b := []byte(log)
			b[i] ^= 1 << bit
			k := impl.Keep{List: l, Log: string(b), Synced: int64(i)}
			if impl.KeepRight(k) {
				t.Errorf("byte %d is turned, and the keep is right", i)
			}
			sameKeep(t, "one byte turned", impl.KeepRecover(k), impl.Keep{List: l, Log: ahead, Synced: int64(len(ahead))})
			if bit == i%8 {
				keepJudged(t, "one byte turned", k)
			}
		}
		keepJudged(t, "one byte taken out", impl.Keep{List: l, Log: log[:i] + log[i+1:]})
		keepJudged(t, "one byte put in", impl.Keep{List: l, Log: log[:i] + "\x01" + log[i:]})
	}
}

func TestSync(t *testing.T) {
	l, records := keptFile("abcde", 2)
	k := impl.KeepNew(l)
	sameKeep(t, "an empty log", impl.KeepSync(k), k)
	for _, r := range records {
		k = added(t, k, r)
		for _, synced := range []int64{0, 1, k.Synced, int64(len(k.Log)) - 1, int64(len(k.Log))} {
			some := impl.Keep{List: l, Log: k.Log, Synced: synced}
			sameKeep(t, "KeepSync", impl.KeepSync(some), impl.Keep{List: l, Log: k.Log, Synced: int64(len(k.Log))})
		}
		sameKeep(t, "KeepSync again", impl.KeepSync(impl.KeepSync(k)), impl.KeepSync(k))
	}
	for _, wrong := range []impl.Keep{{}, {Synced: 4}, {Log: k.Log}, {List: l, Log: k.Log, Synced: -1}, {List: l, Log: k.Log, Synced: int64(len(k.Log)) + 1}, {List: l, Log: k.Log[1:], Synced: 2}, {List: l, Log: k.Log + "x"}, {List: l, Log: strings.Repeat("x", 8001)}} {
		sameKeep(t, "KeepSync of a keep that is not right", impl.KeepSync(wrong), wrong)
	}
}

// A crash looks at no more than how much is synced.
func TestCrashKnown(t *testing.T) {
	long := strings.Repeat("0123456789", 900)
	for _, l := range []impl.List{{}, {Size: 5, Block: 2, Root: wantDigest("root")}, {Size: -1, Block: 99, Root: "r"}} {
		k := impl.Keep{List: l, Log: "0123456789", Synced: 4}
		for _, c := range []struct {
			keep int64
			log  string
		}{
			{math.MinInt64, "0123"}, {-5, "0123"}, {-1, "0123"}, {0, "0123"}, {1, "01234"}, {5, "012345678"}, {6, "0123456789"}, {7, "0123456789"},
			{10, "0123456789"}, {1 << 32, "0123456789"}, {math.MaxInt64 - 4, "0123456789"}, {math.MaxInt64 - 3, "0123456789"}, {math.MaxInt64, "0123456789"},
		} {
			sameKeep(t, "KeepCrash "+strconv.FormatInt(c.keep, 10), impl.KeepCrash(k, c.keep), impl.Keep{List: l, Log: c.log, Synced: int64(len(c.log))})
			for _, synced := range []int64{-1, -4, 11, 12, 1 << 32, math.MaxInt64, math.MinInt64} {
				other := impl.Keep{List: l, Log: "0123456789", Synced: synced}
				sameKeep(t, "KeepCrash of too much or too little synced", impl.KeepCrash(other, c.keep), other)
			}
			none := impl.Keep{List: l}
			sameKeep(t, "KeepCrash of an empty log", impl.KeepCrash(none, c.keep), none)
			all := impl.Keep{List: l, Log: "0123456789", Synced: 10}
			sameKeep(t, "KeepCrash of what is synced", impl.KeepCrash(all, c.keep), all)
		}
		sameKeep(t, "KeepCrash of a long log", impl.KeepCrash(impl.Keep{List: l, Log: long, Synced: 8001}, 9), impl.Keep{List: l, Log: long[:8010], Synced: 8010})
		sameKeep(t, "KeepCrash of a long log", impl.KeepCrash(impl.Keep{List: l, Log: long, Synced: 0}, math.MaxInt64), impl.Keep{List: l, Log: long, Synced: 9000})
	}
}

func TestRecoverKnown(t *testing.T) {
	l, records := keptFile("abcdefgh", 2)
	two := wantLog(records[3], records[1])
	want := impl.Keep{List: l, Log: two, Synced: int64(len(two))}
	cut := records[0].text()
	wrong := kept{0, records[0].piece + "x", records[0].path}
	for what, behind := range map[string]string{
		"nothing": "", "a record cut short": cut[:len(cut)-1], "a record of which one byte is there": cut[:1], "a record that is none": recordIn("x") + cut,
		"a piece that does not fit": wrong.text() + cut, "an index that was there": records[3].text() + cut, "an index that was there just ahead": records[1].text() + cut,
	} {
		for _, synced := range []int64{math.MinInt64, -1, 0, 5, int64(len(two)), int64(len(two + behind)), int64(len(two+behind)) + 1, math.MaxInt64} {
			sameKeep(t, "KeepRecover with "+what+" behind", impl.KeepRecover(impl.Keep{List: l, Log: two + behind, Synced: synced}), want)
		}
	}
	sameKeep(t, "KeepRecover again", impl.KeepRecover(want), want)
	sameKeep(t, "KeepRecover of no record", impl.KeepRecover(impl.Keep{List: l, Log: strings.Repeat("x", 8000), Synced: 9}), impl.Keep{List: l})
	for _, k := range []impl.Keep{{}, {Log: two, Synced: 1}, {List: l, Log: two + strings.Repeat("x", 8001-len(two)), Synced: 7}, {List: impl.List{Size: 8, Block: 2, Root: "short"}, Log: two}} {
		sameKeep(t, "KeepRecover of what is not gone through", impl.KeepRecover(k), k)
	}
}

// Promise 11: behind a crash, wherever it cuts, there are the pieces up to some place, and none that was synced lacks.
func TestCrashLeavesTheFirstPieces(t *testing.T) {
	for _, order := range [][]int{{0, 1, 2, 3}, {3, 1, 0, 2}, {2, 3, 1}, {1}, {}} {
		l, records := keptFile("abcdefg", 2)
		come := picked(records, order)
		for synced := range len(come) + 1 {
			k := added(t, impl.KeepSync(added(t, impl.KeepNew(l), come[:synced]...)), come[synced:]...)
			left := int64(len(k.Log)) - k.Synced
			for keep := int64(-2); keep <= left+2; keep++ {
				there := synced
				for there < len(come) && int64(len(wantLog(come[:there+1]...))) <= k.Synced+keep {
					there++
				}
				log := wantLog(come[:there]...)
				back := impl.KeepRecover(impl.KeepCrash(k, keep))
				sameKeep(t, "behind a crash", back, impl.Keep{List: l, Log: log, Synced: int64(len(log))})
				if keep%16 == 0 || keep >= left {
					sameThere(t, "behind a crash", back, come[:there])
					lost := append(slices.Clone(come[there:]), missing(records, come)...)
					if got := impl.Output(added(t, back, lost...)); got != "abcdefg" {
						t.Errorf("what was lost is added again, and the file is %q", got)
					}
				}
			}
		}
	}
}

// missing are the records whose indexes did not come.
func missing(records []kept, come []kept) []kept {
	return slices.DeleteFunc(slices.Clone(records), func(r kept) bool {
		return slices.ContainsFunc(come, func(c kept) bool { return c.index == r.index })
	})
}

// What was synced within a record is there with the record only as a whole.
func TestCrashWhereSyncedIsWithinARecord(t *testing.T) {
	l, records := keptFile("abcde", 2)
	log := wantLog(records...)
	for synced := range int64(len(log)) + 1 {
		k := impl.Keep{List: l, Log: log, Synced: synced}
		for _, keep := range []int64{-1, 0, 1, 60, math.MaxInt64} {
			crashed := impl.KeepCrash(k, keep)
			keepJudged(t, "behind a crash", crashed)
			back := impl.KeepRecover(crashed)
			sameKeep(t, "behind a crash", back, wantRecover(crashed))
			if !impl.KeepRight(back) || !strings.HasPrefix(log, back.Log) {
				t.Errorf("%d synced, %d kept: what is there behind the crash is not right", synced, keep)
			}
		}
	}
}

// Promise 12, in each order of a few pieces.
func TestOutputInEachOrder(t *testing.T) {
	for _, c := range []cutFile{{"", 1}, {"a", 1}, {"ab", 1}, {"ab", 2}, {"abc", 2}, {"abcde", 2}, {"abcdefg", 2}, {"aaaaaa", 2}, {"ababababa", 2}, {someFile(200), 48}} {
		l, records := keptFile(c.file, c.block)
		eachOrder(len(records), func(order []int) {
			k := impl.KeepNew(l)
			come := picked(records, order)
			for i, r := range come {
				if want := beginning(c.file, c.block, come[:i]); impl.Output(k) != want {
					t.Errorf("the order %v, %d of them there: got %q, want %q", order, i, impl.Output(k), want)
				}
				k = added(t, k, r)
			}
			if got := impl.Output(k); got != c.file {
				t.Errorf("the order %v: got %q, want %q", order, got, c.file)
			}
			sameThere(t, "all pieces", k, records)
		})
	}
}

// Promises 11 and 12, with what does not fit, crashes and syncs between, of longer files.
func TestOutputIsTheBeginningWhateverComes(t *testing.T) {
	draw := rand.New(rand.NewSource(81))
	for _, c := range []cutFile{{someFile(1000), 48}, {someFile(64), 1}, {randomText(draw, 330), 11}, {strings.Repeat("ab", 200), 32}, {someFile(97), 48}} {
		l, records := keptFile(c.file, c.block)
		k := impl.KeepNew(l)
		var there []kept
		for range 150 {
			r := records[draw.Intn(len(records))]
			switch draw.Intn(8) {
			case 0:
				sameAdd(t, "the bad piece", k, kept{r.index, "bad", r.path})
			case 1:
				sameAdd(t, "the piece of another index", k, kept{draw.Int63n(int64(len(records))), r.piece, r.path})
			case 2:
				sameKeep(t, "KeepSync", impl.KeepSync(k), wantSync(k))
				k = wantSync(k)
			case 3:
				crashed := wantCrash(k, draw.Int63n(400)-20)
				k = impl.KeepRecover(crashed)
				sameKeep(t, "KeepRecover", k, wantRecover(crashed))
				there, _ = wantGone(l, k.Log)
			default:
				want := wantAdd(k, r)
				sameAdd(t, "a piece", k, r)
				if want.Code == impl.OK {
					k, there = want.Keep, append(there, r)
				}
			}
			if got, want := impl.Output(k), beginning(c.file, c.block, there); got != want {
				t.Fatalf("%d pieces of %d are there: got %q, want %q", len(there), len(records), got, want)
			}
		}
		sameThere(t, "whatever came", k, there)
	}
}

func TestOutputWithOneThatLacks(t *testing.T) {
	file := someFile(31)
	l, records := keptFile(file, 3)
	for lacks := range records {
		some := slices.Delete(slices.Clone(records), lacks, lacks+1)
		slices.Reverse(some)
		k := added(t, impl.KeepNew(l), some...)
		sameThere(t, "one that lacks", k, some)
		if got := impl.Output(k); got != file[:lacks*3] {
			t.Errorf("without index %d: got %q", lacks, got)
		}
		if got := impl.Output(added(t, k, records[lacks])); got != file {
			t.Errorf("with index %d at last: got %q", lacks, got)
		}
	}
}

// A text that fits may be no piece of a block: it is there, and what is put out ends ahead of it.
func TestOutputOfTextsThatAreNoPieces(t *testing.T) {
	l, records := keptTexts([]string{wantPack("a"), wantPack("b"), "no piece", wantPack("d"), wantPack("")})
	k := added(t, impl.KeepNew(l), records[4], records[2], records[3], records[0], records[1])
	sameThere(t, "texts that fit", k, records)
	if got := impl.Output(k); got != "ab" {
		t.Errorf("Output ahead of what is no piece: %q", got)
	}
	l, records = keptTexts([]string{wantPack("a"), wantPack("bc"), wantPack("d")})
	if got := impl.Output(added(t, impl.KeepNew(l), records...)); got != "a" {
		t.Errorf("Output ahead of a block that is too long: %q", got)
	}
	l, records = keptTexts([]string{"", wantPack("b")})
	k = added(t, impl.KeepNew(l), records...)
	sameThere(t, "an empty text that fits", k, records)
	if got := impl.Output(k); got != "" {
		t.Errorf("Output behind an empty text: %q", got)
	}
}

func TestKeepOfTheEmptyFile(t *testing.T) {
	for _, root := range []string{wantDigest(""), wantDigest("\x00"), wantDigest("\x00" + wantPack(""))} {
		k := impl.KeepNew(impl.List{Block: 2, Root: root})
		if !impl.KeepRight(k) || len(impl.Have(k)) != 0 || impl.Output(k) != "" {
			t.Error("the keep of the empty file is not right, or not empty")
		}
		keepJudged(t, "the empty file", k)
		for _, piece := range []string{"", wantPack("")} {
			for _, index := range []int64{-1, 0, 1} {
				refusedAdd(t, "a piece of the empty file", k, kept{index, piece, nil}, impl.ErrSum)
				log := impl.Keep{List: k.List, Log: kept{index, piece, nil}.text()}
				keepJudged(t, "a record of the empty file", log)
				sameKeep(t, "a record of the empty file", impl.KeepRecover(log), k)
			}
		}
	}
}

// What is handed in stays as it is, and what is told is nobody else's.
func TestKeepCallsChangeNothing(t *testing.T) {
	l, records := keptFile(someFile(30), 2)
	path := append(slices.Clone(records[5].path), "behind")
	was := slices.Clone(path)
	k := added(t, impl.KeepNew(l), records[9], records[2])
	before := k
	short := path[:len(path)-1]
	out := impl.KeepAdd(k, 5, records[5].piece, short)
	for i := range short {
		if path[i] != was[i] {
			t.Error("the path that was handed in is changed")
		}
		path[i] = "turned"
	}
	if path[len(short)] != "behind" {
		t.Error("what stands behind the path is changed")
	}
	sameKeepOut(t, "the path is changed behind the call", out, wantAdd(before, records[5]))
	one, two := impl.Have(out.Keep), impl.Have(out.Keep)
	for i := range one {
		one[i] = -7
	}
	sameNums(t, "another Have", two, []int64{2, 5, 9})
	sameNums(t, "Have once more", impl.Have(out.Keep), []int64{2, 5, 9})
	sameKeep(t, "the keep that was handed in", k, before)
}
