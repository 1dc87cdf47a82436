package tests

import (
	"fmt"
	"math"
	"math/rand"
	"regexp"
	"slices"
	"strconv"
	"strings"
	"testing"

	"loop.example/g00550/impl"
)

var nameForm = regexp.MustCompile(`^[a-z][a-z0-9_]{0,19}$`)

func wantOtherRight(o impl.Other, count int64) bool {
	seen := map[int64]int{}
	for i, index := range o.Has {
		seen[index]++
		if index < 0 || index >= count || seen[index] > 1 || index != slices.Max(o.Has[:i+1]) {
			return false
		}
	}
	asks := o.Asked == 0 && o.Age == 0 || o.Asked >= 1 && o.Asked <= count && slices.Contains([]int64{0, 1, 2, 3}, o.Age)
	struck := slices.Contains([]int64{0, 1, 2}, o.Strikes) || o.Strikes == 3 && len(o.Has) == 0 && o.Asked == 0
	return nameForm.MatchString(o.Name) && asks && struck
}

func wantPeerRight(p impl.Peer) bool {
	if !wantKeepRight(p.Keep) || len(p.Others) > 4 {
		return false
	}
	var names []string
	for _, o := range p.Others {
		if !wantOtherRight(o, wantCount(p.Keep.List.Size, p.Keep.List.Block)) {
			return false
		}
		names = append(names, o.Name)
	}
	return slices.IsSorted(names) && len(slices.Compact(names)) == len(p.Others)
}

func copyPeer(p impl.Peer) impl.Peer {
	others := slices.Clone(p.Others)
	for i := range others {
		others[i].Has = slices.Clone(others[i].Has)
	}
	return impl.Peer{Keep: p.Keep, Others: others}
}

// thereIn are the records of a keep, by their index.
func thereIn(k impl.Keep) map[int64]kept {
	records, _ := wantGone(k.List, k.Log)
	there := map[int64]kept{}
	for _, r := range records {
		there[r.index] = r
	}
	return there
}

func word(kind int64, index int64) impl.Say {
	return impl.Say{Kind: kind, Index: index}
}

func pieceWord(r kept) impl.Say {
	return impl.Say{Kind: impl.SyPiece, Index: r.index, Piece: r.piece, Path: r.path}
}

// toEach is a word to each other that is not banned.
func toEach(others []impl.Other, m impl.Say) []impl.Sent {
	var sent []impl.Sent
	for _, o := range others {
		if o.Strikes < 3 {
			sent = append(sent, impl.Sent{To: o.Name, Say: m})
		}
	}
	return sent
}

func wantMeet(p impl.Peer, name string) impl.PeerOut {
	if len(name) > 8000 {
		return impl.PeerOut{Code: impl.ErrSize}
	}
	if !wantPeerRight(p) || !nameForm.MatchString(name) {
		return impl.PeerOut{Code: impl.ErrForm}
	}
	if slices.ContainsFunc(p.Others, func(o impl.Other) bool { return o.Name == name }) {
		return impl.PeerOut{Code: impl.ErrThere}
	}
	if len(p.Others) == 4 {
		return impl.PeerOut{Code: impl.ErrFull}
	}
	out := impl.PeerOut{Peer: copyPeer(p)}
	out.Peer.Others = append(out.Peer.Others, impl.Other{Name: name})
	slices.SortFunc(out.Peer.Others, func(a, b impl.Other) int { return strings.Compare(a.Name, b.Name) })
	there := thereIn(p.Keep)
	for index := range int64(64) {
		if _, is := there[index]; is {
			out.Sent = append(out.Sent, impl.Sent{To: name, Say: word(impl.SyHave, index)})
		}
	}
	return out
}

// wantPiece is what a piece does that comes from who may be heard.
func wantPiece(out *impl.PeerOut, o *impl.Other, m impl.Say) {
	k := out.Peer.Keep
	r := kept{m.Index, m.Piece, m.Path}
	fits, asked := wantFit(k.List, r), o.Asked-1 == m.Index
	if asked {
		o.Asked, o.Age = 0, 0
	}
	if !fits {
		o.Strikes++
		if o.Strikes == 3 {
			*o = impl.Other{Name: o.Name, Strikes: 3}
		}
	}
	_, is := thereIn(k)[m.Index]
	if more := k.Log + r.text(); fits && asked && !is && len(more) <= 8000 {
		out.Peer.Keep = impl.Keep{List: k.List, Log: more, Synced: int64(len(more))}
		out.Sent = toEach(out.Peer.Others, word(impl.SyHave, m.Index))
	}
}

func wantHear(p impl.Peer, from string, m impl.Say) impl.PeerOut {
	at := slices.IndexFunc(p.Others, func(o impl.Other) bool { return o.Name == from })
	switch {
	case len(from) > 8000:
		return impl.PeerOut{Code: impl.ErrSize}
	case !wantPeerRight(p):
		return impl.PeerOut{Code: impl.ErrForm}
	case at < 0:
		return impl.PeerOut{Code: impl.ErrNone}
	}
	out := impl.PeerOut{Peer: copyPeer(p)}
	o := &out.Peer.Others[at]
	if o.Strikes == 3 || m.Index < 0 || m.Index >= wantCount(p.Keep.List.Size, p.Keep.List.Block) {
		return out
	}
	without := slices.DeleteFunc(slices.Clone(o.Has), func(index int64) bool { return index == m.Index })
	switch m.Kind {
	case 1:
		o.Has = append(without, m.Index)
		slices.Sort(o.Has)
	case 2:
		say := word(impl.SyNo, m.Index)
		if r, is := thereIn(p.Keep)[m.Index]; is {
			say = pieceWord(r)
		}
		out.Sent = []impl.Sent{{To: from, Say: say}}
	case 3:
		wantPiece(&out, o, m)
	case 4:
		o.Has = without
		if o.Asked-1 == m.Index {
			o.Asked, o.Age = 0, 0
		}
	}
	return out
}

// wantAsk puts all that may be asked of an other in a row, the best one first; -1, if there is nothing.
func wantAsk(p impl.Peer, o impl.Other, draw int64) int64 {
	count := wantCount(p.Keep.List.Size, p.Keep.List.Block)
	there := thereIn(p.Keep)
	owners := map[int64]int64{}
	asked := map[int64]int64{}
	for _, other := range p.Others {
		asked[other.Asked-1]++
		for _, index := range other.Has {
			owners[index]++
		}
	}
	var row [][]int64
	for _, index := range o.Has {
		if _, is := there[index]; !is && asked[index] == 0 {
			row = append(row, []int64{owners[index], (index - draw%count + count) % count, index})
		}
	}
	if len(row) == 0 {
		return -1
	}
	slices.SortFunc(row, slices.Compare)
	return row[0][2]
}

func wantTick(p impl.Peer, draw int64) impl.PeerOut {
	if !wantPeerRight(p) || draw < 0 || draw > 1000000 {
		return impl.PeerOut{Code: impl.ErrForm}
	}
	out := impl.PeerOut{Peer: copyPeer(p)}
	others := out.Peer.Others
	for i, o := range others {
		if o.Asked > 0 && o.Age == 3 {
			others[i].Asked, others[i].Age = 0, 0
		} else if o.Asked > 0 {
			others[i].Age++
		}
	}
	for i := range others {
		o := &others[(int(draw)+i)%len(others)]
		if o.Asked > 0 || o.Strikes == 3 {
			continue
		}
		if index := wantAsk(out.Peer, *o, draw); index >= 0 {
			o.Asked = index + 1
			out.Sent = append(out.Sent, impl.Sent{To: o.Name, Say: word(impl.SyAsk, index)})
		}
	}
	if count := wantCount(p.Keep.List.Size, p.Keep.List.Block); count > 0 {
		if _, is := thereIn(p.Keep)[draw%count]; is {
			out.Sent = append(out.Sent, toEach(others, word(impl.SyHave, draw%count))...)
		}
	}
	return out
}

func wantBanned(p impl.Peer) []string {
	var names []string
	for _, o := range p.Others {
		if wantPeerRight(p) && o.Strikes == 3 {
			names = append(names, o.Name)
		}
	}
	return names
}

// toldOut tells all of an answer but the whole log; an empty list and none are the same in it.
func toldOut(out impl.PeerOut) string {
	var b strings.Builder
	fmt.Fprintf(&b, "code %d; %s; others", out.Code, toldKeep(out.Peer.Keep))
	for _, o := range out.Peer.Others {
		fmt.Fprintf(&b, " %q(has %v, asked %d, age %d, strikes %d)", o.Name, o.Has, o.Asked, o.Age, o.Strikes)
	}
	b.WriteString("; sent")
	for _, s := range out.Sent {
		fmt.Fprintf(&b, " %q(%d of %d, piece %q, path %x)", s.To, s.Say.Kind, s.Say.Index, s.Say.Piece, s.Say.Path)
	}
	return b.String()
}

func samePeerOut(t *testing.T, what string, got impl.PeerOut, want impl.PeerOut) {
	t.Helper()
	if got.Peer.Keep != want.Peer.Keep || toldOut(got) != toldOut(want) {
		t.Errorf("%s:\n got %s\nwant %s", what, toldOut(got), toldOut(want))
	}
}

// roomy copies a list, with room behind it in which marks stand.
func roomy[T any](list []T, mark T) []T {
	wide := append(append([]T(nil), list...), mark, mark, mark)
	return wide[:len(list)]
}

func roomyPeer(p impl.Peer) impl.Peer {
	room := impl.Peer{Keep: p.Keep, Others: roomy(p.Others, impl.Other{Name: "mark"})}
	for i := range room.Others {
		room.Others[i].Has = roomy(p.Others[i].Has, -77)
	}
	return room
}

// allOf tells what was handed in, with what stands in the room behind each list.
func allOf(p impl.Peer, m impl.Say) string {
	text := fmt.Sprintf("%q %+v %q %q", p.Keep.Log, m, m.Path, m.Path[:cap(m.Path)])
	for _, o := range p.Others[:cap(p.Others)] {
		text += fmt.Sprintf(" %+v %v", o, o.Has[:cap(o.Has)])
	}
	return text
}

// markAll fills a list, and the room behind it.
func markAll[T any](list []T, mark T) {
	list = list[:cap(list)]
	for i := range list {
		list[i] = mark
	}
}

func copyOut(out impl.PeerOut) impl.PeerOut {
	sent := slices.Clone(out.Sent)
	for i := range sent {
		sent[i].Say.Path = slices.Clone(sent[i].Say.Path)
	}
	return impl.PeerOut{Peer: copyPeer(out.Peer), Sent: sent, Code: out.Code}
}

// ownLists marks each list of an answer, and looks whether the marks of one stand in another.
func ownLists(t *testing.T, what string, out impl.PeerOut) {
	t.Helper()
	for i, o := range out.Peer.Others {
		markAll(o.Has, int64(-100-i))
	}
	for i, s := range out.Sent {
		markAll(s.Say.Path, strconv.Itoa(i))
	}
	for i, o := range out.Peer.Others {
		if slices.ContainsFunc(o.Has, func(n int64) bool { return n != int64(-100-i) }) {
			t.Errorf("%s: what two others have is one list", what)
		}
	}
	for i, s := range out.Sent {
		if slices.ContainsFunc(s.Say.Path, func(text string) bool { return text != strconv.Itoa(i) }) {
			t.Errorf("%s: two paths are one list", what)
		}
	}
}

// answered holds a call's answer against what it has to be, and asks that nothing that was handed in is changed or shared.
func answered(t *testing.T, what string, p impl.Peer, m impl.Say, want impl.PeerOut, call func(p impl.Peer, m impl.Say) impl.PeerOut) impl.PeerOut {
	t.Helper()
	room, say := roomyPeer(p), m
	say.Path = roomy(m.Path, "mark")
	before := allOf(room, say)
	out := call(room, say)
	samePeerOut(t, what, out, want)
	if allOf(room, say) != before {
		t.Errorf("%s: what was handed in is changed", what)
	}
	back := copyOut(out)
	for _, o := range room.Others {
		markAll(o.Has, -99)
	}
	markAll(room.Others, impl.Other{Name: "turned"})
	markAll(say.Path, "turned")
	if toldOut(out) != toldOut(back) {
		t.Errorf("%s: the answer shares memory with what was handed in", what)
	}
	ownLists(t, what, out)
	return back
}

func met(t *testing.T, what string, p impl.Peer, name string) impl.PeerOut {
	t.Helper()
	return answered(t, what, p, impl.Say{}, wantMeet(p, name), func(p impl.Peer, m impl.Say) impl.PeerOut { return impl.Meet(p, name) })
}

func heard(t *testing.T, what string, p impl.Peer, from string, m impl.Say) impl.PeerOut {
	t.Helper()
	return answered(t, what, p, m, wantHear(p, from, m), func(p impl.Peer, m impl.Say) impl.PeerOut { return impl.Hear(p, from, m) })
}

func ticked(t *testing.T, what string, p impl.Peer, draw int64) impl.PeerOut {
	t.Helper()
	return answered(t, what, p, impl.Say{}, wantTick(p, draw), func(p impl.Peer, m impl.Say) impl.PeerOut { return impl.Tick(p, draw) })
}

// peerWith is a peer that has put away some records, of which all are synced.
func peerWith(l impl.List, there []kept, others ...impl.Other) impl.Peer {
	log := wantLog(there...)
	return impl.Peer{Keep: impl.Keep{List: l, Log: log, Synced: int64(len(log))}, Others: others}
}

// somePeer has two of five pieces, and four others, of whom one is banned.
func somePeer() (impl.Peer, []kept) {
	l, records := keptFile("abcdefghi", 2)
	return peerWith(l, []kept{records[3], records[0]},
		impl.Other{Name: "ann", Has: []int64{1, 3}, Asked: 2, Age: 2},
		impl.Other{Name: "bob", Has: []int64{0, 4}, Asked: 5, Strikes: 2},
		impl.Other{Name: "cid", Strikes: 3},
		impl.Other{Name: "dot", Has: []int64{0, 1, 2, 3, 4}, Strikes: 1},
	), records
}

// otherTurned is a peer with one other changed; the peer itself stays as it is.
func otherTurned(p impl.Peer, at int, turn func(o *impl.Other)) impl.Peer {
	p = copyPeer(p)
	turn(&p.Others[at])
	return p
}

// peerEdge is a peer, and whether that is right.
type peerEdge struct {
	what  string
	peer  impl.Peer
	right bool
}

// otherEdges are others of a list of five pieces, at what is right and just beside it.
func otherEdges() map[bool][]impl.Other {
	a := "a"
	has := func(indexes ...int64) []int64 { return indexes }
	return map[bool][]impl.Other{
		true: {
			{Name: a}, {Name: "a_9"}, {Name: strings.Repeat("a", 20)}, {Name: a, Has: []int64{}}, {Name: a, Has: has(0)}, {Name: a, Has: has(4)}, {Name: a, Has: has(0, 4)},
			{Name: a, Has: has(0, 1, 2, 3, 4)}, {Name: a, Asked: 1}, {Name: a, Asked: 5}, {Name: a, Asked: 1, Age: 1}, {Name: a, Asked: 5, Age: 3},
			{Name: a, Has: has(2), Asked: 2}, {Name: a, Strikes: 1}, {Name: a, Has: has(1), Asked: 2, Age: 3, Strikes: 2}, {Name: a, Strikes: 3}, {Name: a, Has: []int64{}, Strikes: 3},
		},
		false: {
			{}, {Name: "A"}, {Name: "9"}, {Name: "_a"}, {Name: "a b"}, {Name: "a\n"}, {Name: strings.Repeat("a", 21)}, {Name: strings.Repeat("a", 8001)},
			{Name: a, Has: has(-1)}, {Name: a, Has: has(5)}, {Name: a, Has: has(0, 5)}, {Name: a, Has: has(-1, 0)}, {Name: a, Has: has(1, 0)}, {Name: a, Has: has(2, 2)}, {Name: a, Has: has(0, 0)},
			{Name: a, Has: has(0, 2, 1)}, {Name: a, Has: has(0, 1, 2, 3, 4, 5)}, {Name: a, Has: has(0, 1, 2, 3, 4, 4)}, {Name: a, Has: make([]int64, 401)}, {Name: a, Has: has(math.MaxInt64)},
			{Name: a, Has: has(math.MinInt64)}, {Name: a, Asked: -1}, {Name: a, Asked: 6}, {Name: a, Asked: math.MaxInt64}, {Name: a, Asked: math.MinInt64}, {Name: a, Asked: 1, Age: -1},
			{Name: a, Asked: 1, Age: 4}, {Name: a, Age: 1}, {Name: a, Age: 3}, {Name: a, Age: -1}, {Name: a, Asked: 1, Age: math.MaxInt64}, {Name: a, Asked: 1, Age: math.MinInt64}, {Name: a, Strikes: -1}, {Name: a, Strikes: 4},
			{Name: a, Strikes: math.MaxInt64}, {Name: a, Strikes: math.MinInt64}, {Name: a, Has: has(0), Strikes: 3}, {Name: a, Asked: 1, Strikes: 3}, {Name: a, Has: has(1), Asked: 2, Age: 1, Strikes: 3},
			{Name: a, Asked: -1, Strikes: 3}, {Name: a, Age: 1, Strikes: 3}, {Name: a, Has: has(0), Strikes: 4},
		},
	}
}

func named(names ...string) []impl.Other {
	var others []impl.Other
	for _, name := range names {
		others = append(others, impl.Other{Name: name})
	}
	return others
}

func peerEdges() []peerEdge {
	p, records := somePeer()
	l, k := p.Keep.List, p.Keep
	edges := []peerEdge{{"some peer", p, true}, {"nobody", peerWith(l, nil), true}, {"the zero peer", impl.Peer{}, false}, {"no list", impl.Peer{Others: p.Others}, false}}
	for _, wrong := range []impl.Keep{
		{List: l, Log: k.Log, Synced: -1}, {List: l, Log: k.Log, Synced: k.Synced + 1}, {List: l, Log: k.Log[1:]}, {List: l, Log: k.Log + "x"}, {List: l, Log: turned(k.Log, 9)},
		{List: l, Log: k.Log + records[0].text()}, {List: impl.List{Size: 9, Block: 2}, Log: k.Log}, {List: l, Log: strings.Repeat("x", 8001)},
	} {
		edges = append(edges, peerEdge{"a keep that is not right", impl.Peer{Keep: wrong, Others: p.Others}, false}, peerEdge{"a keep that is not right, and nobody", impl.Peer{Keep: wrong}, false})
	}
	for right, others := range otherEdges() {
		for _, o := range others {
			edges = append(edges, peerEdge{fmt.Sprintf("one other %.200v", o), peerWith(l, records[:2], o), right})
			others := []impl.Other{{Name: "b"}, {Name: "c", Has: []int64{0, 4}}, {Name: "d", Asked: 3, Age: 2}}
			edges = append(edges, peerEdge{fmt.Sprintf("the first of four %.200v", o), peerWith(l, nil, slices.Insert(others, 0, o)...), right})
			if o.Name == "a" {
				o.Name = "z"
				edges = append(edges, peerEdge{fmt.Sprintf("the last of four %.200v", o), peerWith(l, nil, append(others, o)...), right})
			}
		}
	}
	for _, names := range [][]string{{"a", "b", "c", "d"}, {"a", "a0", "a_", "aa"}, {"a", "z"}, {"ab", "b"}} {
		edges = append(edges, peerEdge{"names that rise", peerWith(l, nil, named(names...)...), true})
	}
	for _, names := range [][]string{{"a", "b", "c", "d", "e"}, {"b", "a"}, {"a", "a"}, {"a", "c", "b"}, {"a", "b", "b"}, {"a", "b", "c", "c"}, {"b", "ab"}, {"aa", "a"}, {"a_", "a0"}, {"a", ""}, {"a", "b", "c", "D"}} {
		edges = append(edges, peerEdge{"names that are none, are too many or do not rise", peerWith(l, nil, named(names...)...), false})
	}
	empty := impl.List{Block: 2, Root: wantDigest("")}
	edges = append(edges, peerEdge{"the empty file", peerWith(empty, nil, impl.Other{Name: "a"}, impl.Other{Name: "b", Strikes: 3}), true})
	for _, o := range []impl.Other{{Name: "a", Has: []int64{0}}, {Name: "a", Asked: 1}, {Name: "a", Has: []int64{-1}}} {
		edges = append(edges, peerEdge{"what is not in the empty file", peerWith(empty, nil, o), false})
	}
	twice := []impl.Other{{Name: "a", Asked: 2, Age: 1}, {Name: "b", Asked: 2, Has: []int64{1}}, {Name: "c", Asked: 1}}
	edges = append(edges, peerEdge{"one index asked of two, one that is there asked", peerWith(l, records[:1], twice...), true})
	return append(edges, peerEdge{"very many others", peerWith(l, nil, make([]impl.Other, 401)...), false})
}

func TestPeerRight(t *testing.T) {
	for _, e := range peerEdges() {
		if wantPeerRight(e.peer) != e.right {
			t.Fatalf("%s: right is not %t", e.what, e.right)
		}
		room := roomyPeer(e.peer)
		before := allOf(room, impl.Say{})
		if got := impl.PeerRight(room); got != e.right {
			t.Errorf("%s: PeerRight is %t", e.what, got)
		}
		sameTexts(t, e.what+": Banned", impl.Banned(room), wantBanned(e.peer))
		if allOf(room, impl.Say{}) != before {
			t.Errorf("%s: what was handed in is changed", e.what)
		}
	}
}

// With a peer that is not right that is told ahead of all but a text that is too long.
func TestCallsOfWrongPeers(t *testing.T) {
	none := impl.PeerOut{Code: impl.ErrForm}
	for _, e := range peerEdges() {
		if e.right {
			continue
		}
		names := []string{"a", "zoe", "", "A", strings.Repeat("a", 21), strings.Repeat("a", 8000)}
		for _, o := range e.peer.Others[:min(len(e.peer.Others), 5)] {
			if len(o.Name) <= 8000 {
				names = append(names, o.Name)
			}
		}
		for _, name := range names {
			samePeerOut(t, e.what+": Meet", impl.Meet(e.peer, name), none)
			for kind := int64(-1); kind <= 6; kind++ {
				samePeerOut(t, e.what+": Hear", impl.Hear(e.peer, name, word(kind, kind%3)), none)
			}
		}
		for _, draw := range []int64{math.MinInt64, -1, 0, 1, 7, 1000000, 1000001, math.MaxInt64} {
			samePeerOut(t, e.what+": Tick", impl.Tick(e.peer, draw), none)
		}
		long := strings.Repeat("a", 8001)
		samePeerOut(t, e.what+": Meet of a long name", impl.Meet(e.peer, long), impl.PeerOut{Code: impl.ErrSize})
		samePeerOut(t, e.what+": Hear of a long name", impl.Hear(e.peer, long, word(1, 0)), impl.PeerOut{Code: impl.ErrSize})
		sameTexts(t, e.what+": Banned", impl.Banned(e.peer), nil)
	}
}

func TestCallsOfRightPeers(t *testing.T) {
	for _, e := range peerEdges() {
		if !e.right {
			continue
		}
		for _, name := range []string{"a", "ann", "b", "zoe"} {
			met(t, e.what+": Meet", e.peer, name)
		}
		for draw := range int64(12) {
			ticked(t, e.what+": Tick", e.peer, draw)
		}
		for _, o := range e.peer.Others {
			for kind := int64(0); kind <= 5; kind++ {
				for index := int64(-1); index <= 5; index++ {
					heard(t, e.what+": Hear", e.peer, o.Name, word(kind, index))
				}
			}
		}
	}
}

func TestPeerNew(t *testing.T) {
	for _, l := range rightLists() {
		samePeerOut(t, "PeerNew", impl.PeerNew(l), impl.PeerOut{Peer: impl.Peer{Keep: impl.Keep{List: l}}})
		if p := impl.PeerNew(l).Peer; !impl.PeerRight(p) || len(impl.Banned(p)) != 0 {
			t.Errorf("a new peer of %s is not right, or bans", told(l))
		}
	}
	for _, l := range wrongLists() {
		samePeerOut(t, "PeerNew of "+told(l), impl.PeerNew(l), impl.PeerOut{Code: impl.ErrForm})
	}
}

func TestKindsOfWords(t *testing.T) {
	got := []int64{impl.SyHave, impl.SyAsk, impl.SyPiece, impl.SyNo, impl.MaxOthers, impl.MaxStrikes}
	sameNums(t, "kinds and limits", got, []int64{1, 2, 3, 4, 4, 3})
}

func TestMeetInItsPlace(t *testing.T) {
	l, records := keptFile("abcdefghi", 2)
	known := []impl.Other{{Name: "bob", Has: []int64{1, 2}, Asked: 3, Age: 1, Strikes: 1}, {Name: "dot", Strikes: 3}, {Name: "fay", Has: []int64{4}}}
	p := peerWith(l, []kept{records[4], records[0], records[3]}, known...)
	for at, name := range []string{"ann", "cid", "eva", "gus"} {
		want := impl.PeerOut{Peer: copyPeer(p)}
		want.Peer.Others = slices.Insert(want.Peer.Others, at, impl.Other{Name: name})
		for _, index := range []int64{0, 3, 4} {
			want.Sent = append(want.Sent, impl.Sent{To: name, Say: word(1, index)})
		}
		samePeerOut(t, "Meet "+name, met(t, "Meet "+name, p, name), want)
	}
	for _, names := range [][]string{{"ann", "bob", "cid", "dot"}, {"dot", "cid", "bob", "ann"}, {"b", "ab", "a", "a_"}, {"a_", "a0", "aa", "a"}} {
		p := impl.PeerNew(l).Peer
		for i, name := range names {
			out := met(t, "Meet "+name, p, name)
			rising := slices.Clone(names[:i+1])
			slices.Sort(rising)
			samePeerOut(t, "Meet with no piece", out, impl.PeerOut{Peer: peerWith(l, nil, named(rising...)...)})
			p = out.Peer
		}
	}
}

func TestMeetWhoMayNotBeMet(t *testing.T) {
	four, _ := somePeer()
	three := copyPeer(four)
	three.Others = three.Others[1:]
	noNames := []string{"", "A", "Ann", "9a", "_a", "a b", "a-b", "a\x00", "ann ", "\xc3\xa4", strings.Repeat("a", 21), strings.Repeat("a", 8000)}
	for _, p := range []impl.Peer{four, three, {Keep: four.Keep}} {
		for _, name := range noNames {
			samePeerOut(t, "Meet of no name", met(t, "Meet of no name", p, name), impl.PeerOut{Code: impl.ErrForm})
		}
		for _, bytes := range []int{8001, 9000} {
			samePeerOut(t, "Meet of a long name", met(t, "Meet of a long name", p, strings.Repeat("a", bytes)), impl.PeerOut{Code: impl.ErrSize})
		}
		for _, o := range p.Others {
			samePeerOut(t, "Meet "+o.Name+" again", met(t, "Meet again", p, o.Name), impl.PeerOut{Code: impl.ErrThere})
		}
	}
	for _, name := range []string{"a", "bab", "zoe", strings.Repeat("z", 20)} {
		samePeerOut(t, "Meet a fifth one", met(t, "Meet a fifth one", four, name), impl.PeerOut{Code: impl.ErrFull})
		if out := met(t, "Meet a fourth one", three, name); out.Code != impl.OK || len(out.Peer.Others) != 4 {
			t.Errorf("Meet a fourth one: code %d, %d others", out.Code, len(out.Peer.Others))
		}
	}
}

func TestHearNobody(t *testing.T) {
	p, records := somePeer()
	for _, from := range []string{"", "a", "an", "anna", "Ann", "ann ", "zoe", "bad", strings.Repeat("a", 8000)} {
		for _, m := range []impl.Say{{}, word(1, 2), word(2, 0), word(4, 1), word(1, -1), word(3, 5), pieceWord(records[1]), {Kind: 3, Index: 1, Piece: "bad"}} {
			samePeerOut(t, "Hear "+from, heard(t, "Hear of nobody", p, from, m), impl.PeerOut{Code: impl.ErrNone})
			samePeerOut(t, "Hear without others", heard(t, "Hear without others", impl.Peer{Keep: p.Keep}, from, m), impl.PeerOut{Code: impl.ErrNone})
		}
	}
	samePeerOut(t, "Hear of a long name", heard(t, "Hear of a long name", p, strings.Repeat("a", 8001), word(1, 2)), impl.PeerOut{Code: impl.ErrSize})
}

// allWords are words of each kind and each index, and of those beside them; pieces that fit, and that do not.
func allWords(records []kept) []impl.Say {
	many := int64(len(records))
	var words []impl.Say
	for _, kind := range []int64{math.MinInt64, -1, 0, 1, 2, 3, 4, 5, 6, 1 << 32, 1<<32 + 1, math.MaxInt64} {
		for _, index := range []int64{math.MinInt64, -many, -1, 0, 1, 2, many - 1, many, many + 1, 1 << 32, math.MaxInt64} {
			words = append(words, word(kind, index))
			if index >= 0 && index < many {
				words = append(words, impl.Say{Kind: kind, Index: index, Piece: records[index].piece, Path: records[index].path})
			}
			words = append(words, impl.Say{Kind: kind, Index: index, Piece: records[1].piece, Path: records[1].path})
		}
	}
	return words
}

// Promise 13: who is banned changes nothing, whatever it says, and is told nothing.
func TestBannedChangesNothing(t *testing.T) {
	p, records := somePeer()
	for _, m := range allWords(records) {
		samePeerOut(t, "a banned one", heard(t, "a banned one", p, "cid", m), impl.PeerOut{Peer: p})
	}
	for draw := range int64(25) {
		for _, s := range ticked(t, "Tick", p, draw).Sent {
			if s.To == "cid" {
				t.Errorf("draw %d: %+v is sent to a banned one", draw, s)
			}
		}
	}
}

func TestWordsOfNoIndexAndNoKindDoNothing(t *testing.T) {
	p, records := somePeer()
	for _, from := range []string{"ann", "bob", "dot"} {
		for _, m := range allWords(records) {
			out := heard(t, "any word", p, from, m)
			if m.Kind < 1 || m.Kind > 4 || m.Index < 0 || m.Index > 4 {
				samePeerOut(t, fmt.Sprintf("kind %d of index %d", m.Kind, m.Index), out, impl.PeerOut{Peer: p})
			}
		}
	}
}

func TestHearHave(t *testing.T) {
	p, _ := somePeer()
	for _, c := range []struct {
		at    int
		index int64
		has   []int64
	}{
		{0, 0, []int64{0, 1, 3}}, {0, 1, []int64{1, 3}}, {0, 2, []int64{1, 2, 3}}, {0, 3, []int64{1, 3}}, {0, 4, []int64{1, 3, 4}},
		{1, 0, []int64{0, 4}}, {1, 2, []int64{0, 2, 4}}, {1, 4, []int64{0, 4}}, {3, 0, []int64{0, 1, 2, 3, 4}}, {3, 4, []int64{0, 1, 2, 3, 4}},
	} {
		want := impl.PeerOut{Peer: otherTurned(p, c.at, func(o *impl.Other) { o.Has = c.has })}
		name := p.Others[c.at].Name
		m := impl.Say{Kind: impl.SyHave, Index: c.index, Piece: "any", Path: []string{"any"}}
		samePeerOut(t, "SyHave from "+name, heard(t, "SyHave", p, name, m), want)
	}
	l, _ := keptFile(someFile(64), 1)
	q := peerWith(l, nil, named("ann")...)
	for i := range int64(64) {
		q = heard(t, "SyHave of all", q, "ann", word(1, i*37%64)).Peer
	}
	if len(q.Others[0].Has) != 64 || !impl.PeerRight(q) {
		t.Error("an other has not all that it told of")
	}
}

func TestHearAsk(t *testing.T) {
	p, records := somePeer()
	for _, from := range []string{"ann", "bob", "dot"} {
		for index := range int64(5) {
			say := word(impl.SyNo, index)
			if index == 0 || index == 3 {
				say = impl.Say{Kind: impl.SyPiece, Index: index, Piece: records[index].piece, Path: records[index].path}
			}
			m := impl.Say{Kind: impl.SyAsk, Index: index, Piece: "any", Path: []string{"any", ""}}
			samePeerOut(t, "SyAsk", heard(t, "SyAsk", p, from, m), impl.PeerOut{Peer: p, Sent: []impl.Sent{{To: from, Say: say}}})
		}
	}
	one, alone := keptFile("ab", 2)
	out := heard(t, "SyAsk of a piece without a path", peerWith(one, alone, named("ann")...), "ann", word(2, 0))
	samePeerOut(t, "SyAsk of a piece without a path", out, impl.PeerOut{Peer: out.Peer, Sent: []impl.Sent{{To: "ann", Say: impl.Say{Kind: 3, Piece: alone[0].piece}}}})
	// What is there and not yet synced is handed out as well.
	p.Keep.Synced = 0
	samePeerOut(t, "SyAsk of what is not synced", heard(t, "SyAsk", p, "ann", word(2, 3)), impl.PeerOut{Peer: p, Sent: []impl.Sent{{To: "ann", Say: pieceWord(records[3])}}})
}

func TestHearNo(t *testing.T) {
	p, _ := somePeer()
	for what, c := range map[string]struct {
		at    int
		index int64
		want  impl.Other
	}{
		"of what was asked":                    {0, 1, impl.Other{Name: "ann", Has: []int64{3}}},
		"of what it has and was not asked":     {0, 3, impl.Other{Name: "ann", Has: []int64{1}, Asked: 2, Age: 2}},
		"of what it does not have":             {0, 2, impl.Other{Name: "ann", Has: []int64{1, 3}, Asked: 2, Age: 2}},
		"of the first one, not asked":          {0, 0, impl.Other{Name: "ann", Has: []int64{1, 3}, Asked: 2, Age: 2}},
		"of the last one, asked":               {1, 4, impl.Other{Name: "bob", Has: []int64{0}, Strikes: 2}},
		"of the first one, which it has":       {1, 0, impl.Other{Name: "bob", Has: []int64{4}, Asked: 5, Strikes: 2}},
		"of one in the midst, where all is":    {3, 2, impl.Other{Name: "dot", Has: []int64{0, 1, 3, 4}, Strikes: 1}},
		"of what was asked of another":         {3, 1, impl.Other{Name: "dot", Has: []int64{0, 2, 3, 4}, Strikes: 1}},
		"of what is asked, and is not its own": {3, 4, impl.Other{Name: "dot", Has: []int64{0, 1, 2, 3}, Strikes: 1}},
	} {
		want := impl.PeerOut{Peer: otherTurned(p, c.at, func(o *impl.Other) { *o = c.want })}
		m := impl.Say{Kind: impl.SyNo, Index: c.index, Piece: "any", Path: []string{"any"}}
		samePeerOut(t, "SyNo "+what, heard(t, "SyNo", p, c.want.Name, m), want)
	}
	asked := otherTurned(p, 0, func(o *impl.Other) { o.Has = nil })
	want := otherTurned(asked, 0, func(o *impl.Other) { o.Asked, o.Age = 0, 0 })
	samePeerOut(t, "SyNo of what was asked and it does not have", heard(t, "SyNo", asked, "ann", word(4, 1)), impl.PeerOut{Peer: want})
}

// badPieces are words with pieces that do not fit, of the index of a record that does.
func badPieces(l impl.List, r kept) map[string]impl.Say {
	say := func(piece string, path []string) impl.Say {
		return impl.Say{Kind: impl.SyPiece, Index: r.index, Piece: piece, Path: path}
	}
	bad := map[string]impl.Say{
		"nothing": word(3, r.index), "bad": say("bad", r.path), "no path": say(r.piece, nil), "no piece": say("", r.path), "a byte more": say(r.piece+"x", r.path),
		"a byte less": say(r.piece[:len(r.piece)-1], r.path), "a byte turned": say(turned(r.piece, 2), r.path), "the root behind the path": say(r.piece, append(slices.Clone(r.path), l.Root)),
		"the root ahead of the path": say(r.piece, append([]string{l.Root}, r.path...)), "a digest less": say(r.piece, r.path[1:]), "a digest turned": say(r.piece, with(r.path, 0, turned(r.path[0], 5))),
		"a digest of 31 bytes": say(r.piece, with(r.path, 0, r.path[0][:31])), "a path of 21": say(r.piece, somePath(21)), "a path of 64": say(r.piece, somePath(64)), "a path of 400": say(r.piece, somePath(400)),
		"a path of 401": say(r.piece, somePath(401)), "a long piece": say(strings.Repeat("p", 101), r.path), "a piece of 8000": say(strings.Repeat("p", 8000), r.path),
		"a piece of 8001": say(strings.Repeat("p", 8001), r.path), "a digest of 8001": say(r.piece, []string{strings.Repeat("d", 8001)}),
	}
	for what, m := range bad {
		if wantFit(l, kept{m.Index, m.Piece, m.Path}) {
			delete(bad, what)
		}
	}
	return bad
}

// Promise 13: a strike has who hands a piece that does not fit.
func TestPieceThatDoesNotFit(t *testing.T) {
	p, records := somePeer()
	for _, r := range records {
		for what, m := range badPieces(p.Keep.List, r) {
			ann := otherTurned(p, 0, func(o *impl.Other) {
				o.Strikes = 1
				if r.index == 1 {
					o.Asked, o.Age = 0, 0
				}
			})
			samePeerOut(t, what+" from ann", heard(t, what, p, "ann", m), impl.PeerOut{Peer: ann})
			bob := otherTurned(p, 1, func(o *impl.Other) { *o = impl.Other{Name: "bob", Strikes: 3} })
			samePeerOut(t, what+" from bob", heard(t, what, p, "bob", m), impl.PeerOut{Peer: bob})
			dot := otherTurned(p, 3, func(o *impl.Other) { o.Strikes = 2 })
			samePeerOut(t, what+" from dot", heard(t, what, p, "dot", m), impl.PeerOut{Peer: dot})
			samePeerOut(t, what+" from cid", heard(t, what, p, "cid", m), impl.PeerOut{Peer: p})
		}
	}
	for _, r := range records {
		for _, o := range records {
			if r.index == o.index {
				continue
			}
			m := impl.Say{Kind: impl.SyPiece, Index: r.index, Piece: o.piece, Path: o.path}
			if got := heard(t, "the piece of another index", p, "dot", m); got.Peer.Others[3].Strikes != 2 {
				t.Errorf("the piece of index %d at %d: %s", o.index, r.index, toldOut(got))
			}
		}
	}
}

func TestThirdStrikeBans(t *testing.T) {
	l, records := keptFile("abcdefghi", 2)
	p := peerWith(l, records[:1], impl.Other{Name: "ann", Has: []int64{0, 1, 4}, Asked: 2, Age: 1}, impl.Other{Name: "bob", Has: []int64{1, 2}, Asked: 3})
	for strikes := int64(1); strikes <= 2; strikes++ {
		p = heard(t, "a strike", p, "ann", impl.Say{Kind: 3, Index: 4, Piece: "bad"}).Peer
		want := impl.Other{Name: "ann", Has: []int64{0, 1, 4}, Asked: 2, Age: 1, Strikes: strikes}
		samePeerOut(t, "a strike", impl.PeerOut{Peer: p}, impl.PeerOut{Peer: peerWith(l, records[:1], want, p.Others[1])})
		sameTexts(t, "nobody is banned yet", impl.Banned(p), nil)
	}
	// What fits, and words of other kinds, are heard up to the third one.
	taken := heard(t, "a piece that fits behind two strikes", p, "ann", pieceWord(records[1])).Peer
	sameNums(t, "a piece that fits behind two strikes", impl.Have(taken.Keep), []int64{0, 1})
	p = heard(t, "the third strike", p, "ann", impl.Say{Kind: 3, Index: 0, Piece: "bad"}).Peer
	samePeerOut(t, "the third strike", impl.PeerOut{Peer: p}, impl.PeerOut{Peer: peerWith(l, records[:1], impl.Other{Name: "ann", Strikes: 3}, p.Others[1])})
	sameTexts(t, "behind the third strike", impl.Banned(p), []string{"ann"})
	for _, m := range append(allWords(records), pieceWord(records[1])) {
		samePeerOut(t, "behind the third strike", heard(t, "behind it", p, "ann", m), impl.PeerOut{Peer: p})
	}
	samePeerOut(t, "behind the third strike", met(t, "Meet who is banned", p, "ann"), impl.PeerOut{Code: impl.ErrThere})
}

func TestPieceThatFitsAndWasAsked(t *testing.T) {
	p, records := somePeer()
	for _, synced := range []int64{0, 1, p.Keep.Synced} {
		p.Keep.Synced = synced
		out := heard(t, "what was asked", p, "ann", pieceWord(records[1]))
		log := wantLog(records[3], records[0], records[1])
		want := impl.PeerOut{Peer: otherTurned(p, 0, func(o *impl.Other) { o.Asked, o.Age = 0, 0 })}
		want.Peer.Keep = impl.Keep{List: p.Keep.List, Log: log, Synced: int64(len(log))}
		want.Sent = []impl.Sent{{To: "ann", Say: word(1, 1)}, {To: "bob", Say: word(1, 1)}, {To: "dot", Say: word(1, 1)}}
		samePeerOut(t, "what was asked", out, want)
		sameThere(t, "what was asked", out.Peer.Keep, []kept{records[3], records[0], records[1]})

		out = heard(t, "what was asked of one with two strikes", p, "bob", pieceWord(records[4]))
		log = wantLog(records[3], records[0], records[4])
		want = impl.PeerOut{Peer: otherTurned(p, 1, func(o *impl.Other) { o.Asked = 0 })}
		want.Peer.Keep = impl.Keep{List: p.Keep.List, Log: log, Synced: int64(len(log))}
		want.Sent = []impl.Sent{{To: "ann", Say: word(1, 4)}, {To: "bob", Say: word(1, 4)}, {To: "dot", Say: word(1, 4)}}
		samePeerOut(t, "what was asked of one with two strikes", out, want)
	}
	// Who does not say that it has an index may still be asked for it.
	silent := otherTurned(p, 0, func(o *impl.Other) { o.Has = nil })
	out := heard(t, "what it does not have", silent, "ann", pieceWord(records[1]))
	if len(out.Sent) != 3 || len(out.Peer.Others[0].Has) != 0 {
		t.Errorf("what was asked of who does not have it: %s", toldOut(out))
	}
}

func TestPieceThatFitsAndWasNotAsked(t *testing.T) {
	p, records := somePeer()
	for _, c := range []struct {
		from  string
		index int
	}{
		{"ann", 0}, {"ann", 2}, {"ann", 3}, {"ann", 4}, {"bob", 0}, {"bob", 1}, {"bob", 2}, {"bob", 3},
		{"cid", 0}, {"cid", 1}, {"cid", 4}, {"dot", 0}, {"dot", 1}, {"dot", 2}, {"dot", 3}, {"dot", 4},
	} {
		what := "index " + strconv.Itoa(c.index) + " from " + c.from
		samePeerOut(t, what, heard(t, what, p, c.from, pieceWord(records[c.index])), impl.PeerOut{Peer: p})
	}
}

func TestPieceThatIsThereAlready(t *testing.T) {
	p, records := somePeer()
	for _, index := range []int64{0, 3} {
		for _, synced := range []int64{0, 3, p.Keep.Synced} {
			p.Keep.Synced = synced
			asked := otherTurned(p, 0, func(o *impl.Other) { o.Asked, o.Age = index+1, 3 })
			want := otherTurned(p, 0, func(o *impl.Other) { o.Asked, o.Age = 0, 0 })
			samePeerOut(t, "what is there already", heard(t, "what is there already", asked, "ann", pieceWord(records[index])), impl.PeerOut{Peer: want})
		}
	}
	// One index asked of two: the first one brings it, of the second one nothing more comes.
	both := otherTurned(p, 3, func(o *impl.Other) { o.Asked, o.Age = 2, 1 })
	first := heard(t, "the first of two", both, "dot", pieceWord(records[1]))
	if len(first.Sent) != 3 || first.Peer.Others[0].Asked != 2 || first.Peer.Others[3].Asked != 0 {
		t.Errorf("the first of two: %s", toldOut(first))
	}
	want := otherTurned(first.Peer, 0, func(o *impl.Other) { o.Asked, o.Age = 0, 0 })
	samePeerOut(t, "the second of two", heard(t, "the second of two", first.Peer, "ann", pieceWord(records[1])), impl.PeerOut{Peer: want})
}

func TestPieceWithoutRoomInTheLog(t *testing.T) {
	for _, bytes := range []int{7999, 8000, 8001} {
		l, records := keptTexts(fullTexts(bytes))
		p := peerWith(l, records[:25], impl.Other{Name: "ann", Has: []int64{25}, Asked: 26, Age: 3, Strikes: 1}, impl.Other{Name: "bob"})
		p.Keep.Synced = 5
		out := heard(t, "a log of "+strconv.Itoa(bytes), p, "ann", pieceWord(records[25]))
		want := impl.PeerOut{Peer: otherTurned(p, 0, func(o *impl.Other) { o.Asked, o.Age = 0, 0 })}
		if bytes <= 8000 {
			log := wantLog(records[:26]...)
			want.Peer.Keep = impl.Keep{List: l, Log: log, Synced: int64(bytes)}
			want.Sent = toEach(p.Others, word(1, 25))
		}
		samePeerOut(t, "a log of "+strconv.Itoa(bytes), out, want)
	}
}

func TestTickByDraw(t *testing.T) {
	p, _ := somePeer()
	for _, draw := range []int64{math.MinInt64, -1000000, -5, -1, 1000001, 1 << 32, math.MaxInt64} {
		samePeerOut(t, "a draw that is no time", ticked(t, "no time", p, draw), impl.PeerOut{Code: impl.ErrForm})
		samePeerOut(t, "a draw that is no time", ticked(t, "no time", impl.Peer{Keep: p.Keep}, draw), impl.PeerOut{Code: impl.ErrForm})
	}
	for _, draw := range []int64{0, 1, 999999, 1000000} {
		if got := ticked(t, "a time", p, draw).Code; got != impl.OK {
			t.Errorf("draw %d: code %d", draw, got)
		}
	}
}

func TestTickWithoutOthers(t *testing.T) {
	p, _ := somePeer()
	p.Others = nil
	for _, draw := range []int64{0, 1, 2, 3, 4, 5, 999999, 1000000} {
		samePeerOut(t, "Tick without others", ticked(t, "Tick without others", p, draw), impl.PeerOut{Peer: p})
	}
}

func TestTickOfTheEmptyFile(t *testing.T) {
	p := peerWith(impl.List{Block: 2, Root: wantDigest("")}, nil, named("ann", "bob")...)
	for _, draw := range []int64{0, 1, 7, 1000000} {
		samePeerOut(t, "Tick of the empty file", ticked(t, "Tick of the empty file", p, draw), impl.PeerOut{Peer: p})
		samePeerOut(t, "nobody, and no file", ticked(t, "nobody, and no file", impl.Peer{Keep: p.Keep}, draw), impl.PeerOut{Peer: impl.Peer{Keep: p.Keep}})
	}
	for _, m := range []impl.Say{{}, word(1, 0), word(2, 0), word(3, 0), word(4, 0)} {
		samePeerOut(t, "a word of the empty file", heard(t, "a word of the empty file", p, "ann", m), impl.PeerOut{Peer: p})
	}
}

func TestTickMakesOlder(t *testing.T) {
	l, _ := keptFile("abcdefghi", 2)
	for age := int64(0); age <= 3; age++ {
		p := peerWith(l, nil, impl.Other{Name: "ann", Asked: 3, Age: age, Strikes: 2}, impl.Other{Name: "bob"}, impl.Other{Name: "cid", Strikes: 3})
		want := otherTurned(p, 0, func(o *impl.Other) {
			o.Age++
			if age == 3 {
				o.Asked, o.Age = 0, 0
			}
		})
		samePeerOut(t, "one tick older", ticked(t, "one tick older", p, 1), impl.PeerOut{Peer: want})
	}
	// What is asked no more may be asked anew at once, of whomever comes first.
	p := peerWith(l, nil, impl.Other{Name: "ann", Has: []int64{2}, Asked: 3, Age: 3}, impl.Other{Name: "bob", Has: []int64{2}})
	for draw, to := range map[int64]string{0: "ann", 1: "bob", 2: "ann", 1000000: "ann", 999999: "bob"} {
		out := ticked(t, "asked anew", p, draw)
		want := otherTurned(p, 0, func(o *impl.Other) { o.Asked, o.Age = 0, 0 })
		want = otherTurned(want, int(draw%2), func(o *impl.Other) { o.Asked = 3 })
		samePeerOut(t, "asked anew", out, impl.PeerOut{Peer: want, Sent: []impl.Sent{{To: to, Say: word(2, 2)}}})
	}
	// Waited for in vain: asked at the first tick, and at each fourth one behind it.
	p = peerWith(l, nil, impl.Other{Name: "ann", Has: []int64{1}})
	for draw := range int64(13) {
		out := ticked(t, "no answer comes", p, draw)
		if got := len(out.Sent); (got == 1) != (draw%4 == 0) {
			t.Errorf("tick %d: %d are sent", draw, got)
		}
		if o := out.Peer.Others[0]; o.Asked != 2 || o.Age != draw%4 {
			t.Errorf("tick %d: asked %d, age %d", draw, o.Asked, o.Age)
		}
		p = out.Peer
	}
}

// asks are who is asked for what by a tick, in order; the peer itself has nothing.
func asks(sent []impl.Sent) string {
	text := ""
	for _, s := range sent {
		text += " " + s.To + strconv.FormatInt(s.Say.Index, 10)
		if s.Say.Kind != impl.SyAsk {
			text += "?"
		}
	}
	return strings.TrimPrefix(text, " ")
}

func TestTickAsksTheRarest(t *testing.T) {
	l, _ := keptFile("abcdefghi", 2)
	has := func(name string, indexes ...int64) impl.Other { return impl.Other{Name: name, Has: indexes} }
	asked := func(name string, index int64, indexes ...int64) impl.Other {
		return impl.Other{Name: name, Has: indexes, Asked: index + 1}
	}
	for _, c := range []struct {
		draw   int64
		others []impl.Other
		want   string
	}{
		{0, []impl.Other{has("a")}, ""},
		{0, []impl.Other{has("a", 3)}, "a3"},
		{0, []impl.Other{has("a", 0, 1, 2, 3, 4)}, "a0"},
		{3, []impl.Other{has("a", 0, 1, 2, 3, 4)}, "a3"},
		{4, []impl.Other{has("a", 0, 1, 2)}, "a0"},
		{2, []impl.Other{has("a", 0, 1)}, "a0"},
		{1, []impl.Other{has("a", 0, 4)}, "a4"},
		{8, []impl.Other{has("a", 0, 1, 2, 3, 4)}, "a3"},
		{1000000, []impl.Other{has("a", 1, 2)}, "a1"},
		{999999, []impl.Other{has("a", 0, 1, 2, 3, 4)}, "a4"},
		{0, []impl.Other{has("a", 0, 1), has("b", 0)}, "a1 b0"},
		{1, []impl.Other{has("a", 0, 1), has("b", 0)}, "b0 a1"},
		{0, []impl.Other{has("a", 0, 1, 4), has("b", 0), has("c", 1)}, "a4 b0 c1"},
		{0, []impl.Other{has("a", 2), has("b", 2), has("c", 2), has("d", 2)}, "a2"},
		{1, []impl.Other{has("a", 2), has("b", 2), has("c", 2), has("d", 2)}, "b2"},
		{2, []impl.Other{has("a", 2), has("b", 2), has("c", 2), has("d", 2)}, "c2"},
		{7, []impl.Other{has("a", 2), has("b", 2), has("c", 2), has("d", 2)}, "d2"},
		{6, []impl.Other{has("a", 1, 2), has("b", 1, 2), has("c", 1, 2), has("d", 1, 2)}, "c1 d2"},
		{2, []impl.Other{has("a", 1, 2), has("b", 1, 2), has("c", 1, 2), has("d", 1, 2)}, "c2 d1"},
		{3, []impl.Other{has("a", 0, 1, 2, 3), has("b", 1, 2, 3), has("c", 2, 3), has("d", 3)}, "d3 a0 b1 c2"},
		{0, []impl.Other{has("a", 0, 1, 2, 3), has("b", 1, 2, 3), has("c", 2, 3), has("d", 3)}, "a0 b1 c2 d3"},
		{1, []impl.Other{has("a", 0, 1, 2, 3), has("b", 1, 2, 3), has("c", 2, 3), has("d", 3)}, "b1 c2 d3 a0"},
		{0, []impl.Other{asked("a", 1, 1, 2), has("b", 1, 2)}, "b2"},
		{0, []impl.Other{asked("a", 1, 1, 2), has("b", 1)}, ""},
		{0, []impl.Other{has("a", 4), asked("b", 4)}, ""},
		{0, []impl.Other{has("a", 3, 4), asked("b", 4)}, "a3"},
		{0, []impl.Other{has("a", 0, 3), {Name: "b", Strikes: 3}, has("c", 0)}, "a3 c0"},
		{1, []impl.Other{has("a", 0, 3), {Name: "b", Strikes: 3}, has("c", 0)}, "c0 a3"},
		{1, []impl.Other{{Name: "a", Strikes: 3}, {Name: "b", Strikes: 2, Has: []int64{4}}}, "b4"},
	} {
		p := peerWith(l, nil, c.others...)
		out := ticked(t, fmt.Sprintf("draw %d of %v", c.draw, c.others), p, c.draw)
		if got := asks(out.Sent); got != c.want {
			t.Errorf("draw %d of %v: asked %q, want %q", c.draw, c.others, got, c.want)
		}
		for _, s := range out.Sent {
			at := slices.IndexFunc(out.Peer.Others, func(o impl.Other) bool { return o.Name == s.To })
			if o := out.Peer.Others[at]; o.Asked != s.Say.Index+1 || o.Age != 0 {
				t.Errorf("draw %d: %q is asked, and noted is %+v", c.draw, s.To, o)
			}
		}
	}
}

func TestTickAsksForWhatIsNotThere(t *testing.T) {
	l, records := keptFile("abcdefghi", 2)
	all := []int64{0, 1, 2, 3, 4}
	for there := range 1 << 5 {
		var some []kept
		for i, r := range records {
			if there>>i&1 == 1 {
				some = append(some, r)
			}
		}
		p := peerWith(l, some, impl.Other{Name: "ann", Has: all}, impl.Other{Name: "bob", Has: all}, impl.Other{Name: "cid", Strikes: 3})
		for draw := range int64(15) {
			out := ticked(t, "some are there", p, draw)
			lack := 5 - len(some)
			if got := len(out.Sent); got < min(lack, 2) {
				t.Errorf("%d lack, and %d are sent", lack, got)
			}
			for i, s := range out.Sent {
				is := there>>s.Say.Index&1 == 1
				if i < min(lack, 2) && (s.Say.Kind != impl.SyAsk || is) || i >= min(lack, 2) && (s.Say.Kind != impl.SyHave || s.Say.Index != draw%5 || !is) {
					t.Errorf("draw %d: %+v is sent as number %d, %d lack", draw, s, i, lack)
				}
			}
		}
	}
}

func TestTickTellsWhatIsThere(t *testing.T) {
	p, _ := somePeer()
	for draw := range int64(20) {
		want := impl.PeerOut{Peer: otherTurned(p, 0, func(o *impl.Other) { o.Age = 3 })}
		want.Peer.Others[1].Age = 1
		want.Peer.Others[3].Asked = 3
		want.Sent = []impl.Sent{{To: "dot", Say: word(2, 2)}}
		if index := draw % 5; index == 0 || index == 3 {
			for _, to := range []string{"ann", "bob", "dot"} {
				want.Sent = append(want.Sent, impl.Sent{To: to, Say: word(1, index)})
			}
		}
		samePeerOut(t, "draw "+strconv.FormatInt(draw, 10), ticked(t, "Tick", p, draw), want)
	}
	// All who hear of it are banned.
	for i := range p.Others {
		p.Others[i] = impl.Other{Name: p.Others[i].Name, Strikes: 3}
	}
	for draw := range int64(10) {
		samePeerOut(t, "all are banned", ticked(t, "all are banned", p, draw), impl.PeerOut{Peer: p})
	}
	sameTexts(t, "all are banned", impl.Banned(p), []string{"ann", "bob", "cid", "dot"})
}

func TestBanned(t *testing.T) {
	l, records := keptFile("abcde", 2)
	names := []string{"ann", "bob", "cid", "dot"}
	for strikes := range 256 {
		var others []impl.Other
		var want []string
		for i, name := range names {
			o := impl.Other{Name: name, Strikes: int64(strikes >> (2 * i) & 3)}
			if o.Strikes == 3 {
				want = append(want, name)
			} else {
				o.Has = []int64{1}
			}
			others = append(others, o)
		}
		p := peerWith(l, records[:1], others...)
		got := impl.Banned(p)
		sameTexts(t, "Banned", got, want)
		for i := range got {
			got[i] = "turned"
		}
		sameTexts(t, "Banned again", impl.Banned(p), want)
	}
	sameTexts(t, "Banned of nobody", impl.Banned(peerWith(l, nil)), nil)
}

// oneOther are all ways in which an other may stand to two pieces.
func oneOther() []impl.Other {
	var others []impl.Other
	for _, has := range [][]int64{nil, {0}, {1}, {0, 1}} {
		for asked := range int64(3) {
			for age := range int64(4) {
				for strikes := range int64(4) {
					o := impl.Other{Name: "ann", Has: has, Asked: asked, Age: age, Strikes: strikes}
					if wantOtherRight(o, 2) {
						others = append(others, o)
					}
				}
			}
		}
	}
	return others
}

// Each state of one other and two pieces, and each word that it may say.
func TestHearInEachState(t *testing.T) {
	l, records := keptFile("abc", 2)
	var words []impl.Say
	for kind := range int64(6) {
		for index := int64(-1); index <= 2; index++ {
			words = append(words, impl.Say{Kind: kind, Index: index, Piece: "bad", Path: records[0].path})
		}
	}
	words = append(words, pieceWord(records[0]), pieceWord(records[1]))
	for _, o := range oneOther() {
		for there := range 3 {
			p := peerWith(l, records[:there], o, impl.Other{Name: "bob", Has: []int64{0}, Asked: 1, Strikes: 2})
			for _, m := range words {
				samePeerOut(t, "Hear in each state", impl.Hear(p, "ann", m), wantHear(p, "ann", m))
			}
			for draw := range int64(4) {
				samePeerOut(t, "Tick in each state", impl.Tick(p, draw), wantTick(p, draw))
			}
		}
	}
}

// anyWord is a word about one of some records, right or wrong.
func anyWord(draw *rand.Rand, records []kept, others []impl.Other) impl.Say {
	r := records[draw.Intn(len(records))]
	m := impl.Say{Kind: draw.Int63n(6), Index: r.index}
	if asked := others[draw.Intn(len(others))].Asked; asked > 0 && draw.Intn(2) == 0 {
		r = records[asked-1]
		m = pieceWord(r)
	}
	switch draw.Intn(12) {
	case 0:
		m = impl.Say{Kind: 3, Index: r.index, Piece: "bad", Path: r.path}
	case 1:
		m = impl.Say{Kind: 3, Index: draw.Int63n(int64(len(records))), Piece: r.piece, Path: r.path}
	case 2:
		m.Index = draw.Int63n(int64(len(records))+4) - 2
	case 3, 4, 5:
		m = word(1, r.index)
	}
	return m
}

// strikesStand asks behind a word that none but who said it has a strike more, and that one just if its piece does not fit.
func strikesStand(t *testing.T, p impl.Peer, from string, m impl.Say, out impl.PeerOut) {
	t.Helper()
	for i, o := range p.Others {
		heeded := o.Name == from && o.Strikes < 3 && m.Kind == 3 && m.Index >= 0 && m.Index < wantCount(p.Keep.List.Size, p.Keep.List.Block)
		more := int64(0)
		if heeded && !wantFit(p.Keep.List, kept{m.Index, m.Piece, m.Path}) {
			more = 1
		}
		if got := out.Peer.Others[i].Strikes; got != o.Strikes+more {
			t.Errorf("%s said %d of %d: the strikes of %s are %d, and were %d", from, m.Kind, m.Index, o.Name, got, o.Strikes)
		}
		if o.Name == from && o.Strikes == 3 {
			samePeerOut(t, "a banned one", out, impl.PeerOut{Peer: p})
		}
	}
}

// Promise 13, over long rows of words and ticks.
func TestStrikesWhateverIsSaid(t *testing.T) {
	draw := rand.New(rand.NewSource(91))
	names := []string{"ann", "bob", "cid", "dot"}
	for _, c := range []cutFile{{"abcdefghi", 2}, {"ab", 2}, {someFile(17), 1}, {someFile(100), 48}, {strings.Repeat("ab", 20), 2}} {
		l, records := keptFile(c.file, c.block)
		for run := range 6 {
			p := impl.PeerNew(l).Peer
			for _, name := range names[:1+run%4] {
				p = met(t, "Meet", p, name).Peer
			}
			for range 60 {
				if draw.Intn(3) == 0 {
					p = ticked(t, "a tick among words", p, draw.Int63n(1000001)).Peer
					continue
				}
				from := p.Others[draw.Intn(len(p.Others))].Name
				m := anyWord(draw, records, p.Others)
				out := heard(t, "a word among many", p, from, m)
				strikesStand(t, p, from, m, out)
				p = out.Peer
				if !impl.PeerRight(p) || !strings.HasPrefix(c.file, impl.Output(p.Keep)) {
					t.Fatalf("behind many words: %s", toldOut(out))
				}
			}
			sameTexts(t, "Banned", impl.Banned(p), wantBanned(p))
		}
	}
}

// Peers whose others stand in any way, not only as calls have left them.
func TestTickOfAnyPeers(t *testing.T) {
	draw := rand.New(rand.NewSource(92))
	for range 1500 {
		many := int64(1 + draw.Intn(9))
		l, records := keptFile(someFile(int(many)), 1)
		var there []kept
		for _, i := range draw.Perm(int(many)) {
			if draw.Intn(3) == 0 {
				there = append(there, records[i])
			}
		}
		var others []impl.Other
		for _, name := range []string{"ann", "bob", "cid", "dot"}[draw.Intn(4):] {
			o := impl.Other{Name: name, Strikes: draw.Int63n(4)}
			for index := range many {
				if o.Strikes < 3 && draw.Intn(2) == 0 {
					o.Has = append(o.Has, index)
				}
			}
			if o.Strikes < 3 && draw.Intn(2) == 0 {
				o.Asked, o.Age = 1+draw.Int63n(many), draw.Int63n(4)
			}
			others = append(others, o)
		}
		p := peerWith(l, there, others...)
		out := ticked(t, "any peer", p, draw.Int63n(40))
		if !impl.PeerRight(out.Peer) {
			t.Errorf("a tick leaves a peer that is not right: %s", toldOut(out))
		}
		from := others[draw.Intn(len(others))].Name
		m := anyWord(draw, records, out.Peer.Others)
		strikesStand(t, out.Peer, from, m, heard(t, "any peer", out.Peer, from, m))
	}
}

// Two peers, who say all to each other, come to have the same.
func TestPeersHandRound(t *testing.T) {
	for _, c := range []cutFile{{"abcdefghi", 2}, {"", 3}, {"abc", 48}, {someFile(300), 48}, {someFile(20), 1}} {
		l, records := keptFile(c.file, c.block)
		here := met(t, "Meet", peerWith(l, records), "there")
		there := met(t, "Meet", peerWith(l, nil), "here")
		toThere, toHere := here.Sent, there.Sent
		for round := range int64(2*len(records) + 4) {
			for _, s := range toThere {
				there = heard(t, "a word to there", there.Peer, "here", s.Say)
				toHere = append(toHere, there.Sent...)
			}
			there = ticked(t, "Tick of there", there.Peer, round)
			toHere, toThere = append(toHere, there.Sent...), nil
			for _, s := range toHere {
				here = heard(t, "a word to here", here.Peer, "there", s.Say)
				toThere = append(toThere, here.Sent...)
			}
			toHere = nil
		}
		if got := impl.Output(there.Peer.Keep); got != c.file {
			t.Errorf("of %d bytes %d were handed round", len(c.file), len(got))
		}
		if len(impl.Banned(here.Peer)) != 0 || len(impl.Banned(there.Peer)) != 0 || there.Peer.Others[0].Strikes != 0 {
			t.Error("who hands round what fits has a strike")
		}
	}
}
