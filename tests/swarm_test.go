package tests

import (
	"fmt"
	"math"
	"math/rand"
	"slices"
	"strings"
	"testing"

	"loop.example/g00550/impl"
)

// envelope is a word on its way.
type envelope struct {
	from string
	to   string
	say  impl.Say
}

// wantHive is a swarm that is run by the counterparts of the peers' calls.
type wantHive struct {
	list    impl.List
	records []kept
	peers   [3]impl.Peer
	way     []envelope
}

func (h *wantHive) leave(i int, out impl.PeerOut) {
	h.peers[i] = out.Peer
	for _, s := range out.Sent {
		if s.To != "bad" {
			h.way = append(h.way, envelope{fmt.Sprint("p", i), s.To, s.Say})
		}
	}
	h.way = h.way[:min(len(h.way), 60)]
}

func (h *wantHive) tick(i int, draw int64) {
	h.leave(i, wantTick(h.peers[i], draw))
}

// drop takes the envelope of a place off its way.
func (h *wantHive) drop(at int) envelope {
	e := h.way[at]
	h.way = append(slices.Clone(h.way[:at]), h.way[at+1:]...)
	return e
}

func (h *wantHive) hear(e envelope) {
	i := strings.Index("p0p1p2", e.to) / 2
	h.leave(i, wantHear(h.peers[i], e.from, e.say))
}

// lie is what bad says by h, of some records.
func (h *wantHive) lie(draw int64) impl.Say {
	r := h.records[draw%int64(len(h.records))]
	return []impl.Say{
		word(impl.SyHave, r.index),
		{Kind: impl.SyPiece, Index: r.index, Piece: "bad"},
		{Kind: impl.SyPiece, Index: r.index, Piece: r.piece, Path: append(slices.Clone(r.path), h.list.Root)},
	}[draw%3]
}

func (h *wantHive) follow(n int64) {
	ahead, last := n/10, n%10
	i := int(1 + ahead%2)
	if last <= 2 {
		h.tick(i, ahead)
	} else if last <= 8 && len(h.way) > 0 {
		e := h.drop(int(ahead) % len(h.way))
		if last < 8 {
			h.hear(e)
		}
	} else if last == 9 && len(h.records) > 0 {
		h.hear(envelope{"bad", fmt.Sprint("p", i), h.lie(ahead)})
	}
}

func (h *wantHive) round(draw int64) {
	for i := range 3 {
		h.tick(i, draw)
	}
	for left := len(h.way); left > 0; left-- {
		h.hear(h.drop(0))
	}
}

func newWantHive(file string, block int64) *wantHive {
	h := &wantHive{}
	h.list, h.records = keptFile(file, block)
	h.peers = [3]impl.Peer{peerWith(h.list, h.records), peerWith(h.list, nil), peerWith(h.list, nil)}
	for i, others := range [][]string{{"bad", "p1", "p2"}, {"bad", "p0", "p2"}, {"bad", "p0", "p1"}} {
		for _, other := range others {
			h.leave(i, wantMeet(h.peers[i], other))
		}
	}
	return h
}

// wantSwarm is what SwarmRun has to tell of what is not refused.
func wantSwarm(file string, block int64, script []int64, rounds int64) impl.SwarmOut {
	h := newWantHive(file, block)
	for _, n := range script {
		h.follow(n)
	}
	for draw := range rounds {
		h.round(draw)
	}
	var out impl.SwarmOut
	for i, p := range h.peers {
		out.Banned = append(out.Banned, wantBanned(p)...)
		if i > 0 {
			records, _ := wantGone(h.list, p.Keep.Log)
			out.Outs = append(out.Outs, beginning(file, block, records))
			out.Haves = append(out.Haves, int64(len(records)))
		}
	}
	return out
}

// toldSwarm tells an answer; an empty list and none are the same in it.
func toldSwarm(out impl.SwarmOut) string {
	return fmt.Sprintf("outs %q, haves %v, banned %q, code %d", out.Outs, out.Haves, out.Banned, out.Code)
}

func sameSwarm(t *testing.T, what string, got impl.SwarmOut, want impl.SwarmOut) {
	t.Helper()
	if toldSwarm(got) != toldSwarm(want) {
		t.Errorf("%s:\n got %s\nwant %s", what, toldSwarm(got), toldSwarm(want))
	}
}

// handedIn runs a swarm, and asks that the script is neither changed nor shared.
func handedIn(t *testing.T, what string, file string, block int64, script []int64, rounds int64) impl.SwarmOut {
	t.Helper()
	room := roomy(script, -77)
	before := slices.Clone(room[:cap(room)])
	out := impl.SwarmRun(file, block, room, rounds)
	if !slices.Equal(room[:cap(room)], before) {
		t.Errorf("%s: the script is changed", what)
	}
	told := toldSwarm(out)
	markAll(room, -99)
	if toldSwarm(out) != told {
		t.Errorf("%s: the answer shares memory with the script", what)
	}
	return out
}

// swarmed runs a swarm that is not refused, and asks for what always holds of its answer (promise 14 among it).
func swarmed(t *testing.T, what string, file string, block int64, script []int64, rounds int64) impl.SwarmOut {
	t.Helper()
	out := handedIn(t, what, file, block, script, rounds)
	if out.Code != impl.OK {
		t.Fatalf("%s: %s", what, toldSwarm(out))
	}
	beginningsOnly(t, what, file, block, out)
	back := impl.SwarmOut{Outs: slices.Clone(out.Outs), Haves: slices.Clone(out.Haves), Banned: slices.Clone(out.Banned)}
	markAll(out.Outs, "turned")
	if !slices.Equal(out.Banned, back.Banned) {
		t.Errorf("%s: two lists of the answer share memory", what)
	}
	return back
}

// beginningsOnly asks an answer whether promise 14 holds of it.
func beginningsOnly(t *testing.T, what string, file string, block int64, out impl.SwarmOut) {
	t.Helper()
	if len(out.Outs) != 2 || len(out.Haves) != 2 || len(out.Banned) > 2 {
		t.Fatalf("%s: %s", what, toldSwarm(out))
	}
	for i, text := range out.Outs {
		have := out.Haves[i]
		if !strings.HasPrefix(file, text) || have < 0 || have > wantCount(int64(len(file)), block) || int64(len(text)) > have*block {
			t.Errorf("%s: put out is %q, with %d pieces there", what, text, have)
		}
	}
	for _, name := range out.Banned {
		if name != "bad" {
			t.Errorf("%s: %s is banned", what, name)
		}
	}
}

// runsAs holds a run against the counterpart here.
func runsAs(t *testing.T, what string, file string, block int64, script []int64, rounds int64) impl.SwarmOut {
	t.Helper()
	out := swarmed(t, what, file, block, script, rounds)
	sameSwarm(t, fmt.Sprintf("%s: %d bytes by %d, script %v, %d rounds", what, len(file), block, script, rounds), out, wantSwarm(file, block, script, rounds))
	return out
}

// allThere asks that both peers have all, and put out the file.
func allThere(t *testing.T, what string, file string, block int64, out impl.SwarmOut) {
	t.Helper()
	count := wantCount(int64(len(file)), block)
	sameSwarm(t, what, out, impl.SwarmOut{Outs: []string{file, file}, Haves: []int64{count, count}, Banned: out.Banned})
}

func refusedSwarm(t *testing.T, what string, file string, block int64, script []int64, rounds int64, code int64) {
	t.Helper()
	sameSwarm(t, what, handedIn(t, what, file, block, script, rounds), impl.SwarmOut{Code: code})
}

// The numbers of a script, by h.
func ticks(h int64) int64 { return 10 * h }
func comes(h int64) int64 { return 10*h + 3 }
func loses(h int64) int64 { return 10*h + 8 }
func lies(h int64) int64  { return 10*h + 9 }

// times is a script of one number, so many times.
func times(many int, n int64) []int64 {
	return slices.Repeat([]int64{n}, many)
}

func TestSwarmRefusesSizesAheadOfAllElse(t *testing.T) {
	long, longest := strings.Repeat("a", 8000), strings.Repeat("a", 8001)
	for _, block := range []int64{math.MinInt64, -1, 0, 1, 8, 48, 49, math.MaxInt64} {
		for _, rounds := range []int64{math.MinInt64, -1, 0, 1, 99, 100, math.MaxInt64} {
			for _, script := range [][]int64{nil, {0}, {-1}, {1000}, times(60, 3), times(61, 3), times(400, 3), times(400, -1)} {
				refusedSwarm(t, "a file of 8001", longest, block, script, rounds, impl.ErrSize)
				refusedSwarm(t, "a file of 8000", long, block, script, rounds, impl.ErrForm)
			}
			for _, file := range []string{"", "abc", strings.Repeat("a", 1001), long, longest} {
				refusedSwarm(t, "a script of 401", file, block, times(401, 3), rounds, impl.ErrSize)
				refusedSwarm(t, "a script of 401 wrong ones", file, block, times(401, -1), rounds, impl.ErrSize)
				if file != longest {
					refusedSwarm(t, "a script of 400", file, block, times(400, 3), rounds, impl.ErrForm)
				}
			}
		}
	}
}

func TestSwarmRefusesWhatHasNoList(t *testing.T) {
	for _, block := range []int64{math.MinInt64, -48, -1, 0, 49, 50, 1 << 32, math.MaxInt64} {
		for _, file := range []string{"", "x", "abc", someFile(100)} {
			refusedSwarm(t, "a block that may not be", file, block, nil, 1, impl.ErrForm)
		}
	}
	for _, block := range []int64{1, 2, 7, 47, 48} {
		refusedSwarm(t, "a file of 1001", someFile(1001), block, nil, 1, impl.ErrForm)
		refusedSwarm(t, "a file of 1000, of too many pieces", someFile(1000), block, nil, 1, impl.ErrForm)
		refusedSwarm(t, "65 pieces", someFile(int(min(64*block+1, 1000))), block, nil, 1, impl.ErrForm)
		refusedSwarm(t, "17 full pieces", someFile(int(17*block)), block, nil, 1, impl.ErrForm)
		refusedSwarm(t, "17 pieces", someFile(int(16*block+1)), block, nil, 1, impl.ErrForm)
		runsAs(t, "16 pieces", someFile(int(16*block)), block, []int64{3, 0}, 1)
		runsAs(t, "16 pieces, the last one of a byte", someFile(int(15*block+1)), block, []int64{3, 0}, 1)
	}
}

func TestSwarmRefusesScripts(t *testing.T) {
	for _, file := range []string{"", "abcde"} {
		runsAs(t, "a script of 60", file, 2, times(60, 3), 0)
		runsAs(t, "a script of 59", file, 2, times(59, 999), 1)
		refusedSwarm(t, "a script of 61", file, 2, times(61, 3), 0, impl.ErrForm)
		refusedSwarm(t, "a script of 62", file, 2, times(62, 3), 0, impl.ErrForm)
		for _, n := range []int64{math.MinInt64, -1000, -10, -1, 1000, 1003, 1 << 32, math.MaxInt64} {
			refusedSwarm(t, "one wrong number", file, 2, []int64{n}, 3, impl.ErrForm)
			for _, at := range []int{0, 1, 30, 58, 59} {
				script := times(60, 3)
				script[at] = n
				refusedSwarm(t, fmt.Sprint(n, " at ", at), file, 2, script, 3, impl.ErrForm)
			}
		}
		for _, n := range []int64{0, 1, 9, 10, 500, 990, 998, 999} {
			runsAs(t, fmt.Sprint("the number ", n), file, 2, []int64{n}, 0)
			runsAs(t, fmt.Sprint("the number ", n, ", often"), file, 2, times(60, n), 1)
		}
	}
}

func TestSwarmRefusesRounds(t *testing.T) {
	for _, file := range []string{"", "abcde"} {
		for _, rounds := range []int64{math.MinInt64, -100, -1, 100, 101, 1000, 1 << 32, math.MaxInt64} {
			refusedSwarm(t, fmt.Sprint(rounds, " rounds"), file, 2, nil, rounds, impl.ErrForm)
			refusedSwarm(t, fmt.Sprint(rounds, " rounds"), file, 2, []int64{3, 0, 53}, rounds, impl.ErrForm)
		}
		for _, rounds := range []int64{0, 1, 2, 98, 99} {
			runsAs(t, fmt.Sprint(rounds, " rounds"), file, 2, []int64{3, 0, 53}, rounds)
		}
	}
}

func TestSwarmOfTheEmptyFile(t *testing.T) {
	want := impl.SwarmOut{Outs: []string{"", ""}, Haves: []int64{0, 0}}
	for _, block := range []int64{1, 2, 47, 48} {
		for _, rounds := range []int64{0, 1, 2, 99} {
			sameSwarm(t, "no script", swarmed(t, "no script", "", block, nil, rounds), want)
			for _, h := range []int64{0, 1, 2, 3, 4, 5, 6, 11, 98, 99} {
				var script []int64
				for last := range int64(10) {
					script = append(script, 10*h+last, 10*h+9-last)
				}
				script = append(script, times(9, lies(h))...)
				sameSwarm(t, "all digits", swarmed(t, "all digits", "", block, script, rounds), want)
			}
		}
	}
}

// swarmCase is a script for a file of blocks of one byte, and what has to come of it.
type swarmCase struct {
	what   string
	file   string
	script []int64
	rounds int64
	outs   []string
	haves  []int64
	banned []string
}

func sameCases(t *testing.T, cases []swarmCase) {
	t.Helper()
	for _, c := range cases {
		want := impl.SwarmOut{Outs: c.outs, Haves: c.haves, Banned: c.banned}
		sameSwarm(t, c.what, runsAs(t, c.what, c.file, 1, c.script, c.rounds), want)
	}
}

// Of "abc", p0's words are on their way at first: of 0, 1, 2 to p1, and then to p2.
func TestSwarmBegins(t *testing.T) {
	none := []string{"", ""}
	sameCases(t, []swarmCase{
		{"nothing", "abc", nil, 0, none, []int64{0, 0}, nil},
		{"the first one is of 0, to p1", "abc", []int64{comes(0), ticks(0), comes(5), comes(5)}, 0, []string{"a", ""}, []int64{1, 0}, nil},
		{"the second one is of 1, to p1", "abc", []int64{comes(1), ticks(0), comes(5), comes(5)}, 0, none, []int64{1, 0}, nil},
		{"the third one is of 2, to p1", "abc", []int64{comes(2), ticks(0), comes(5), comes(5)}, 0, none, []int64{1, 0}, nil},
		{"the fourth one is of 0, to p2", "abc", []int64{comes(3), ticks(1), comes(5), comes(5)}, 0, []string{"", "a"}, []int64{0, 1}, nil},
		{"the fifth one is of 1, to p2", "abc", []int64{comes(4), ticks(1), comes(5), comes(5)}, 0, none, []int64{0, 1}, nil},
		{"the sixth one is of 2, to p2", "abc", []int64{comes(5), ticks(1), comes(5), comes(5)}, 0, none, []int64{0, 1}, nil},
		{"the seventh one is the first one", "abc", []int64{comes(6), ticks(0), comes(5), comes(5)}, 0, []string{"a", ""}, []int64{1, 0}, nil},
		{"number 99 is the fourth one", "abc", []int64{comes(99), ticks(1), comes(5), comes(5)}, 0, []string{"", "a"}, []int64{0, 1}, nil},
		{"what p1 heard p2 does not know", "abc", []int64{comes(0), ticks(1), comes(5), comes(5)}, 0, none, []int64{0, 0}, nil},
		{"what p2 heard p1 does not know", "abc", []int64{comes(3), ticks(0), comes(5), comes(5)}, 0, none, []int64{0, 0}, nil},
		{"of one piece there are two words", "a", []int64{comes(1), ticks(1), comes(1), comes(1)}, 0, []string{"", "a"}, []int64{0, 1}, nil},
	})
}

// fetches is how p1 comes to have the first piece of so many, if its digits are the right ones.
func fetches(many int64, tick int64, come int64) []int64 {
	behind := 10 * (2*many - 1)
	return []int64{come, tick, behind + come, behind + come}
}

func TestSwarmDigits(t *testing.T) {
	for tick := range int64(10) {
		for come := range int64(10) {
			want := []int64{0, 0}
			if tick <= 2 && come >= 3 && come <= 7 {
				want = []int64{1, 0}
			}
			script := fetches(3, tick, come)
			out := runsAs(t, "digits", "abc", 1, script, 0)
			sameNums(t, fmt.Sprint("haves of ", script), out.Haves, want)
		}
	}
	// Of each h: who ticks, and what bad says.
	for h := range int64(100) {
		for last := range int64(10) {
			runsAs(t, "one number", "abcde", 2, []int64{10*h + last}, 4)
			runsAs(t, "one number behind two words", "abcde", 2, []int64{comes(0), comes(2), 10*h + last, comes(4), comes(4)}, h%4)
		}
	}
}

func TestSwarmLettersComeAndGetLost(t *testing.T) {
	none := []string{"", ""}
	sameCases(t, []swarmCase{
		{"what is lost is not heard", "abc", []int64{loses(0), ticks(0), comes(5), comes(5)}, 0, none, []int64{0, 0}, nil},
		{"the one that is asked gets lost", "abc", []int64{comes(0), ticks(0), loses(5), comes(5)}, 0, none, []int64{0, 0}, nil},
		{"the piece gets lost", "abc", []int64{comes(0), ticks(0), comes(5), loses(5), comes(5)}, 0, none, []int64{0, 0}, nil},
		{"others get lost", "abc", []int64{comes(0), ticks(0), loses(1), comes(4), loses(1), comes(3)}, 0, []string{"a", ""}, []int64{1, 0}, nil},
		{"of those ahead one is gone", "abc", []int64{loses(0), comes(0), ticks(0), comes(4), comes(4)}, 0, none, []int64{1, 0}, nil},
		{"all are lost, and nothing comes", "abc", append(times(6, loses(0)), comes(0), loses(0), comes(7), loses(99), ticks(0), ticks(1), comes(0)), 0, none, []int64{0, 0}, nil},
		{"all are lost, by other numbers", "abc", append(times(6, loses(77)), comes(0), ticks(0), comes(0)), 0, none, []int64{0, 0}, nil},
		{"one is left, whatever its number", "abc", append(times(5, loses(0)), comes(99), ticks(1), comes(42), comes(7)), 0, none, []int64{0, 1}, nil},
		{"one is left, the first", "abc", append(times(5, loses(1)), loses(59), comes(0)), 0, none, []int64{0, 0}, nil},
		{"the first is left, and comes", "abc", []int64{loses(5), loses(4), loses(3), loses(2), loses(1), comes(98), ticks(0), comes(10), comes(11)}, 0, []string{"a", ""}, []int64{1, 0}, nil},
		{"what is sent stands behind the others", "abc", []int64{comes(0), ticks(0), comes(0), comes(0), comes(0), comes(0), comes(0), comes(0), comes(0)}, 0, []string{"a", ""}, []int64{1, 0}, nil},
		{"the piece has not come yet", "abc", []int64{comes(0), ticks(0), comes(0), comes(0), comes(0), comes(0), comes(0), comes(0)}, 0, none, []int64{0, 0}, nil},
	})
}

// p1 has the first of 16 pieces, and says so by ticks: 33 letters are on their way, and two more behind each.
func fillsWay(many int) []int64 {
	return append([]int64{comes(0), ticks(0), comes(31), comes(31)}, times(many, ticks(16))...)
}

func TestSwarmWayOfSixty(t *testing.T) {
	file := "abcdefghijklmnop"
	for many := range 17 {
		h := newWantHive(file, 1)
		for _, n := range fillsWay(many) {
			h.follow(n)
		}
		if len(h.way) != min(33+2*many, 60) {
			t.Fatalf("behind %d ticks %d are on their way", many, len(h.way))
		}
	}
	one, two := []string{"a", ""}, []string{"ab", ""}
	sameCases(t, []swarmCase{
		// With 60 on their way number 60 is the first one, of 1: there is room for asking for that, and for the piece in its place.
		{"behind 60 nothing comes", file, append(fillsWay(14), comes(60), ticks(0), comes(59), comes(59)), 0, two, []int64{2, 0}, nil},
		{"nor behind many more", file, append(fillsWay(40), comes(60), ticks(0), comes(59), comes(59)), 0, two, []int64{2, 0}, nil},
		{"59 are on their way", file, append(fillsWay(13), comes(59), ticks(0), comes(58), comes(59)), 0, two, []int64{2, 0}, nil},
		{"with 59, number 60 is the second one", file, append(fillsWay(13), comes(60), ticks(0), comes(58), comes(59)), 0, one, []int64{2, 0}, nil},
	})
	// At 60, letters of each place come and get lost, and all goes on.
	for h := range int64(100) {
		runsAs(t, "60 letters", file, 1, append(fillsWay(14), comes(h), ticks(0), comes(59), comes(59), ticks(2*h%100)), h%7)
		runsAs(t, "60 letters, some lost", file, 1, append(fillsWay(15), loses(h), comes(h), ticks(0), comes(58), comes(59), comes(58)), h%5)
	}
}

// By h: to p1 0, 2, 4, .., to p2 1, 3, 5, ..; a word of having at multiples of 3, else a piece that does not fit.
func TestSwarmBadIsBanned(t *testing.T) {
	none, bad := []string(nil), []string{"bad"}
	outs, haves := []string{"", ""}, []int64{0, 0}
	for _, file := range []string{"a", "ab", "abc", "abcdefg", "abcdefghijklmnop"} {
		sameCases(t, []swarmCase{
			{"two strikes of p1", file, []int64{lies(2), lies(4)}, 0, outs, haves, none},
			{"two strikes of each", file, []int64{lies(2), lies(1), lies(4), lies(5)}, 0, outs, haves, none},
			{"three strikes of p1", file, []int64{lies(2), lies(4), lies(8)}, 0, outs, haves, bad},
			{"three strikes of p2", file, []int64{lies(1), lies(5), lies(7)}, 0, outs, haves, bad},
			{"three of each", file, []int64{lies(2), lies(4), lies(8), lies(1), lies(5), lies(7)}, 0, outs, haves, []string{"bad", "bad"}},
			{"three of p1, two of p2", file, []int64{lies(2), lies(4), lies(8), lies(1), lies(5)}, 0, outs, haves, bad},
			{"one word three times", file, []int64{lies(4), lies(4), lies(4)}, 0, outs, haves, bad},
			{"the piece bad three times", file, []int64{lies(4), lies(10), lies(16)}, 0, outs, haves, bad},
			{"a digest more three times", file, []int64{lies(2), lies(8), lies(14)}, 0, outs, haves, bad},
			{"a digest more three times, to p2", file, []int64{lies(5), lies(11), lies(17)}, 0, outs, haves, bad},
			{"many more than three", file, append(times(20, lies(2)), times(20, lies(7))...), 0, outs, haves, []string{"bad", "bad"}},
			{"words of having are no strikes", file, []int64{lies(0), lies(6), lies(12), lies(18), lies(3), lies(9), lies(15), lies(99)}, 0, outs, haves, none},
			{"words of having among strikes", file, []int64{lies(2), lies(0), lies(4), lies(6), lies(12)}, 0, outs, haves, none},
			{"and then a third one", file, []int64{lies(2), lies(0), lies(4), lies(6), lies(12), lies(98)}, 0, outs, haves, bad},
		})
	}
}

// Who is asked first by the draw 0 is bad: what bad says it has, p0 is not asked for then.
func TestSwarmBadIsAsked(t *testing.T) {
	none, first := []string{"", ""}, []string{"a", ""}
	fetch := []int64{comes(0), ticks(0), comes(5), comes(5)}
	sameCases(t, []swarmCase{
		{"bad has 0, and is asked in vain", "abc", append([]int64{lies(0)}, fetch...), 0, none, []int64{0, 0}, nil},
		{"6 modulo 3 is 0", "abc", append([]int64{lies(6)}, fetch...), 0, none, []int64{0, 0}, nil},
		{"bad told it to p2", "abc", append([]int64{lies(3)}, fetch...), 0, first, []int64{1, 0}, nil},
		{"of 4 pieces, 6 modulo 4 is 2", "abcd", []int64{lies(6), comes(2), ticks(0), comes(7), comes(7)}, 0, none, []int64{0, 0}, nil},
		{"of 4 pieces, 12 modulo 4 is 0", "abcd", []int64{lies(12), comes(2), ticks(0), comes(7), comes(7)}, 0, none, []int64{1, 0}, nil},
		{"behind two strikes bad is still heard", "abc", append([]int64{lies(2), lies(4), lies(0)}, fetch...), 0, none, []int64{0, 0}, nil},
		{"behind three it is not", "abc", append([]int64{lies(2), lies(4), lies(8), lies(0)}, fetch...), 0, first, []int64{1, 0}, []string{"bad"}},
		{"what it had is gone with the third one", "abc", append([]int64{lies(0), lies(2), lies(4), lies(8)}, fetch...), 0, first, []int64{1, 0}, []string{"bad"}},
		{"the other peer still hears it", "abc", append([]int64{lies(1), lies(5), lies(7), lies(0)}, fetch...), 0, none, []int64{0, 0}, []string{"bad"}},
		// A strike by an index that was asked of bad ends that: p0 is asked by the next tick.
		{"the piece that was asked of bad does not fit", "abcd", []int64{lies(0), comes(0), ticks(0), lies(4), ticks(4), comes(7), comes(7)}, 0, first, []int64{1, 0}, nil},
		{"the piece of another index does not fit", "abcd", []int64{lies(0), comes(0), ticks(0), lies(2), ticks(4), comes(7), comes(7)}, 0, none, []int64{0, 0}, nil},
	})
}

// roundsOf are the haves and outs behind each number of rounds.
func roundsOf(t *testing.T, file string, script []int64, want []string) {
	t.Helper()
	for rounds, told := range want {
		out := runsAs(t, "round by round", file, 1, script, int64(rounds))
		if got := fmt.Sprintf("%d %s, %d %s", out.Haves[0], out.Outs[0], out.Haves[1], out.Outs[1]); got != told {
			t.Errorf("%q, %v: behind %d rounds %q, want %q", file, script, rounds, got, told)
		}
	}
}

// What is asked in a round is heard in it; the piece comes only in the next one.
func TestSwarmRoundByRound(t *testing.T) {
	roundsOf(t, "a", nil, []string{"0 , 0 ", "0 , 0 ", "0 , 0 ", "1 a, 1 a", "1 a, 1 a"})
	roundsOf(t, "a", []int64{comes(0)}, []string{"0 , 0 ", "0 , 0 ", "1 a, 0 ", "1 a, 1 a"})
	roundsOf(t, "a", []int64{comes(1)}, []string{"0 , 0 ", "0 , 0 ", "0 , 1 a", "1 a, 1 a"})
	roundsOf(t, "a", []int64{comes(0), ticks(0)}, []string{"0 , 0 ", "0 , 0 ", "1 a, 0 ", "1 a, 1 a"})
	roundsOf(t, "a", []int64{comes(0), ticks(0), comes(1)}, []string{"0 , 0 ", "1 a, 0 ", "1 a, 0 ", "1 a, 1 a"})
	// All is lost: p0 says anew what it has, from 0 on, a piece a round.
	roundsOf(t, "a", times(2, loses(0)), []string{"0 , 0 ", "0 , 0 ", "0 , 0 ", "1 a, 1 a"})
	roundsOf(t, "abc", times(6, loses(0)), []string{"0 , 0 ", "0 , 0 ", "0 , 0 ", "1 a, 1 a", "1 a, 1 a", "2 ab, 2 ab", "2 ab, 2 ab", "3 abc, 3 abc", "3 abc, 3 abc"})
}

// The letters of a round come one by one, the others still being on their way: where 60 are, a piece that comes first leaves room for one word alone.
func TestSwarmRoundsWithAFullWay(t *testing.T) {
	// p2 has 1, and p0 has sent 0 to p1; that is the first one, and behind it p2 fills the way with words of 1.
	script := []int64{comes(0), comes(3), ticks(5), comes(4), comes(4), comes(3), ticks(4), comes(0), comes(0), loses(0), comes(0), comes(0), comes(0)}
	script = append(script, times(26, ticks(1))...)
	// p1 has 0 by the first round, and says so to p0 and p2: the word to p2 is lost. So p2 hears of 0 only in the fourth round, when it is told anew,
	// asks for it in the fifth one, and has it by the sixth one; likewise p1, whose word that asks p2 for 1 is lost in the first round, asks anew in the fifth.
	roundsOf(t, "abc", script, []string{"0 , 1 ", "1 a, 1 ", "1 a, 2 ", "2 a, 2 ", "2 a, 2 ", "2 a, 2 ", "3 abc, 3 abc"})
	for _, c := range []struct {
		file   string
		script []int64
		fill   int64
	}{
		{"abc", []int64{90, 13, 90, 23, 20, 80, 13, 110, 110, 33, 0, 33, 33, 150, 20, 8, 8, 8}, 40},
		{"abcd", []int64{100, 13, 50, 33, 13, 140, 0, 90, 53, 53, 53, 3, 3, 3, 8, 8}, 20},
		{"abcde", []int64{53, 63, 30, 100, 23, 10, 73, 20, 73, 3, 3, 8, 3, 3, 3, 3, 3, 8, 3}, 50},
		{"abcdefg", []int64{73, 113, 113, 93, 110, 103, 103, 120, 83, 3, 130, 70, 3, 8, 3, 3, 3, 3, 8, 8, 3, 3, 3}, 50},
		{"abcdefg", []int64{3, 73, 0, 123, 113, 83, 30, 93, 93, 90, 150, 160, 33, 3, 3, 3, 3, 8, 3, 8, 3, 3, 3, 3}, 0},
	} {
		full := append(c.script, times(60-len(c.script), c.fill)...)
		for rounds := range int64(12) {
			runsAs(t, "a full way", c.file, 1, full, rounds)
		}
	}
}

// swarmFiles are files of each number of pieces that a swarm may have.
func swarmFiles() []cutFile {
	files := []cutFile{{"", 1}, {"", 48}, {"abc", 48}, {"the cat and the dog", 8}, {strings.Repeat("a", 16*48), 48}, {someFile(700), 48}, {"\x00\x00\xff\n", 1}}
	for many := 1; many <= 16; many++ {
		files = append(files, cutFile{someFile(3*many - 1), 3})
	}
	return files
}

// anyScript is a script of so many numbers; some lean towards one digit.
func anyScript(draw *rand.Rand, many int) []int64 {
	lean := draw.Int63n(15)
	var script []int64
	for range many {
		n := draw.Int63n(1000)
		if lean < 10 && draw.Intn(3) == 0 {
			n += lean - n%10
		}
		script = append(script, n)
	}
	return script
}

// Promise 14, and all that is told, of any scripts.
func TestSwarmOfAnyScripts(t *testing.T) {
	draw := rand.New(rand.NewSource(101))
	for _, c := range swarmFiles() {
		for range 12 {
			runsAs(t, "any script", c.file, c.block, anyScript(draw, draw.Intn(61)), draw.Int63n(12))
		}
	}
	for range 300 {
		file := someFile(1 + draw.Intn(5))
		runsAs(t, "any script of few pieces", file, 1, anyScript(draw, 20+draw.Intn(41)), draw.Int63n(8))
	}
}

// hardScripts are scripts behind which much is lost, is asked of bad, or is on its way, of so many pieces.
func hardScripts(many int64) map[string][]int64 {
	var has []int64
	for h := int64(0); h <= 99; h += 3 {
		has = append(has, lies(h))
	}
	lost := times(int(min(60, 2*many)), loses(0))
	scripts := map[string][]int64{
		"nothing":                                   nil,
		"all is lost":                               lost,
		"all is lost, in another order":             times(60, loses(59)),
		"bad has what it can":                       has,
		"bad has what it can, and is asked":         append(slices.Clone(has), ticks(0), ticks(3), ticks(0), ticks(3), ticks(0), ticks(3)),
		"all is lost, and bad has what it can":      append(slices.Clone(lost), has...)[:min(60, len(lost)+len(has))],
		"the way is full":                           append(fillsWay(14), comes(0), ticks(0)),
		"the way is full for long":                  fillsWay(56),
		"asked again and again, and all of it lost": {comes(0), ticks(0), loses(31), ticks(0), ticks(0), ticks(0), ticks(0), loses(31), ticks(2), ticks(4), ticks(6), ticks(8), loses(31)},
		"bad is banned by both":                     append(slices.Clone(has), lies(2), lies(4), lies(8), lies(1), lies(5), lies(7)),
		"bad is banned by one":                      {lies(2), lies(4), lies(8), lies(3), lies(9), ticks(3)},
		"ticks alone":                               times(60, ticks(2)),
	}
	return scripts
}

// Promise 15: whatever the script was, behind many rounds all is there.
func TestSwarmComesToHaveAll(t *testing.T) {
	draw := rand.New(rand.NewSource(102))
	for _, c := range swarmFiles() {
		count := wantCount(int64(len(c.file)), c.block)
		allThere(t, "no script", c.file, c.block, swarmed(t, "no script", c.file, c.block, nil, 3+3*count))
		for range 2 {
			script := anyScript(draw, draw.Intn(61))
			allThere(t, fmt.Sprint("script ", script), c.file, c.block, swarmed(t, "99 rounds", c.file, c.block, script, 99))
		}
	}
	for _, many := range []int{1, 2, 5, 16} {
		for what, script := range hardScripts(int64(many)) {
			file := someFile(many)
			allThere(t, fmt.Sprint(what, " of ", many), file, 1, swarmed(t, what, file, 1, script, 99))
		}
	}
}

// What is there stays there, and who is banned stays so: round by round no less is put out.
func TestSwarmNeverFallsBack(t *testing.T) {
	for what, script := range hardScripts(3) {
		first := swarmed(t, what, "abc", 1, script, 0)
		last := first
		for rounds := range int64(25) {
			out := runsAs(t, what, "abc", 1, script, rounds)
			for i := range 2 {
				if out.Haves[i] < last.Haves[i] || !strings.HasPrefix(out.Outs[i], last.Outs[i]) {
					t.Errorf("%s: behind %d rounds %s, and ahead of that %s", what, rounds, toldSwarm(out), toldSwarm(last))
				}
			}
			sameTexts(t, what+": banned", out.Banned, first.Banned)
			last = out
		}
		allThere(t, what, "abc", 1, last)
	}
}
