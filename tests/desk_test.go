package tests

import (
	"fmt"
	"math/rand"
	"regexp"
	"slices"
	"strconv"
	"strings"
	"testing"
	"unsafe"

	"loop.example/g00550/impl"
)

// A line of the table, without its line feed.
var wantLine = regexp.MustCompile(`\A(?:file (?:0|[1-9][0-9]{0,8}) [^ \n]+|(?:pack|sort) [^ \n]+|(?:add|wrong|crash|swarm) (?:0|[1-9][0-9]{0,8})|sync|out)\z`)

// wantTable is a desk that is worked at by the counterparts of the other layers' calls.
type wantTable struct {
	file    string
	block   int64
	records []kept
	keep    impl.Keep
}

func (d *wantTable) open(file string, block int64) {
	list, records := keptFile(file, block)
	*d = wantTable{file, block, records, impl.Keep{List: list}}
}

func (d *wantTable) there() []kept {
	records, _ := wantGone(d.keep.List, d.keep.Log)
	return records
}

func (d *wantTable) setFile(block int64, text string) string {
	if block < 1 || block > 48 || len(text) > 1000 || wantCount(int64(len(text)), block) > 64 {
		return "error 1"
	}
	d.open(strings.ReplaceAll(text, "_", " "), block)
	return fmt.Sprint("pieces ", len(d.records))
}

func (d *wantTable) add(index int64, behind string) string {
	if index >= int64(len(d.records)) {
		return "error 6"
	}
	r := d.records[index]
	r.piece += behind
	out := wantAdd(d.keep, r)
	if out.Code != impl.OK {
		return fmt.Sprint("error ", out.Code)
	}
	d.keep = out.Keep
	return "ok"
}

func (d *wantTable) out() string {
	text := beginning(d.file, d.block, d.there())
	if text == "" {
		return "-"
	}
	return strings.ReplaceAll(text, " ", "_")
}

func (d *wantTable) swarm(rounds int64) string {
	if rounds > 99 || len(d.records) > 16 {
		return "error 1"
	}
	return strings.Trim(fmt.Sprint(wantSwarm(d.file, d.block, nil, rounds).Haves), "[]")
}

// tell is what a right line tells.
func (d *wantTable) tell(line string) string {
	words := strings.Split(line, " ")
	n := int64(0)
	if len(words) > 1 {
		n, _ = strconv.ParseInt(words[1], 10, 64)
	}
	switch words[0] {
	case "file":
		return d.setFile(n, words[2])
	case "pack":
		if len(words[1]) > 48 {
			return "0"
		}
		return fmt.Sprint(len(wantPack(words[1])))
	case "sort":
		if len(words[1]) > 48 {
			return "error 1"
		}
		sorted := wantBwt(words[1])
		return fmt.Sprint(sorted.Text, " ", sorted.At)
	case "add":
		return d.add(n, "")
	case "wrong":
		return d.add(n, "x")
	case "sync":
		d.keep = wantSync(d.keep)
	case "crash":
		d.keep = wantRecover(wantCrash(d.keep, n))
	case "out":
		return d.out()
	case "swarm":
		return d.swarm(n)
	}
	return fmt.Sprint("have ", len(d.there()))
}

// wantDesk is what DeskRun has to tell.
func wantDesk(text string) impl.DeskOut {
	if len(text) > 8000 {
		return impl.DeskOut{Code: impl.ErrSize}
	}
	lines := strings.Split(text, "\n")
	last := len(lines) - 1
	for i, line := range lines[:last] {
		if i == 30 || !wantLine.MatchString(line) {
			return impl.DeskOut{Line: int64(i), Code: impl.ErrSyntax}
		}
	}
	if lines[last] != "" {
		return impl.DeskOut{Line: int64(last), Code: impl.ErrSyntax}
	}
	d := &wantTable{}
	d.open("", 1)
	var out impl.DeskOut
	for _, line := range lines[:last] {
		out.Text += d.tell(line) + "\n"
	}
	return out
}

func sameDesk(t *testing.T, what string, got impl.DeskOut, want impl.DeskOut) {
	t.Helper()
	if got != want {
		t.Errorf("%s:\n got %.300q, line %d, code %d\nwant %.300q, line %d, code %d", what, got.Text, got.Line, got.Code, want.Text, want.Line, want.Code)
	}
}

// ran runs a desk, and asks for what always holds of its answer (promise 16 among it).
func ran(t *testing.T, text string) impl.DeskOut {
	t.Helper()
	what := fmt.Sprintf("%.200q", text)
	room := []byte(text)
	out := impl.DeskRun(unsafe.String(unsafe.SliceData(room), len(room)))
	if string(room) != text {
		t.Errorf("%s: the text was written into", what)
	}
	back := strings.Clone(out.Text)
	markAll(room, '#')
	if out.Text != back {
		t.Errorf("%s: what is told shares the text's memory", what)
	}
	fault := impl.DeskFault(text)
	sameDesk(t, what+", without Text", fault, impl.DeskOut{Line: out.Line, Code: out.Code})
	if out.Code != impl.OK && out.Text != "" {
		t.Errorf("%s: code %d, and %.60q beside it", what, out.Code, out.Text)
	}
	if out.Code != impl.ErrSyntax && out.Line != 0 {
		t.Errorf("%s: code %d, and line %d beside it", what, out.Code, out.Line)
	}
	if out.Code == impl.OK && strings.Count(out.Text, "\n") != strings.Count(text, "\n") {
		t.Errorf("%s: tells %q", what, out.Text)
	}
	return out
}

// tells runs a desk, each of whose lines is followed by a line feed, and asks for the lines that it tells.
func tells(t *testing.T, what string, lines []string, want []string) {
	t.Helper()
	text, told := strings.Join(lines, "\n")+"\n", strings.Join(want, "\n")+"\n"
	sameDesk(t, what, ran(t, text), impl.DeskOut{Text: told})
	sameDesk(t, what+", by the counterpart", wantDesk(text), impl.DeskOut{Text: told})
}

// faulty asks that a desk is refused for a line.
func faulty(t *testing.T, what string, text string, line int64) {
	t.Helper()
	sameDesk(t, fmt.Sprintf("%s: %.100q", what, text), ran(t, text), impl.DeskOut{Line: line, Code: impl.ErrSyntax})
}

// desked is a line and what it has to tell.
type desked struct {
	line string
	told string
}

func tellsEach(t *testing.T, what string, all []desked) {
	t.Helper()
	var lines, told []string
	for _, d := range all {
		lines, told = append(lines, d.line), append(told, d.told)
	}
	tells(t, what, lines, told)
}

func TestDeskLimits(t *testing.T) {
	if impl.MaxDesk != 30 {
		t.Errorf("MaxDesk is %d", impl.MaxDesk)
	}
}

func TestDeskWords(t *testing.T) {
	want := []string{"add", "crash", "file", "out", "pack", "sort", "swarm", "sync", "wrong"}
	first := impl.DeskWords()
	sameTexts(t, "the words", first, want)
	markAll(first[:cap(first)], "turned")
	sameTexts(t, "the words, when others were turned", impl.DeskWords(), want)
	for _, word := range want {
		for _, behind := range []string{"", " 1", " 1 a"} {
			if right := wantLine.MatchString(word + behind); (impl.DeskFault(word+behind+"\n").Code == impl.OK) != right {
				t.Errorf("%q: that it is right is not %v", word+behind, right)
			}
		}
	}
}

func TestDeskOfNoLine(t *testing.T) {
	sameDesk(t, "no line", ran(t, ""), impl.DeskOut{})
}

func TestDeskKnown(t *testing.T) {
	tellsEach(t, "a file of two pieces", []desked{
		{"out", "-"}, {"file 4 ab_cd_ef", "pieces 2"}, {"out", "-"}, {"add 1", "ok"}, {"out", "-"}, {"add 0", "ok"}, {"out", "ab_cd_ef"},
		{"sync", "have 2"}, {"add 2", "error 6"}, {"wrong 0", "error 5"}, {"add 0", "error 7"}, {"crash 0", "have 2"}, {"out", "ab_cd_ef"},
		{"swarm 0", "0 0"}, {"swarm 2", "0 0"}, {"swarm 3", "1 1"}, {"swarm 5", "2 2"}, {"swarm 99", "2 2"}, {"swarm 100", "error 1"},
		{"pack a", "6"}, {"sort banana", "nnbaaa 3"}, {"file 0 x", "error 1"}, {"out", "ab_cd_ef"}, {"file 1 x", "pieces 1"}, {"out", "-"},
	})
	tellsEach(t, "each word alone", []desked{{"out", "-"}})
	tellsEach(t, "each word alone", []desked{{"sync", "have 0"}})
	tellsEach(t, "each word alone", []desked{{"crash 7", "have 0"}})
	tellsEach(t, "each word alone", []desked{{"add 0", "error 6"}})
	tellsEach(t, "each word alone", []desked{{"wrong 0", "error 6"}})
	tellsEach(t, "each word alone", []desked{{"swarm 3", "0 0"}})
}

// noLines are lines that are none of the table's, without their line feeds.
func noLines() []string {
	return []string{
		"", " ", "  ", "\t", "\r", "\x00", "\xff", "_", "-", "0", "1", "x", "ok", "have", "pieces 1", "error 1", "run", "quit", "help", "#", "N", "TEXT",
		"Out", "OUT", "outs", "ou", "o", "out1", "out_", "out\r", "out\t", "\tout", "\ufeffout", "\x00out", "out\x00", "out\v", "synch", "syn", "Sync",
		" out", "out ", " out ", "out  ", "  out", "out 1", "out out", "out _", "out -", " sync", "sync ", "sync 0", "sync sync", "sync _",
		"file", "file ", "file 1", "file 1 ", "file  1 a", "file 1  a", " file 1 a", "file 1 a ", "file 1 a b", "file 1 a 1", "file a", "file a 1", "file _ 1", "file 1\ta", "file\t1 a", "filed 1 a", "File 1 a", "file1 a", "file 1a",
		"pack", "pack ", "pack  a", " pack a", "pack a ", "pack a b", "pack a  b", "pack a 1", "packs a", "pac a", "PACK a", "pack\ta",
		"sort", "sort ", "sort  a", " sort a", "sort a ", "sort a b", "sort a 1", "sorts a", "sor a", "Sort a", "sort\ta",
		"add", "add ", "add  0", " add 0", "add 0 ", "add 0 0", "add 0 a", "add a", "add _", "adds 0", "ad 0", "Add 0", "add\t0", "add0",
		"wrong", "wrong ", "wrong  0", " wrong 0", "wrong 0 ", "wrong 0 0", "wrong 0 x", "wrong x", "wrongs 0", "wron 0", "Wrong 0",
		"crash", "crash ", "crash  0", " crash 0", "crash 0 ", "crash 0 0", "crash a", "crashs 0", "cras 0", "Crash 0",
		"swarm", "swarm ", "swarm  0", " swarm 0", "swarm 0 ", "swarm 0 0", "swarm a", "swarms 0", "swar 0", "Swarm 0",
		"add 0\r", "crash 0\r", "swarm 0\x00", "have 0", "outpack a", "out pack a", "pack a out", "add 0 add 1", "\u00a0out", "out\u00a0", "out\u00a01", "pack\u00a0a", "file 1\u00a0a", "\u2003sync",
	}
}

// anyLines are right lines, of each word.
func anyLines() []string {
	return []string{"out", "file 2 abcd", "pack abc", "sort abc", "add 0", "wrong 0", "sync", "crash 0", "swarm 0", "file 0 x", "add 7"}
}

func TestDeskLinesThatAreNone(t *testing.T) {
	right := strings.Join(anyLines(), "\n") + "\n"
	for _, line := range noLines() {
		faulty(t, "alone", line+"\n", 0)
		faulty(t, "the first one", line+"\n"+right, 0)
		faulty(t, "the last one", right+line+"\n", 11)
		faulty(t, "in the midst", right+line+"\n"+right, 11)
		faulty(t, "ahead of another", "out\n"+line+"\nno\n", 1)
		faulty(t, "ahead of one without a line feed", "out\n"+line+"\nout", 1)
		if line != "" {
			faulty(t, "without a line feed", right+line, 11)
		}
	}
	for _, line := range anyLines() {
		if out := ran(t, line+"\n"); out.Code != impl.OK {
			t.Errorf("%q: line %d, code %d", line, out.Line, out.Code)
		}
		faulty(t, "a blank ahead", " "+line+"\n", 0)
		faulty(t, "a blank behind", line+" \n", 0)
		faulty(t, "a word more", line+" a\n", 0)
		faulty(t, "a number more", line+" 1\n", 0)
		faulty(t, "no word but the first one's end", line[1:]+"\n", 0)
		if i := strings.Index(line, " "); i > 0 {
			faulty(t, "two blanks", line[:i]+" "+line[i:]+"\n", 0)
			faulty(t, "a word too few", line[:strings.LastIndex(line, " ")]+"\n", 0)
			faulty(t, "a blank too few", line[:i]+line[i+1:]+"\n", 0)
			faulty(t, "no blank", line[:i]+"\t"+line[i+1:]+"\n", 0)
		}
	}
}

func TestDeskLinesWithoutALineFeed(t *testing.T) {
	for _, line := range anyLines() {
		faulty(t, "alone", line, 0)
		faulty(t, "the second one", "out\n"+line, 1)
		faulty(t, "with another end", "out\n"+line+"\r", 1)
		faulty(t, "behind one that is none", "no\n"+line, 0)
		faulty(t, "an empty line behind", line+"\n\n", 1)
		faulty(t, "an empty line ahead", "\n"+line+"\n", 0)
		faulty(t, "ended by another line's word", line+"\r"+line+"\n", 0)
	}
	faulty(t, "a blank at the end", "out\n ", 1)
	faulty(t, "a blank at the end of 30", strings.Repeat("out\n", 30)+" ", 30)
	faulty(t, "the thirtieth", strings.Repeat("out\n", 29)+"out", 29)
}

func TestDeskOfThirtyLines(t *testing.T) {
	for _, line := range anyLines() {
		for _, many := range []int{1, 29, 30} {
			text := strings.Repeat(line+"\n", many)
			sameDesk(t, fmt.Sprint(many, " times ", line), ran(t, text), wantDesk(text))
		}
		for _, many := range []int{31, 32, 60, 300} {
			faulty(t, fmt.Sprint(many, " lines"), strings.Repeat(line+"\n", many), 30)
		}
		faulty(t, "the one too many lacks its line feed", strings.Repeat("out\n", 30)+line, 30)
	}
	thirty := strings.Repeat("sync\n", 30)
	faulty(t, "the one too many is none", thirty+"no\n", 30)
	faulty(t, "the one too many is empty", thirty+"\n", 30)
	faulty(t, "the one too many is none, and another is", thirty+"out\nno\n", 30)
	for line := range 31 {
		text := strings.Repeat("sync\n", line) + "no\n" + strings.Repeat("sync\n", 35-line)
		faulty(t, "one that is none among too many", text, int64(line))
	}
}

// A desk of so many bytes, in one line.
func longDesk(size int) string {
	return "pack " + strings.Repeat("a", size-6) + "\n"
}

func TestDeskOfTooManyBytes(t *testing.T) {
	sameDesk(t, "8000 bytes", ran(t, longDesk(8000)), impl.DeskOut{Text: "0\n"})
	faulty(t, "8000 bytes, none of them a line", strings.Repeat("\n", 8000), 0)
	faulty(t, "8000 bytes of lines", strings.Repeat("out\n", 2000), 30)
	faulty(t, "8000 bytes, the last one no line feed", longDesk(7999)+"a", 1)
	for what, text := range map[string]string{
		"8001 bytes":                      longDesk(8001),
		"8001 bytes, none of them a line": strings.Repeat("\n", 8001),
		"8001 bytes, no line feed":        strings.Repeat("a", 8001),
		"8001 bytes, the last one alone":  longDesk(8000) + "\n",
		"8004 bytes of lines":             strings.Repeat("out\n", 2001),
		"8010 bytes, the first line none": "no\n" + longDesk(8007),
		"80000 bytes":                     longDesk(80000),
	} {
		sameDesk(t, what, ran(t, text), impl.DeskOut{Code: impl.ErrSize})
	}
}

// numLines are the lines that take a number, up to it and behind it.
func numLines() [][2]string {
	return [][2]string{{"add ", ""}, {"wrong ", ""}, {"crash ", ""}, {"swarm ", ""}, {"file ", " a_b"}}
}

func TestDeskNumbers(t *testing.T) {
	for _, line := range numLines() {
		for _, n := range []string{"0", "1", "2", "3", "5", "9", "10", "11", "48", "49", "90", "100", "101", "1000", "12345678", "99999999", "100000000", "123456789", "999999999"} {
			text := "file 2 abc\nadd 1\n" + line[0] + n + line[1] + "\nout\nsync\n"
			out := ran(t, text)
			sameDesk(t, line[0]+n, out, wantDesk(text))
			if out.Code != impl.OK {
				t.Errorf("%s%s: code %d", line[0], n, out.Code)
			}
		}
		for _, n := range []string{
			"00", "01", "000", "007", "010", "000000000", "000000001", "0000000000", "0000000001", "1000000000", "9999999999", "12345678901234567890", strings.Repeat("1", 100),
			"-1", "+1", "-0", "+0", "-", "+", "--1", "1-", "1+", "a", "1a", "a1", "1a1", "0x1", "1e1", "1.0", "1.", ".1", "1,0", "1_0", "_1", "_", "1\t", "\t1", "1\r", "1\x00", "\x001", "\xff", "1\xff", "/", ":", "1/", "1:", "0a", "0_",
			"\u0661", "\uff11", "\u00b2", "1\u0661", "N", "\xb1", "\u0131", "\u0130",
		} {
			faulty(t, "no number", "out\n"+line[0]+n+line[1]+"\n", 1)
		}
	}
}

// oddTexts are words of bytes that are no letters, or no whole ones.
func oddTexts() []string {
	texts := []string{"\x00", "\xff", "\x80", "\xc3", "\xc3\xa9", "\u00e9t\u00e9", "a\xffb", "\xe2\x82", "\xe2\x82_", "_\xe2\x82", "\xe2_\x82", "\xf0\x9f\x98\x80", "\xed\xa0\x80", "\xc0\xdf", "\xc1\x9f_", "\ufffd", "\ufffd_\ufffd", "\r", "\t\v\f", "a\rb", "\x7f\x1f\x01", "-", "--", "\"'`\\", "%d%s", "\u00a0_\u2003", "\xdf", "\xa0"}
	all := ""
	for b := range 256 {
		if b != ' ' && b != '\n' {
			all += string([]byte{byte(b)})
		}
	}
	return append(texts, all, all[100:]+all[:100])
}

func TestDeskFileTexts(t *testing.T) {
	for _, text := range append(oddTexts(), "a", "_", "__", "a_", "_a", "a_b", "a__b", "ab", "___a___", "file", "out", "1", "0", "x", strings.Repeat("_", 48)) {
		desk := []string{"file 16 " + text, "out"}
		many := int(wantCount(int64(len(text)), 16))
		told := []string{fmt.Sprint("pieces ", many), "-"}
		for i := range many {
			desk, told = append(desk, fmt.Sprint("add ", i)), append(told, "ok")
		}
		tells(t, fmt.Sprintf("the file %q", text), append(desk, "out", "sync"), append(told, text, fmt.Sprint("have ", many)))
	}
}

// A blank in the file is one of its bytes: with another one the pieces, and what a log has of them, are others.
func TestDeskFileBlanks(t *testing.T) {
	for _, c := range []struct {
		file string
		text string
	}{{strings.Repeat(" ", 12), strings.Repeat("_", 12)}, {"a" + strings.Repeat(" ", 20) + "b", "a" + strings.Repeat("_", 20) + "b"}} {
		_, records := keptFile(c.file, 48)
		_, others := keptFile(c.text, 48)
		size := len(records[0].text())
		if len(others[0].text()) <= size {
			t.Fatalf("%q is no file whose record tells", c.file)
		}
		set := "file 48 " + c.text
		tells(t, "a byte too few", []string{set, "add 0", fmt.Sprint("crash ", size-1)}, []string{"pieces 1", "ok", "have 0"})
		tells(t, "as many bytes as the record has", []string{set, "add 0", fmt.Sprint("crash ", size), "out"}, []string{"pieces 1", "ok", "have 1", c.text})
	}
}

func TestDeskFileBlocks(t *testing.T) {
	tellsEach(t, "blocks of a short file", []desked{
		{"file 1 abc", "pieces 3"}, {"file 2 abc", "pieces 2"}, {"file 3 abc", "pieces 1"}, {"file 4 abc", "pieces 1"}, {"file 47 abc", "pieces 1"}, {"file 48 abc", "pieces 1"},
		{"file 0 abc", "error 1"}, {"file 49 abc", "error 1"}, {"file 50 abc", "error 1"}, {"file 999999999 abc", "error 1"}, {"file 1 _", "pieces 1"}, {"file 1 __", "pieces 2"},
	})
	a := func(many int) string { return strings.Repeat("a", many) }
	tellsEach(t, "files at the limits", []desked{
		{"file 1 " + a(63), "pieces 63"}, {"file 1 " + a(64), "pieces 64"}, {"file 1 " + a(65), "error 1"}, {"file 2 " + a(128), "pieces 64"}, {"file 2 " + a(129), "error 1"},
		{"file 15 " + a(960), "pieces 64"}, {"file 15 " + a(961), "error 1"}, {"file 16 " + a(1000), "pieces 63"}, {"file 48 " + a(1000), "pieces 21"},
	})
	tellsEach(t, "files that are too long", []desked{
		{"file 16 " + a(1001), "error 1"}, {"file 48 " + a(1001), "error 1"}, {"file 48 " + strings.Repeat("_", 1001), "error 1"}, {"file 48 " + a(4000), "error 1"},
	})
	sameDesk(t, "the longest text", ran(t, "file 48 "+a(7991)+"\n"), impl.DeskOut{Text: "error 1\n"})
}

// A file of which ListOf tells a code is none: the desk has what it had.
func TestDeskFileRefused(t *testing.T) {
	for _, line := range []string{"file 0 xyz", "file 49 xyz", "file 1 " + strings.Repeat("x", 65), "file 48 " + strings.Repeat("x", 1001), "file 999999999 x"} {
		tellsEach(t, "the first file", []desked{
			{line, "error 1"}, {"out", "-"}, {"add 0", "error 6"}, {"sync", "have 0"}, {"swarm 3", "0 0"}, {"swarm 99", "0 0"},
		})
		tellsEach(t, "a file", []desked{
			{"file 2 ab_cd", "pieces 3"}, {"add 0", "ok"}, {"sync", "have 1"}, {"add 2", "ok"},
			{line, "error 1"}, {"out", "ab"}, {"add 0", "error 7"}, {"add 2", "error 7"}, {"add 3", "error 6"}, {"wrong 1", "error 5"}, {"swarm 3", "1 1"}, {"swarm 7", "3 3"},
			{line, "error 1"}, {"crash 0", "have 1"}, {line, "error 1"}, {"add 1", "ok"}, {"add 2", "ok"}, {"out", "ab_cd"}, {line, "error 1"}, {"sync", "have 3"}, {"out", "ab_cd"},
		})
	}
}

func TestDeskSecondFile(t *testing.T) {
	for _, second := range []desked{{"file 2 ab_cd", "pieces 3"}, {"file 2 ab_ce", "pieces 3"}, {"file 1 ab_", "pieces 3"}} {
		text := strings.Fields(second.line)[2]
		beginning := text[:int(second.line[5]-'0')]
		tellsEach(t, "another file: "+second.line, []desked{
			{"file 2 ab_cd", "pieces 3"}, {"add 0", "ok"}, {"add 1", "ok"}, {"sync", "have 2"}, {"add 2", "ok"}, {"out", "ab_cd"},
			second, {"out", "-"}, {"crash 999", "have 0"}, {"sync", "have 0"}, {"out", "-"}, {"add 0", "ok"}, {"out", beginning}, {"add 2", "ok"}, {"crash 0", "have 0"},
			{"add 2", "ok"}, {"add 1", "ok"}, {"add 0", "ok"}, {"sync", "have 3"}, {"out", text},
		})
	}
	tellsEach(t, "fewer and more pieces", []desked{
		{"file 1 abcd", "pieces 4"}, {"add 3", "ok"}, {"file 4 abcd", "pieces 1"}, {"add 3", "error 6"}, {"add 1", "error 6"}, {"add 0", "ok"}, {"out", "abcd"},
		{"file 3 abcd", "pieces 2"}, {"out", "-"}, {"add 2", "error 6"}, {"add 1", "ok"}, {"out", "-"}, {"add 0", "ok"}, {"out", "abcd"},
	})
}

func TestDeskPack(t *testing.T) {
	tellsEach(t, "blocks", []desked{
		{"pack a", "6"}, {"pack ab", "7"}, {"pack _", "6"}, {"pack 0", "6"}, {"pack -", "6"}, {"pack aaaaaaaaaaaa", "17"}, {"pack aaaaaaaaaaaaa", "17"},
		{"pack " + strings.Repeat("a", 40), "17"}, {"pack " + strings.Repeat("\x00", 48), "14"}, {"pack " + strings.Repeat("\x00", 49), "0"},
		{"pack abcdefghijklmnopqrstuvwxyzABCDEFGHIJKLMNOPQRSTUV", "53"}, {"pack abcdefghijklmnopqrstuvwxyzABCDEFGHIJKLMNOPQRSTUVW", "0"},
		{"pack " + strings.Repeat("a", 1001), "0"}, {"pack \xff", "6"}, {"pack \xe2\x82\xac", "8"},
	})
	// Twelve blanks have 16 bytes made short, twelve `_` have 17: here each stands for itself.
	tellsEach(t, "bytes that stand for themselves", []desked{{"pack ____________", "17"}, {"pack " + strings.Repeat("_", 15), "15"}, {"pack " + strings.Repeat("_", 48), "17"}})
	if many := len(impl.BlockPack(strings.Repeat(" ", 12))); many != 16 {
		t.Errorf("twelve blanks have %d bytes", many)
	}
	for _, block := range append(packBlocks(), oddTexts()...) {
		if block == "" || strings.ContainsAny(block, " \n") {
			continue
		}
		many := 0
		if len(block) <= 48 {
			many = len(wantPack(block))
		}
		tells(t, "a block made short", []string{"pack " + block}, []string{fmt.Sprint(many)})
	}
}

func TestDeskSort(t *testing.T) {
	tellsEach(t, "blocks", []desked{
		{"sort a", "a 0"}, {"sort banana", "nnbaaa 3"}, {"sort abab", "bbaa 0"}, {"sort 10", "10 1"}, {"sort _", "_ 0"}, {"sort -", "- 0"}, {"sort \xff", "\xff 0"}, {"sort ba", "ba 1"}, {"sort ab", "ba 0"},
		{"sort " + strings.Repeat("a", 48), strings.Repeat("a", 48) + " 0"}, {"sort " + strings.Repeat("a", 49), "error 1"}, {"sort " + strings.Repeat("a", 1001), "error 1"},
		{"sort b" + strings.Repeat("a", 47), "b" + strings.Repeat("a", 47) + " 47"},
	})
	// A blank would be less than A: here each `_` stands for itself, behind A and ahead of a.
	tellsEach(t, "bytes that stand for themselves", []desked{{"sort a_b", "ab_ 1"}, {"sort A_B", "B_A 0"}, {"sort _A", "_A 1"}})
	for _, block := range append(someBlocks(), oddTexts()...) {
		if block == "" || strings.ContainsAny(block, " \n") {
			continue
		}
		want := "error 1"
		if len(block) <= 48 {
			sorted := wantBwt(block)
			want = fmt.Sprint(sorted.Text, " ", sorted.At)
		}
		tells(t, "sorted turns", []string{"sort " + block}, []string{want})
	}
}

// What packs, sorts, runs a swarm or puts out leaves the desk as it is.
func TestDeskLinesThatChangeNothing(t *testing.T) {
	for _, line := range []desked{
		{"pack abc", "8"}, {"pack " + strings.Repeat("a", 49), "0"}, {"sort banana", "nnbaaa 3"}, {"sort " + strings.Repeat("a", 49), "error 1"}, {"out", ""}, {"add 3", "error 6"}, {"wrong 0", "error 5"}, {"wrong 1", "error 5"}, {"wrong 3", "error 6"},
		{"swarm 0", "0 0"}, {"swarm 9", "3 3"}, {"swarm 100", "error 1"}, {"file 0 x", "error 1"},
	} {
		at := func(out string) desked {
			if line.line == "out" {
				return desked{"out", out}
			}
			return line
		}
		tellsEach(t, line.line, []desked{
			{"file 2 ab_cd", "pieces 3"}, at("-"), {"out", "-"}, {"add 0", "ok"}, at("ab"), {"out", "ab"}, {"sync", "have 1"}, at("ab"), {"add 1", "ok"}, at("ab_c"), {"out", "ab_c"},
			{"crash 0", "have 1"}, at("ab"), {"add 0", "error 7"}, {"add 2", "ok"}, at("ab"), {"crash 9999", "have 2"}, at("ab"), {"add 1", "ok"}, at("ab_cd"), {"out", "ab_cd"},
		})
	}
}

func TestDeskAdd(t *testing.T) {
	tellsEach(t, "the first file", []desked{{"add 0", "error 6"}, {"add 1", "error 6"}, {"add 999999999", "error 6"}, {"wrong 0", "error 6"}, {"wrong 1", "error 6"}, {"out", "-"}, {"sync", "have 0"}, {"crash 0", "have 0"}})
	tellsEach(t, "numbers that there are, and none", []desked{
		{"file 2 abcde", "pieces 3"}, {"add 3", "error 6"}, {"sync", "have 0"}, {"add 2", "ok"}, {"out", "-"}, {"crash 999", "have 1"}, {"add 2", "error 7"}, {"out", "-"}, {"sync", "have 1"},
		{"add 0", "ok"}, {"out", "ab"}, {"sync", "have 2"}, {"add 0", "error 7"}, {"add 3", "error 6"}, {"add 4", "error 6"}, {"add 999999999", "error 6"}, {"add 1", "ok"}, {"out", "abcde"}, {"sync", "have 3"},
		{"add 0", "error 7"}, {"add 1", "error 7"}, {"add 2", "error 7"}, {"add 3", "error 6"}, {"out", "abcde"}, {"sync", "have 3"},
	})
	tellsEach(t, "the last one of 64", []desked{
		{"file 1 " + strings.Repeat("a", 64), "pieces 64"}, {"add 64", "error 6"}, {"add 63", "ok"}, {"add 63", "error 7"}, {"wrong 63", "error 5"}, {"wrong 64", "error 6"}, {"out", "-"}, {"add 0", "ok"}, {"out", "a"}, {"sync", "have 2"},
	})
}

// What does not fit is not taken: ahead of that it is there already.
func TestDeskWrong(t *testing.T) {
	tellsEach(t, "pieces with a byte more", []desked{
		{"file 2 abcde", "pieces 3"}, {"wrong 0", "error 5"}, {"out", "-"}, {"sync", "have 0"}, {"wrong 2", "error 5"}, {"crash 999", "have 0"}, {"wrong 3", "error 6"}, {"wrong 999999999", "error 6"},
		{"add 0", "ok"}, {"wrong 0", "error 5"}, {"out", "ab"}, {"wrong 1", "error 5"}, {"out", "ab"}, {"sync", "have 1"}, {"wrong 0", "error 5"}, {"add 0", "error 7"}, {"wrong 1", "error 5"}, {"add 1", "ok"}, {"add 2", "ok"}, {"wrong 2", "error 5"}, {"out", "abcde"}, {"sync", "have 3"},
	})
	tellsEach(t, "a file that goes on with that byte", []desked{{"file 2 axx", "pieces 2"}, {"wrong 0", "error 5"}, {"wrong 1", "error 5"}, {"sync", "have 0"}})
	tellsEach(t, "a block that such a byte would fill", []desked{{"file 2 xxx", "pieces 2"}, {"wrong 1", "error 5"}, {"wrong 0", "error 5"}, {"out", "-"}, {"sync", "have 0"}})
}

// A record of a piece of two bytes, with two digests, has 1+8+1+66 bytes, 4 of its seal and 2 of how many that is.
func TestDeskCrashKnown(t *testing.T) {
	set := []desked{{"file 2 abcdefgh", "pieces 4"}, {"add 0", "ok"}, {"add 1", "ok"}, {"add 3", "ok"}}
	for _, c := range []struct{ keep, have int }{{0, 0}, {1, 0}, {81, 0}, {82, 1}, {83, 1}, {163, 1}, {164, 2}, {165, 2}, {245, 2}, {246, 3}, {247, 3}, {999999999, 3}} {
		out := []string{"-", "ab", "abcd", "abcd"}[c.have]
		have := fmt.Sprint("have ", c.have)
		tellsEach(t, "nothing synced", append(slices.Clone(set), desked{fmt.Sprint("crash ", c.keep), have}, desked{"out", out}, desked{"crash 0", have}, desked{"out", out}))
	}
	set = append(set[:2:2], desked{"sync", "have 1"}, desked{"add 3", "ok"}, desked{"add 1", "ok"})
	for _, c := range []struct{ keep, have int }{{0, 1}, {1, 1}, {81, 1}, {82, 2}, {83, 2}, {163, 2}, {164, 3}, {165, 3}, {999999999, 3}} {
		out := []string{"-", "ab", "ab", "abcd"}[c.have]
		have := fmt.Sprint("have ", c.have)
		tellsEach(t, "one synced", append(slices.Clone(set), desked{fmt.Sprint("crash ", c.keep), have}, desked{"out", out}, desked{"sync", have}, desked{"crash 0", have}, desked{"out", out}))
	}
	tellsEach(t, "nothing there", []desked{{"crash 0", "have 0"}, {"crash 1", "have 0"}, {"file 1 a", "pieces 1"}, {"crash 0", "have 0"}, {"crash 999999999", "have 0"}, {"sync", "have 0"}, {"sync", "have 0"}, {"out", "-"}})
	tellsEach(t, "what was lost comes again", []desked{{"file 1 ab", "pieces 2"}, {"add 0", "ok"}, {"crash 0", "have 0"}, {"out", "-"}, {"add 0", "ok"}, {"out", "a"}, {"sync", "have 1"}, {"add 1", "ok"}, {"crash 3", "have 1"}, {"add 1", "ok"}, {"sync", "have 2"}, {"crash 0", "have 2"}, {"out", "ab"}})
}

// Of each number of bytes that a crash leaves, what was synced is there, and so many more as come in a row.
func TestDeskCrashByEachByte(t *testing.T) {
	_, records := keptFile("ab cd", 2)
	for synced := range 3 {
		sizes := []int{len(records[2].text()), len(records[0].text())}
		left := sizes[0] + sizes[1]
		for _, size := range sizes[:synced] {
			left -= size
		}
		for keep := range left + 3 {
			lines := []string{"file 2 ab_cd", "add 2", "add 0"}
			told := []string{"pieces 3", "ok", "ok"}
			if synced > 0 {
				lines, told = slices.Insert(lines, 1+synced, "sync"), slices.Insert(told, 1+synced, fmt.Sprint("have ", synced))
			}
			have := synced
			for rest := keep; have < 2 && rest >= sizes[have]; have++ {
				rest -= sizes[have]
			}
			tells(t, "a crash", append(lines, fmt.Sprint("crash ", keep), "out"), append(told, fmt.Sprint("have ", have), []string{"-", "-", "ab"}[have]))
		}
	}
}

func TestDeskOut(t *testing.T) {
	tellsEach(t, "blanks", []desked{
		{"file 1 _", "pieces 1"}, {"out", "-"}, {"add 0", "ok"}, {"out", "_"}, {"file 1 -", "pieces 1"}, {"add 0", "ok"}, {"out", "-"},
		{"file 2 __a__", "pieces 3"}, {"add 1", "ok"}, {"out", "-"}, {"add 0", "ok"}, {"out", "__a_"}, {"add 2", "ok"}, {"out", "__a__"},
		{"file 3 a_-", "pieces 1"}, {"add 0", "ok"}, {"out", "a_-"},
	})
}

func TestDeskSwarm(t *testing.T) {
	tellsEach(t, "the first file", []desked{{"swarm 0", "0 0"}, {"swarm 1", "0 0"}, {"swarm 99", "0 0"}, {"swarm 100", "error 1"}, {"swarm 999999999", "error 1"}})
	// Of what is told at first a peer asks in the second round for one piece, which comes in the third; each other takes two rounds.
	tellsEach(t, "three pieces", []desked{
		{"file 1 abc", "pieces 3"}, {"swarm 0", "0 0"}, {"swarm 1", "0 0"}, {"swarm 2", "0 0"}, {"swarm 3", "1 1"}, {"swarm 4", "1 1"}, {"swarm 5", "2 2"}, {"swarm 6", "2 2"}, {"swarm 7", "3 3"}, {"swarm 8", "3 3"},
		{"swarm 98", "3 3"}, {"swarm 99", "3 3"}, {"swarm 100", "error 1"}, {"swarm 101", "error 1"}, {"out", "-"}, {"sync", "have 0"},
	})
	tellsEach(t, "one piece", []desked{{"file 48 abc", "pieces 1"}, {"swarm 2", "0 0"}, {"swarm 3", "1 1"}, {"swarm 99", "1 1"}, {"add 0", "ok"}, {"swarm 0", "0 0"}, {"swarm 99", "1 1"}})
	tellsEach(t, "16 pieces and 17", []desked{
		{"file 1 abcdefghijklmnop", "pieces 16"}, {"swarm 0", "0 0"}, {"swarm 99", "16 16"}, {"swarm 100", "error 1"},
		{"file 1 abcdefghijklmnopq", "pieces 17"}, {"swarm 0", "error 1"}, {"swarm 3", "error 1"}, {"swarm 99", "error 1"}, {"swarm 100", "error 1"},
		{"file 2 abcdefghijklmnopq", "pieces 9"}, {"swarm 3", "1 1"}, {"swarm 19", "9 9"}, {"swarm 18", "8 8"},
	})
}

// Promise 17, of files whose pieces come in any order.
func TestDeskPutsOutWhatComesInARow(t *testing.T) {
	eachOrder(4, func(order []int) {
		file := "ab_c_de"
		all := []desked{{"file 2 " + file, "pieces 4"}}
		there := map[int]int{}
		for many, i := range order {
			there[i]++
			end := 0
			for there[end] > 0 {
				end++
			}
			out := file[:min(2*end, 7)]
			if out == "" {
				out = "-"
			}
			all = append(all, desked{fmt.Sprint("wrong ", i), "error 5"}, desked{fmt.Sprint("add ", i), "ok"}, desked{"out", out}, desked{fmt.Sprint("add ", i), "error 7"}, desked{fmt.Sprint("wrong ", i), "error 5"}, desked{"sync", fmt.Sprint("have ", many+1)})
		}
		tellsEach(t, fmt.Sprint("in the order ", order), append(all, desked{"swarm 99", "4 4"}, desked{"out", file}))
	})
}

// anyWordOf is a word of some bytes, more often than not short.
func anyWordOf(draw *rand.Rand) string {
	some := "aab_b_cx-0\x00\xff\xe2\t"
	b := make([]byte, 1+draw.Intn(1+draw.Intn(60)))
	for i := range b {
		b[i] = some[draw.Intn(len(some))]
	}
	return string(b)
}

// anyLine is a line of the table, by small numbers.
func anyLine(draw *rand.Rand) string {
	switch draw.Intn(16) {
	case 0:
		return fmt.Sprintf("file %d %s", draw.Intn(9), anyWordOf(draw))
	case 1:
		return fmt.Sprintf("file %d %s", 40+draw.Intn(10), anyWordOf(draw))
	case 2:
		return "pack " + anyWordOf(draw)
	case 3:
		return "sort " + anyWordOf(draw)
	case 4, 5, 6, 7, 8:
		return fmt.Sprint("add ", draw.Intn(1+draw.Intn(12)))
	case 9:
		return fmt.Sprint("wrong ", draw.Intn(9))
	case 10:
		return fmt.Sprint("crash ", draw.Intn(1+draw.Intn(400)))
	case 11:
		if draw.Intn(4) > 0 {
			return fmt.Sprint("swarm ", draw.Intn(7))
		}
		return fmt.Sprint("swarm ", 100+draw.Intn(9))
	case 12, 13:
		return "sync"
	}
	return "out"
}

func anyDesk(draw *rand.Rand, many int) []string {
	lines := []string{fmt.Sprintf("file %d %s", 1+draw.Intn(9), anyWordOf(draw))}
	for len(lines) < many {
		lines = append(lines, anyLine(draw))
	}
	return lines[:many]
}

// Promises 16 and 17, and all that is told, of any desks: the first lines tell the beginning of what all tell.
func TestDeskOfAnyLines(t *testing.T) {
	draw := rand.New(rand.NewSource(111))
	for range 400 {
		lines := anyDesk(draw, draw.Intn(31))
		text := strings.Join(append(slices.Clone(lines), ""), "\n")
		want := wantDesk(text)
		out := ran(t, text)
		sameDesk(t, fmt.Sprintf("%.300q", text), out, want)
		if draw.Intn(8) > 0 {
			continue
		}
		told := strings.SplitAfter(out.Text, "\n")
		for many := range lines {
			beginning := strings.Join(append(slices.Clone(lines[:many]), ""), "\n")
			sameDesk(t, fmt.Sprint("the first ", many, " lines"), ran(t, beginning), impl.DeskOut{Text: strings.Join(told[:many], "")})
		}
	}
}

// Desks with a byte turned, taken out or put in are refused just if a line of them is none.
func TestDeskOfTurnedTexts(t *testing.T) {
	draw := rand.New(rand.NewSource(112))
	refused := 0
	for range 3000 {
		text := strings.Join(append(anyDesk(draw, 1+draw.Intn(4)), ""), "\n")
		for range 1 + draw.Intn(2) {
			at := draw.Intn(len(text))
			put := []string{" ", "\n", "_", "0", "1", "2", "\r", "a", "out\n", "s", "\xff"}[draw.Intn(11)]
			switch draw.Intn(3) {
			case 0:
				text = text[:at] + put + text[at+1:]
			case 1:
				text = text[:at] + put + text[at:]
			case 2:
				text = text[:at] + text[at+1:] + "\n"[draw.Intn(2):]
			}
		}
		want := wantDesk(text)
		if want.Code != impl.OK {
			refused++
		}
		sameDesk(t, fmt.Sprintf("%.300q", text), ran(t, text), want)
	}
	if refused < 500 || refused > 2800 {
		t.Errorf("%d of 3000 are refused", refused)
	}
}

// A swarm comes to have all of each file that it may have.
func TestDeskSwarmComesToHaveAll(t *testing.T) {
	for many := range 17 {
		if many == 0 {
			continue
		}
		have := fmt.Sprintf("%d %d", many, many)
		tells(t, "all of it", []string{"file 3 " + strings.Repeat("a_b", many)[1:], fmt.Sprint("swarm ", 2*many+1), "swarm 99"}, []string{fmt.Sprint("pieces ", many), have, have})
	}
}

// Nothing is kept from one desk to the next.
func TestDesksKeepNothing(t *testing.T) {
	draw := rand.New(rand.NewSource(113))
	first := "out\nadd 0\nsync\nswarm 3\n"
	want := impl.DeskOut{Text: "-\nerror 6\nhave 0\n0 0\n"}
	for range 20 {
		text := strings.Join(append(anyDesk(draw, 12), ""), "\n")
		one := ran(t, text)
		told := strings.Clone(one.Text)
		sameDesk(t, "a new desk", ran(t, first), want)
		sameDesk(t, "the same again", ran(t, text), one)
		if one.Text != told {
			t.Errorf("what was told is turned by a later desk")
		}
	}
}
