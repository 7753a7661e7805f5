package tests

import (
	"fmt"
	"regexp"
	"slices"
	"strings"
	"testing"

	"loop.example/g01218/impl"
)

// lineKind is a row of the table of lines: a pattern of the whole line, and what follows from its words.
type lineKind struct {
	pattern string
	follow  func(d impl.Desk, words []string) (impl.Desk, string, bool)
}

// moved is what follows from a path that a call gives.
func moved(d impl.Desk, path string, ok bool) (impl.Desk, string, bool) {
	d.Path = path
	return d, shownPath(path), ok
}

// told is what follows from another value that a call gives.
func told(d impl.Desk, value any, ok bool) (impl.Desk, string, bool) {
	switch v := value.(type) {
	case bool:
		return d, map[bool]string{true: "yes", false: "not"}[v], ok
	case []int:
		if len(v) == 0 {
			return d, "-", ok
		}
		return d, strings.ReplaceAll(strings.Trim(fmt.Sprint(v), "[]"), " ", ","), ok
	}
	return d, fmt.Sprint(value), ok
}

func shownPath(path string) string {
	if path == "" {
		return "-"
	}
	return path
}

// numbersIn reads words, or the parts of one, that are known to be numbers.
func numbersIn(words ...string) []int {
	numbers := make([]int, len(words))
	for i, word := range words {
		fmt.Sscan(word, &numbers[i])
	}
	return numbers
}

func listWord(word string) []int {
	return numbersIn(strings.Split(word, ",")...)
}

// pathLines are the kinds of lines of one or two words with a call for a path.
func pathLines() []lineKind {
	kinds := []lineKind{
		{"path P", func(d impl.Desk, w []string) (impl.Desk, string, bool) {
			return moved(d, strings.Trim(w[1], "-"), true)
		}},
		{"add P", func(d impl.Desk, w []string) (impl.Desk, string, bool) {
			path, ok := impl.JoinPaths(d.Path, strings.Trim(w[1], "-"))
			return moved(d, path, ok)
		}},
		{"rank N", func(d impl.Desk, w []string) (impl.Desk, string, bool) {
			path, ok := impl.PathOfRank(strings.Count(d.Path, "U"), strings.Count(d.Path, "D"), numbersIn(w...)[1])
			return moved(d, path, ok)
		}},
		{"grow L", func(d impl.Desk, w []string) (impl.Desk, string, bool) {
			path, ok := impl.PathOfTree(listWord(w[1]))
			return moved(d, path, ok)
		}},
		{"keep", func(d impl.Desk, _ []string) (impl.Desk, string, bool) {
			return moved(impl.Desk{Kept: d.Path}, d.Path, true)
		}},
		{"swap", func(d impl.Desk, _ []string) (impl.Desk, string, bool) {
			return moved(impl.Desk{Kept: d.Path}, d.Kept, true)
		}},
		{"show", func(d impl.Desk, _ []string) (impl.Desk, string, bool) { return moved(d, d.Path, true) }},
	}
	for i, name := range []string{"turn", "back", "lift"} {
		kinds = append(kinds, lineKind{name, func(d impl.Desk, _ []string) (impl.Desk, string, bool) {
			path, ok := textCalls()[i].call(d.Path)
			return moved(d, path, ok)
		}})
	}
	return kinds
}

// valueLines are the kinds of lines that ask for a value of the Path alone.
func valueLines() []lineKind {
	var kinds []lineKind
	for name, call := range map[string]func(string) (int, bool){
		"end": impl.EndHeight, "low": impl.LowestOf, "high": impl.HighestOf, "area": impl.AreaOfPath,
	} {
		kinds = append(kinds, lineKind{name, func(d impl.Desk, _ []string) (impl.Desk, string, bool) {
			number, ok := call(d.Path)
			return told(d, number, ok)
		}})
	}
	for name, call := range map[string]func(string) (bool, bool){"good": impl.IsGood, "closed": impl.IsClosedPath} {
		kinds = append(kinds, lineKind{name, func(d impl.Desk, _ []string) (impl.Desk, string, bool) {
			answer, ok := call(d.Path)
			return told(d, answer, ok)
		}})
	}
	for name, call := range map[string]func(string) ([]int, bool){
		"peaks": impl.PeaksOf, "returns": impl.ReturnsOf, "runs": impl.RunsOfPath, "tree": impl.TreeOfPath,
	} {
		kinds = append(kinds, lineKind{name, func(d impl.Desk, _ []string) (impl.Desk, string, bool) {
			list, ok := call(d.Path)
			return told(d, list, ok)
		}})
	}
	return kinds
}

// askingLines are the kinds of lines that ask for a value of numbers and lists.
func askingLines() []lineKind {
	return []lineKind{
		{"good K", func(d impl.Desk, w []string) (impl.Desk, string, bool) {
			list, ok := impl.RatioRotations(d.Path, numbersIn(w...)[1])
			return told(d, list, ok)
		}},
		{"turns L", func(d impl.Desk, w []string) (impl.Desk, string, bool) {
			list, ok := impl.GoodRotations(listWord(w[1]))
			return told(d, list, ok)
		}},
		{"mixed N K", func(d impl.Desk, w []string) (impl.Desk, string, bool) {
			n := numbersIn(w...)
			count, ok := impl.CountMixed(n[1], n[2])
			return told(d, count, ok)
		}},
		{"hankel L N", func(d impl.Desk, w []string) (impl.Desk, string, bool) {
			count, ok := impl.HankelOf(listWord(w[1]), numbersIn(w...)[2])
			return told(d, count, ok)
		}},
		{"fans N K", func(d impl.Desk, w []string) (impl.Desk, string, bool) {
			n := numbersIn(w...)
			count, ok := impl.CountFans(n[1], n[2])
			return told(d, count, ok)
		}},
		{"cubes I J K", func(d impl.Desk, w []string) (impl.Desk, string, bool) {
			n := numbersIn(w...)
			count, ok := impl.CountCubes(n[1], n[2], n[3])
			return told(d, count, ok)
		}},
	}
}

// book holds the patterns of all kinds of lines.
type book map[*regexp.Regexp]lineKind

func newBook() book {
	const number = "(0|[1-9][0-9]{0,5})"
	words := strings.NewReplacer("P", "([UD]{1,40}|-)", "L", number+"(,"+number+")*", "N", number, "I", number, "J", number, "K", number)
	kinds := book{}
	for _, kind := range slices.Concat(pathLines(), valueLines(), askingLines()) {
		kinds[regexp.MustCompile(`\A`+words.Replace(kind.pattern)+`\z`)] = kind
	}
	return kinds
}

// line returns the desk behind a line and the reply, as the table has them.
func (b book) line(d impl.Desk, line string) (impl.Desk, string) {
	for pattern, kind := range b {
		if !pattern.MatchString(line) {
			continue
		}
		after, reply, ok := kind.follow(d, strings.Split(line, " "))
		if !ok {
			return d, "no"
		}
		return after, reply
	}
	return d, "what"
}

// someDesks are desks with all kinds of paths, without steps and with just MaxPath among them.
func someDesks() []impl.Desk {
	var desks []impl.Desk
	paths := append(somePaths(), "UUDD", "UDUU", "DUDU", steps("U", 20)+steps("D", 20), steps("U", 15)+steps("D", 15), steps("UD", 19), steps("U", 39), steps("DU", 19)+"D")
	for i, path := range paths {
		desks = append(desks, impl.Desk{Path: path, Kept: paths[(5*i+3)%len(paths)]})
	}
	return append(desks, impl.FirstDesk(), impl.Desk{}, impl.Desk{Path: "", Kept: steps("U", 40)}, impl.Desk{Path: steps("D", 40), Kept: steps("UD", 20)})
}

// aboutDesk tells of which desk and line a test speaks.
func aboutDesk(d impl.Desk, line string) string {
	return fmt.Sprintf("DeskLine %+v %q", d, line)
}

func wantLine(t *testing.T, d impl.Desk, line string, want impl.Desk, wantReply string) {
	t.Helper()
	after, reply, ok := impl.DeskLine(d, line)
	if after != want || reply != wantReply || !ok {
		t.Errorf("%s: %+v, %q, %v; want %+v, %q, true", aboutDesk(d, line), after, reply, ok, want, wantReply)
	}
}

// scriptOf returns the script with such lines.
func scriptOf(lines ...string) string {
	script := ""
	for _, line := range lines {
		script += line + "\n"
	}
	return script
}

// checkScript holds a script against its lines, one after the other.
func (b book) checkScript(t *testing.T, lines ...string) {
	t.Helper()
	d := impl.FirstDesk()
	var replies []string
	var failed []int
	for i, line := range lines {
		after, reply := b.line(d, line)
		d = after
		replies = append(replies, reply)
		if reply == "no" || reply == "what" {
			failed = append(failed, i+1)
		}
	}
	what := fmt.Sprintf(" %.2000q", lines)
	got, ok := impl.RunScript(scriptOf(lines...))
	wantList(t, "RunScript"+what, got, ok, replies)
	after, ok := impl.DeskAfter(scriptOf(lines...))
	wantValue(t, "DeskAfter"+what, after, ok, d)
	numbers, ok := impl.FailedLines(scriptOf(lines...))
	wantList(t, "FailedLines"+what, numbers, ok, failed)
}

func TestFirstDesk(t *testing.T) {
	if d := impl.FirstDesk(); d != (impl.Desk{Path: "UUDD"}) || !impl.IsDesk(d) {
		t.Errorf("FirstDesk: %+v", d)
	}
}

func TestDesks(t *testing.T) {
	for _, d := range someDesks() {
		if !impl.IsDesk(d) {
			t.Errorf("IsDesk %+v: false", d)
		}
	}
}

func TestKnownScript(t *testing.T) {
	lines := []string{"area", "tree", "rank 3", "low", "good 1", "add U", "good 1", "grow 2,0,0", "turns 0,2,0", "fans 2 2", "tree 1", "lift"}
	replies, ok := impl.RunScript(scriptOf(lines...))
	wantList(t, "RunScript", replies, ok, []string{"4", "1,1,0", "UDDU", "-1", "-", "UDDUU", "3", "UDUD", "1", "3", "what", "UUDUDD"})
	d, ok := impl.DeskAfter(scriptOf(lines...))
	wantValue(t, "DeskAfter", d, ok, impl.Desk{Path: "UUDUDD"})
	failed, ok := impl.FailedLines(scriptOf(lines...))
	wantList(t, "FailedLines", failed, ok, []int{11})
}

// TestKnownEffects has paths and kept ones written out, for each line with an effect.
func TestKnownEffects(t *testing.T) {
	for _, known := range []struct{ path, kept, line, after, keptAfter string }{
		{"UUDD", "", "path UDDU", "UDDU", ""}, {"UUDD", "U", "path -", "", "U"}, {"", "U", "path D", "D", "U"}, {"UUDD", "", "path UUDD", "UUDD", ""},
		{"UUDD", "", "path " + steps("UD", 20), steps("UD", 20), ""}, {"UUDD", "D", "add U", "UUDDU", "D"}, {"UUDD", "", "add -", "UUDD", ""},
		{"", "", "add DU", "DU", ""}, {"", "U", "add -", "", "U"}, {steps("U", 38), "D", "add DD", steps("U", 38) + "DD", "D"}, {steps("U", 40), "D", "add -", steps("U", 40), "D"},
		{"UUD", "D", "turn", "DDU", "D"}, {"", "D", "turn", "", "D"}, {"UUD", "D", "back", "UDD", "D"}, {"", "D", "back", "", "D"}, {"UDDU", "", "back", "DUUD", ""},
		{"UUDD", "", "lift", "UUUDDD", ""}, {"", "", "lift", "UD", ""}, {"DD", "U", "lift", "UDDD", "U"}, {steps("U", 38), "", "lift", steps("U", 39) + "D", ""},
		{"UUDD", "D", "rank 0", "DDUU", "D"}, {"UUDD", "", "rank 3", "UDDU", ""}, {"DUDU", "", "rank 5", "UUDD", ""}, {"UDD", "", "rank 1", "DUD", ""}, {"", "U", "rank 0", "", "U"},
		{"UUDD", "D", "keep", "UUDD", "UUDD"}, {"", "D", "keep", "", ""}, {"UUDD", "D", "swap", "D", "UUDD"}, {"UUDD", "", "swap", "", "UUDD"}, {"", "UDU", "swap", "UDU", ""},
		{"", "", "swap", "", ""}, {steps("U", 40), steps("D", 40), "swap", steps("D", 40), steps("U", 40)},
		{"U", "D", "grow 2,0,0", "UDUD", "D"}, {"U", "D", "grow 0", "", "D"}, {"U", "", "grow 1,1,0", "UUDD", ""}, {"", "", "grow 1,0", "UD", ""},
		{"U", "", "grow 15,0,0,0,0,0,0,0,0,0,0,0,0,0,0,0", steps("UD", 15), ""},
	} {
		want := impl.Desk{Path: known.after, Kept: known.keptAfter}
		wantLine(t, impl.Desk{Path: known.path, Kept: known.kept}, known.line, want, shownPath(known.after))
	}
}

// TestKnownReplies has replies written out, for each line that only asks.
func TestKnownReplies(t *testing.T) {
	for _, known := range []struct{ path, line, reply string }{
		{"UUDD", "show", "UUDD"}, {"", "show", "-"}, {"D", "show", "D"}, {steps("D", 40), "show", steps("D", 40)},
		{"UUD", "end", "1"}, {"UDDUD", "end", "-1"}, {"", "end", "0"}, {steps("D", 40), "end", "-40"},
		{"UDDU", "low", "-1"}, {"UUDD", "low", "0"}, {"", "low", "0"}, {"DDD", "low", "-3"},
		{"UDDU", "high", "1"}, {"DDD", "high", "0"}, {steps("U", 40), "high", "40"},
		{"UUDD", "area", "4"}, {"DDUU", "area", "-4"}, {"", "area", "0"}, {steps("U", 40), "area", "820"}, {steps("D", 40), "area", "-820"},
		{"UUDD", "good", "yes"}, {"UDDU", "good", "not"}, {"U", "good", "yes"}, {"", "good", "yes"}, {"UUDD", "closed", "yes"}, {"U", "closed", "not"}, {"DU", "closed", "yes"}, {"", "closed", "yes"},
		{"UUDUDD", "peaks", "1,3"}, {"UD", "peaks", "0"}, {"DU", "peaks", "-"}, {"", "peaks", "-"}, {"UDDU", "returns", "2,4"}, {"UUD", "returns", "-"}, {"", "returns", "-"}, {"UD", "returns", "2"},
		{"UDDU", "runs", "1,2,1"}, {"DDU", "runs", "0,2,1"}, {"U", "runs", "1"}, {steps("D", 40), "runs", "0,40"}, {"", "runs", "-"},
		{"UUDD", "tree", "1,1,0"}, {"", "tree", "0"}, {"UDUD", "tree", "2,0,0"}, {steps("UD", 15), "tree", "15,0,0,0,0,0,0,0,0,0,0,0,0,0,0,0"},
		{"UDUUD", "good 1", "2"}, {"UDUU", "good 1", "2,3"}, {"UDDUU", "good 1", "3"}, {"UUDD", "good 1", "-"}, {"UUDD", "good 0", "0,1"}, {"U", "good 40", "0"}, {"", "good 1", "-"}, {"UUUU", "good 3", "0,1,2,3"}, {"UUUD", "good 2", "0"},
		{"U", "turns 0,2,0", "1"}, {"U", "turns 1,1", "-"}, {"", "turns 0,0", "0,1"}, {"", "turns 0", "0"}, {"", "turns 1", "-"}, {"", "turns 16", "-"}, {"", "turns 0,1,0", "0,1"},
		{"U", "mixed 3 1", "4"}, {"U", "mixed 0 0", "1"}, {"U", "mixed 1 0", "0"}, {"", "mixed 4 0", "2"}, {"", "mixed 2 9", "82"}, {"", "mixed 4 1", "9"}, {"", "mixed 12 1", "15511"},
		{"U", "hankel 1,1,2,4 2", "1"}, {"U", "hankel 1,2,1 2", "-3"}, {"", "hankel 5 0", "1"}, {"", "hankel 5 1", "5"}, {"", "hankel 0 1", "0"}, {"", "hankel 10000 1", "10000"}, {"", "hankel 0,10000,0 2", "-100000000"},
		{"", "hankel 1,0,1,0,2,0,5 4", "1"}, {"", "fans 2 2", "3"}, {"", "fans 0 0", "1"}, {"", "fans 3 1", "5"}, {"", "fans 8 0", "1"}, {"", "fans 8 1", "1430"},
		{"", "cubes 2 2 2", "20"}, {"", "cubes 0 0 0", "1"}, {"", "cubes 1 1 1", "2"}, {"", "cubes 0 4 4", "1"}, {"", "cubes 1 1 4", "5"}, {"", "cubes 4 1 2", "15"},
	} {
		for _, kept := range []string{"", "UDD", "U"} {
			d := impl.Desk{Path: known.path, Kept: kept}
			wantLine(t, d, known.line, d, known.reply)
		}
	}
}

// refusedLines are lines whose function fails on the path UUD, each read as the table has it.
func refusedLines() []string {
	lines := []string{
		"add " + steps("U", 38), "add " + steps("UD", 20), "rank 3", "rank 999999", "tree", "good 41", "good 999999",
		"grow 0,0", "grow 1", "grow 0,1,0", "grow 2,0", "grow 1,0,0", "grow 17", "grow 999999", "grow 0,999999", "grow " + steps("1,", 16) + "0", "grow 2,0,1",
		"turns 17", "turns 0,17", "turns 999999", "turns " + steps("0,", 16) + "0", "turns " + steps("999999,", 400) + "0",
		"mixed 13 1", "mixed 3 10", "mixed 999999 999999", "mixed 13 10", "hankel 1 2", "hankel 1,2 2", "hankel 1,2,3,4,5 5", "hankel 1,2,3,4,5,6,7,8 5", "hankel 1 999999",
		"hankel 10001 1", "hankel 10001 0", "hankel 1,999999 1", "hankel " + steps("1,", 8) + "1 1", "hankel " + steps("0,", 1400) + "0 0",
		"fans 9 0", "fans 0 5", "fans 999999 999999", "cubes 5 0 0", "cubes 0 5 0", "cubes 0 0 5", "cubes 999999 999999 999999",
	}
	return lines
}

func TestLinesWhoseFunctionFails(t *testing.T) {
	d := impl.Desk{Path: "UUD", Kept: "DU"}
	for _, line := range refusedLines() {
		wantLine(t, d, line, d, "no")
	}
	for _, known := range []struct{ path, line string }{
		{steps("U", 39), "lift"}, {steps("D", 40), "lift"}, {steps("U", 40), "add U"}, {steps("D", 39), "add DU"}, {"UUDD", "rank 6"}, {"", "rank 1"}, {steps("U", 40), "rank 1"},
		{"U", "tree"}, {"DU", "tree"}, {"UDDU", "tree"}, {steps("UD", 16), "tree"}, {steps("U", 16) + steps("D", 16), "tree"}, {"", "good 41"},
	} {
		d := impl.Desk{Path: known.path, Kept: "DU"}
		wantLine(t, d, known.line, d, "no")
	}
}

// noNumbers are words that are no number, most of them nearly one.
func noNumbers() []string {
	return []string{
		"", "00", "01", "007", "000000", "0000001", "+1", "-1", "-0", "+0", "1000000", "9999999", "1000001", "4294967297", "9223372036854775807", "9223372036854775808",
		"18446744073709551617", "-9223372036854775808", steps("9", 30), steps("1", 1000), steps("0", 1000), steps("0", 1000) + "1", "1.", "1.0", ".1", "1e0", "1e3", "0x1", "0b1", "0o1", "1_0", "1_000", "1,",
		",1", "x", "1x", "x1", "U", "-", "--1", "1-", "½", "١", "１", "1\x00", "\x001", "1\r", "\t1", "1\t", "1\u00a0", "NaN", "true", "K", "'1'", "\xff", "1\xff", "O", "l",
	}
}

// noPathWords are words that are no path and no `-`.
func noPathWords() []string {
	return append(slices.DeleteFunc(noPaths(), func(path string) bool { return path == "-" || strings.Contains(path, "\n") || len(path) > 2000 }),
		"", "--", "-U", "U-", "U,D", "UDF", "F", "0", "_", "−", steps("U", 41), steps("-", 41), "ud", "UD\r", "UD\t")
}

// noLists are words that are no list.
func noLists() []string {
	lists := []string{",", ",,", "0,", ",0", "0,,0", "0,0,", ",0,0", "-", "0;0", "[0]", "0.0", steps(",", 100), steps("0,", 100)}
	for _, word := range noNumbers() {
		if word != "1," && word != ",1" {
			lists = append(lists, word, word+",0", "0,"+word, "1,"+word+",0")
		}
	}
	return append(lists, "1,", ",1")
}

// wantWhat wants a line to be not understood, on some desks.
func wantWhat(t *testing.T, line string) {
	t.Helper()
	for _, d := range []impl.Desk{impl.FirstDesk(), {Path: "UDU", Kept: "D"}, {}} {
		wantLine(t, d, line, d, "what")
	}
}

func TestWordsThatAreNone(t *testing.T) {
	for _, word := range noNumbers() {
		for _, line := range []string{"rank N", "good N", "mixed N 1", "mixed 1 N", "hankel 1,1 N", "fans N 1", "fans 1 N", "cubes N 1 1", "cubes 1 N 1", "cubes 1 1 N", "mixed N N", "fans N 99", "mixed 99 N", "hankel 99999 N", "cubes 9 9 N"} {
			wantWhat(t, strings.ReplaceAll(line, "N", word))
		}
	}
	for _, word := range noPathWords() {
		wantWhat(t, "path "+word)
		wantWhat(t, "add "+word)
	}
	for _, word := range noLists() {
		for _, line := range []string{"grow L", "turns L", "hankel L 1", "hankel L 9", "hankel L x"} {
			wantWhat(t, strings.ReplaceAll(line, "L", word))
		}
	}
}

// TestOtherLines takes lines that no row of the table has: without words, with blanks about them, with too few and too many words, and other words.
func TestOtherLines(t *testing.T) {
	for _, line := range []string{
		"", " ", "  ", steps(" ", 100), steps(" ", impl.MaxScript), steps("x", impl.MaxScript), "x", "what", "no", "yes", "not", "-", "U", "UUDD", "1", "1,1,0", "SHOW", "Show", "shows", "sho", "show\r", "show\t", "\tshow", "show\x00", "\xff",
		"path", "add", "rank", "grow", "turns", "mixed", "hankel", "fans", "cubes", "rank  1", " rank 1", "rank 1 ", "path  U", " path U", "path U ", "path\tU", "rank\t1",
		"path U D", "path - -", "add U D", "add - U", "rank 1 1", "grow 1 0", "grow 1,0 0", "turns 0 0", "turns 0,2,0 1", "good 1 1", "good  ", "good 1 ", "good -", "good 1,1", "good yes", "good x",
		"mixed 1", "mixed 3,1", "mixed 1 1 1", "mixed  1", "mixed 1 ", "mixed 1  1", "hankel 1", "hankel 1,1,2,4", "hankel 1 1 1", "hankel 1, 1", "hankel 1 1,1", "fans 2", "fans 2 2 2", "fans 2,2", "cubes 2", "cubes 2 2", "cubes 2 2 2 2", "cubes 2 2 2 ", "cubes  2 2",
		"deskline", "heights", "touch 1", "rotate 1", "path:U", "path=U", "pathU", "path,U", "keep U", "swap U", "tree 1", "tree 1,0", "grows 1,0", "turn 0", "turns", "turns ", "back 1", "lift 1", "lift U", "end 0", "low -1", "high 1", "area 4", "closed 1", "peaks 1", "returns 2", "runs 1,1",
		"mixed 3 1\r", "show;show", "show\vshow", "show show", "path U add D", steps("show ", 20), "path " + steps("U ", 40),
	} {
		wantWhat(t, line)
	}
	for _, kind := range slices.Concat(pathLines(), valueLines(), askingLines()) {
		line := strings.NewReplacer("P", "U", "L", "1,0", "N", "1", "I", "1", "J", "1", "K", "1").Replace(kind.pattern)
		for _, other := range []string{" " + line, line + " ", strings.ToUpper(line), line + "\r", line + "\x00", "\ufeff" + line, line + " 1 1 1", line + ",", line + " -"} {
			wantWhat(t, other)
		}
		wantWhat(t, strings.ReplaceAll(line+" ", " ", "  "))
	}
}

// manyLines are lines of first words and of up to three others, all of them or only some.
func manyLines() []string {
	firsts := []string{
		"path", "add", "turn", "back", "lift", "rank", "keep", "swap", "show", "end", "low", "high", "area", "good", "closed", "peaks", "returns", "runs", "tree", "grow", "turns", "mixed", "hankel", "fans", "cubes", "", "other",
	}
	words := []string{
		"", "-", "U", "DUU", "UUDD", steps("UD", 20), steps("D", 41), "0", "1", "2", "3", "4", "5", "12", "40", "41", "999999", "1000000", "01", "-1",
		"1,0", "2,0,0", "0,2,0", "1,1,2,4", "0,0", "1,2,3,4,5,6,7,8", "1,", "1,,0", "x",
	}
	var lines []string
	thrown := dice(10)
	for _, first := range firsts {
		lines = append(lines, first)
		for _, second := range words {
			lines = append(lines, first+" "+second)
			for _, third := range words {
				lines = append(lines, first+" "+second+" "+third)
			}
		}
		for range 200 {
			lines = append(lines, first+" "+words[thrown.from(0, len(words)-1)]+" "+words[thrown.from(0, len(words)-1)]+" "+words[thrown.from(0, len(words)-1)])
		}
	}
	for i := range 6 {
		for j := range 6 {
			for k := range 6 {
				lines = append(lines, about("cubes", i, j, k))
			}
		}
	}
	return lines
}

// TestLinesDoWhatTheCallsDo holds many lines on some desks against the calls that they name.
func TestLinesDoWhatTheCallsDo(t *testing.T) {
	kinds := newBook()
	desks := someDesks()
	for i, line := range slices.Concat(manyLines(), refusedLines()) {
		d := desks[i%len(desks)]
		want, reply := kinds.line(d, line)
		wantLine(t, d, line, want, reply)
	}
	for _, d := range desks {
		for _, kind := range slices.Concat(pathLines(), valueLines(), askingLines()) {
			for _, word := range []string{"0", "1", "2", "3", "7", "19", "40"} {
				line := strings.NewReplacer("P", "UDDU", "L", word+",0,2", "N", word, "I", word, "J", "2", "K", "3").Replace(kind.pattern)
				want, reply := kinds.line(d, line)
				wantLine(t, d, line, want, reply)
			}
		}
	}
}

// TestAllNumbersOfLines takes all numbers about the limits of what the lines name.
func TestAllNumbersOfLines(t *testing.T) {
	kinds := newBook()
	d := impl.Desk{Path: "UUDUUDU", Kept: "D"}
	for n := range 45 {
		lines := []string{about("rank", n), about("good", n), about("grow", n), about("turns", n)}
		for k := range 14 {
			lines = append(lines, about("mixed", n, k), about("fans", n, k), about("hankel", n, k), about("hankel 1,1,2,4,9,21,51", n), about("cubes", n, k, 2))
		}
		for _, line := range lines {
			want, reply := kinds.line(d, line)
			wantLine(t, d, line, want, reply)
		}
	}
}

func TestEmptyScript(t *testing.T) {
	replies, ok := impl.RunScript("")
	wantList(t, "RunScript", replies, ok, nil)
	d, ok := impl.DeskAfter("")
	wantValue(t, "DeskAfter", d, ok, impl.FirstDesk())
	failed, ok := impl.FailedLines("")
	wantList(t, "FailedLines", failed, ok, nil)
}

// TestKnownScripts has replies, desks behind, and failed lines written out.
func TestKnownScripts(t *testing.T) {
	for _, known := range []struct {
		script  string
		replies []string
		desk    impl.Desk
		failed  []int
	}{
		{"\n", []string{"what"}, impl.FirstDesk(), []int{1}},
		{"\n\n \n", []string{"what", "what", "what"}, impl.FirstDesk(), []int{1, 2, 3}},
		{"show\n", []string{"UUDD"}, impl.FirstDesk(), nil},
		{"swap\n", []string{"-"}, impl.Desk{Kept: "UUDD"}, nil},
		{"keep\nturn\nswap\nshow\n", []string{"UUDD", "DDUU", "UUDD", "UUDD"}, impl.Desk{Path: "UUDD", Kept: "DDUU"}, nil},
		{"add U\ntree\nshow\n\nadd D\n", []string{"UUDDU", "no", "UUDDU", "what", "UUDDUD"}, impl.Desk{Path: "UUDDUD"}, []int{2, 4}},
		{"rank 6\nrank 5\n", []string{"no", "UUDD"}, impl.FirstDesk(), []int{1}},
		{"swap\nrank 1\ntree\nlift\nlift\nkeep\nback\ngood 0\n", []string{"-", "no", "0", "UD", "UUDD", "UUDD", "UUDD", "0,1"}, impl.Desk{Path: "UUDD", Kept: "UUDD"}, []int{2}},
		{"path -\npath \nadd U\ngrow 1\nmixed 3 1\n", []string{"-", "what", "U", "no", "4"}, impl.Desk{Path: "U"}, []int{2, 4}},
		{"show\r\nshow\n", []string{"what", "UUDD"}, impl.FirstDesk(), []int{1}},
		{"turn\nkeep\nlow\nend\nclosed\ngood\n", []string{"DDUU", "DDUU", "-2", "0", "yes", "not"}, impl.Desk{Path: "DDUU", Kept: "DDUU"}, nil},
	} {
		what := fmt.Sprintf(" %q", known.script)
		replies, ok := impl.RunScript(known.script)
		wantList(t, "RunScript"+what, replies, ok, known.replies)
		d, ok := impl.DeskAfter(known.script)
		wantValue(t, "DeskAfter"+what, d, ok, known.desk)
		failed, ok := impl.FailedLines(known.script)
		wantList(t, "FailedLines"+what, failed, ok, known.failed)
	}
}

// TestScriptsAtTheLimits has just MaxLines lines, or just MaxScript bytes.
func TestScriptsAtTheLimits(t *testing.T) {
	kinds := newBook()
	kinds.checkScript(t, slices.Repeat([]string{"show"}, impl.MaxLines)...)
	kinds.checkScript(t, slices.Repeat([]string{""}, impl.MaxLines)...)
	kinds.checkScript(t, append(slices.Repeat([]string{"add U"}, impl.MaxLines-1), "keep")...)
	// Lines of 60 bytes with the newline.
	full := slices.Repeat([]string{"turns " + steps("0,", 16) + steps("1", 5) + steps(",2", 8)}, impl.MaxLines)
	long := []string{"add U", "hankel " + steps("0,", 1491) + "10 0"}
	for _, lines := range [][]string{full, long, {steps("x", impl.MaxScript-1)}, {steps(" ", impl.MaxScript-1)}, {"grow " + steps("0,", 1496) + "0 "}} {
		if script := scriptOf(lines...); len(script) != impl.MaxScript {
			t.Errorf("%.40q has %d bytes", script, len(script))
		}
		kinds.checkScript(t, lines...)
	}
	kinds.checkScript(t, "turns "+steps("999999,", 426)+"99999")
}

// TestLongestLine has a line of just MaxScript bytes, longer than any in a script.
func TestLongestLine(t *testing.T) {
	d := impl.Desk{Path: "U", Kept: "D"}
	long := "hankel " + steps("1,", 1495) + "0 9"
	for _, line := range []string{steps("x", impl.MaxScript), steps(" ", impl.MaxScript)} {
		wantLine(t, d, line, d, "what")
	}
	if len(long) != impl.MaxScript {
		t.Errorf("a line has %d bytes", len(long))
	}
	wantLine(t, d, long, d, "no")
}

// TestThrownScripts throws scripts of all kinds of lines, some of which fail.
func TestThrownScripts(t *testing.T) {
	kinds := newBook()
	pool := slices.Concat(refusedLines()[:12], []string{
		"path UUDUDD", "path -", "path DU", "add UD", "add D", "add U", "add -", "turn", "back", "lift", "rank 0", "rank 1", "rank 4", "rank 9", "keep", "swap", "keep", "swap", "show",
		"end", "low", "high", "area", "good", "closed", "peaks", "returns", "runs", "tree", "grow 2,1,0,0", "grow 3,0,0,0", "good 0", "good 1", "good 2", "turns 0,0,1", "mixed 5 2", "hankel 1,0,2,0,9 3", "fans 4 2", "cubes 3 2 1",
		"", " ", "other", "path", "path x", "rank -1", "add U ", "good x",
	})
	thrown := dice(29)
	for range 3000 {
		var lines []string
		for range thrown.from(0, impl.MaxLines) {
			lines = append(lines, pool[thrown.from(0, len(pool)-1)])
		}
		kinds.checkScript(t, lines...)
	}
}
