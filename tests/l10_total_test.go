package tests

import (
	"fmt"
	"slices"
	"strings"
	"testing"

	"loop.example/g01218/impl"
)

// noScripts are texts that are no script: without a last newline, with too many lines, and with too many bytes.
func noScripts() []string {
	return []string{
		"x", "show", " ", "\r", "\x00", "\xff", "show\nshow", "\nshow", "\n\n ", "show\n ", "show\n\r", "show\n\x00", "area\ntree\nrank 3\nlift",
		steps("\n", impl.MaxLines+1), steps("show\n", impl.MaxLines+1), steps("show\n", impl.MaxLines) + "show", steps("show\n", impl.MaxLines) + " ", steps("\n", 1000), steps("\n", impl.MaxScript),
		steps("x", impl.MaxScript) + "\n", steps("x", impl.MaxScript), steps("x", impl.MaxScript+1), steps("x", impl.MaxScript-1) + "\n\n", steps(steps("x", 59)+"\n", 49) + steps("x", 60) + "\n",
		steps(steps("x", 59)+"\n", 50) + "\n", steps("\n", 100000), steps("show\n", 100000), steps("x", 100000) + "\n", "path " + steps("U", 100000) + "\n",
	}
}

func TestTextsThatAreNoScriptFail(t *testing.T) {
	for _, script := range noScripts() {
		what := fmt.Sprintf(" %.40q of %d bytes", script, len(script))
		replies, ok := impl.RunScript(script)
		wantListFailure(t, "RunScript"+what, replies, ok)
		d, ok := impl.DeskAfter(script)
		wantFailure(t, "DeskAfter"+what, d, ok)
		failed, ok := impl.FailedLines(script)
		wantListFailure(t, "FailedLines"+what, failed, ok)
	}
}

func failLine(t *testing.T, d impl.Desk, line string) {
	t.Helper()
	after, reply, ok := impl.DeskLine(d, line)
	if after != (impl.Desk{}) || reply != "" || ok {
		t.Errorf("%.200s: %+v, %q, %v; want a failing call", aboutDesk(d, line), after, reply, ok)
	}
}

func TestDesksThatAreNoneFail(t *testing.T) {
	lines := []string{"", "show", "swap", "keep", "path U", "path -", "turn", "mixed 3 1", "tree", "other", "good 1"}
	for _, text := range noPaths() {
		for _, d := range []impl.Desk{{Path: text}, {Kept: text}, {Path: text, Kept: "UD"}, {Path: "UD", Kept: text}, {Path: text, Kept: text}} {
			if impl.IsDesk(d) {
				t.Errorf("IsDesk %.100v: true", d)
			}
			for _, line := range lines {
				failLine(t, d, line)
			}
		}
	}
}

func TestTextsThatAreNoLineFail(t *testing.T) {
	for _, d := range someDesks() {
		for _, line := range []string{
			"\n", "show\n", "\nshow", "sh\now", "show\nshow", "show\n\n", "path U\n", "path\nU", "x\n", " \n ", "turn\r\n",
			steps("x", impl.MaxScript+1), steps(" ", impl.MaxScript+1), "path " + steps("U", impl.MaxScript), steps("x", impl.MaxScript) + "\n", steps("x", impl.MaxScript-1) + "\n", steps("x", 100000), steps("\n", 100000),
			"show" + steps(" ", impl.MaxScript), "turns " + steps("0,", 1497) + "0", "hankel " + steps("1,", 10000) + "1 1",
		} {
			failLine(t, d, line)
		}
	}
}

// TestLinesOfAnyBytes puts each byte into lines, and throws lines of bytes.
func TestLinesOfAnyBytes(t *testing.T) {
	kinds := newBook()
	d := impl.Desk{Path: "UDU", Kept: "UD"}
	var lines []string
	for letter := range 256 {
		text := string([]byte{byte(letter)})
		for _, line := range []string{"show", "path U", "rank 1", "turns 0,0", "cubes 1 1 1", "hankel 1 1"} {
			for at := range len(line) + 1 {
				lines = append(lines, line[:at]+text+line[at:])
				if at < len(line) {
					lines = append(lines, line[:at]+text+line[at+1:])
				}
			}
		}
	}
	thrown := dice(7)
	for range 5000 {
		line := []byte{}
		for range thrown.from(0, 12) {
			line = append(line, " ,-0179UDpathgoodrank\xff\x00"[thrown.from(0, 22)])
		}
		lines = append(lines, string(line))
	}
	for _, line := range lines {
		if strings.Contains(line, "\n") {
			failLine(t, d, line)
			continue
		}
		want, reply := kinds.line(d, line)
		wantLine(t, d, line, want, reply)
	}
}

// TestDesksAreNewMemory wants the texts behind a line to lie in no argument.
func TestDesksAreNewMemory(t *testing.T) {
	for _, path := range []string{"UUDD", "UDU", "DDUUDU", steps("UD", 15), steps("U", 40)} {
		for _, line := range []string{
			"", "show", "keep", "swap", "turn", "back", "lift", "path -", "path UDDU", "path " + path, "add -", "add UD", "add " + path, "rank 0", "rank 1", "rank 999999", "grow 2,0,0", "grow 1",
			"good", "tree", "runs", "peaks", "returns", "good 0", "good 1", "turns 0,2,0", "mixed 3 1", "hankel 1 1", "fans 2 2", "cubes 2 2 2", "other", path,
		} {
			d := impl.Desk{Path: freshText(path), Kept: freshText(path + "UD")[:len(path)]}
			text := freshText(line)
			what := aboutDesk(d, line)
			after, reply, _ := impl.DeskLine(d, text)
			for _, got := range []string{after.Path, after.Kept, reply} {
				wantOwnMemory(t, what, got, d.Path)
				wantOwnMemory(t, what, got, d.Kept)
				wantOwnMemory(t, what, got, text)
			}
			wantOwnTexts(t, what, []string{after.Path, after.Kept})
			wantOwnTexts(t, what, []string{after.Path, reply})
			if d.Path != path || d.Kept != path || text != line {
				t.Errorf("%s: the arguments became %+v, %q", what, d, text)
			}
		}
	}
}

// scriptsOfAllKinds are scripts with lists of replies of all lengths, and texts that are none.
func scriptsOfAllKinds() []string {
	return slices.Concat(noScripts()[:20], []string{
		"", "\n", "show\n", "show\nshow\nshow\n", "path UDDU\nkeep\nshow\nswap\n", "turn\nback\nlift\ntree\nother\npath\n", "swap\nkeep\ngood\n", steps("keep\n", 50), steps("x\n", 50),
		"grow 2,0,0\nturns 0,2,0\nruns\npeaks\nreturns\nrank 9\n", steps("add UD\nlow \n", 25), "path " + steps("UD", 20) + "\nkeep\nlift\n",
	})
}

func TestScriptsShareNoMemory(t *testing.T) {
	for _, text := range scriptsOfAllKinds() {
		script := freshText(text)
		what := fmt.Sprintf(" %.60q", text)
		want, wantOK := impl.RunScript(text)
		first, _ := impl.RunScript(script)
		second, _ := impl.RunScript(script)
		for _, reply := range first {
			wantOwnMemory(t, "RunScript"+what, reply, script)
		}
		spoil(first, "x")
		again, ok := impl.RunScript(script)
		if !slices.Equal(second, want) || !slices.Equal(again, want) || ok != wantOK {
			t.Errorf("RunScript%s: %q, %q, %v; want %q, %v", what, second, again, ok, want, wantOK)
		}
		d, _ := impl.DeskAfter(script)
		wantOwnMemory(t, "DeskAfter"+what, d.Path, script)
		wantOwnMemory(t, "DeskAfter"+what, d.Kept, script)
		wantOwnTexts(t, "DeskAfter"+what, []string{d.Path, d.Kept})
		if failed, ok := impl.FailedLines(script); ok {
			wantNewList(t, "FailedLines"+what, func() ([]int, bool) { return impl.FailedLines(script) })
			wantList(t, "FailedLines"+what, failed, ok, failedBySearch(want))
		}
		if script != text {
			t.Errorf("%q became %q", text, script)
		}
	}
}

// failedBySearch returns the numbers of the replies that are no or what.
func failedBySearch(replies []string) []int {
	var failed []int
	for i, reply := range replies {
		if reply == "no" || reply == "what" {
			failed = append(failed, i+1)
		}
	}
	return failed
}

// TestScriptsKeepNoState asks the same behind other scripts and lines, failing ones among them.
func TestScriptsKeepNoState(t *testing.T) {
	for _, script := range scriptsOfAllKinds() {
		replies, _ := impl.RunScript(script)
		desk, _ := impl.DeskAfter(script)
		failed, _ := impl.FailedLines(script)
		for _, other := range slices.Concat(scriptsOfAllKinds(), noScripts()[:20]) {
			impl.RunScript(other)
			impl.DeskAfter(other)
			impl.FailedLines(other)
			impl.DeskLine(desk, strings.TrimSuffix(other, "\n"))
		}
		repliesAgain, _ := impl.RunScript(script)
		deskAgain, _ := impl.DeskAfter(script)
		failedAgain, _ := impl.FailedLines(script)
		if !slices.Equal(replies, repliesAgain) || desk != deskAgain || !slices.Equal(failed, failedAgain) {
			t.Errorf("%.60q: %q, %+v, %v; at first %q, %+v, %v", script, repliesAgain, deskAgain, failedAgain, replies, desk, failed)
		}
	}
	if d := impl.FirstDesk(); d != (impl.Desk{Path: "UUDD"}) {
		t.Errorf("FirstDesk: %+v", d)
	}
}

// TestScriptsSideBySide runs scripts at the same time.
func TestScriptsSideBySide(t *testing.T) {
	scripts := scriptsOfAllKinds()
	results := make(chan bool)
	for _, script := range scripts {
		want, _ := impl.RunScript(script)
		go func() {
			same := true
			for range 50 {
				replies, _ := impl.RunScript(script)
				same = same && slices.Equal(replies, want)
			}
			results <- same
		}()
	}
	for range scripts {
		if !<-results {
			t.Error("RunScript: other replies beside other scripts")
		}
	}
}
