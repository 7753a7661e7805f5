package tests

import (
	"slices"
	"testing"

	"loop.example/g01218/impl"
)

type textCall struct {
	name string
	call func(string) (string, bool)
}

type numberCall struct {
	name string
	call func(string) (int, bool)
}

type listCall struct {
	name string
	call func(string) ([]int, bool)
}

type boolCall struct {
	name string
	call func(string) (bool, bool)
}

func textCalls() []textCall {
	return []textCall{{"TurnPath", impl.TurnPath}, {"BackPath", impl.BackPath}, {"LiftPath", impl.LiftPath}}
}

func numberCalls() []numberCall {
	return []numberCall{
		{"EndHeight", impl.EndHeight}, {"LowestOf", impl.LowestOf}, {"HighestOf", impl.HighestOf},
		{"AreaOfPath", impl.AreaOfPath}, {"RankOfPath", impl.RankOfPath},
	}
}

func listCalls() []listCall {
	return []listCall{
		{"HeightsOf", impl.HeightsOf}, {"PeaksOf", impl.PeaksOf},
		{"ReturnsOf", impl.ReturnsOf}, {"RunsOfPath", impl.RunsOfPath},
	}
}

func boolCalls() []boolCall {
	return []boolCall{{"IsGood", impl.IsGood}, {"IsClosedPath", impl.IsClosedPath}}
}

func TestTextsThatAreNoPathFail(t *testing.T) {
	for _, text := range noPaths() {
		for _, f := range textCalls() {
			got, ok := f.call(text)
			wantFailure(t, f.name, got, ok)
		}
		for _, f := range numberCalls() {
			got, ok := f.call(text)
			wantFailure(t, f.name, got, ok)
		}
		for _, f := range listCalls() {
			got, ok := f.call(text)
			wantListFailure(t, f.name, got, ok)
		}
		for _, f := range boolCalls() {
			got, ok := f.call(text)
			wantFailure(t, f.name, got, ok)
		}
		parts, ok := impl.CutAtReturns(text)
		wantListFailure(t, "CutAtReturns", parts, ok)
		for _, height := range someNumbers() {
			times, ok := impl.TimesAtHeight(text, height)
			wantFailure(t, "TimesAtHeight", times, ok)
		}
	}
}

func TestPathWithoutSteps(t *testing.T) {
	for _, f := range numberCalls() {
		got, ok := f.call("")
		wantValue(t, f.name, got, ok, 0)
	}
	for _, f := range boolCalls() {
		got, ok := f.call("")
		wantValue(t, f.name, got, ok, true)
	}
	for _, f := range listCalls() {
		var want []int
		if f.name == "HeightsOf" {
			want = []int{0}
		}
		got, ok := f.call("")
		wantList(t, f.name, got, ok, want)
	}
	want := map[string]string{"TurnPath": "", "BackPath": "", "LiftPath": "UD"}
	for _, f := range textCalls() {
		got, ok := f.call("")
		wantValue(t, f.name, got, ok, want[f.name])
	}
	count, ok := impl.CountPaths(0, 0)
	wantValue(t, "CountPaths", count, ok, 1)
	path, ok := impl.PathOfRank(0, 0, 0)
	wantValue(t, "PathOfRank", path, ok, "")
}

// TestRanksThatThereAreNoneOf tries odd ranks: those below 0 and those far behind the last one.
func TestRanksThatThereAreNoneOf(t *testing.T) {
	for _, ups := range someNumbers() {
		for _, downs := range someNumbers() {
			count, _ := impl.CountPaths(ups, downs)
			for _, rank := range someNumbers() {
				path, ok := impl.PathOfRank(ups, downs, rank)
				if rank < 0 || rank >= count {
					wantFailure(t, "PathOfRank", path, ok)
				} else if !ok || !impl.IsPath(path) {
					t.Errorf("path of %d, %d and %d: %q, %v", ups, downs, rank, path, ok)
				}
			}
		}
	}
}

// TestRunsAreNotModified holds a list with odd numbers behind its length against what it was.
func TestRunsAreNotModified(t *testing.T) {
	for _, first := range [][]int{{1, 2, 1}, {0, 3}, {2, 0}, {-1}, {}, {impl.MaxPath, 1}} {
		all := append(slices.Clone(first), -7, 99, 1)
		before := slices.Clone(all)
		withMore, ok := impl.PathOfRuns(all[:len(first)])
		if !slices.Equal(all, before) {
			t.Errorf("runs %v became %v", before, all)
		}
		alone, aloneOK := impl.PathOfRuns(slices.Clip(slices.Clone(first)))
		if withMore != alone || ok != aloneOK {
			t.Errorf("runs %v are read beyond their length", first)
		}
	}
}

// TestListsAreNewMemory overwrites one result, up to its capacity, and asks again.
func TestListsAreNewMemory(t *testing.T) {
	for _, path := range somePaths() {
		for _, f := range listCalls() {
			first, _ := f.call(path)
			second, _ := f.call(path)
			want := slices.Clone(second)
			all := first[:cap(first)]
			for i := range all {
				all[i] = 77
			}
			third, ok := f.call(path)
			wantList(t, f.name, second, ok, want)
			wantList(t, f.name, third, ok, want)
		}
	}
	first, _ := impl.CutAtReturns("UDDU")
	for i := range first {
		first[i] = "other"
	}
	second, ok := impl.CutAtReturns("UDDU")
	wantList(t, "CutAtReturns", second, ok, []string{"UD", "DU"})
}

func TestTextsAreNewMemory(t *testing.T) {
	path, none := freshText("UDDUUD"), ""
	for _, f := range textCalls() {
		if got, _ := f.call(path); sameMemory(got, path) {
			t.Errorf("%s shares memory with its argument", f.name)
		}
	}
	joined, ok := impl.JoinPaths(path, none)
	if sameMemory(joined, path) || !ok {
		t.Error("JoinPaths shares memory with its first argument")
	}
	joined, ok = impl.JoinPaths(none, path)
	if sameMemory(joined, path) || !ok {
		t.Error("JoinPaths shares memory with its last argument")
	}
	parts, _ := impl.CutAtReturns(path)
	from := 0
	for _, p := range parts {
		if sameMemory(p, path[from:]) {
			t.Error("CutAtReturns shares memory with its argument")
		}
		from += len(p)
	}
}

// TestCallsKeepNoState asks the same before and behind other calls.
func TestCallsKeepNoState(t *testing.T) {
	for _, path := range somePaths() {
		for _, f := range numberCalls() {
			before, _ := f.call(path)
			for _, other := range append(somePaths(), noPaths()...) {
				f.call(other)
			}
			behind, ok := f.call(path)
			wantValue(t, f.name, behind, ok, before)
		}
	}
}
