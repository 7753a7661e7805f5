package tests

import (
	"slices"
	"strconv"
	"strings"
	"testing"

	"loop.example/g01218/impl"
)

func TestIsPath(t *testing.T) {
	for _, path := range append(somePaths(), pathsUpTo(6)...) {
		if !impl.IsPath(path) {
			t.Errorf("%q is a path", path)
		}
	}
	for _, text := range noPaths() {
		if impl.IsPath(text) {
			t.Errorf("%q is no path", text)
		}
	}
	for i := range impl.MaxPath {
		path := steps("U", impl.MaxPath)
		if text := path[:i] + "E" + path[i+1:]; impl.IsPath(text) {
			t.Errorf("%q is no path", text)
		}
	}
}

func TestHeightsFollowTheSteps(t *testing.T) {
	for _, path := range append(somePaths(), pathsUpTo(9)...) {
		heights, ok := impl.HeightsOf(path)
		if !ok || len(heights) != len(path)+1 {
			t.Fatalf("heights of %q: %v, %v", path, heights, ok)
		}
		for i, h := range heights {
			if h != heightAt(path, i) {
				t.Errorf("heights of %q: %v", path, heights)
			}
		}
	}
}

// TestHeightsTell checks what is told by the heights against these counted anew.
func TestHeightsTell(t *testing.T) {
	for _, path := range append(somePaths(), pathsUpTo(9)...) {
		lowest, highest, area := 0, 0, 0
		var returns []int
		for i := range len(path) + 1 {
			h := heightAt(path, i)
			lowest, highest, area = min(lowest, h), max(highest, h), area+h
			if i > 0 && h == 0 {
				returns = append(returns, i)
			}
		}
		last := heightAt(path, len(path))
		end, ok := impl.EndHeight(path)
		wantValue(t, "end of "+path, end, ok, last)
		low, ok := impl.LowestOf(path)
		wantValue(t, "lowest of "+path, low, ok, lowest)
		high, ok := impl.HighestOf(path)
		wantValue(t, "highest of "+path, high, ok, highest)
		sum, ok := impl.AreaOfPath(path)
		wantValue(t, "area of "+path, sum, ok, area)
		back, ok := impl.ReturnsOf(path)
		wantList(t, "returns of "+path, back, ok, returns)
		good, ok := impl.IsGood(path)
		wantValue(t, "good "+path, good, ok, lowest >= 0)
		closed, ok := impl.IsClosedPath(path)
		wantValue(t, "closed "+path, closed, ok, last == 0)
	}
}

func TestHeightsOfAKnownPath(t *testing.T) {
	heights, ok := impl.HeightsOf("UDDU")
	wantList(t, "heights", heights, ok, []int{0, 1, 0, -1, 0})
	end, ok := impl.EndHeight("UUDUU")
	wantValue(t, "end", end, ok, 3)
	low, ok := impl.LowestOf("UDDDU")
	wantValue(t, "lowest", low, ok, -2)
	high, ok := impl.HighestOf("DDUUUUD")
	wantValue(t, "highest", high, ok, 2)
	area, ok := impl.AreaOfPath("UUDUDD")
	wantValue(t, "area", area, ok, 7)
	area, ok = impl.AreaOfPath("DDUU")
	wantValue(t, "area below 0", area, ok, -4)
	area, ok = impl.AreaOfPath(steps("U", impl.MaxPath))
	wantValue(t, "greatest area", area, ok, 820)
	good, ok := impl.IsGood("UDDU")
	wantValue(t, "good", good, ok, false)
	closed, ok := impl.IsClosedPath("UDDU")
	wantValue(t, "closed", closed, ok, true)
}

func TestTimesAtHeight(t *testing.T) {
	for _, path := range append(somePaths(), pathsUpTo(7)...) {
		for height := -impl.MaxPath - 1; height <= impl.MaxPath+1; height++ {
			want := 0
			for i := range len(path) + 1 {
				if heightAt(path, i) == height {
					want++
				}
			}
			times, ok := impl.TimesAtHeight(path, height)
			wantValue(t, "times of "+path+" at "+strconv.Itoa(height), times, ok, want)
		}
	}
	for _, height := range []int{1 << 40, -1 << 40} {
		times, ok := impl.TimesAtHeight("UD", height)
		wantValue(t, "times far away", times, ok, 0)
	}
}

func TestPeaksOf(t *testing.T) {
	known := map[string][]int{
		"": nil, "U": nil, "D": nil, "DU": nil, "UD": {0}, "UDDU": {0}, "DUUD": {2},
		"UUDUDD": {1, 3}, "UDUDUD": {0, 2, 4}, "UUUDDD": {2}, "DDUUDUUDU": {3, 6},
	}
	for path, want := range known {
		peaks, ok := impl.PeaksOf(path)
		wantList(t, "peaks of "+path, peaks, ok, want)
	}
	for _, path := range append(somePaths(), pathsUpTo(9)...) {
		var want []int
		for i := range len(path) {
			if strings.HasPrefix(path[i:], "UD") {
				want = append(want, i)
			}
		}
		peaks, ok := impl.PeaksOf(path)
		wantList(t, "peaks of "+path, peaks, ok, want)
	}
}

func TestTurnPath(t *testing.T) {
	for _, path := range append(somePaths(), pathsUpTo(8)...) {
		want := strings.NewReplacer("U", "D", "D", "U").Replace(path)
		turned, ok := impl.TurnPath(path)
		wantValue(t, "turn of "+path, turned, ok, want)
	}
}

// TestBackPath checks that the heights are those of the path backwards, less the last one.
func TestBackPath(t *testing.T) {
	back, ok := impl.BackPath("UUDUU")
	wantValue(t, "back", back, ok, "DDUDD")
	back, ok = impl.BackPath("UDD")
	wantValue(t, "back", back, ok, "UUD")
	for _, path := range append(somePaths(), pathsUpTo(8)...) {
		back, ok := impl.BackPath(path)
		if !ok || len(back) != len(path) {
			t.Fatalf("back of %q: %q, %v", path, back, ok)
		}
		for i := range len(path) + 1 {
			if heightAt(back, i) != heightAt(path, len(path)-i)-heightAt(path, len(path)) {
				t.Errorf("back of %q: %q", path, back)
			}
		}
	}
}

func TestJoinPaths(t *testing.T) {
	for _, a := range pathsUpTo(4) {
		for _, b := range pathsUpTo(4) {
			joined, ok := impl.JoinPaths(a, b)
			wantValue(t, "join of "+a+" and "+b, joined, ok, a+b)
		}
	}
	for i := range impl.MaxPath + 1 {
		a, b := steps("U", i), steps("D", impl.MaxPath-i)
		joined, ok := impl.JoinPaths(a, b)
		wantValue(t, "longest join", joined, ok, a+b)
		joined, ok = impl.JoinPaths(a+"D", b)
		wantFailure(t, "longer join", joined, ok)
		joined, ok = impl.JoinPaths(a, b+"U")
		wantFailure(t, "longer join", joined, ok)
	}
	for _, text := range noPaths() {
		joined, ok := impl.JoinPaths(text, "UD")
		wantFailure(t, "join of no path first", joined, ok)
		joined, ok = impl.JoinPaths("UD", text)
		wantFailure(t, "join of no path last", joined, ok)
	}
}

func TestCutAtReturns(t *testing.T) {
	known := map[string][]string{
		"": nil, "UD": {"UD"}, "DU": {"DU"}, "UDDU": {"UD", "DU"}, "UUDUDD": {"UUDUDD"},
		"UDUUDDDU": {"UD", "UUDD", "DU"}, "DDUUUD": {"DDUU", "UD"},
	}
	for path, want := range known {
		parts, ok := impl.CutAtReturns(path)
		wantList(t, "parts of "+path, parts, ok, want)
	}
	longest := steps("UD", impl.MaxPath/2)
	parts, ok := impl.CutAtReturns(longest)
	wantList(t, "parts of the longest path", parts, ok, slices.Repeat([]string{"UD"}, impl.MaxPath/2))
	for _, path := range pathsUpTo(9) {
		parts, ok := impl.CutAtReturns(path)
		if heightAt(path, len(path)) != 0 {
			wantListFailure(t, "parts of "+path+", which is open", parts, ok)
			continue
		}
		wantValue(t, "parts of "+path+" together", strings.Join(parts, ""), ok, path)
		for _, p := range parts {
			returns, ok := impl.ReturnsOf(p)
			wantList(t, "returns of the part "+p, returns, ok, []int{len(p)})
		}
	}
}

func TestLiftPath(t *testing.T) {
	for _, path := range pathsUpTo(6) {
		lifted, ok := impl.LiftPath(path)
		wantValue(t, "lift of "+path, lifted, ok, "U"+path+"D")
	}
	longest := steps("D", impl.MaxPath-2)
	lifted, ok := impl.LiftPath(longest)
	wantValue(t, "longest lift", lifted, ok, "U"+longest+"D")
	for _, more := range []string{"U", "UD"} {
		lifted, ok = impl.LiftPath(longest + more)
		wantFailure(t, "longer lift", lifted, ok)
	}
}

// TestRanksTellPaths goes through all paths with so many ups and downs in order.
func TestRanksTellPaths(t *testing.T) {
	for ups := range 7 {
		for downs := range 7 {
			paths := pathsWith(ups, downs)
			count, ok := impl.CountPaths(ups, downs)
			wantValue(t, "count", count, ok, len(paths))
			for i, path := range paths {
				rank, ok := impl.RankOfPath(path)
				wantValue(t, "rank of "+path, rank, ok, i)
				found, ok := impl.PathOfRank(ups, downs, i)
				wantValue(t, "path of rank "+strconv.Itoa(i), found, ok, path)
			}
			for _, rank := range []int{-1, len(paths), len(paths) + 1} {
				found, ok := impl.PathOfRank(ups, downs, rank)
				wantFailure(t, "path of rank "+strconv.Itoa(rank), found, ok)
			}
		}
	}
}

func TestRanksOfLongestPaths(t *testing.T) {
	for ups := range impl.MaxPath + 1 {
		downs := impl.MaxPath - ups
		count, _ := impl.CountPaths(ups, downs)
		first, last := steps("D", downs)+steps("U", ups), steps("U", ups)+steps("D", downs)
		rank, ok := impl.RankOfPath(first)
		wantValue(t, "rank of the first path", rank, ok, 0)
		rank, ok = impl.RankOfPath(last)
		wantValue(t, "rank of the last path", rank, ok, count-1)
		path, ok := impl.PathOfRank(ups, downs, 0)
		wantValue(t, "first path", path, ok, first)
		path, ok = impl.PathOfRank(ups, downs, count-1)
		wantValue(t, "last path", path, ok, last)
		path, ok = impl.PathOfRank(ups, downs, count)
		wantFailure(t, "path behind the last one", path, ok)
		for part := range 7 {
			want := count / 7 * part
			path, _ := impl.PathOfRank(ups, downs, want)
			rank, ok := impl.RankOfPath(path)
			wantValue(t, "rank of the path of a rank", rank, ok, want)
		}
	}
}

func TestCountPaths(t *testing.T) {
	for n := range impl.MaxPath + 1 {
		for ups := range n + 1 {
			count, ok := impl.CountPaths(ups, n-ups)
			if ups == 0 || ups == n {
				wantValue(t, "count", count, ok, 1)
				continue
			}
			fewerUps, _ := impl.CountPaths(ups-1, n-ups)
			fewerDowns, _ := impl.CountPaths(ups, n-ups-1)
			wantValue(t, "count", count, ok, fewerUps+fewerDowns)
		}
	}
	count, ok := impl.CountPaths(20, 20)
	wantValue(t, "greatest count", count, ok, 137846528820)
}

// TestNumbersOfSteps checks which numbers of steps there are: of at least 0, together at most MaxPath.
func TestNumbersOfSteps(t *testing.T) {
	for _, ups := range someNumbers() {
		for _, downs := range someNumbers() {
			small := ups >= 0 && ups <= impl.MaxPath && downs >= 0 && downs <= impl.MaxPath
			want := small && ups+downs <= impl.MaxPath
			count, ok := impl.CountPaths(ups, downs)
			if ok != want || want != (count > 0) {
				t.Errorf("count of %d and %d: %d, %v", ups, downs, count, ok)
			}
			path, ok := impl.PathOfRank(ups, downs, 0)
			if ok != want || want && len(path) != ups+downs || !want && path != "" {
				t.Errorf("path of %d and %d: %q, %v", ups, downs, path, ok)
			}
		}
	}
}

func TestRunsOfPath(t *testing.T) {
	known := map[string][]int{
		"": nil, "U": {1}, "D": {0, 1}, "UU": {2}, "DDD": {0, 3}, "UDDU": {1, 2, 1},
		"DUUD": {0, 1, 2, 1}, "UUDUDD": {2, 1, 1, 2},
	}
	known[steps("U", impl.MaxPath)] = []int{impl.MaxPath}
	known[steps("D", impl.MaxPath)] = []int{0, impl.MaxPath}
	known[steps("UD", impl.MaxPath/2)] = slices.Repeat([]int{1}, impl.MaxPath)
	known[steps("DU", impl.MaxPath/2)] = append([]int{0}, slices.Repeat([]int{1}, impl.MaxPath)...)
	for path, want := range known {
		runs, ok := impl.RunsOfPath(path)
		wantList(t, "runs of "+path, runs, ok, want)
		found, ok := impl.PathOfRuns(want)
		wantValue(t, "path of the runs of "+path, found, ok, path)
	}
	for _, path := range pathsUpTo(9) {
		runs, _ := impl.RunsOfPath(path)
		found, ok := impl.PathOfRuns(runs)
		wantValue(t, "path of the runs of "+path, found, ok, path)
	}
}

// TestNoRuns checks that lists of lengths are refused that no path has.
func TestNoRuns(t *testing.T) {
	lists := [][]int{
		{0}, {-1}, {-1, 2}, {1, 0}, {1, -1}, {0, 0}, {0, 0, 1}, {2, 1, 0}, {2, 0, 1}, {0, -3},
		{impl.MaxPath + 1}, {0, impl.MaxPath + 1}, {impl.MaxPath, 1}, {20, 21}, {1, impl.MaxPath},
		slices.Repeat([]int{1}, impl.MaxPath+1), slices.Repeat([]int{1}, 100000),
	}
	for _, n := range someNumbers() {
		if n < 0 || n > impl.MaxPath {
			lists = append(lists, []int{n}, []int{0, n}, []int{1, n}, []int{n, n}, []int{n, 1}, []int{1, 1, n, n})
		}
	}
	for _, runs := range lists {
		path, ok := impl.PathOfRuns(runs)
		wantFailure(t, "path of no runs", path, ok)
	}
	for _, none := range [][]int{nil, {}} {
		path, ok := impl.PathOfRuns(none)
		wantValue(t, "path of runs that are none", path, ok, "")
	}
}
