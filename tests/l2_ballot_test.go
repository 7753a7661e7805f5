package tests

import (
	"slices"
	"strconv"
	"strings"
	"testing"

	"loop.example/g01218/impl"
)

// maxFactor is the greatest k of chapter 2.
const maxFactor = 5

// leadAt returns how many U the first n steps have beyond k times as many D.
func leadAt(path string, n, k int) int {
	return strings.Count(path[:n], "U") - k*strings.Count(path[:n], "D")
}

// leadsAtLeast reports whether the lead is at least so great behind each step.
func leadsAtLeast(path string, k, least int) bool {
	for i := range path {
		if leadAt(path, i+1, k) < least {
			return false
		}
	}
	return true
}

// votesAtLeast returns all paths with a U and b D whose lead is at least so great
// behind each step, in the order of texts.
func votesAtLeast(a, b, k, least int) []string {
	return slices.DeleteFunc(pathsWith(a, b), func(path string) bool {
		return !leadsAtLeast(path, k, least)
	})
}

// orders counts such paths by their last steps, for all a and b of together at most MaxPath.
func orders(k, least int) [impl.MaxPath + 1][impl.MaxPath + 1]int {
	var counts [impl.MaxPath + 1][impl.MaxPath + 1]int
	for a := range impl.MaxPath + 1 {
		for b := range impl.MaxPath + 1 - a {
			switch {
			case a+b == 0:
				counts[a][b] = 1
			case a-k*b < least:
			case a == 0:
				counts[a][b] = counts[a][b-1]
			case b == 0:
				counts[a][b] = counts[a-1][b]
			default:
				counts[a][b] = counts[a-1][b] + counts[a][b-1]
			}
		}
	}
	return counts
}

// about tells of which votes a test speaks.
func about(what string, numbers ...int) string {
	for _, n := range numbers {
		what += " " + strconv.Itoa(n)
	}
	return what
}

func TestAheadAndBehind(t *testing.T) {
	for _, path := range append(somePaths(), pathsUpTo(9)...) {
		for k := 1; k <= maxFactor; k++ {
			ahead, ok := impl.IsAhead(path, k)
			wantValue(t, about("ahead "+path, k), ahead, ok, leadsAtLeast(path, k, 1))
			never, ok := impl.IsNeverBehind(path, k)
			wantValue(t, about("never behind "+path, k), never, ok, leadsAtLeast(path, k, 0))
			steps, ok := impl.FirstNotAhead(path, k)
			wantFirstBelow(t, about("first not ahead "+path, k), steps, ok, path, k, 1)
			steps, ok = impl.FirstBehind(path, k)
			wantFirstBelow(t, about("first behind "+path, k), steps, ok, path, k, 0)
		}
	}
}

// wantFirstBelow wants the least number of steps behind which the lead is less than a
// least one, and a failing call if there is none.
func wantFirstBelow(t *testing.T, what string, got int, gotOK bool, path string, k, least int) {
	t.Helper()
	for i := range path {
		if leadAt(path, i+1, k) < least {
			wantValue(t, what, got, gotOK, i+1)
			return
		}
	}
	wantFailure(t, what, got, gotOK)
}

func TestTiesOf(t *testing.T) {
	for _, path := range append(somePaths(), pathsUpTo(9)...) {
		for k := 1; k <= maxFactor; k++ {
			var want []int
			for i := range len(path) + 1 {
				if leadAt(path, i, k) == 0 {
					want = append(want, i)
				}
			}
			ties, ok := impl.TiesOf(path, k)
			wantList(t, about("ties of "+path, k), ties, ok, want)
		}
	}
}

func TestKnownBallots(t *testing.T) {
	ahead, ok := impl.IsAhead("UUUD", 2)
	wantValue(t, "UUUD ahead", ahead, ok, true)
	ahead, ok = impl.IsAhead("UUDU", 2)
	wantValue(t, "UUDU ahead", ahead, ok, false)
	never, ok := impl.IsNeverBehind("UUDU", 2)
	wantValue(t, "UUDU never behind", never, ok, true)
	never, ok = impl.IsNeverBehind("UDUU", 2)
	wantValue(t, "UDUU never behind", never, ok, false)
	first, ok := impl.FirstNotAhead("UUDU", 2)
	wantValue(t, "UUDU not ahead", first, ok, 3)
	first, ok = impl.FirstBehind("UDDU", 1)
	wantValue(t, "UDDU behind", first, ok, 3)
	ties, ok := impl.TiesOf("UDDU", 1)
	wantList(t, "ties of UDDU", ties, ok, []int{0, 2, 4})
	ties, ok = impl.TiesOf("UUDU", 2)
	wantList(t, "ties of UUDU", ties, ok, []int{0, 3})
	paths, ok := impl.AllAhead(3, 1, 2)
	wantList(t, "paths ahead", paths, ok, []string{"UUUD"})
	paths, ok = impl.AllNeverBehind(3, 1, 2)
	wantList(t, "paths never behind", paths, ok, []string{"UUDU", "UUUD"})
	chance, ok := impl.ChanceAhead(3, 1, 2)
	wantValue(t, "chance ahead", chance, ok, impl.Ratio{Num: 1, Den: 4})
	chance, ok = impl.ChanceNeverBehind(3, 1, 2)
	wantValue(t, "chance never behind", chance, ok, impl.Ratio{Num: 1, Den: 2})
}

// TestBallotsAreListed holds counts, lists and ranks against all paths gone through.
func TestBallotsAreListed(t *testing.T) {
	for n := range 11 {
		for b := range n + 1 {
			for k := 1; k <= maxFactor; k++ {
				checkAhead(t, n-b, b, k)
				checkNeverBehind(t, n-b, b, k)
			}
		}
	}
}

func checkAhead(t *testing.T, a, b, k int) {
	t.Helper()
	want := votesAtLeast(a, b, k, 1)
	count, ok := impl.CountAhead(a, b, k)
	wantValue(t, about("count ahead", a, b, k), count, ok, len(want))
	paths, ok := impl.AllAhead(a, b, k)
	wantList(t, about("all ahead", a, b, k), paths, ok, want)
}

func checkNeverBehind(t *testing.T, a, b, k int) {
	t.Helper()
	want := votesAtLeast(a, b, k, 0)
	count, ok := impl.CountNeverBehind(a, b, k)
	wantValue(t, about("count never behind", a, b, k), count, ok, len(want))
	paths, ok := impl.AllNeverBehind(a, b, k)
	wantList(t, about("all never behind", a, b, k), paths, ok, want)
	for i, path := range want {
		rank, ok := impl.RankNeverBehind(path, k)
		wantValue(t, about("rank of "+path, k), rank, ok, i)
		found, ok := impl.NeverBehindOfRank(a, b, k, i)
		wantValue(t, about("path of rank", a, b, k, i), found, ok, path)
	}
	for _, rank := range []int{-1, len(want), len(want) + 1} {
		found, ok := impl.NeverBehindOfRank(a, b, k, rank)
		wantFailure(t, about("path of rank", a, b, k, rank), found, ok)
	}
}

func TestOnlyPathsNeverBehindAreRanked(t *testing.T) {
	for _, path := range append(somePaths(), pathsUpTo(9)...) {
		for k := 1; k <= maxFactor; k++ {
			rank, ok := impl.RankNeverBehind(path, k)
			if !leadsAtLeast(path, k, 0) {
				wantFailure(t, about("rank of "+path, k), rank, ok)
			} else if !ok {
				t.Errorf("%s with %d has a rank", path, k)
			}
		}
	}
}

// TestCountsOfBallots holds the formulas against recurrences, up to the longest paths.
func TestCountsOfBallots(t *testing.T) {
	for k := 1; k <= maxFactor; k++ {
		ahead, never := orders(k, 1), orders(k, 0)
		for a := range impl.MaxPath + 1 {
			for b := range impl.MaxPath + 1 - a {
				all, _ := impl.CountPaths(a, b)
				count, ok := impl.CountAhead(a, b, k)
				wantValue(t, about("count ahead", a, b, k), count, ok, ahead[a][b])
				chance, ok := impl.ChanceAhead(a, b, k)
				wantPart(t, about("chance ahead", a, b, k), chance, ok, ahead[a][b], all)
				count, ok = impl.CountNeverBehind(a, b, k)
				wantValue(t, about("count never behind", a, b, k), count, ok, never[a][b])
				chance, ok = impl.ChanceNeverBehind(a, b, k)
				wantPart(t, about("chance never behind", a, b, k), chance, ok, never[a][b], all)
			}
		}
	}
}

// wantPart wants the ratio of a part to a whole in lowest terms.
func wantPart(t *testing.T, what string, got impl.Ratio, gotOK bool, part, whole int) {
	t.Helper()
	divisor, rest := whole, part
	for rest > 0 {
		divisor, rest = rest, divisor%rest
	}
	wantValue(t, what, got, gotOK, impl.Ratio{Num: part / divisor, Den: whole / divisor})
}

// TestTooFewVotes checks what there is with less than k times as many U, and with just as many.
func TestTooFewVotes(t *testing.T) {
	for k := 1; k <= maxFactor; k++ {
		for b := 1; b*(k+1) <= impl.MaxPath; b++ {
			for _, a := range []int{0, k*b - 1, k * b} {
				count, ok := impl.CountAhead(a, b, k)
				wantValue(t, about("count ahead", a, b, k), count, ok, 0)
				chance, ok := impl.ChanceAhead(a, b, k)
				wantValue(t, about("chance ahead", a, b, k), chance, ok, impl.Ratio{Num: 0, Den: 1})
				paths, ok := impl.AllAhead(a, b, k)
				wantList(t, about("all ahead", a, b, k), paths, ok, nil)
			}
			for _, a := range []int{0, k*b - 1} {
				count, ok := impl.CountNeverBehind(a, b, k)
				wantValue(t, about("count never behind", a, b, k), count, ok, 0)
				chance, ok := impl.ChanceNeverBehind(a, b, k)
				wantValue(t, about("chance never behind", a, b, k), chance, ok, impl.Ratio{Num: 0, Den: 1})
				paths, ok := impl.AllNeverBehind(a, b, k)
				wantList(t, about("all never behind", a, b, k), paths, ok, nil)
				path, ok := impl.NeverBehindOfRank(a, b, k, 0)
				wantFailure(t, about("first never behind", a, b, k), path, ok)
			}
			if count, ok := impl.CountNeverBehind(k*b, b, k); count < 1 || !ok {
				t.Errorf("%s: %d, %v", about("count never behind", k*b, b, k), count, ok)
			}
		}
	}
}

func TestNoVotes(t *testing.T) {
	for k := 1; k <= maxFactor; k++ {
		ahead, ok := impl.IsAhead("", k)
		wantValue(t, "ahead", ahead, ok, true)
		never, ok := impl.IsNeverBehind("", k)
		wantValue(t, "never behind", never, ok, true)
		first, ok := impl.FirstNotAhead("", k)
		wantFailure(t, "first not ahead", first, ok)
		first, ok = impl.FirstBehind("", k)
		wantFailure(t, "first behind", first, ok)
		ties, ok := impl.TiesOf("", k)
		wantList(t, "ties", ties, ok, []int{0})
		count, ok := impl.CountAhead(0, 0, k)
		wantValue(t, "count ahead", count, ok, 1)
		count, ok = impl.CountNeverBehind(0, 0, k)
		wantValue(t, "count never behind", count, ok, 1)
		chance, ok := impl.ChanceAhead(0, 0, k)
		wantValue(t, "chance ahead", chance, ok, impl.Ratio{Num: 1, Den: 1})
		chance, ok = impl.ChanceNeverBehind(0, 0, k)
		wantValue(t, "chance never behind", chance, ok, impl.Ratio{Num: 1, Den: 1})
		paths, ok := impl.AllAhead(0, 0, k)
		wantList(t, "all ahead", paths, ok, []string{""})
		paths, ok = impl.AllNeverBehind(0, 0, k)
		wantList(t, "all never behind", paths, ok, []string{""})
		rank, ok := impl.RankNeverBehind("", k)
		wantValue(t, "rank", rank, ok, 0)
		path, ok := impl.NeverBehindOfRank(0, 0, k, 0)
		wantValue(t, "path of rank", path, ok, "")
		path, ok = impl.NeverBehindOfRank(0, 0, k, 1)
		wantFailure(t, "path behind the last rank", path, ok)
	}
}

// TestLimitOfLists asks for every list. None has just MaxBallots paths: those next to it have 299 and 310.
func TestLimitOfLists(t *testing.T) {
	fullest, leastTooMany := 0, 1<<40
	for k := 1; k <= maxFactor; k++ {
		ahead, never := orders(k, 1), orders(k, 0)
		for a := range impl.MaxPath + 1 {
			for b := range impl.MaxPath + 1 - a {
				paths, ok := impl.AllAhead(a, b, k)
				wantBallots(t, about("all ahead", a, b, k), paths, ok, ahead[a][b])
				paths, ok = impl.AllNeverBehind(a, b, k)
				wantBallots(t, about("all never behind", a, b, k), paths, ok, never[a][b])
				for _, count := range []int{ahead[a][b], never[a][b]} {
					if count <= impl.MaxBallots {
						fullest = max(fullest, count)
					} else {
						leastTooMany = min(leastTooMany, count)
					}
				}
			}
		}
	}
	if fullest != 299 || leastTooMany != 310 {
		t.Errorf("the lists next to the limit have %d and %d paths", fullest, leastTooMany)
	}
}

// wantBallots wants so many increasing paths, or a failing call if these are more than MaxBallots.
func wantBallots(t *testing.T, what string, got []string, gotOK bool, count int) {
	t.Helper()
	if count > impl.MaxBallots {
		wantListFailure(t, what, got, gotOK)
		return
	}
	wantValue(t, what, len(got), gotOK, count)
	for i := 1; i < len(got); i++ {
		if got[i-1] >= got[i] {
			t.Errorf("%s: %s is not behind %s", what, got[i], got[i-1])
		}
	}
}

func TestListsAtTheLimit(t *testing.T) {
	ahead, ok := impl.AllAhead(25, 2, 1)
	wantVotes(t, "all ahead", ahead, ok, 299, 25, 2, 1, 1)
	never, ok := impl.AllNeverBehind(24, 2, 1)
	wantVotes(t, "all never behind", never, ok, 299, 24, 2, 1, 0)
	ahead, ok = impl.AllAhead(30, 2, 5)
	wantListFailure(t, "all ahead of 310", ahead, ok)
	never, ok = impl.AllNeverBehind(29, 2, 5)
	wantListFailure(t, "all never behind of 310", never, ok)
	ahead, ok = impl.AllAhead(20, 20, 1)
	wantList(t, "all ahead of as many D", ahead, ok, nil)
	never, ok = impl.AllNeverBehind(20, 20, 1)
	wantListFailure(t, "all never behind of as many D", never, ok)
}

// wantVotes wants so many different paths, each with a U and b D and a lead that is great enough.
func wantVotes(t *testing.T, what string, got []string, gotOK bool, count, a, b, k, least int) {
	t.Helper()
	wantValue(t, what, len(got), gotOK, count)
	if !slices.IsSorted(got) || len(slices.Compact(slices.Clone(got))) != count {
		t.Errorf("%s: not increasing", what)
	}
	for _, path := range got {
		if strings.Count(path, "U") != a || strings.Count(path, "D") != b || !leadsAtLeast(path, k, least) {
			t.Errorf("%s: %s is none", what, path)
		}
	}
}

// TestRanksOfLongestBallots goes there and back with ranks from the first one to the last one.
func TestRanksOfLongestBallots(t *testing.T) {
	for k := 1; k <= maxFactor; k++ {
		counts := orders(k, 0)
		for b := range impl.MaxPath/(k+1) + 1 {
			a := impl.MaxPath - b
			count := counts[a][b]
			last := steps("U", a) + steps("D", b)
			path, ok := impl.NeverBehindOfRank(a, b, k, count-1)
			wantValue(t, about("last path", a, b, k), path, ok, last)
			path, ok = impl.NeverBehindOfRank(a, b, k, count)
			wantFailure(t, about("path behind the last one", a, b, k), path, ok)
			for part := range 9 {
				want := count / 9 * part
				path, ok := impl.NeverBehindOfRank(a, b, k, want)
				wantVotes(t, about("path of rank", a, b, k, want), []string{path}, ok, 1, a, b, k, 0)
				rank, ok := impl.RankNeverBehind(path, k)
				wantValue(t, about("rank of "+path, k), rank, ok, want)
			}
			rank, ok := impl.RankNeverBehind(last, k)
			wantValue(t, about("rank of "+last, k), rank, ok, count-1)
		}
	}
}

func TestCountWithTies(t *testing.T) {
	for n := range 7 {
		counts := make([]int, 21)
		for _, path := range pathsWith(n, n) {
			returns, _ := impl.ReturnsOf(path)
			counts[len(returns)]++
		}
		for ties, want := range counts {
			count, ok := impl.CountWithTies(n, ties)
			wantValue(t, about("count with ties", n, ties), count, ok, want)
		}
	}
}

// TestCountWithTiesByFirstTie cuts the paths at their first tie: twice as many lead
// there as are never behind inside, and the rest has one tie less.
func TestCountWithTiesByFirstTie(t *testing.T) {
	never := orders(1, 0)
	var counts [21][21]int
	for n := range counts {
		sum := 0
		for ties := range counts[n] {
			if n == 0 && ties == 0 {
				counts[n][ties] = 1
			}
			for first := 1; first <= n && ties > 0; first++ {
				counts[n][ties] += 2 * never[first-1][first-1] * counts[n-first][ties-1]
			}
			count, ok := impl.CountWithTies(n, ties)
			wantValue(t, about("count with ties", n, ties), count, ok, counts[n][ties])
			sum += count
		}
		all, ok := impl.CountPaths(n, n)
		wantValue(t, about("with all numbers of ties", n), sum, ok, all)
	}
}

func TestKnownCountsWithTies(t *testing.T) {
	known := []struct{ n, ties, want int }{
		{0, 0, 1}, {0, 1, 0}, {0, 20, 0}, {1, 0, 0}, {1, 1, 2}, {1, 2, 0}, {2, 0, 0}, {2, 1, 2}, {2, 2, 4}, {2, 3, 0},
		{20, 0, 0}, {20, 20, 1 << 20}, {19, 20, 0}, {20, 1, 2 * 1767263190},
	}
	for _, k := range known {
		count, ok := impl.CountWithTies(k.n, k.ties)
		wantValue(t, about("count with ties", k.n, k.ties), count, ok, k.want)
	}
}

func TestLeadsOf(t *testing.T) {
	for _, path := range append(somePaths(), pathsUpTo(9)...) {
		wantAhead, wantBehind := 0, 0
		for i := range path {
			if height := heightAt(path, i+1); height > 0 {
				wantAhead++
			} else if height < 0 {
				wantBehind++
			}
		}
		ahead, behind, ok := impl.LeadsOf(path)
		wantValue(t, "ahead in "+path, ahead, ok, wantAhead)
		wantValue(t, "behind in "+path, behind, ok, wantBehind)
	}
	ahead, behind, ok := impl.LeadsOf("UUDDDUUD")
	wantValue(t, "ahead", ahead, ok, 4)
	wantValue(t, "behind", behind, ok, 1)
}

func TestWithFirstVote(t *testing.T) {
	for _, path := range pathsUpTo(9) {
		more, ok := impl.WithFirstVote(path)
		wantValue(t, "with first vote "+path, more, ok, "U"+path)
		never, _ := impl.IsNeverBehind(path, 1)
		ahead, ok := impl.IsAhead(more, 1)
		wantValue(t, "ahead "+more, ahead, ok, never)
	}
	for _, step := range []string{"U", "D"} {
		longest := steps(step, impl.MaxPath-1)
		more, ok := impl.WithFirstVote(longest)
		wantValue(t, "with first vote "+longest, more, ok, "U"+longest)
		more, ok = impl.WithFirstVote(longest + step)
		wantFailure(t, "with first vote "+longest+step, more, ok)
	}
}
