package tests

import (
	"math"
	"slices"
	"testing"

	"loop.example/g01218/impl"
)

// noFactors are numbers that are no k.
func noFactors() []int {
	return []int{math.MinInt, -impl.MaxPath, -5, -1, 0, maxFactor + 1, maxFactor + 2, impl.MaxPath, 1 << 32, math.MaxInt}
}

// failPathAndFactor wants all functions of a path and k to fail.
func failPathAndFactor(t *testing.T, path string, k int) {
	t.Helper()
	ahead, ok := impl.IsAhead(path, k)
	wantFailure(t, about("IsAhead "+path, k), ahead, ok)
	never, ok := impl.IsNeverBehind(path, k)
	wantFailure(t, about("IsNeverBehind "+path, k), never, ok)
	first, ok := impl.FirstNotAhead(path, k)
	wantFailure(t, about("FirstNotAhead "+path, k), first, ok)
	first, ok = impl.FirstBehind(path, k)
	wantFailure(t, about("FirstBehind "+path, k), first, ok)
	ties, ok := impl.TiesOf(path, k)
	wantListFailure(t, about("TiesOf "+path, k), ties, ok)
	rank, ok := impl.RankNeverBehind(path, k)
	wantFailure(t, about("RankNeverBehind "+path, k), rank, ok)
}

// failVotesAndFactor wants all functions of numbers of votes and k to fail.
func failVotesAndFactor(t *testing.T, a, b, k int) {
	t.Helper()
	count, ok := impl.CountAhead(a, b, k)
	wantFailure(t, about("CountAhead", a, b, k), count, ok)
	count, ok = impl.CountNeverBehind(a, b, k)
	wantFailure(t, about("CountNeverBehind", a, b, k), count, ok)
	chance, ok := impl.ChanceAhead(a, b, k)
	wantFailure(t, about("ChanceAhead", a, b, k), chance, ok)
	chance, ok = impl.ChanceNeverBehind(a, b, k)
	wantFailure(t, about("ChanceNeverBehind", a, b, k), chance, ok)
	paths, ok := impl.AllAhead(a, b, k)
	wantListFailure(t, about("AllAhead", a, b, k), paths, ok)
	paths, ok = impl.AllNeverBehind(a, b, k)
	wantListFailure(t, about("AllNeverBehind", a, b, k), paths, ok)
	for _, rank := range []int{math.MinInt, -1, 0, 1, math.MaxInt} {
		path, ok := impl.NeverBehindOfRank(a, b, k, rank)
		wantFailure(t, about("NeverBehindOfRank", a, b, k, rank), path, ok)
	}
}

func TestBallotsOfNoPathFail(t *testing.T) {
	for _, text := range noPaths() {
		for k := 1; k <= maxFactor; k++ {
			failPathAndFactor(t, text, k)
		}
		for _, k := range noFactors() {
			failPathAndFactor(t, text, k)
		}
		ahead, behind, ok := impl.LeadsOf(text)
		wantFailure(t, "LeadsOf "+text, ahead, ok)
		wantFailure(t, "LeadsOf "+text, behind, ok)
		more, ok := impl.WithFirstVote(text)
		wantFailure(t, "WithFirstVote "+text, more, ok)
	}
}

func TestFactorsThatAreNoneFail(t *testing.T) {
	for _, k := range noFactors() {
		for _, path := range append(somePaths(), pathsUpTo(3)...) {
			failPathAndFactor(t, path, k)
		}
		for a := range 5 {
			for b := range 5 {
				failVotesAndFactor(t, a, b, k)
			}
		}
		failVotesAndFactor(t, impl.MaxPath, 0, k)
		failVotesAndFactor(t, 0, impl.MaxPath, k)
	}
}

// TestNumbersOfVotes checks which numbers there may be: of at least 0, together at most MaxPath.
func TestNumbersOfVotes(t *testing.T) {
	for _, a := range someNumbers() {
		for _, b := range someNumbers() {
			small := a >= 0 && a <= impl.MaxPath && b >= 0 && b <= impl.MaxPath
			for k := 1; k <= maxFactor; k++ {
				if !small || a+b > impl.MaxPath {
					failVotesAndFactor(t, a, b, k)
				} else {
					succeedVotesAndFactor(t, a, b, k)
				}
			}
			for _, k := range noFactors() {
				failVotesAndFactor(t, a, b, k)
			}
		}
	}
}

func succeedVotesAndFactor(t *testing.T, a, b, k int) {
	t.Helper()
	if _, ok := impl.CountAhead(a, b, k); !ok {
		t.Errorf("%s fails", about("CountAhead", a, b, k))
	}
	if _, ok := impl.CountNeverBehind(a, b, k); !ok {
		t.Errorf("%s fails", about("CountNeverBehind", a, b, k))
	}
	if _, ok := impl.ChanceAhead(a, b, k); !ok {
		t.Errorf("%s fails", about("ChanceAhead", a, b, k))
	}
	if _, ok := impl.ChanceNeverBehind(a, b, k); !ok {
		t.Errorf("%s fails", about("ChanceNeverBehind", a, b, k))
	}
}

// TestRanksOfNoBallot tries ranks below 0 and far behind the last one.
func TestRanksOfNoBallot(t *testing.T) {
	for k := 1; k <= maxFactor; k++ {
		counts := orders(k, 0)
		for a := range impl.MaxPath + 1 {
			for b := range impl.MaxPath + 1 - a {
				for _, rank := range []int{math.MinInt, -1, counts[a][b], counts[a][b] + 1, math.MaxInt} {
					path, ok := impl.NeverBehindOfRank(a, b, k, rank)
					wantFailure(t, about("NeverBehindOfRank", a, b, k, rank), path, ok)
				}
			}
		}
	}
}

// TestNumbersOfTies checks that both numbers are in 0..20.
func TestNumbersOfTies(t *testing.T) {
	for _, n := range someNumbers() {
		for _, ties := range someNumbers() {
			count, ok := impl.CountWithTies(n, ties)
			if n < 0 || n > 20 || ties < 0 || ties > 20 {
				wantFailure(t, about("CountWithTies", n, ties), count, ok)
			} else if !ok {
				t.Errorf("%s fails", about("CountWithTies", n, ties))
			}
		}
	}
}

// TestBallotListsAreNewMemory overwrites one result, up to its capacity, and asks again.
func TestBallotListsAreNewMemory(t *testing.T) {
	for _, path := range somePaths() {
		first, _ := impl.TiesOf(path, 1)
		second, _ := impl.TiesOf(path, 1)
		want := slices.Clone(second)
		all := first[:cap(first)]
		for i := range all {
			all[i] = 77
		}
		third, ok := impl.TiesOf(path, 1)
		wantList(t, "TiesOf", second, ok, want)
		wantList(t, "TiesOf", third, ok, want)
	}
	for _, call := range []func(int, int, int) ([]string, bool){impl.AllAhead, impl.AllNeverBehind} {
		first, _ := call(6, 2, 1)
		second, _ := call(6, 2, 1)
		want := slices.Clone(second)
		all := first[:cap(first)]
		for i := range all {
			all[i] = "other"
		}
		third, ok := call(6, 2, 1)
		wantList(t, "list", second, ok, want)
		wantList(t, "list", third, ok, want)
	}
}

func TestBallotTextsAreNewMemory(t *testing.T) {
	path := freshText("UUDU")
	more, ok := impl.WithFirstVote(path)
	if !ok || sameMemory(more, path) || sameMemory(more[1:], path) {
		t.Error("WithFirstVote shares memory with its argument")
	}
	found, ok := impl.NeverBehindOfRank(3, 1, 2, 0)
	if !ok || found != path || sameMemory(found, path) {
		t.Error("NeverBehindOfRank shares memory")
	}
}

// TestBallotsModifyNoPath holds the paths behind all calls against copies made ahead of them.
func TestBallotsModifyNoPath(t *testing.T) {
	for _, text := range append(somePaths(), noPaths()...) {
		path := freshText(text)
		for k := 0; k <= maxFactor+1; k++ {
			impl.IsAhead(path, k)
			impl.IsNeverBehind(path, k)
			impl.FirstNotAhead(path, k)
			impl.FirstBehind(path, k)
			impl.TiesOf(path, k)
			impl.RankNeverBehind(path, k)
		}
		impl.LeadsOf(path)
		impl.WithFirstVote(path)
		if path != text {
			t.Errorf("%q became %q", text, path)
		}
	}
}

// TestBallotsKeepNoState asks the same before and behind other calls.
func TestBallotsKeepNoState(t *testing.T) {
	before, _ := impl.AllNeverBehind(5, 2, 2)
	rank, _ := impl.RankNeverBehind("UUUUDDUU", 2)
	for k := range maxFactor + 2 {
		impl.AllAhead(5, 2, k)
		impl.AllNeverBehind(5, 2, k)
		impl.RankNeverBehind("UUUUDDUU", k)
		impl.NeverBehindOfRank(5, 2, k, 3)
	}
	behind, ok := impl.AllNeverBehind(5, 2, 2)
	wantList(t, "AllNeverBehind", behind, ok, before)
	again, ok := impl.RankNeverBehind("UUUUDDUU", 2)
	wantValue(t, "RankNeverBehind", again, ok, rank)
}
