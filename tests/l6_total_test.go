package tests

import (
	"math"
	"slices"
	"testing"

	"loop.example/g01218/impl"
)

// noChances are ratios that are no chance: not in lowest terms, a Den of 0, less than 0
// or more than 6, and chances of 0, of 1, and beyond.
func noChances() []impl.Ratio {
	return []impl.Ratio{
		{}, {Num: 2, Den: 4}, {Num: 3, Den: 6}, {Num: 2, Den: 6}, {Num: 4, Den: 6}, {Num: 5, Den: 10},
		{Num: 1, Den: 0}, {Num: -1, Den: 0}, {Num: -1, Den: -2}, {Num: 1, Den: -2}, {Num: -1, Den: 2}, {Num: -2, Den: -4}, {Num: -3, Den: -2},
		{Num: 1, Den: 7}, {Num: 3, Den: 7}, {Num: 6, Den: 7}, {Num: 5, Den: 8}, {Num: 499, Den: 1000},
		{Num: 0, Den: 1}, {Num: 0, Den: 2}, {Num: 0, Den: 6}, {Num: 1, Den: 1}, {Num: 2, Den: 2}, {Num: 6, Den: 6}, {Num: 3, Den: 2}, {Num: 7, Den: 6}, {Num: 2, Den: 1},
		{Num: math.MinInt, Den: math.MinInt}, {Num: 1, Den: math.MinInt}, {Num: math.MinInt, Den: 2}, {Num: math.MinInt, Den: 1},
		{Num: math.MaxInt, Den: math.MaxInt}, {Num: 1, Den: math.MaxInt}, {Num: math.MaxInt, Den: 6}, {Num: math.MaxInt, Den: math.MinInt},
		{Num: 1, Den: 1<<32 + 2}, {Num: 1<<32 + 1, Den: 2}, {Num: 1<<32 + 1, Den: 1<<32 + 2}, {Num: -1, Den: math.MinInt},
	}
}

// ruinNumbers are numbers about the limits of the chapter, and far beyond them.
func ruinNumbers() []int {
	return []int{
		math.MinInt, math.MinInt + 1, -1 << 32, -2, -1, 0, 1, 2, 3, 4, 6, 8, 11, impl.MaxGoal, impl.MaxGoal + 1, 16,
		impl.MaxGames - 1, impl.MaxGames, impl.MaxGames + 1, 1 << 32, 1<<32 + 4, math.MaxInt - 1, math.MaxInt,
	}
}

// areHeld reports whether a goal is in 1..MaxGoal and all that is held from least to
// less than it by so much.
func areHeld(goal, least, less int, held ...int) bool {
	if goal < 1 || goal > impl.MaxGoal {
		return false
	}
	return slices.Min(held) >= least && slices.Max(held) <= goal-less
}

// wantRatio wants a call to fail exactly where its arguments are not valid, and
// otherwise a ratio of at least 0.
func wantRatio(t *testing.T, what string, got impl.Ratio, gotOK, valid bool) {
	t.Helper()
	if !valid {
		wantFailure(t, what, got, gotOK)
	} else if !gotOK || got.Num < 0 || got.Den < 1 {
		t.Errorf("%s: %v, %v", what, got, gotOK)
	}
}

// checkPlay calls all functions of what is held, a goal and a chance.
func checkPlay(t *testing.T, i, goal int, p impl.Ratio, isChance bool) {
	t.Helper()
	valid := isChance && areHeld(goal, 0, 0, i)
	got, ok := impl.WinChance(i, goal, p)
	wantRatio(t, aboutPlay("WinChance", p, i, goal), got, ok, valid)
	got, ok = impl.RuinChance(i, goal, p)
	wantRatio(t, aboutPlay("RuinChance", p, i, goal), got, ok, valid)
	got, ok = impl.MeanGames(i, goal, p)
	wantRatio(t, aboutPlay("MeanGames", p, i, goal), got, ok, valid)
	got, ok = impl.MeanHeld(i, goal, p)
	wantRatio(t, aboutPlay("MeanHeld", p, i, goal), got, ok, valid)
	got, ok = impl.FirstWonOfWinners(i, goal, p)
	wantRatio(t, aboutPlay("FirstWonOfWinners", p, i, goal), got, ok, isChance && areHeld(goal, 1, 1, i))
	got, ok = impl.BoldChance(i, goal, p)
	wantRatio(t, aboutPlay("BoldChance", p, i, goal), got, ok, valid && slices.Contains([]int{1, 2, 4, 8}, goal))
	for _, games := range ruinNumbers() {
		checkGames(t, i, goal, p, games, valid && games >= 0 && games <= impl.MaxGames)
	}
}

// checkGames calls all functions that take a number of games, too.
func checkGames(t *testing.T, i, goal int, p impl.Ratio, games int, valid bool) {
	t.Helper()
	got, ok := impl.WinWithin(i, goal, p, games)
	wantRatio(t, aboutPlay("WinWithin", p, i, goal, games), got, ok, valid)
	got, ok = impl.RuinWithin(i, goal, p, games)
	wantRatio(t, aboutPlay("RuinWithin", p, i, goal, games), got, ok, valid)
	got, ok = impl.StillPlaying(i, goal, p, games)
	wantRatio(t, aboutPlay("StillPlaying", p, i, goal, games), got, ok, valid)
	held, ok := impl.HeldAfter(i, goal, p, games)
	if !valid {
		wantListFailure(t, aboutPlay("HeldAfter", p, i, goal, games), held, ok)
	} else if !ok || len(held) != goal+1 {
		t.Errorf("%s: %v, %v", aboutPlay("HeldAfter", p, i, goal, games), held, ok)
	}
}

func TestNumbersOfRuin(t *testing.T) {
	for _, p := range chances() {
		if !impl.IsChance(p) {
			t.Errorf("%s is none", aboutPlay("IsChance", p))
		}
		for _, i := range ruinNumbers() {
			for _, goal := range ruinNumbers() {
				checkPlay(t, i, goal, p, true)
			}
			ever, ok := impl.EverRuined(i, p)
			wantRatio(t, aboutPlay("EverRuined", p, i), ever, ok, i >= 0 && i <= impl.MaxGoal)
		}
	}
}

func TestRatiosThatAreNoChanceFail(t *testing.T) {
	for _, p := range noChances() {
		if impl.IsChance(p) {
			t.Errorf("%s is one", aboutPlay("IsChance", p))
		}
		for _, i := range ruinNumbers() {
			for _, goal := range ruinNumbers() {
				checkPlay(t, i, goal, p, false)
			}
			ever, ok := impl.EverRuined(i, p)
			wantFailure(t, aboutPlay("EverRuined", p, i), ever, ok)
		}
	}
}

// TestNumbersWithoutChance takes what is held, goals and games outside what is told.
func TestNumbersWithoutChance(t *testing.T) {
	for _, i := range ruinNumbers() {
		for _, goal := range ruinNumbers() {
			for _, other := range ruinNumbers() {
				visits, ok := impl.FairVisits(i, other, goal)
				wantRatio(t, about("FairVisits", i, other, goal), visits, ok, areHeld(goal, 1, 1, i, other))
				count, ok := impl.CountWins(i, goal, other)
				valid := areHeld(goal, 1, 1, i) && other >= 0 && other <= impl.MaxGames
				wantSuccess(t, about("CountWins", i, goal, other), count, ok, valid)
			}
		}
	}
}

// TestGoalOfOne takes the only goal that leaves nothing to play for.
func TestGoalOfOne(t *testing.T) {
	for _, p := range chances() {
		for i := range 2 {
			got, ok := impl.WinChance(i, 1, p)
			wantPart(t, aboutPlay("WinChance", p, i), got, ok, i, 1)
			got, ok = impl.RuinChance(i, 1, p)
			wantPart(t, aboutPlay("RuinChance", p, i), got, ok, 1-i, 1)
			got, ok = impl.MeanGames(i, 1, p)
			wantPart(t, aboutPlay("MeanGames", p, i), got, ok, 0, 1)
			got, ok = impl.MeanHeld(i, 1, p)
			wantPart(t, aboutPlay("MeanHeld", p, i), got, ok, i, 1)
			got, ok = impl.BoldChance(i, 1, p)
			wantPart(t, aboutPlay("BoldChance", p, i), got, ok, i, 1)
			for games := range impl.MaxGames + 1 {
				got, ok = impl.StillPlaying(i, 1, p, games)
				wantPart(t, aboutPlay("StillPlaying", p, i, games), got, ok, 0, 1)
				held, ok := impl.HeldAfter(i, 1, p, games)
				wantList(t, aboutPlay("HeldAfter", p, i, games), held, ok, []impl.Ratio{{Num: 1 - i, Den: 1}, {Num: i, Den: 1}})
			}
		}
	}
}

// noCompared are ratios that CompareChances does not take: not in lowest terms, a Den of
// 0 or less, a Num of less than 0, and numbers beyond 10^9.
func noCompared() []impl.Ratio {
	return []impl.Ratio{
		{}, {Num: 1, Den: 0}, {Num: 1e9, Den: 0}, {Num: -1, Den: 0}, {Num: 0, Den: 2}, {Num: 0, Den: 1e9}, {Num: 2, Den: 2}, {Num: 2, Den: 4}, {Num: 1e9, Den: 1e9},
		{Num: 1e9, Den: 2}, {Num: 2, Den: 1e9}, {Num: 5e8, Den: 1e9}, {Num: 999_999_999, Den: 3},
		{Num: -1, Den: 1}, {Num: 1, Den: -1}, {Num: -1, Den: -1}, {Num: -1, Den: -2}, {Num: 0, Den: -1}, {Num: -1e9, Den: 1},
		{Num: 1e9 + 1, Den: 1}, {Num: 1, Den: 1e9 + 1}, {Num: 1e9 + 1, Den: 1e9}, {Num: 1e9, Den: 1e9 + 1}, {Num: 0, Den: 1e9 + 1},
		{Num: 1 << 32, Den: 1}, {Num: 1, Den: 1 << 32}, {Num: math.MaxInt, Den: 1}, {Num: 1, Den: math.MaxInt}, {Num: math.MaxInt, Den: math.MaxInt},
		{Num: math.MinInt, Den: 1}, {Num: 1, Den: math.MinInt}, {Num: math.MinInt, Den: math.MinInt}, {Num: math.MinInt, Den: -1}, {Num: 0, Den: math.MinInt},
	}
}

func TestRatiosThatAreNotCompared(t *testing.T) {
	compared := []impl.Ratio{{Num: 0, Den: 1}, {Num: 1, Den: 1}, half, {Num: 1e9, Den: 1}, {Num: 1, Den: 1e9}, {Num: 1e9, Den: 999_999_999}}
	for _, bad := range noCompared() {
		for _, other := range slices.Concat(noCompared(), compared) {
			order, ok := impl.CompareChances(bad, other)
			wantFailure(t, about("CompareChances", bad.Num, bad.Den, other.Num, other.Den), order, ok)
			order, ok = impl.CompareChances(other, bad)
			wantFailure(t, about("CompareChances", other.Num, other.Den, bad.Num, bad.Den), order, ok)
		}
	}
	for i, a := range compared {
		order, ok := impl.CompareChances(a, a)
		wantValue(t, about("CompareChances of equals", a.Num, a.Den), order, ok, 0)
		if i > 0 {
			order, ok = impl.CompareChances(compared[0], a)
			wantValue(t, about("CompareChances with 0", a.Num, a.Den), order, ok, -1)
		}
	}
}

// TestHeldIsNewMemory overwrites a list up to its capacity, and asks again.
func TestHeldIsNewMemory(t *testing.T) {
	eachPlay(func(i, goal int, p impl.Ratio) {
		for _, games := range []int{0, 1, 2, impl.MaxGames} {
			want, _ := impl.HeldAfter(i, goal, p, games)
			want = slices.Clone(want)
			first, _ := impl.HeldAfter(i, goal, p, games)
			second, _ := impl.HeldAfter(i, goal, p, games)
			all := first[:cap(first)]
			for k := range all {
				all[k] = impl.Ratio{Num: 7, Den: 77}
			}
			wantList(t, aboutPlay("HeldAfter before", p, i, goal, games), second, true, want)
			again, ok := impl.HeldAfter(i, goal, p, games)
			wantList(t, aboutPlay("HeldAfter again", p, i, goal, games), again, ok, want)
		}
	})
}
