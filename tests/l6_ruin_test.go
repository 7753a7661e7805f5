package tests

import (
	"math/big"
	"slices"
	"strings"
	"testing"

	"loop.example/g01218/impl"
)

// half is the chance of a fair game.
var half = impl.Ratio{Num: 1, Den: 2}

// chances are all chances there are.
func chances() []impl.Ratio {
	return []impl.Ratio{
		{Num: 1, Den: 2}, {Num: 1, Den: 3}, {Num: 2, Den: 3}, {Num: 1, Den: 4}, {Num: 3, Den: 4}, {Num: 1, Den: 5},
		{Num: 2, Den: 5}, {Num: 3, Den: 5}, {Num: 4, Den: 5}, {Num: 1, Den: 6}, {Num: 5, Den: 6},
	}
}

// eachPlay visits all chances, goals, and all that can be held.
func eachPlay(visit func(i, goal int, p impl.Ratio)) {
	for _, p := range chances() {
		for goal := 1; goal <= impl.MaxGoal; goal++ {
			for i := range goal + 1 {
				visit(i, goal, p)
			}
		}
	}
}

// aboutPlay tells of a call with a chance.
func aboutPlay(what string, p impl.Ratio, numbers ...int) string {
	return about(about(what, p.Num, p.Den)+",", numbers...)
}

func rat(num, den int) *big.Rat {
	return big.NewRat(int64(num), int64(den))
}

func plus(a, b *big.Rat) *big.Rat {
	return new(big.Rat).Add(a, b)
}

func times(a, b *big.Rat) *big.Rat {
	return new(big.Rat).Mul(a, b)
}

// meanOfGame returns the mean of what a game leads to.
func meanOfGame(p impl.Ratio, won, lost *big.Rat) *big.Rat {
	return plus(times(rat(p.Num, p.Den), won), times(rat(p.Den-p.Num, p.Den), lost))
}

// ratioOf returns a ratio in lowest terms.
func ratioOf(r *big.Rat) impl.Ratio {
	return impl.Ratio{Num: int(r.Num().Int64()), Den: int(r.Denom().Int64())}
}

// exact returns a ratio that a call gave. It wants it to be in lowest terms.
func exact(t *testing.T, what string, got impl.Ratio, gotOK bool) *big.Rat {
	t.Helper()
	if !gotOK || got.Den < 1 || ratioOf(rat(got.Num, got.Den)) != got {
		t.Fatalf("%s: %v, %v; want a ratio in lowest terms", what, got, gotOK)
	}
	return rat(got.Num, got.Den)
}

func wantRat(t *testing.T, what string, got impl.Ratio, gotOK bool, want *big.Rat) {
	t.Helper()
	wantValue(t, what, got, gotOK, ratioOf(want))
}

// playCall is a function of what is held, a goal and a chance.
type playCall struct {
	name string
	call func(i, goal int, p impl.Ratio) (impl.Ratio, bool)
}

// wantFollows holds what a function tells against what it tells behind one game with a
// stake, and what each game adds to that. It begins with 0 for 0, and a number for the
// goal: just one function is so.
func wantFollows(t *testing.T, f playCall, i, goal int, p impl.Ratio, stake, each, atGoal int) {
	t.Helper()
	what := aboutPlay(f.name, p, i, goal)
	got, ok := f.call(i, goal, p)
	if i == 0 || i == goal {
		wantPart(t, what, got, ok, atGoal*(i/goal), 1)
		return
	}
	won, wonOK := f.call(i+stake, goal, p)
	lost, lostOK := f.call(i-stake, goal, p)
	behind := meanOfGame(p, exact(t, what, won, wonOK), exact(t, what, lost, lostOK))
	wantRat(t, what, got, ok, plus(rat(each, 1), behind))
}

func TestChances(t *testing.T) {
	for den := -9; den <= 13; den++ {
		for num := -9; num <= 13; num++ {
			p := impl.Ratio{Num: num, Den: den}
			if got := impl.IsChance(p); got != slices.Contains(chances(), p) {
				t.Errorf("%s: %v", about("IsChance", num, den), got)
			}
		}
	}
}

// TestKnownRuin holds the document's example, and others.
func TestKnownRuin(t *testing.T) {
	third, better := impl.Ratio{Num: 1, Den: 3}, impl.Ratio{Num: 2, Den: 3}
	got, ok := impl.WinChance(1, 3, half)
	wantPart(t, "WinChance, fair", got, ok, 1, 3)
	got, ok = impl.MeanGames(1, 3, half)
	wantPart(t, "MeanGames, fair", got, ok, 2, 1)
	got, ok = impl.WinChance(1, 3, better)
	wantPart(t, "WinChance, better", got, ok, 4, 7)
	got, ok = impl.RuinChance(1, 3, better)
	wantPart(t, "RuinChance, better", got, ok, 3, 7)
	got, ok = impl.MeanHeld(1, 3, better)
	wantPart(t, "MeanHeld, better", got, ok, 12, 7)
	got, ok = impl.MeanGames(1, 3, better)
	wantPart(t, "MeanGames, better", got, ok, 15, 7)
	got, ok = impl.WinChance(2, 3, third)
	wantPart(t, "WinChance, worse", got, ok, 3, 7)
	got, ok = impl.EverRuined(1, better)
	wantPart(t, "EverRuined, better", got, ok, 1, 2)
	got, ok = impl.EverRuined(2, better)
	wantPart(t, "EverRuined, better", got, ok, 1, 4)
	got, ok = impl.EverRuined(7, third)
	wantPart(t, "EverRuined, worse", got, ok, 1, 1)
	got, ok = impl.BoldChance(1, 4, third)
	wantPart(t, "BoldChance of 1", got, ok, 1, 9)
	got, ok = impl.BoldChance(3, 4, third)
	wantPart(t, "BoldChance of 3", got, ok, 5, 9)
	got, ok = impl.FirstWonOfWinners(1, 3, half)
	wantPart(t, "FirstWonOfWinners", got, ok, 1, 1)
	got, ok = impl.FirstWonOfWinners(2, 3, half)
	wantPart(t, "FirstWonOfWinners", got, ok, 3, 4)
	got, ok = impl.FairVisits(1, 2, 3)
	wantPart(t, "FairVisits", got, ok, 2, 3)
	got, ok = impl.WinWithin(1, 3, half, 4)
	wantPart(t, "WinWithin", got, ok, 5, 16)
	got, ok = impl.RuinWithin(1, 3, half, 4)
	wantPart(t, "RuinWithin", got, ok, 5, 8)
	got, ok = impl.StillPlaying(1, 3, half, 4)
	wantPart(t, "StillPlaying", got, ok, 1, 16)
	held, ok := impl.HeldAfter(1, 3, third, 2)
	wantList(t, "HeldAfter", held, ok, []impl.Ratio{{Num: 2, Den: 3}, {Num: 2, Den: 9}, {Num: 0, Den: 1}, {Num: 1, Den: 9}})
	count, ok := impl.CountWins(2, 4, 6)
	wantValue(t, "CountWins", count, ok, 4)
	order, ok := impl.CompareChances(third, half)
	wantValue(t, "CompareChances", order, ok, -1)
}

func TestChancesInTheEnd(t *testing.T) {
	eachPlay(func(i, goal int, p impl.Ratio) {
		wantFollows(t, playCall{"WinChance", impl.WinChance}, i, goal, p, 1, 0, 1)
		got, ok := impl.WinChance(i, goal, p)
		win := exact(t, aboutPlay("WinChance", p, i, goal), got, ok)
		got, ok = impl.RuinChance(i, goal, p)
		wantRat(t, aboutPlay("RuinChance", p, i, goal), got, ok, plus(rat(1, 1), times(rat(-1, 1), win)))
		got, ok = impl.MeanHeld(i, goal, p)
		wantRat(t, aboutPlay("MeanHeld", p, i, goal), got, ok, times(rat(goal, 1), win))
	})
}

func TestMeanGames(t *testing.T) {
	eachPlay(func(i, goal int, p impl.Ratio) {
		wantFollows(t, playCall{"MeanGames", impl.MeanGames}, i, goal, p, 1, 1, 0)
	})
}

func TestFairGames(t *testing.T) {
	for goal := 1; goal <= impl.MaxGoal; goal++ {
		for i := range goal + 1 {
			got, ok := impl.WinChance(i, goal, half)
			wantPart(t, about("WinChance", i, goal), got, ok, i, goal)
			got, ok = impl.RuinChance(i, goal, half)
			wantPart(t, about("RuinChance", i, goal), got, ok, goal-i, goal)
			got, ok = impl.MeanGames(i, goal, half)
			wantPart(t, about("MeanGames", i, goal), got, ok, i*(goal-i), 1)
			got, ok = impl.MeanHeld(i, goal, half)
			wantPart(t, about("MeanHeld", i, goal), got, ok, i, 1)
			if slices.Contains([]int{1, 2, 4, 8}, goal) {
				got, ok = impl.BoldChance(i, goal, half)
				wantPart(t, about("BoldChance", i, goal), got, ok, i, goal)
			}
		}
	}
}

func TestEverRuined(t *testing.T) {
	for _, p := range chances() {
		for i := range impl.MaxGoal + 1 {
			want := rat(1, 1)
			for range i {
				if 2*p.Num > p.Den {
					want = times(want, rat(p.Den-p.Num, p.Num))
				}
			}
			got, ok := impl.EverRuined(i, p)
			wantRat(t, aboutPlay("EverRuined", p, i), got, ok, want)
			// A goal that is far away makes ruin less likely.
			if i > 0 && i < impl.MaxGoal {
				ruin, ruinOK := impl.RuinChance(i, impl.MaxGoal, p)
				if exact(t, "RuinChance", ruin, ruinOK).Cmp(exact(t, "EverRuined", got, ok)) >= 0 {
					t.Errorf("%s: %v; RuinChance %v", aboutPlay("EverRuined", p, i), got, ruin)
				}
			}
		}
	}
}

// heldByOrders returns the chances to hold 0, 1, .., goal, read off all orders of games.
func heldByOrders(i, goal int, p impl.Ratio, games int) []impl.Ratio {
	sums := make([]int, goal+1)
	for _, order := range pathsOf(games) {
		held := i
		for _, game := range order {
			if held == 0 || held == goal {
				break
			}
			held += heightAt(string(game), 1)
		}
		ups := strings.Count(order, "U")
		sums[held] += power(p.Num, ups) * power(p.Den-p.Num, games-ups)
	}
	var all []impl.Ratio
	for _, sum := range sums {
		all = append(all, ratioOf(rat(sum, power(p.Den, games))))
	}
	return all
}

func TestHeldByOrders(t *testing.T) {
	eachPlay(func(i, goal int, p impl.Ratio) {
		for games := range 7 {
			held, ok := impl.HeldAfter(i, goal, p, games)
			wantList(t, aboutPlay("HeldAfter", p, i, goal, games), held, ok, heldByOrders(i, goal, p, games))
		}
	})
}

// heldByFirst returns the chances to hold 0, 1, .., goal by those behind the first game.
func heldByFirst(t *testing.T, i, goal int, p impl.Ratio, games int) []*big.Rat {
	t.Helper()
	held := make([]*big.Rat, goal+1)
	for k := range held {
		held[k] = rat(0, 1)
	}
	if games == 0 || i == 0 || i == goal {
		held[i] = rat(1, 1)
		return held
	}
	more, moreOK := impl.HeldAfter(i+1, goal, p, games-1)
	less, lessOK := impl.HeldAfter(i-1, goal, p, games-1)
	for k := range held {
		held[k] = meanOfGame(p, exact(t, "HeldAfter", more[k], moreOK), exact(t, "HeldAfter", less[k], lessOK))
	}
	return held
}

// TestHeldByFirstGame takes games up to MaxGames.
func TestHeldByFirstGame(t *testing.T) {
	eachPlay(func(i, goal int, p impl.Ratio) {
		for games := range impl.MaxGames + 1 {
			var want []impl.Ratio
			sum := rat(0, 1)
			for _, chance := range heldByFirst(t, i, goal, p, games) {
				want = append(want, ratioOf(chance))
				sum = plus(sum, chance)
			}
			held, ok := impl.HeldAfter(i, goal, p, games)
			wantList(t, aboutPlay("HeldAfter", p, i, goal, games), held, ok, want)
			if sum.Cmp(rat(1, 1)) != 0 {
				t.Errorf("%s: %v together", aboutPlay("HeldAfter", p, i, goal, games), sum)
			}
		}
	})
}

func TestChancesWithin(t *testing.T) {
	eachPlay(func(i, goal int, p impl.Ratio) {
		for games := range impl.MaxGames + 1 {
			held, ok := impl.HeldAfter(i, goal, p, games)
			if !ok || len(held) != goal+1 {
				t.Fatalf("%s: %v, %v", aboutPlay("HeldAfter", p, i, goal, games), held, ok)
			}
			playing := rat(0, 1)
			for k := 1; k < goal; k++ {
				playing = plus(playing, exact(t, "HeldAfter", held[k], ok))
			}
			win, ok := impl.WinWithin(i, goal, p, games)
			wantValue(t, aboutPlay("WinWithin", p, i, goal, games), win, ok, held[goal])
			ruin, ok := impl.RuinWithin(i, goal, p, games)
			wantValue(t, aboutPlay("RuinWithin", p, i, goal, games), ruin, ok, held[0])
			still, ok := impl.StillPlaying(i, goal, p, games)
			wantRat(t, aboutPlay("StillPlaying", p, i, goal, games), still, ok, playing)
		}
	})
}

// TestMeansFollow goes on, behind all numbers of games, from what is held then: so the
// chances and means in the end follow from the chances within times.
func TestMeansFollow(t *testing.T) {
	eachPlay(func(i, goal int, p impl.Ratio) {
		played := rat(0, 1)
		for games := range impl.MaxGames + 1 {
			held, ok := impl.HeldAfter(i, goal, p, games)
			win, ruin, all := rat(0, 1), rat(0, 1), played
			for k, chance := range held {
				weight := exact(t, "HeldAfter", chance, ok)
				won, wonOK := impl.WinChance(k, goal, p)
				win = plus(win, times(weight, exact(t, "WinChance", won, wonOK)))
				lost, lostOK := impl.RuinChance(k, goal, p)
				ruin = plus(ruin, times(weight, exact(t, "RuinChance", lost, lostOK)))
				more, moreOK := impl.MeanGames(k, goal, p)
				all = plus(all, times(weight, exact(t, "MeanGames", more, moreOK)))
			}
			got, ok := impl.WinChance(i, goal, p)
			wantRat(t, aboutPlay("WinChance", p, i, goal, games), got, ok, win)
			got, ok = impl.RuinChance(i, goal, p)
			wantRat(t, aboutPlay("RuinChance", p, i, goal, games), got, ok, ruin)
			got, ok = impl.MeanGames(i, goal, p)
			wantRat(t, aboutPlay("MeanGames", p, i, goal, games), got, ok, all)
			still, ok := impl.StillPlaying(i, goal, p, games)
			played = plus(played, exact(t, "StillPlaying", still, ok))
		}
	})
}

func TestFirstWonOfWinners(t *testing.T) {
	eachPlay(func(i, goal int, p impl.Ratio) {
		got, ok := impl.FirstWonOfWinners(i, goal, p)
		if i == 0 || i == goal {
			wantFailure(t, aboutPlay("FirstWonOfWinners", p, i, goal), got, ok)
			return
		}
		win, winOK := impl.WinChance(i, goal, p)
		more, moreOK := impl.WinChance(i+1, goal, p)
		both := times(rat(p.Num, p.Den), exact(t, "WinChance", more, moreOK))
		want := new(big.Rat).Quo(both, exact(t, "WinChance", win, winOK))
		wantRat(t, aboutPlay("FirstWonOfWinners", p, i, goal), got, ok, want)
		if i == 1 {
			wantPart(t, aboutPlay("FirstWonOfWinners", p, i, goal), got, ok, 1, 1)
		}
	})
}

// TestFairVisits holds each number against those behind one game, with 0 for 0 and for
// the goal, and all of them together against the number of games.
func TestFairVisits(t *testing.T) {
	for goal := 1; goal <= impl.MaxGoal; goal++ {
		for i := 1; i < goal; i++ {
			sum := rat(0, 1)
			for j := 1; j < goal; j++ {
				beside := []*big.Rat{rat(0, 1), rat(0, 1)}
				for side, k := range []int{i - 1, i + 1} {
					if k > 0 && k < goal {
						visits, ok := impl.FairVisits(k, j, goal)
						beside[side] = exact(t, about("FairVisits", k, j, goal), visits, ok)
					}
				}
				want := meanOfGame(half, beside[0], beside[1])
				if i == j {
					want = plus(want, rat(1, 1))
				}
				got, ok := impl.FairVisits(i, j, goal)
				wantRat(t, about("FairVisits", i, j, goal), got, ok, want)
				sum = plus(sum, want)
			}
			games, ok := impl.MeanGames(i, goal, half)
			wantRat(t, about("MeanGames", i, goal), games, ok, sum)
		}
	}
}

func TestBoldChance(t *testing.T) {
	eachPlay(func(i, goal int, p impl.Ratio) {
		got, ok := impl.BoldChance(i, goal, p)
		if !slices.Contains([]int{1, 2, 4, 8}, goal) {
			wantFailure(t, aboutPlay("BoldChance", p, i, goal), got, ok)
			return
		}
		wantFollows(t, playCall{"BoldChance", impl.BoldChance}, i, goal, p, min(i, goal-i), 0, 1)
		// Bold play is good where the games are not, and bad where they are.
		timid, timidOK := impl.WinChance(i, goal, p)
		order := exact(t, "BoldChance", got, ok).Cmp(exact(t, "WinChance", timid, timidOK))
		if order*(p.Den-2*p.Num) < 0 {
			t.Errorf("%s: %v; WinChance %v", aboutPlay("BoldChance", p, i, goal), got, timid)
		}
	})
}

// winsByOrders returns in how many orders of games the goal is first reached behind the last one, and 0 never.
func winsByOrders(i, goal, games int) int {
	return countThose(pathsOf(games), func(order string) bool {
		heights := heightsAlong(order)
		before := heights[:games]
		return heights[games] == goal-i && !slices.Contains(before, goal-i) && !slices.Contains(before, -i)
	})
}

// winsByFirst returns for each number of games, and for each number held, in how many
// orders of games the goal is first reached, and 0 never.
func winsByFirst(goal int) [impl.MaxGames + 1][]int {
	var wins [impl.MaxGames + 1][]int
	wins[0] = make([]int, goal+1)
	wins[0][goal] = 1
	for games := 1; games <= impl.MaxGames; games++ {
		wins[games] = make([]int, goal+1)
		for i := 1; i < goal; i++ {
			wins[games][i] = wins[games-1][i+1] + wins[games-1][i-1]
		}
	}
	return wins
}

func TestCountWins(t *testing.T) {
	for goal := 1; goal <= impl.MaxGoal; goal++ {
		wins := winsByFirst(goal)
		for games := range impl.MaxGames + 1 {
			for i := 1; i < goal; i++ {
				got, ok := impl.CountWins(i, goal, games)
				wantValue(t, about("CountWins", i, goal, games), got, ok, wins[games][i])
				if games <= 8 {
					wantValue(t, about("CountWins", i, goal, games), got, ok, winsByOrders(i, goal, games))
				}
				if games < goal-i || (games-goal+i)%2 != 0 {
					wantValue(t, about("CountWins", i, goal, games), got, ok, 0)
				}
			}
		}
	}
}

// TestWinsWithin adds up the chances of all orders that win.
func TestWinsWithin(t *testing.T) {
	eachPlay(func(i, goal int, p impl.Ratio) {
		if i == 0 || i == goal {
			return
		}
		won := rat(0, 1)
		for games := range impl.MaxGames + 1 {
			count, ok := impl.CountWins(i, goal, games)
			if !ok {
				t.Fatalf("%s fails", about("CountWins", i, goal, games))
			}
			each := rat(count, 1)
			for game := range games {
				if 2*game < games-goal+i {
					each = times(each, rat(p.Num*(p.Den-p.Num), p.Den*p.Den))
				}
			}
			for range goal - i {
				each = times(each, rat(p.Num, p.Den))
			}
			won = plus(won, each)
			got, ok := impl.WinWithin(i, goal, p, games)
			wantRat(t, aboutPlay("WinWithin", p, i, goal, games), got, ok, won)
		}
	})
}

// comparedRatios are ratios of all sizes, many of them near to each other: of small
// numbers, of powers of ten and numbers beside them, and of great thrown numbers.
func comparedRatios() []impl.Ratio {
	var ratios []impl.Ratio
	for den := 1; den <= 6; den++ {
		for num := range 8 {
			ratios = append(ratios, ratioOf(rat(num, den)))
		}
	}
	edges := []int{1, 2, 1000, 999_983, 1 << 24, 1<<24 + 1, 499_999_993, 1e9 - 3, 1e9 - 2, 1e9 - 1, 1e9}
	for _, num := range edges {
		for _, den := range edges {
			ratios = append(ratios, ratioOf(rat(num, den)))
		}
	}
	thrown := dice(6)
	for range 30 {
		num, den := thrown.from(4e8, 9e8), thrown.from(4e8, 9e8)
		for range 5 {
			ratios = append(ratios, ratioOf(rat(num+thrown.from(-60, 60), den+thrown.from(-60, 60))))
		}
	}
	return ratios
}

func TestCompareChances(t *testing.T) {
	ratios := comparedRatios()
	for _, a := range ratios {
		for _, b := range ratios {
			order, ok := impl.CompareChances(a, b)
			wantValue(t, about("CompareChances", a.Num, a.Den, b.Num, b.Den), order, ok, rat(a.Num, a.Den).Cmp(rat(b.Num, b.Den)))
		}
	}
}

// TestCompareNearChances takes pairs that differ as little as such numbers can, and
// pairs that single precision does not tell apart, or tells the wrong way.
func TestCompareNearChances(t *testing.T) {
	thrown := dice(66)
	for range 20000 {
		num, den := thrown.from(1, 9e8), thrown.from(1, 9e8)
		most := max(1, thrown.from(1, 6)*min(num, den)/1e8)
		a := ratioOf(rat(num, den))
		b := ratioOf(rat(num+thrown.from(0, most), den+thrown.from(0, most)))
		want := rat(a.Num, a.Den).Cmp(rat(b.Num, b.Den))
		order, ok := impl.CompareChances(a, b)
		wantValue(t, about("CompareChances", a.Num, a.Den, b.Num, b.Den), order, ok, want)
		order, ok = impl.CompareChances(b, a)
		wantValue(t, about("CompareChances", b.Num, b.Den, a.Num, a.Den), order, ok, -want)
	}
	for n := int(1e9 - 50); n < 1e9; n++ {
		a, b := impl.Ratio{Num: n, Den: n + 1}, impl.Ratio{Num: n - 1, Den: n}
		order, ok := impl.CompareChances(a, b)
		wantValue(t, about("CompareChances of neighbours", n), order, ok, 1)
		order, ok = impl.CompareChances(a, a)
		wantValue(t, about("CompareChances of equals", n), order, ok, 0)
	}
}
