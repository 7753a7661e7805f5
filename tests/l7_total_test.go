package tests

import (
	"math"
	"slices"
	"strings"
	"testing"

	"loop.example/g01218/impl"
)

// pairNumbers are numbers about the limits of the chapter, and far beyond them.
func pairNumbers() []int {
	return []int{
		math.MinInt, math.MinInt + 1, -1 << 32, -12, -5, -2, -1, 0, 1, 2, 3, 4, 5, 6, 7, 8, 9, 10,
		impl.MaxGrid - 1, impl.MaxGrid, impl.MaxGrid + 1, 1 << 32, 1<<32 + 2, math.MaxInt - 1, math.MaxInt,
	}
}

// noCells are cells with a number outside 0..MaxGrid.
func noCells() []impl.Cell {
	var cells []impl.Cell
	for _, bad := range pairNumbers() {
		if bad >= 0 && bad <= impl.MaxGrid {
			continue
		}
		for _, other := range []int{0, 5, impl.MaxGrid, bad} {
			cells = append(cells, impl.Cell{X: bad, Y: other}, impl.Cell{X: other, Y: bad})
		}
	}
	return cells
}

// noWays have a start that is no cell, other letters, or steps that lead off the grid.
func noWays() []impl.Way {
	ways := []impl.Way{
		{Steps: steps("E", 13)}, {Steps: steps("N", 13)}, {Steps: steps("EN", 12) + "E"}, {Steps: steps("EN", 12) + "N"}, {Steps: steps("EN", 13)},
		{Steps: steps("E", 100000)}, {Steps: steps("EN", 100000)}, {Steps: steps("N", 12) + "NE"}, {Steps: steps("E", 12) + "NE"},
		{Start: impl.Cell{X: 12}, Steps: "E"}, {Start: impl.Cell{Y: 12}, Steps: "N"}, {Start: impl.Cell{X: 12, Y: 12}, Steps: "E"}, {Start: impl.Cell{X: 12, Y: 12}, Steps: "N"},
		{Start: impl.Cell{X: 11}, Steps: "EE"}, {Start: impl.Cell{X: 5, Y: 11}, Steps: "NENE"}, {Start: impl.Cell{X: 11, Y: 11}, Steps: "EEx"},
	}
	for _, text := range []string{
		"e", "n", "En", "EEe", "S", "W", "NS", "EW", "U", "D", "EUN", "EN ", " EN", "E N", "E\n", "\x00", "E\x00N", "N\xffE", "Ë", "EÑ", "1", "-", "X", "EENx", steps("x", 100000),
	} {
		ways = append(ways, impl.Way{Steps: text}, impl.Way{Start: impl.Cell{X: 3, Y: 4}, Steps: text})
	}
	for _, start := range noCells() {
		ways = append(ways, impl.Way{Start: start}, impl.Way{Start: start, Steps: "E"}, impl.Way{Start: start, Steps: "NE"})
	}
	return ways
}

// failTwoWays wants all functions of two ways to fail.
func failTwoWays(t *testing.T, v, w impl.Way) {
	t.Helper()
	what := waysText([]impl.Way{v, w})
	meet, ok := impl.DoMeet(v, w)
	wantFailure(t, "DoMeet "+what, meet, ok)
	cell, ok := impl.FirstMeetingOf(v, w)
	wantFailure(t, "FirstMeetingOf "+what, cell, ok)
	first, second, ok := impl.SwapTails(v, w)
	wantFailure(t, "SwapTails "+what, first, ok)
	wantFailure(t, "SwapTails "+what, second, ok)
	failApart(t, v, w)
}

func failApart(t *testing.T, ways ...impl.Way) {
	t.Helper()
	apart, ok := impl.AreApart(ways)
	wantFailure(t, "AreApart "+waysText(ways), apart, ok)
}

// TestTextsThatAreNoWayFail also takes lists in which ways meet ahead of one that is none.
func TestTextsThatAreNoWayFail(t *testing.T) {
	some := []impl.Way{{}, {Steps: "EN"}, {Start: impl.Cell{X: 3, Y: 4}, Steps: "NNEE"}, {Steps: steps("E", 12)}}
	for _, bad := range noWays() {
		if impl.IsWay(bad) {
			t.Errorf("IsWay %s", wayText(bad))
		}
		cells, ok := impl.CellsOfWay(bad)
		wantListFailure(t, "CellsOfWay "+wayText(bad), cells, ok)
		end, ok := impl.EndOfWay(bad)
		wantFailure(t, "EndOfWay "+wayText(bad), end, ok)
		failTwoWays(t, bad, bad)
		failApart(t, bad)
		for _, w := range some {
			failTwoWays(t, bad, w)
			failTwoWays(t, w, bad)
			failApart(t, w, w, bad)
			failApart(t, some[0], some[2], bad, w)
		}
	}
}

// rowWays are so many ways to the east, each in a row of its own.
func rowWays(number int) []impl.Way {
	var ways []impl.Way
	for y := range number {
		ways = append(ways, impl.Way{Start: impl.Cell{Y: y}, Steps: "EE"})
	}
	return ways
}

func TestNumbersOfWaysApart(t *testing.T) {
	for number := range impl.MaxGrid + 2 {
		ways := rowWays(min(number, impl.MaxGrid+1))
		if number == 0 || number > impl.MaxTied {
			failApart(t, ways...)
			continue
		}
		apart, ok := impl.AreApart(ways)
		wantValue(t, about("AreApart", number), apart, ok, true)
	}
	failApart(t)
	failApart(t, make([]impl.Way, 5)...)
	failApart(t, make([]impl.Way, 100000)...)
}

// TestCellsThatAreNoneFail puts them in each place there is.
func TestCellsThatAreNoneFail(t *testing.T) {
	a, b := impl.Cell{X: 1, Y: 2}, impl.Cell{X: 3, Y: 4}
	for _, bad := range noCells() {
		if impl.IsCell(bad) {
			t.Errorf("%s", aboutCells("IsCell", bad))
		}
		for _, two := range [][2]impl.Cell{{bad, b}, {b, bad}, {bad, bad}} {
			count, ok := impl.CountWays(two[0], two[1])
			wantFailure(t, aboutCells("CountWays", two[0], two[1]), count, ok)
			ways, ok := impl.AllWays(two[0], two[1])
			wantListFailure(t, aboutCells("AllWays", two[0], two[1]), ways, ok)
		}
		for i := range 4 {
			four := []impl.Cell{a, a, b, b}
			four[i] = bad
			pairs, ok := impl.AllPairsApart(four[0], four[1], four[2], four[3])
			wantListFailure(t, aboutCells("AllPairsApart", four...), pairs, ok)
		}
		for number := 1; number <= impl.MaxTied; number++ {
			starts, ends := tiedRow(number, 0), tiedRow(number, 3)
			for i := range number {
				failEnds(t, replaced(starts, i, bad), ends)
				failEnds(t, starts, replaced(ends, i, bad))
			}
		}
	}
}

// tiedRow returns so many cells that may be tied starts, each behind the one before.
func tiedRow(number, x int) []impl.Cell {
	var cells []impl.Cell
	for y := range number {
		cells = append(cells, impl.Cell{X: x + 4, Y: y + x})
	}
	return cells
}

// replaced returns a copy of a list with another cell in one place.
func replaced(cells []impl.Cell, at int, c impl.Cell) []impl.Cell {
	cells = slices.Clone(cells)
	cells[at] = c
	return cells
}

// failTied wants all functions of tied starts and ends to fail.
func failTied(t *testing.T, starts, ends []impl.Cell) {
	t.Helper()
	what := aboutCells(aboutCells("", starts...)+" to", ends...)
	count, ok := impl.CountApart(starts, ends)
	wantFailure(t, "CountApart"+what, count, ok)
	first, ok := impl.FirstApart(starts, ends)
	wantListFailure(t, "FirstApart"+what, first, ok)
}

// failEnds wants all functions of starts and ends to fail.
func failEnds(t *testing.T, starts, ends []impl.Cell) {
	t.Helper()
	rows, ok := impl.WaysMatrix(starts, ends)
	wantListFailure(t, aboutCells(aboutCells("WaysMatrix", starts...)+" to", ends...), rows, ok)
	failTied(t, starts, ends)
}

// TestNumbersOfStartsAndEnds takes lists that are empty, too long, or not as many.
func TestNumbersOfStartsAndEnds(t *testing.T) {
	for number := range 8 {
		for other := range 8 {
			starts, ends := tiedRow(number, 0), tiedRow(other, 3)
			if number != other || number == 0 || number > impl.MaxTied {
				failEnds(t, starts, ends)
				continue
			}
			if _, ok := impl.WaysMatrix(starts, ends); !ok {
				t.Errorf("%s fails", about("WaysMatrix", number))
			}
			checkTied(t, starts, ends)
		}
	}
	failEnds(t, []impl.Cell{}, []impl.Cell{})
	failEnds(t, make([]impl.Cell, 100000), make([]impl.Cell, 100000))
}

// areTied reports whether starts, or ends, may be tied: each two of them.
func areTied(cells []impl.Cell) bool {
	for j := range cells {
		for i := range j {
			if !leadTo(cells[i], cells[j]) {
				return false
			}
		}
	}
	return true
}

// TestStartsAndEndsThatAreNotTiedFail takes all two cells of a small part of the grid, also
// the same one twice, those that differ in one of X and Y, and tied ones turned round.
func TestStartsAndEndsThatAreNotTiedFail(t *testing.T) {
	tied := 0
	few := cellsWithin(3, 3)
	for _, a := range few {
		for _, b := range few {
			for _, c := range few {
				for _, d := range few {
					starts, ends := []impl.Cell{a, b}, []impl.Cell{c, d}
					if areTied(starts) && areTied(ends) {
						checkTied(t, starts, ends)
						tied++
					} else {
						failTied(t, starts, ends)
					}
					if _, ok := impl.WaysMatrix(starts, ends); !ok {
						t.Errorf("%s fails", aboutCells("WaysMatrix", a, b, c, d))
					}
				}
			}
		}
	}
	// 27 pairs of the nine cells may be tied.
	if tied != 27*27 {
		t.Errorf("%d are tied", tied)
	}
}

// TestMoreThatAreNotTiedFail takes three and four starts of which just two are wrong.
func TestMoreThatAreNotTiedFail(t *testing.T) {
	for number := 2; number <= impl.MaxTied; number++ {
		for _, list := range tiedLists(cellsWithin(3, 3), number) {
			ends := tiedRow(number, 4)
			if _, ok := impl.CountApart(list, ends); !ok {
				t.Errorf("%s fails", aboutCells("CountApart", list...))
			}
			for i := range number {
				for _, c := range cellsWithin(3, 3) {
					if other := replaced(list, i, c); !areTied(other) {
						failTied(t, other, ends)
						failTied(t, tiedRow(number, 0), other)
					}
				}
			}
		}
	}
}

// noMatrices are rows that are no matrix: none or too many, rows that are not square, and
// numbers of too great a size.
func noMatrices() [][][]int {
	lists := [][][]int{
		nil, {}, {nil}, {{}}, {nil, nil}, {{1, 2}}, {{1}, {2}}, {{1, 2}, {3}}, {{1}, {2, 3}}, {{1, 2}, nil}, {nil, {1, 2}}, {{1, 2}, {3, 4}, {5, 6}},
		{{1, 2, 3}, {4, 5, 6}}, {{1, 2, 3}, {4, 5}, {6}}, {{1, 2, 3}, {4, 5, 6}, {7, 8, 9, 10}}, {{1, 2, 3}, {4, 5, 6}, {7, 8, 9}, nil}, make([][]int, 4), make([][]int, 1000),
	}
	for _, size := range []int{impl.MaxTied + 1, impl.MaxTied + 2, 50} {
		lists = append(lists, slices.Repeat([][]int{make([]int, size)}, size))
	}
	for size := 1; size <= impl.MaxTied; size++ {
		for i := range size * size {
			for _, bad := range []int{math.MinInt, math.MinInt + 1, -1 << 32, -10001, 10001, 1 << 32, math.MaxInt} {
				rows := make([][]int, size)
				for row := range rows {
					rows[row] = make([]int, size)
				}
				rows[i/size][i%size] = bad
				lists = append(lists, rows)
			}
		}
	}
	return lists
}

func TestRowsThatAreNoMatrixFail(t *testing.T) {
	for _, rows := range noMatrices() {
		determinant, ok := impl.DeterminantOf(rows)
		wantFailure(t, "DeterminantOf no matrix", determinant, ok)
	}
}

// TestNumbersOfFansAndCubes takes numbers outside what is told.
func TestNumbersOfFansAndCubes(t *testing.T) {
	isSide := func(n int) bool { return n >= 0 && n <= 4 }
	for _, a := range pairNumbers() {
		for _, b := range pairNumbers() {
			count, ok := impl.CountFans(a, b)
			wantSuccess(t, about("CountFans", a, b), count, ok, a >= 0 && a <= 8 && isSide(b))
			for _, c := range pairNumbers() {
				count, ok = impl.CountCubes(a, b, c)
				wantSuccess(t, about("CountCubes", a, b, c), count, ok, isSide(a) && isSide(b) && isSide(c))
			}
		}
	}
	for n := range 9 {
		count, ok := impl.CountFans(n, 0)
		wantValue(t, about("CountFans", n, 0), count, ok, 1)
		count, ok = impl.CountFans(min(n, 1), min(n, 4))
		wantValue(t, about("CountFans", min(n, 1), min(n, 4)), count, ok, 1)
		for m := range 5 {
			a, b := min(n, 4), m
			for _, sides := range [][3]int{{0, a, b}, {a, 0, b}, {a, b, 0}} {
				count, ok = impl.CountCubes(sides[0], sides[1], sides[2])
				wantValue(t, about("CountCubes", sides[0], sides[1], sides[2]), count, ok, 1)
			}
		}
	}
}

// withRoom returns a copy of a list with more behind its length.
func withRoom[T any](list []T, behind ...T) []T {
	return append(slices.Clone(list), behind...)[:len(list)]
}

// wantRoom wants a list of withRoom, and all behind it, to be as it was.
func wantRoom[T comparable](t *testing.T, what string, got, list []T, behind ...T) {
	t.Helper()
	if all := got[:len(list)+len(behind)]; !slices.Equal(all, slices.Concat(list, behind)) {
		t.Errorf("%s changes its argument: %v", what, all)
	}
}

// spoil fills a list with other values up to its capacity.
func spoil[T any](list []T, value T) {
	all := list[:cap(list)]
	for i := range all {
		all[i] = value
	}
}

// TestEndsAreNotModified also overwrites the results, and asks again.
func TestEndsAreNotModified(t *testing.T) {
	behind := []impl.Cell{{X: 1}, {Y: 2}, {X: 3, Y: 3}, {}, {}}
	stray := impl.Cell{X: -7, Y: 77}
	lists := slices.Concat(tiedLists(cellsWithin(3, 2), 2), tiedLists(cellsWithin(2, 3), 3), [][]impl.Cell{nil, {stray, {}}, {{}, {}}, tiedRow(4, 0), tiedRow(5, 0)})
	for _, list := range lists {
		ends := tiedRow(len(list), 2)
		starts, roomyEnds := withRoom(list, behind...), withRoom(ends, behind...)
		wantRows, _ := impl.WaysMatrix(slices.Clone(list), slices.Clone(ends))
		wantFirst, _ := impl.FirstApart(slices.Clone(list), slices.Clone(ends))
		wantText := waysText(wantFirst)
		rows, _ := impl.WaysMatrix(starts, roomyEnds)
		wantApart(t, aboutCells("WaysMatrix", list...), rows, wantRows)
		rows, _ = impl.WaysMatrix(starts, roomyEnds)
		wantApart(t, aboutCells("WaysMatrix", list...), reversed(rows), reversed(wantRows))
		spoil(rows, []int{7})
		first, _ := impl.FirstApart(starts, roomyEnds)
		spoil(first, impl.Way{Start: stray, Steps: "x"})
		impl.CountApart(starts, roomyEnds)
		first, _ = impl.FirstApart(starts, roomyEnds)
		if got := waysText(first); got != wantText {
			t.Errorf("%s: %s; want %s", aboutCells("FirstApart", list...), got, wantText)
		}
		wantRoom(t, "a function of starts", starts, list, behind...)
		wantRoom(t, "a function of ends", roomyEnds, ends, behind...)
	}
}

func TestMatricesAreNotModified(t *testing.T) {
	for _, rows := range slices.Concat(knownMatrices(), matrices(9, 20), noMatrices()[:22]) {
		var argument [][]int
		for _, row := range rows {
			argument = append(argument, roomy(row))
		}
		argument = withRoom(argument, []int{7}, nil)
		impl.DeterminantOf(argument)
		what := aboutRows("DeterminantOf", rows)
		for i, row := range rows {
			wantRoomy(t, what, argument[i], row)
		}
		if more := argument[:len(rows)+2]; !slices.Equal(more[len(rows)], []int{7}) || more[len(rows)+1] != nil {
			t.Errorf("%s changes what is behind its rows", what)
		}
	}
}

// TestCellsOfWaysAreNewMemory also holds ways against those before.
func TestCellsOfWaysAreNewMemory(t *testing.T) {
	behind := []impl.Way{{Steps: "E"}, {Steps: "N"}, {}, {}}
	for _, w := range slices.Concat(meetingWays(), noWays()[:40]) {
		argument := impl.Way{Start: w.Start, Steps: freshText(w.Steps)}
		want, wantOK := impl.CellsOfWay(w)
		want = slices.Clone(want)
		first, _ := impl.CellsOfWay(argument)
		second, _ := impl.CellsOfWay(argument)
		spoil(first, impl.Cell{X: 77})
		third, ok := impl.CellsOfWay(argument)
		if ok != wantOK || !slices.Equal(second, want) || !slices.Equal(third, want) {
			t.Errorf("CellsOfWay %s: %v, %v; want %v", wayText(w), second, third, want)
		}
		list := []impl.Way{argument, w, {Steps: "EE"}}
		roomyList := withRoom(list, behind...)
		impl.AreApart(roomyList)
		impl.IsWay(argument)
		impl.EndOfWay(argument)
		impl.DoMeet(argument, w)
		impl.FirstMeetingOf(argument, w)
		wantRoom(t, "AreApart", roomyList, list, behind...)
		if argument != w {
			t.Errorf("%s became %s", wayText(w), wayText(argument))
		}
	}
}

// TestExchangedTailsAreNewMemory takes ways of which one goes on as the other one does.
func TestExchangedTailsAreNewMemory(t *testing.T) {
	ways := meetingWays()
	for i, v := range ways {
		w := ways[(7*i+3)%len(ways)]
		for _, other := range []impl.Way{v, w} {
			one := impl.Way{Start: v.Start, Steps: freshText(v.Steps)}
			two := impl.Way{Start: other.Start, Steps: freshText(other.Steps)}
			first, second, _ := impl.SwapTails(one, two)
			what := "SwapTails " + waysText([]impl.Way{v, other})
			for _, got := range []impl.Way{first, second} {
				wantOwnMemory(t, what, got.Steps, one.Steps)
				wantOwnMemory(t, what, got.Steps, two.Steps)
			}
			wantOwnMemory(t, what, first.Steps, second.Steps)
			if one != v || two != other {
				t.Errorf("%s changes its arguments", what)
			}
		}
	}
}

// wantOwnSteps wants no two ways to share the memory of their steps.
func wantOwnSteps(t *testing.T, what string, ways []impl.Way) {
	t.Helper()
	for i, w := range ways {
		for _, other := range ways[:i] {
			wantOwnMemory(t, what, w.Steps, other.Steps)
		}
	}
}

// TestListsOfWaysAreNewMemory overwrites results up to their capacity, and asks again.
func TestListsOfWaysAreNewMemory(t *testing.T) {
	stray := impl.Way{Start: impl.Cell{X: -7}, Steps: "x"}
	for _, b := range cellsWithin(5, 4) {
		want := waysFrom(impl.Cell{}, b)
		ways, _ := impl.AllWays(impl.Cell{}, b)
		wantOwnSteps(t, aboutCells("AllWays", b), ways)
		spoil(ways, stray)
		ways, ok := impl.AllWays(impl.Cell{}, b)
		wantWays(t, aboutCells("AllWays again", b), ways, ok, want)
	}
	starts, ends := tiedRow(4, 0), tiedRow(4, 3)
	first, _ := impl.FirstApart(starts, ends)
	again, _ := impl.FirstApart(starts, ends)
	wantOwnSteps(t, "FirstApart", slices.Concat(first, again))
}

// TestPairsAreNewMemory overwrites one pair after the other.
func TestPairsAreNewMemory(t *testing.T) {
	stray := impl.Way{Start: impl.Cell{X: -7}, Steps: strings.Repeat("x", 3)}
	for _, c := range cellsWithin(3, 3) {
		for _, d := range cellsWithin(3, 4) {
			a, b := impl.Cell{X: 1}, impl.Cell{Y: 1}
			want := pairsByLists(a, b, c, d)
			pairs, _ := impl.AllPairsApart(a, b, c, d)
			wantOwnSteps(t, aboutCells("AllPairsApart", c, d), slices.Concat(pairs...))
			for i, pair := range pairs {
				if !slices.Equal(pair, want[i]) {
					t.Errorf("%s: %v; want %v", aboutCells("AllPairsApart", c, d), pair, want[i])
				}
				spoil(pair, stray)
			}
			spoil(pairs, []impl.Way{stray})
			pairs, ok := impl.AllPairsApart(a, b, c, d)
			wantPairs(t, aboutCells("AllPairsApart again", c, d), pairs, ok, want)
		}
	}
}
