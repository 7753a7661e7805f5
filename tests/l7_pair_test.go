package tests

import (
	"math"
	"math/big"
	"slices"
	"strings"
	"testing"

	"loop.example/g01218/impl"
)

// fewApart is the greatest number in the matrix of CountApart and FirstApart.
const fewApart = 10000

// cellsWithin returns all cells with an X of less than wide and a Y of less than high.
func cellsWithin(wide, high int) []impl.Cell {
	var cells []impl.Cell
	for x := range wide {
		for y := range high {
			cells = append(cells, impl.Cell{X: x, Y: y})
		}
	}
	return cells
}

// allCells returns all cells.
func allCells() []impl.Cell {
	return cellsWithin(impl.MaxGrid+1, impl.MaxGrid+1)
}

// aboutCells tells of a call with cells.
func aboutCells(what string, cells ...impl.Cell) string {
	words := []string{what}
	for _, c := range cells {
		words = append(words, about("", c.X, c.Y)+",")
	}
	return strings.Join(words, "")
}

// wayText tells of a way.
func wayText(w impl.Way) string {
	return about("from", w.Start.X, w.Start.Y) + " " + w.Steps
}

// waysText tells of a list of ways.
func waysText(ways []impl.Way) string {
	var texts []string
	for _, w := range ways {
		texts = append(texts, wayText(w))
	}
	return strings.Join(texts, "; ")
}

func wantWays(t *testing.T, what string, got []impl.Way, gotOK bool, want []impl.Way) {
	t.Helper()
	wantValue(t, what, waysText(got), gotOK, waysText(want))
}

func wantPairs(t *testing.T, what string, got [][]impl.Way, gotOK bool, want [][]impl.Way) {
	t.Helper()
	if !slices.EqualFunc(got, want, slices.Equal[[]impl.Way]) || !gotOK {
		t.Errorf("%s: %v, %v; want %v, true", what, got, gotOK, want)
	}
}

// cellAfter returns the cell behind the first n steps of a way.
func cellAfter(w impl.Way, n int) impl.Cell {
	return impl.Cell{X: w.Start.X + strings.Count(w.Steps[:n], "E"), Y: w.Start.Y + strings.Count(w.Steps[:n], "N")}
}

// cellsAlong returns the cells of a way.
func cellsAlong(w impl.Way) []impl.Cell {
	var cells []impl.Cell
	for n := range len(w.Steps) + 1 {
		cells = append(cells, cellAfter(w, n))
	}
	return cells
}

// textsOfWays returns all texts with so many E and so many N, in order. A number of less
// than 0 gives none.
func textsOfWays(east, north int) []string {
	if east < 0 || north < 0 {
		return nil
	}
	if east+north == 0 {
		return []string{""}
	}
	var texts []string
	for _, rest := range textsOfWays(east-1, north) {
		texts = append(texts, "E"+rest)
	}
	for _, rest := range textsOfWays(east, north-1) {
		texts = append(texts, "N"+rest)
	}
	return texts
}

// waysFrom returns all ways from a to b in order.
func waysFrom(a, b impl.Cell) []impl.Way {
	var ways []impl.Way
	for _, text := range textsOfWays(b.X-a.X, b.Y-a.Y) {
		ways = append(ways, impl.Way{Start: a, Steps: text})
	}
	return ways
}

// waysWithin returns all ways of at most so many steps whose starts are some cells.
func waysWithin(starts []impl.Cell, most int) []impl.Way {
	var ways []impl.Way
	for _, start := range starts {
		for east := range most + 1 {
			for north := range most + 1 - east {
				end := impl.Cell{X: start.X + east, Y: start.Y + north}
				if impl.IsCell(end) {
					ways = append(ways, waysFrom(start, end)...)
				}
			}
		}
	}
	return ways
}

// edgeWays are ways that come to the last row or column, or that are as long as one can be.
func edgeWays() []impl.Way {
	ways := []impl.Way{
		{Steps: steps("E", 12) + steps("N", 12)}, {Steps: steps("N", 12) + steps("E", 12)}, {Steps: steps("EN", 12)}, {Steps: steps("NE", 12)},
		{Steps: steps("E", 12)}, {Steps: steps("N", 12)}, {Steps: steps("NNEE", 6)}, {Start: impl.Cell{Y: 12}, Steps: steps("E", 12)}, {Start: impl.Cell{X: 12}, Steps: steps("N", 12)},
		{Start: impl.Cell{X: 5, Y: 6}, Steps: "ENENENENENENE"}, {Start: impl.Cell{X: 6, Y: 5}, Steps: "NENENENENENEN"},
	}
	last := []impl.Cell{{X: 12, Y: 12}, {X: 11, Y: 12}, {X: 12, Y: 11}, {X: 11, Y: 11}, {X: 10, Y: 12}, {X: 12}, {Y: 12}, {}}
	return append(ways, waysWithin(last, 2)...)
}

// shareCell reports whether two ways have a cell in common.
func shareCell(v, w impl.Way) bool {
	return slices.ContainsFunc(cellsAlong(v), func(c impl.Cell) bool {
		return slices.Contains(cellsAlong(w), c)
	})
}

// noTwoShare reports whether no two of some ways have a cell in common.
func noTwoShare(ways []impl.Way) bool {
	for i, w := range ways {
		if slices.ContainsFunc(ways[:i], func(v impl.Way) bool { return shareCell(v, w) }) {
			return false
		}
	}
	return true
}

func TestKnownPairs(t *testing.T) {
	ways, ok := impl.AllWays(impl.Cell{}, impl.Cell{X: 2, Y: 1})
	wantWays(t, "AllWays", ways, ok, []impl.Way{{Steps: "EEN"}, {Steps: "ENE"}, {Steps: "NEE"}})
	starts, ends := []impl.Cell{{X: 1}, {Y: 1}}, []impl.Cell{{X: 2, Y: 1}, {X: 1, Y: 2}}
	rows, ok := impl.WaysMatrix(starts, ends)
	wantLists(t, "WaysMatrix", rows, ok, [][]int{{2, 1}, {1, 2}})
	count, ok := impl.CountApart(starts, ends)
	wantValue(t, "CountApart", count, ok, 3)
	first, ok := impl.FirstApart(starts, ends)
	wantWays(t, "FirstApart", first, ok, []impl.Way{{Start: starts[0], Steps: "EN"}, {Start: starts[1], Steps: "EN"}})
	pairs, ok := impl.AllPairsApart(starts[0], starts[1], ends[0], ends[1])
	wantPairs(t, "AllPairsApart", pairs, ok, [][]impl.Way{
		{{Start: starts[0], Steps: "EN"}, {Start: starts[1], Steps: "EN"}},
		{{Start: starts[0], Steps: "EN"}, {Start: starts[1], Steps: "NE"}},
		{{Start: starts[0], Steps: "NE"}, {Start: starts[1], Steps: "NE"}},
	})
	v, w := impl.Way{Start: impl.Cell{X: 1}, Steps: "NNE"}, impl.Way{Start: impl.Cell{Y: 1}, Steps: "EEEN"}
	cell, ok := impl.FirstMeetingOf(v, w)
	wantValue(t, "FirstMeetingOf", cell, ok, impl.Cell{X: 1, Y: 1})
	v, w, ok = impl.SwapTails(v, w)
	wantWays(t, "SwapTails", []impl.Way{v, w}, ok, []impl.Way{{Start: starts[0], Steps: "NEEN"}, {Start: starts[1], Steps: "ENE"}})
	fans, ok := impl.CountFans(2, 2)
	wantValue(t, "CountFans", fans, ok, 3)
	cubes, ok := impl.CountCubes(2, 2, 2)
	wantValue(t, "CountCubes", cubes, ok, 20)
	determinant, ok := impl.DeterminantOf([][]int{{2, 1}, {1, 2}})
	wantValue(t, "DeterminantOf", determinant, ok, 3)
}

// TestIsCell takes all numbers about the grid.
func TestIsCell(t *testing.T) {
	for x := -3; x <= impl.MaxGrid+3; x++ {
		for y := -3; y <= impl.MaxGrid+3; y++ {
			want := min(x, y) >= 0 && max(x, y) <= impl.MaxGrid
			if got := impl.IsCell(impl.Cell{X: x, Y: y}); got != want {
				t.Errorf("%s: %v", about("IsCell", x, y), got)
			}
		}
	}
}

// checkWay holds a way against the numbers of its letters.
func checkWay(t *testing.T, w impl.Way) {
	t.Helper()
	what, want := wayText(w), cellsAlong(w)
	if !impl.IsWay(w) {
		t.Errorf("IsWay %s", what)
	}
	cells, ok := impl.CellsOfWay(w)
	wantList(t, "CellsOfWay "+what, cells, ok, want)
	end, ok := impl.EndOfWay(w)
	wantValue(t, "EndOfWay "+what, end, ok, want[len(want)-1])
}

// TestWays takes ways without steps from all cells, too.
func TestWays(t *testing.T) {
	for _, w := range slices.Concat(waysWithin(allCells(), 4), waysWithin(cellsWithin(2, 2), 9), edgeWays()) {
		checkWay(t, w)
	}
}

// TestCountWays counts the ways between all two cells by their last steps, and lists
// them where there are not too many.
func TestCountWays(t *testing.T) {
	listed, tooMany := 0, math.MaxInt
	for _, a := range allCells() {
		var counts [impl.MaxGrid + 1][impl.MaxGrid + 1]int
		for _, b := range allCells() {
			switch {
			case a == b:
				counts[b.X][b.Y] = 1
			case b.X >= a.X && b.Y >= a.Y:
				counts[b.X][b.Y] = counts[max(b.X-1, 0)][b.Y] + counts[b.X][max(b.Y-1, 0)]
			}
			want := counts[b.X][b.Y]
			count, ok := impl.CountWays(a, b)
			wantValue(t, aboutCells("CountWays", a, b), count, ok, want)
			ways, ok := impl.AllWays(a, b)
			if want > impl.MaxFound {
				wantListFailure(t, aboutCells("AllWays", a, b), ways, ok)
				tooMany = min(tooMany, want)
				continue
			}
			wantWays(t, aboutCells("AllWays", a, b), ways, ok, waysFrom(a, b))
			listed = max(listed, want)
		}
	}
	// No two cells have just MaxFound ways: these are the nearest numbers there are.
	if listed != 165 || tooMany != 210 {
		t.Errorf("listed %d ways, and not %d", listed, tooMany)
	}
}

// checkMeeting holds two ways against the cells of both.
func checkMeeting(t *testing.T, v, w impl.Way) {
	t.Helper()
	what := waysText([]impl.Way{v, w})
	meet, ok := impl.DoMeet(v, w)
	wantValue(t, "DoMeet "+what, meet, ok, shareCell(v, w))
	cell, cellOK := impl.FirstMeetingOf(v, w)
	first, second, ok := impl.SwapTails(v, w)
	others := cellsAlong(w)
	i := slices.IndexFunc(cellsAlong(v), func(c impl.Cell) bool { return slices.Contains(others, c) })
	if i < 0 {
		wantFailure(t, "FirstMeetingOf "+what, cell, cellOK)
		wantFailure(t, "SwapTails "+what, first, ok)
		wantFailure(t, "SwapTails "+what, second, ok)
		return
	}
	want := cellAfter(v, i)
	j := slices.Index(others, want)
	wantValue(t, "FirstMeetingOf "+what, cell, cellOK, want)
	wantWays(t, "SwapTails "+what, []impl.Way{first, second}, ok, []impl.Way{
		{Start: v.Start, Steps: v.Steps[:i] + w.Steps[j:]}, {Start: w.Start, Steps: w.Steps[:j] + v.Steps[i:]},
	})
	cell, ok = impl.FirstMeetingOf(first, second)
	wantValue(t, "FirstMeetingOf the exchanged "+what, cell, ok, want)
	first, second, ok = impl.SwapTails(first, second)
	wantWays(t, "SwapTails twice "+what, []impl.Way{first, second}, ok, []impl.Way{v, w})
}

// meetingWays are ways of which many meet: at once, at their ends, more than once, or never.
func meetingWays() []impl.Way {
	return slices.Concat(waysWithin(cellsWithin(3, 2), 3), edgeWays(), []impl.Way{
		{Steps: "ENNEENNE"}, {Steps: "NEENNEEN"}, {Start: impl.Cell{X: 1}, Steps: "NNNEEE"}, {Start: impl.Cell{Y: 2}, Steps: "EEEENN"},
	})
}

func TestMeetings(t *testing.T) {
	ways := meetingWays()
	for _, v := range ways {
		for _, w := range ways {
			checkMeeting(t, v, w)
		}
	}
}

// TestKnownMeetings takes pairs that meet in each of the ways there are.
func TestKnownMeetings(t *testing.T) {
	for _, known := range []struct {
		v, w  impl.Way
		at    impl.Cell
		first impl.Way
	}{
		// The same way without steps, and the same way with some.
		{impl.Way{}, impl.Way{}, impl.Cell{}, impl.Way{}},
		{impl.Way{Steps: "EN"}, impl.Way{Steps: "EN"}, impl.Cell{}, impl.Way{Steps: "EN"}},
		// At their first cells, at their ends, and where one ends and the other one begins.
		{impl.Way{Steps: "EN"}, impl.Way{Steps: "NEE"}, impl.Cell{}, impl.Way{Steps: "NEE"}},
		{impl.Way{Steps: "EE"}, impl.Way{Start: impl.Cell{X: 2}, Steps: "NN"}, impl.Cell{X: 2}, impl.Way{Steps: "EENN"}},
		{impl.Way{Start: impl.Cell{X: 1}, Steps: "EN"}, impl.Way{Start: impl.Cell{Y: 1}, Steps: "EE"}, impl.Cell{X: 2, Y: 1}, impl.Way{Start: impl.Cell{X: 1}, Steps: "EN"}},
		// More than once, and at a way without steps.
		{impl.Way{Start: impl.Cell{X: 1}, Steps: "NENE"}, impl.Way{Start: impl.Cell{Y: 1}, Steps: "ENEE"}, impl.Cell{X: 1, Y: 1}, impl.Way{Start: impl.Cell{X: 1}, Steps: "NNEE"}},
		{impl.Way{Steps: "ENN"}, impl.Way{Start: impl.Cell{X: 1, Y: 1}}, impl.Cell{X: 1, Y: 1}, impl.Way{Steps: "EN"}},
	} {
		what := waysText([]impl.Way{known.v, known.w})
		cell, ok := impl.FirstMeetingOf(known.v, known.w)
		wantValue(t, "FirstMeetingOf "+what, cell, ok, known.at)
		first, _, ok := impl.SwapTails(known.v, known.w)
		wantValue(t, "SwapTails "+what, first, ok, known.first)
		checkMeeting(t, known.v, known.w)
	}
}

// checkApart holds a list of ways against their cells.
func checkApart(t *testing.T, ways ...impl.Way) {
	t.Helper()
	apart, ok := impl.AreApart(ways)
	wantValue(t, "AreApart "+waysText(ways), apart, ok, noTwoShare(ways))
}

func TestAreApart(t *testing.T) {
	few := waysWithin(cellsWithin(2, 2), 2)
	for _, u := range few {
		for _, v := range few {
			for _, w := range few {
				checkApart(t, u, v, w)
			}
		}
	}
	ways := meetingWays()
	for _, v := range ways {
		apart, ok := impl.AreApart([]impl.Way{v})
		wantValue(t, "AreApart "+wayText(v), apart, ok, true)
		for _, w := range ways {
			checkApart(t, v, w)
		}
	}
	thrown := dice(7)
	held := map[bool]int{}
	for range 3000 {
		var list []impl.Way
		for y := range impl.MaxTied {
			start := impl.Cell{X: thrown.from(0, 3), Y: 3 * y}
			list = append(list, impl.Way{Start: start, Steps: strings.Repeat("E", thrown.from(0, 4)) + strings.Repeat("N", thrown.from(0, 3))})
		}
		checkApart(t, list...)
		held[noTwoShare(list)]++
	}
	if held[true] == 0 || held[false] == 0 {
		t.Errorf("held %v", held)
	}
}

// thrownCells returns so many cells with an X and a Y of at most one number.
func (d *dice) thrownCells(number, most int) []impl.Cell {
	var cells []impl.Cell
	for range number {
		cells = append(cells, impl.Cell{X: d.from(0, most), Y: d.from(0, most)})
	}
	return cells
}

// waysByChoice returns how many ways lead from a to b: as many as choices of the steps east.
func waysByChoice(a, b impl.Cell) int {
	east, north := b.X-a.X, b.Y-a.Y
	if min(east, north) < 0 {
		return 0
	}
	return int(new(big.Int).Binomial(int64(east+north), int64(east)).Int64())
}

func matrixByChoice(starts, ends []impl.Cell) [][]int {
	var rows [][]int
	for _, start := range starts {
		var row []int
		for _, end := range ends {
			row = append(row, waysByChoice(start, end))
		}
		rows = append(rows, row)
	}
	return rows
}

// TestWaysMatrix takes starts and ends that need not be tied, also the same cell several times.
func TestWaysMatrix(t *testing.T) {
	thrown := dice(77)
	for _, most := range []int{0, 2, 6, impl.MaxGrid} {
		for number := 1; number <= impl.MaxTied; number++ {
			for range 300 {
				starts, ends := thrown.thrownCells(number, most), thrown.thrownCells(number, impl.MaxGrid)
				rows, ok := impl.WaysMatrix(starts, ends)
				what := aboutCells(aboutCells("WaysMatrix", starts...)+" to", ends...)
				wantLists(t, what, rows, ok, matrixByChoice(starts, ends))
			}
		}
	}
}

// aboutRows tells of a call with a matrix.
func aboutRows(what string, rows [][]int) string {
	for _, row := range rows {
		what = aboutList(what, row)
	}
	return what
}

// determinantBySteps returns the determinant of a matrix: rows are exchanged and added to
// others until there is nothing but 0 below the diagonal.
func determinantBySteps(rows [][]int) int {
	var exactRows [][]*big.Rat
	for _, row := range rows {
		var exactRow []*big.Rat
		for _, number := range row {
			exactRow = append(exactRow, rat(number, 1))
		}
		exactRows = append(exactRows, exactRow)
	}
	product := rat(1, 1)
	for i := range exactRows {
		at := slices.IndexFunc(exactRows[i:], func(row []*big.Rat) bool { return row[i].Sign() != 0 })
		if at < 0 {
			return 0
		}
		if at > 0 {
			exactRows[i], exactRows[i+at] = exactRows[i+at], exactRows[i]
			product.Neg(product)
		}
		product = times(product, exactRows[i][i])
		for _, row := range exactRows[i+1:] {
			factor := new(big.Rat).Quo(row[i], exactRows[i][i])
			for column := range row {
				row[column] = new(big.Rat).Sub(row[column], times(factor, exactRows[i][column]))
			}
		}
	}
	return int(product.Num().Int64())
}

// matrices are matrices of all sizes whose numbers have a size of at most one number.
func matrices(most, each int) [][][]int {
	var all [][][]int
	thrown := dice(most)
	for size := 1; size <= impl.MaxTied; size++ {
		for range each {
			var rows, edges [][]int
			for range size {
				var row, edge []int
				for range size {
					row = append(row, thrown.from(-most, most))
					edge = append(edge, most*thrown.from(-1, 1))
				}
				rows, edges = append(rows, row), append(edges, edge)
			}
			all = append(all, rows, edges)
		}
	}
	return all
}

// knownMatrices have the determinants 0 and those of the greatest size there are.
func knownMatrices() [][][]int {
	const e = 10000
	return [][][]int{
		{{0}}, {{e}}, {{-e}}, {{1}},
		{{e, e}, {e, e}}, {{e, e}, {-e, e}}, {{e, e}, {e, -e}}, {{0, e}, {e, 0}}, {{0, 0}, {e, e}}, {{1, 2}, {2, 4}},
		{{1, 2, 3}, {4, 5, 6}, {7, 8, 9}}, {{0, 1, 0}, {0, 0, 1}, {1, 0, 0}}, {{0, 0, e}, {0, e, 0}, {e, 0, 0}}, {{e, e, e}, {e, e, e}, {1, 2, 3}},
		{{e, e, e, e}, {e, -e, e, -e}, {e, e, -e, -e}, {e, -e, -e, e}}, {{e, e, e, e}, {e, e, -e, -e}, {e, -e, e, -e}, {e, -e, -e, e}},
		{{0, 0, 0, 1}, {0, 0, 1, 0}, {0, 1, 0, 0}, {1, 0, 0, 0}}, {{1, 2, 3, 4}, {5, 6, 7, 8}, {9, 10, 11, 12}, {13, 14, 15, 16}},
	}
}

func TestDeterminantOf(t *testing.T) {
	signs := map[int]int{}
	for _, rows := range slices.Concat(knownMatrices(), matrices(1, 100), matrices(9, 100), matrices(10000, 100)) {
		want := determinantBySteps(rows)
		determinant, ok := impl.DeterminantOf(rows)
		wantValue(t, aboutRows("DeterminantOf", rows), determinant, ok, want)
		signs[min(max(want, -1), 1)]++
	}
	if len(signs) != 3 {
		t.Errorf("signs %v", signs)
	}
	for i, want := range map[int]int{2: -10000, 5: 200000000, 6: -200000000, 14: 160000000000000000, 15: -160000000000000000} {
		determinant, ok := impl.DeterminantOf(knownMatrices()[i])
		wantValue(t, about("DeterminantOf", i), determinant, ok, want)
	}
}

// leadTo reports whether a next cell may follow on one in tied starts.
func leadTo(c, next impl.Cell) bool {
	return next.X <= c.X && next.Y >= c.Y && next != c
}

// tiedLists returns all lists of so many cells that may be tied starts.
func tiedLists(cells []impl.Cell, number int) [][]impl.Cell {
	if number == 0 {
		return [][]impl.Cell{nil}
	}
	var lists [][]impl.Cell
	for _, list := range tiedLists(cells, number-1) {
		for _, next := range cells {
			if len(list) == 0 || leadTo(list[len(list)-1], next) {
				lists = append(lists, append(slices.Clone(list), next))
			}
		}
	}
	return lists
}

// blocked are the cells of some ways.
type blocked [impl.MaxGrid + 1][impl.MaxGrid + 1]bool

// with returns the cells of one more way. It fails if it comes to one of those there are.
func (b blocked) with(w impl.Way) (blocked, bool) {
	for _, c := range cellsAlong(w) {
		if b[c.X][c.Y] {
			return b, false
		}
		b[c.X][c.Y] = true
	}
	return b, true
}

// countPast returns how many ways lead from one cell to another one past blocked cells,
// counted by their last steps.
func (b blocked) countPast(from, to impl.Cell) int {
	var counts [impl.MaxGrid + 1][impl.MaxGrid + 1]int
	for x := from.X; x <= to.X; x++ {
		for y := from.Y; y <= to.Y; y++ {
			if b[x][y] {
				continue
			}
			if x == from.X && y == from.Y {
				counts[x][y] = 1
			}
			if x > from.X {
				counts[x][y] += counts[x-1][y]
			}
			if y > from.Y {
				counts[x][y] += counts[x][y-1]
			}
		}
	}
	return counts[to.X][to.Y]
}

// countLists returns how many lists of ways are apart, past blocked cells, too: all ways
// but the last one are listed.
func (b blocked) countLists(starts, ends []impl.Cell) int {
	if len(starts) == 1 {
		return b.countPast(starts[0], ends[0])
	}
	count := 0
	for _, w := range waysFrom(starts[0], ends[0]) {
		if after, ok := b.with(w); ok {
			count += after.countLists(starts[1:], ends[1:])
		}
	}
	return count
}

// firstList returns the first of these lists, each way being the first one that leaves any list.
func (b blocked) firstList(starts, ends []impl.Cell) []impl.Way {
	if len(starts) == 0 {
		return nil
	}
	for _, w := range waysFrom(starts[0], ends[0]) {
		after, ok := b.with(w)
		if ok && (len(starts) == 1 || after.countLists(starts[1:], ends[1:]) > 0) {
			return append([]impl.Way{w}, after.firstList(starts[1:], ends[1:])...)
		}
	}
	return nil
}

// checkTied holds tied starts and ends against the lists of ways there are, and returns
// how many are apart.
func checkTied(t *testing.T, starts, ends []impl.Cell) int {
	t.Helper()
	what := aboutCells(aboutCells("", starts...)+" to", ends...)
	count, ok := impl.CountApart(starts, ends)
	first, firstOK := impl.FirstApart(starts, ends)
	for _, row := range matrixByChoice(starts, ends) {
		if slices.Max(row) > fewApart {
			wantFailure(t, "CountApart"+what, count, ok)
			wantListFailure(t, "FirstApart"+what, first, firstOK)
			return 0
		}
	}
	want := blocked{}.countLists(starts, ends)
	wantValue(t, "CountApart"+what, count, ok, want)
	if want == 0 {
		wantListFailure(t, "FirstApart"+what, first, firstOK)
	} else {
		wantWays(t, "FirstApart"+what, first, firstOK, blocked{}.firstList(starts, ends))
	}
	return want
}

// TestTiedStartsAndEnds takes all that are tied in a small part of the grid: also those of
// which two are neighbours, that cannot be apart, and ends that lie before their starts.
func TestTiedStartsAndEnds(t *testing.T) {
	for number := 1; number <= impl.MaxTied; number++ {
		none, some := 0, 0
		lists := tiedLists(cellsWithin(4, 3), number)
		for _, starts := range lists {
			for _, ends := range lists {
				if checkTied(t, starts, ends) == 0 {
					none++
				} else {
					some++
				}
			}
		}
		if none == 0 || some == 0 {
			t.Errorf("of %d ways %d times none, %d times some", number, none, some)
		}
	}
}

// thrownTied returns so many cells that may be tied starts.
func (d *dice) thrownTied(number, least, most int) []impl.Cell {
	for {
		var cells []impl.Cell
		for range number {
			cells = append(cells, impl.Cell{X: d.from(least, most), Y: d.from(least, most)})
		}
		slices.SortFunc(cells, func(a, b impl.Cell) int { return (b.X - b.Y) - (a.X - a.Y) })
		tied := true
		for i := 1; i < number; i++ {
			tied = tied && leadTo(cells[i-1], cells[i])
		}
		if tied {
			return cells
		}
	}
}

// TestTiedOverTheGrid takes thrown starts and ends of which not too many lists are to be counted.
func TestTiedOverTheGrid(t *testing.T) {
	thrown := dice(777)
	for number := 1; number <= impl.MaxTied; number++ {
		some := 0
		for range 60 {
			starts, ends := thrown.thrownTied(number, 0, 7), thrown.thrownTied(number, 4, impl.MaxGrid)
			lists := 1
			for i := range number - 1 {
				lists *= waysByChoice(starts[i], ends[i])
			}
			if lists <= 5000 && checkTied(t, starts, ends) > 0 {
				some++
			}
		}
		if some == 0 {
			t.Errorf("of %d ways no list is apart", number)
		}
	}
}

// TestOneWayAlone takes one start and one end, all that there are.
func TestOneWayAlone(t *testing.T) {
	for _, a := range allCells() {
		for _, b := range allCells() {
			want := waysByChoice(a, b)
			count, ok := impl.CountApart([]impl.Cell{a}, []impl.Cell{b})
			first, firstOK := impl.FirstApart([]impl.Cell{a}, []impl.Cell{b})
			if want > fewApart {
				wantFailure(t, aboutCells("CountApart", a, b), count, ok)
			} else {
				wantValue(t, aboutCells("CountApart", a, b), count, ok, want)
			}
			if want > fewApart || want == 0 {
				wantListFailure(t, aboutCells("FirstApart", a, b), first, firstOK)
				continue
			}
			wantWays(t, aboutCells("FirstApart", a, b), first, firstOK, []impl.Way{{Start: a, Steps: steps("E", b.X-a.X) + steps("N", b.Y-a.Y)}})
		}
	}
}

// TestTooManyWaysOfTied takes matrices with a number of more than 10^4, also away from the
// diagonal, and others with numbers of nearly 10^4.
func TestTooManyWaysOfTied(t *testing.T) {
	for _, known := range []struct {
		starts, ends []impl.Cell
		most         int
	}{
		{[]impl.Cell{{}, {Y: 1}}, []impl.Cell{{X: 10, Y: 6}, {X: 4, Y: 6}}, 8008},
		{[]impl.Cell{{X: 1}, {}}, []impl.Cell{{X: 12, Y: 5}, {X: 11, Y: 6}}, 12376},
		// Just one of the numbers is too great: that of the second start and the first end, or the other way round.
		{[]impl.Cell{{X: 5}, {}}, []impl.Cell{{X: 12, Y: 6}, {X: 3, Y: 6}}, 18564},
		{[]impl.Cell{{X: 4}, {X: 2, Y: 7}}, []impl.Cell{{X: 12, Y: 2}, {X: 12, Y: 8}}, 12870},
	} {
		most := 0
		for _, row := range matrixByChoice(known.starts, known.ends) {
			most = max(most, slices.Max(row))
		}
		if most != known.most {
			t.Errorf("a number of %d; want %d", most, known.most)
		}
		checkTied(t, known.starts, known.ends)
	}
}

// pairsByLists returns all pairs of ways that are apart, in order.
func pairsByLists(a, b, c, d impl.Cell) [][]impl.Way {
	var pairs [][]impl.Way
	others := waysFrom(b, d)
	for _, v := range waysFrom(a, c) {
		var cells blocked
		cells, _ = cells.with(v)
		for _, w := range others {
			if _, apart := cells.with(w); apart {
				pairs = append(pairs, []impl.Way{v, w})
			}
		}
	}
	return pairs
}

// checkPairs holds AllPairsApart against the pairs of ways there are, and returns how many.
func checkPairs(t *testing.T, a, b, c, d impl.Cell) int {
	t.Helper()
	what := aboutCells("AllPairsApart", a, b, c, d)
	pairs, ok := impl.AllPairsApart(a, b, c, d)
	if max(waysByChoice(a, c), waysByChoice(b, d)) > impl.MaxFound {
		wantListFailure(t, what, pairs, ok)
		return 0
	}
	want := pairsByLists(a, b, c, d)
	if len(want) > impl.MaxFound {
		wantListFailure(t, what, pairs, ok)
	} else {
		wantPairs(t, what, pairs, ok, want)
	}
	return len(want)
}

// TestAllPairsApart takes all four cells of a small part of the grid, most of them not
// tied, and thrown ones.
func TestAllPairsApart(t *testing.T) {
	few := cellsWithin(3, 3)
	for _, a := range few {
		for _, b := range few {
			for _, c := range few {
				for _, d := range few {
					checkPairs(t, a, b, c, d)
				}
			}
		}
	}
	thrown := dice(70)
	listed, tooMany := 0, 0
	for range 1500 {
		starts, ends := thrown.thrownCells(2, 6), thrown.thrownCells(2, impl.MaxGrid)
		count := checkPairs(t, starts[0], starts[1], ends[0], ends[1])
		switch {
		case count > impl.MaxFound:
			tooMany++
		case count > 0:
			listed++
		}
	}
	if listed == 0 || tooMany == 0 {
		t.Errorf("listed %d times, %d times too many", listed, tooMany)
	}
}

// TestPairsAtTheLimit takes four cells with just MaxFound pairs, with one more, and with
// very many, and pairs of which one has no way and the other one too many.
func TestPairsAtTheLimit(t *testing.T) {
	for _, known := range []struct {
		a, b, c, d impl.Cell
		pairs      int
		listed     bool
	}{
		{impl.Cell{}, impl.Cell{Y: 1}, impl.Cell{X: 3, Y: 3}, impl.Cell{X: 2, Y: 7}, 200, true},
		{impl.Cell{}, impl.Cell{Y: 3}, impl.Cell{X: 3, Y: 2}, impl.Cell{X: 3, Y: 6}, 200, true},
		{impl.Cell{}, impl.Cell{X: 2}, impl.Cell{X: 2, Y: 7}, impl.Cell{X: 4, Y: 2}, 201, false},
		{impl.Cell{Y: 1}, impl.Cell{X: 3}, impl.Cell{X: 3, Y: 3}, impl.Cell{X: 8, Y: 2}, 201, false},
		{impl.Cell{}, impl.Cell{Y: 9}, impl.Cell{X: 8, Y: 3}, impl.Cell{X: 8, Y: 12}, 165 * 165, false},
		{impl.Cell{}, impl.Cell{X: 1, Y: 1}, impl.Cell{X: 12, Y: 12}, impl.Cell{}, 0, false},
		{impl.Cell{X: 1, Y: 1}, impl.Cell{}, impl.Cell{}, impl.Cell{X: 4, Y: 6}, 0, false},
		{impl.Cell{X: 1, Y: 1}, impl.Cell{}, impl.Cell{}, impl.Cell{X: 3, Y: 8}, 0, true},
	} {
		what := aboutCells("AllPairsApart", known.a, known.b, known.c, known.d)
		if got := checkPairs(t, known.a, known.b, known.c, known.d); got != known.pairs {
			t.Errorf("%s: %d pairs; want %d", what, got, known.pairs)
		}
		if _, ok := impl.AllPairsApart(known.a, known.b, known.c, known.d); ok != known.listed {
			t.Errorf("%s: %v", what, ok)
		}
	}
}

// TestPairsAreAsManyAsDeterminantsTell takes four cells that are tied.
func TestPairsAreAsManyAsDeterminantsTell(t *testing.T) {
	lists := tiedLists(cellsWithin(4, 4), 2)
	for _, starts := range lists {
		for _, ends := range lists {
			pairs, ok := impl.AllPairsApart(starts[0], starts[1], ends[0], ends[1])
			count, countOK := impl.CountApart(starts, ends)
			wantValue(t, aboutCells(aboutCells("CountApart", starts...)+" to", ends...), count, ok && countOK, len(pairs))
		}
	}
}

// isNowhereBelow reports whether no number of a list is less than that of another one.
func isNowhereBelow(list, other []int) bool {
	for i := range list {
		if list[i] < other[i] {
			return false
		}
	}
	return true
}

// chainsOf returns how many lists of 0, .., most of some rows there are, each row nowhere
// below the one before.
func chainsOf(rows [][]int, most int) []int {
	counts, last := []int{1}, slices.Repeat([]int{1}, len(rows))
	for range most {
		counts = append(counts, sumOf(last))
		next := make([]int, len(rows))
		for i, row := range rows {
			for j, before := range rows {
				if isNowhereBelow(row, before) {
					next[i] += last[j]
				}
			}
		}
		last = next
	}
	return counts
}

// TestCountFans counts lists of paths, each nowhere below the one before.
func TestCountFans(t *testing.T) {
	for n := range 9 {
		var heights [][]int
		for _, path := range votesAtLeast(n, n, 1, 0) {
			heights = append(heights, heightsAlong(path))
		}
		for k, want := range chainsOf(heights, 4) {
			count, ok := impl.CountFans(n, k)
			wantValue(t, about("CountFans", n, k), count, ok, want)
		}
	}
	count, ok := impl.CountFans(8, 4)
	wantValue(t, "CountFans 8 4", count, ok, 1844536720)
}

// TestFansAreDeterminants takes the Hankel determinants of the numbers of good closed paths.
func TestFansAreDeterminants(t *testing.T) {
	for n := range 9 {
		for k := 1; k <= 4 && n+2*k-2 <= 9; k++ {
			var moments []int
			for i := range 2*k - 1 {
				count, _ := impl.CountNeverBehind(n+i, n+i, 1)
				moments = append(moments, count)
			}
			want, _ := impl.HankelOf(moments, k)
			count, ok := impl.CountFans(n, k)
			wantValue(t, about("CountFans", n, k), count, ok, want)
		}
	}
}

// fallingRows returns all lists of so many numbers of 0 to most, none greater than the one before.
func fallingRows(length, most int) [][]int {
	if length == 0 {
		return [][]int{nil}
	}
	var rows [][]int
	for first := range most + 1 {
		for _, rest := range fallingRows(length-1, first) {
			rows = append(rows, append([]int{first}, rest...))
		}
	}
	return rows
}

// TestCountCubes counts piles by their rows, each nowhere higher than the one nearer to the corner.
func TestCountCubes(t *testing.T) {
	for b := range 5 {
		for c := range 5 {
			for a, want := range chainsOf(fallingRows(b, c), 4) {
				count, ok := impl.CountCubes(a, b, c)
				wantValue(t, about("CountCubes", a, b, c), count, ok, want)
			}
		}
	}
	count, ok := impl.CountCubes(4, 4, 4)
	wantValue(t, "CountCubes 4 4 4", count, ok, 232848)
}

// TestCubesAreWaysApart takes as many ways as cubes may be piled, each with as many steps
// as two sides of the box have.
func TestCubesAreWaysApart(t *testing.T) {
	for a := range 5 {
		for b := range 5 {
			for c := 1; c <= 4; c++ {
				var starts, ends []impl.Cell
				for i := range c {
					starts = append(starts, impl.Cell{X: c - 1 - i, Y: i})
					ends = append(ends, impl.Cell{X: c - 1 - i + a, Y: i + b})
				}
				want, _ := impl.CountApart(starts, ends)
				count, ok := impl.CountCubes(a, b, c)
				wantValue(t, about("CountCubes", a, b, c), count, ok, want)
			}
		}
	}
}
