package tests

import (
	"slices"
	"strings"
	"testing"

	"loop.example/g01218/impl"
)

// closedOf returns all good closed paths of n pairs: a U, such a path, a D, and another one.
func closedOf(n int) []string {
	if n == 0 {
		return []string{""}
	}
	var paths []string
	for within := range n {
		for _, inner := range closedOf(within) {
			for _, behind := range closedOf(n - 1 - within) {
				paths = append(paths, "U"+inner+"D"+behind)
			}
		}
	}
	return paths
}

// isGoodClosed reports whether a path is good and closed.
func isGoodClosed(path string) bool {
	return heightAt(path, len(path)) == 0 && slices.Min(heightsAlong(path)) == 0
}

func peaksBySearch(path string) int {
	return strings.Count(path, "UD")
}

func highestBySearch(path string) int {
	return slices.Max(heightsAlong(path))
}

// returnsBySearch returns how many returns a path has.
func returnsBySearch(path string) int {
	returns := 0
	for _, height := range heightsAlong(path)[1:] {
		if height == 0 {
			returns++
		}
	}
	return returns
}

func areaBySearch(path string) int {
	return sumOf(heightsAlong(path))
}

func firstRunBySearch(path string) int {
	return len(path) - len(strings.TrimLeft(path, "U"))
}

// recordsBySearch holds each height against all ahead of it.
func recordsBySearch(path string) []int {
	heights := heightsAlong(path)
	var records []int
	for i := 1; i < len(heights); i++ {
		if heights[i] > slices.Max(heights[:i]) {
			records = append(records, i)
		}
	}
	return records
}

// aboveBySearch counts the steps of which neither end is below 0.
func aboveBySearch(path string) int {
	above := 0
	for i := range path {
		if heightAt(path, i) >= 0 && heightAt(path, i+1) >= 0 {
			above++
		}
	}
	return above
}

// lastReturnBySearch shortens a path until it is closed.
func lastReturnBySearch(path string) int {
	for heightAt(path, len(path)) != 0 {
		path = path[:len(path)-1]
	}
	return len(path)
}

// squaresBySearch counts the squares that fit between a path and UDUD.., each two high.
func squaresBySearch(path string) int {
	squares := 0
	for i, height := range heightsAlong(path) {
		for low := i % 2; low < height; low += 2 {
			squares++
		}
	}
	return squares
}

// tallied returns how many paths have the numbers 0, each, 2 each, .., up to a greatest one.
func tallied(paths []string, most, each int, number func(path string) int) []int {
	counts := make([]int, most/each+1)
	for _, path := range paths {
		if n := number(path); n%each == 0 {
			counts[n/each]++
		}
	}
	return counts
}

// weighted returns the sum of numbers, each as often as a count tells.
func weighted(counts []int) int {
	sum := 0
	for number, count := range counts {
		sum += number * count
	}
	return sum
}

// pairsCall is a function that counts good closed paths, and the number by which it does.
type pairsCall struct {
	name   string
	call   func(int) ([]int, bool)
	number func(string) int
}

// closedCalls are the functions that count all good closed paths, each by another number.
func closedCalls() []pairsCall {
	return []pairsCall{
		{"CountByPeaks", impl.CountByPeaks, peaksBySearch}, {"CountByHeight", impl.CountByHeight, highestBySearch},
		{"CountByReturns", impl.CountByReturns, returnsBySearch}, {"CountByArea", impl.CountByArea, areaBySearch},
		{"CountByFirstRun", impl.CountByFirstRun, firstRunBySearch},
	}
}

// mostOf returns the greatest number by which a function counts.
func mostOf(f pairsCall, n int) int {
	if f.name == "CountByArea" {
		return n * n
	}
	return n
}

func TestKnownRecords(t *testing.T) {
	counts, ok := impl.CountByPeaks(3)
	wantList(t, "CountByPeaks", counts, ok, []int{0, 1, 3, 1})
	counts, ok = impl.CountByHeight(3)
	wantList(t, "CountByHeight", counts, ok, []int{0, 1, 3, 1})
	counts, ok = impl.CountByReturns(3)
	wantList(t, "CountByReturns", counts, ok, []int{0, 2, 2, 1})
	counts, ok = impl.CountByFirstRun(3)
	wantList(t, "CountByFirstRun", counts, ok, []int{0, 2, 2, 1})
	counts, ok = impl.CountByArea(3)
	wantList(t, "CountByArea", counts, ok, []int{0, 0, 0, 1, 0, 2, 0, 1, 0, 1})
	count, ok := impl.CountGoodClosed(3)
	wantValue(t, "CountGoodClosed", count, ok, 5)
	sum, ok := impl.SumOfAreas(3)
	wantValue(t, "SumOfAreas", sum, ok, 29)
	sum, ok = impl.SumOfHighest(3)
	wantValue(t, "SumOfHighest", sum, ok, 10)
	records, ok := impl.RecordsOfPath("UUDUDD")
	wantList(t, "RecordsOfPath", records, ok, []int{1, 2})
	counts, ok = impl.CountByRecords(3)
	wantList(t, "CountByRecords", counts, ok, []int{3, 3, 1, 1})
	above, ok := impl.StepsAbove("UUDUDD")
	wantValue(t, "StepsAbove", above, ok, 6)
	counts, ok = impl.CountByAbove(2)
	wantList(t, "CountByAbove", counts, ok, []int{6, 4, 6})
	last, ok := impl.LastReturn("UUDUDD")
	wantValue(t, "LastReturn", last, ok, 6)
	counts, ok = impl.CountByLastReturn(2)
	wantList(t, "CountByLastReturn", counts, ok, []int{6, 4, 6})
	count, ok = impl.CountNeverBack(2)
	wantValue(t, "CountNeverBack", count, ok, 6)
	index, ok := impl.AreaIndex("UUDUDD")
	wantValue(t, "AreaIndex", index, ok, 2)
}

// TestNoPairAndOnePair takes the path without steps, and the two ways to take a pair of steps.
func TestNoPairAndOnePair(t *testing.T) {
	for _, known := range []struct {
		name string
		call func(int) ([]int, bool)
		none []int
		one  []int
	}{
		{"CountByPeaks", impl.CountByPeaks, []int{1}, []int{0, 1}},
		{"CountByHeight", impl.CountByHeight, []int{1}, []int{0, 1}},
		{"CountByReturns", impl.CountByReturns, []int{1}, []int{0, 1}},
		{"CountByArea", impl.CountByArea, []int{1}, []int{0, 1}},
		{"CountByFirstRun", impl.CountByFirstRun, []int{1}, []int{0, 1}},
		{"CountByRecords", impl.CountByRecords, []int{1}, []int{1, 1}},
		{"CountByAbove", impl.CountByAbove, []int{1}, []int{2, 2}},
		{"CountByLastReturn", impl.CountByLastReturn, []int{1}, []int{2, 2}},
	} {
		counts, ok := known.call(0)
		wantList(t, known.name+" of no pair", counts, ok, known.none)
		counts, ok = known.call(1)
		wantList(t, known.name+" of one pair", counts, ok, known.one)
	}
	for _, known := range []struct {
		name string
		call func(int) (int, bool)
		none int
		one  int
	}{
		{"CountGoodClosed", impl.CountGoodClosed, 1, 1}, {"SumOfAreas", impl.SumOfAreas, 0, 1},
		{"SumOfHighest", impl.SumOfHighest, 0, 1}, {"CountNeverBack", impl.CountNeverBack, 1, 2},
	} {
		number, ok := known.call(0)
		wantValue(t, known.name+" of no pair", number, ok, known.none)
		number, ok = known.call(1)
		wantValue(t, known.name+" of one pair", number, ok, known.one)
	}
}

// TestMostPairs takes just MaxPairs pairs, or steps.
func TestMostPairs(t *testing.T) {
	counts, ok := impl.CountByPeaks(impl.MaxPairs)
	wantList(t, "CountByPeaks", counts, ok, []int{
		0, 1, 105, 3185, 41405, 273273, 1002001, 2147145, 2760615, 2147145, 1002001, 273273, 41405, 3185, 105, 1,
	})
	counts, ok = impl.CountByReturns(impl.MaxPairs)
	wantList(t, "CountByReturns", counts, ok, []int{
		0, 2674440, 2674440, 1931540, 1188640, 653752, 326876, 149226, 62016, 23256, 7752, 2244, 544, 104, 14, 1,
	})
	count, ok := impl.CountGoodClosed(impl.MaxPairs)
	wantValue(t, "CountGoodClosed", count, ok, 9694845)
	sum, ok := impl.SumOfAreas(impl.MaxPairs)
	wantValue(t, "SumOfAreas", sum, ok, 773201629)
	count, ok = impl.CountNeverBack(impl.MaxPairs)
	wantValue(t, "CountNeverBack", count, ok, 155117520)
	counts, ok = impl.CountByRecords(impl.MaxPairs)
	wantList(t, "CountByRecords", counts, ok, []int{
		6435, 6435, 5005, 5005, 3003, 3003, 1365, 1365, 455, 455, 105, 105, 15, 15, 1, 1,
	})
}

// TestClosedPathsAreCounted holds counts against lists of all good closed paths.
func TestClosedPathsAreCounted(t *testing.T) {
	for n := range 10 {
		paths := closedOf(n)
		if n < 7 && len(paths) != countThose(pathsOf(2*n), isGoodClosed) {
			t.Fatalf("%s: %d", about("good closed paths", n), len(paths))
		}
		for _, f := range closedCalls() {
			counts, ok := f.call(n)
			wantList(t, about(f.name, n), counts, ok, tallied(paths, mostOf(f, n), 1, f.number))
		}
		count, ok := impl.CountGoodClosed(n)
		wantValue(t, about("CountGoodClosed", n), count, ok, len(paths))
		areas, heights := 0, 0
		for _, path := range paths {
			areas += areaBySearch(path)
			heights += highestBySearch(path)
		}
		sum, ok := impl.SumOfAreas(n)
		wantValue(t, about("SumOfAreas", n), sum, ok, areas)
		sum, ok = impl.SumOfHighest(n)
		wantValue(t, about("SumOfHighest", n), sum, ok, heights)
	}
}

// TestClosedPathsAreCountedByOtherCalls takes the numbers that the calls of single paths return.
func TestClosedPathsAreCountedByOtherCalls(t *testing.T) {
	for n := range 8 {
		paths := closedOf(n)
		counts, _ := impl.CountByReturns(n)
		wantList(t, about("by CutAtReturns", n), counts, true, tallied(paths, n, 1, func(path string) int {
			parts, _ := impl.CutAtReturns(path)
			return len(parts)
		}))
		counts, _ = impl.CountByHeight(n)
		wantList(t, about("by RecordsOfPath", n), counts, true, tallied(paths, n, 1, func(path string) int {
			records, _ := impl.RecordsOfPath(path)
			return len(records)
		}))
		counts, _ = impl.CountByArea(n)
		wantList(t, about("by AreaIndex", n), counts, true, tallied(paths, n*n, 1, func(path string) int {
			index, _ := impl.AreaIndex(path)
			return n + 2*index
		}))
	}
}

// joined returns the counts of pairs of paths by the sum of their numbers and some more.
func joined(inner, behind []int, more int) []int {
	counts := make([]int, len(inner)+len(behind)+more-1)
	for i, count := range inner {
		for j, other := range behind {
			counts[i+j+more] += count * other
		}
	}
	return counts
}

// byFirstReturn counts good closed paths of 0, 1, .., MaxPairs pairs, of which each but
// the first one is a U, one of so many pairs, a D, and another one.
func byFirstReturn(join func(inner, behind []int, pairs int) []int) [][]int {
	all := [][]int{{1}}
	for n := 1; n <= impl.MaxPairs; n++ {
		counts := make([]int, n*n+1)
		for within := range n {
			for number, count := range join(all[within], all[n-1-within], within) {
				if count > 0 {
					counts[number] += count
				}
			}
		}
		all = append(all, counts)
	}
	return all
}

// inAll returns counts of paths without what they are counted by.
func inAll(counts []int) []int {
	return []int{sumOf(counts)}
}

// TestCountsFollowFromFirstReturns counts paths up to MaxPairs pairs by their parts.
func TestCountsFollowFromFirstReturns(t *testing.T) {
	joins := map[string]func(inner, behind []int, pairs int) []int{
		"CountByPeaks": func(inner, behind []int, pairs int) []int {
			if pairs == 0 {
				return joined(inner, behind, 1)
			}
			return joined(inner, behind, 0)
		},
		"CountByReturns":  func(inner, behind []int, _ int) []int { return joined(inAll(inner), behind, 1) },
		"CountByFirstRun": func(inner, behind []int, _ int) []int { return joined(inner, inAll(behind), 1) },
		"CountByArea":     func(inner, behind []int, pairs int) []int { return joined(inner, behind, 2*pairs+1) },
	}
	for _, f := range closedCalls() {
		if joins[f.name] == nil {
			continue
		}
		for n, want := range byFirstReturn(joins[f.name]) {
			counts, ok := f.call(n)
			wantList(t, about(f.name, n), counts, ok, want[:mostOf(f, n)+1])
			count, ok := impl.CountGoodClosed(n)
			wantValue(t, about("CountGoodClosed", n), count, ok, sumOf(want))
		}
	}
}

// TestHeightsFollowFromWalls counts paths up to MaxPairs pairs below each height by their last steps.
func TestHeightsFollowFromWalls(t *testing.T) {
	for n := range impl.MaxPairs + 1 {
		want := make([]int, n+1)
		for high := range want {
			want[high] = gridBetween(0, high)[n][n] - sumOf(want[:high])
		}
		counts, ok := impl.CountByHeight(n)
		wantList(t, about("CountByHeight", n), counts, ok, want)
		sum, ok := impl.SumOfHighest(n)
		wantValue(t, about("SumOfHighest", n), sum, ok, weighted(want))
	}
}

// TestEachTimeAll checks that each list has all good closed paths, its length, and its sum.
func TestEachTimeAll(t *testing.T) {
	for n := range impl.MaxPairs + 1 {
		all, _ := impl.CountGoodClosed(n)
		never, _ := impl.CountNeverBehind(n, n, 1)
		wantValue(t, about("CountNeverBehind", n), never, true, all)
		for _, f := range closedCalls() {
			counts, ok := f.call(n)
			wantValue(t, about("all of "+f.name, n), sumOf(counts), ok, all)
			wantValue(t, about("length of "+f.name, n), len(counts), ok, mostOf(f, n)+1)
		}
		areas, _ := impl.CountByArea(n)
		sum, ok := impl.SumOfAreas(n)
		wantValue(t, about("SumOfAreas", n), sum, ok, weighted(areas))
		returns, _ := impl.CountByReturns(n)
		runs, ok := impl.CountByFirstRun(n)
		wantList(t, about("CountByFirstRun", n), runs, ok, returns)
	}
}

// TestAreasEachTime asks often, since rows that are ready may be taken in any order.
func TestAreasEachTime(t *testing.T) {
	for _, n := range []int{0, 1, 4, impl.MaxPairs} {
		want, _ := impl.CountByArea(n)
		for range 20 {
			counts, ok := impl.CountByArea(n)
			wantList(t, about("CountByArea", n), counts, ok, want)
		}
	}
}

// TestPathsOfAllKinds counts all paths, and holds the counts against lists of them.
func TestPathsOfAllKinds(t *testing.T) {
	for n := range 8 {
		paths := pathsOf(2 * n)
		counts, ok := impl.CountByAbove(n)
		wantList(t, about("CountByAbove", n), counts, ok, tallied(paths, 2*n, 2, aboveBySearch))
		counts, ok = impl.CountByLastReturn(n)
		wantList(t, about("CountByLastReturn", n), counts, ok, tallied(paths, 2*n, 2, lastReturnBySearch))
		count, ok := impl.CountNeverBack(n)
		wantValue(t, about("CountNeverBack", n), count, ok, countThose(paths, func(path string) bool {
			return returnsBySearch(path) == 0
		}))
	}
	for n := range 12 {
		counts, ok := impl.CountByRecords(n)
		wantList(t, about("CountByRecords", n), counts, ok, tallied(pathsOf(n), n, 1, func(path string) int {
			return len(recordsBySearch(path))
		}))
	}
}

// arrived is how many paths come to a height, and with them to a number.
type arrived map[[2]int]int

// walk lets all paths of so many steps go on from no number to the next one.
func walk(steps int, next func(number, step, from, to int) int) arrived {
	at := arrived{{0, 0}: 1}
	for step := range steps {
		further := arrived{}
		for state, count := range at {
			for _, to := range []int{state[0] - 1, state[0] + 1} {
				further[[2]int{to, next(state[1], step+1, state[0], to)}] += count
			}
		}
		at = further
	}
	return at
}

// byNumber returns how many paths come to the numbers 0, each, 2 each, .., at any height.
func (a arrived) byNumber(most, each int) []int {
	counts := make([]int, most/each+1)
	for state, count := range a {
		if state[1]%each == 0 {
			counts[state[1]/each] += count
		}
	}
	return counts
}

func nextAbove(number, _, from, to int) int {
	if min(from, to) >= 0 {
		return number + 1
	}
	return number
}

func nextReturn(number, step, _, to int) int {
	if to == 0 {
		return step
	}
	return number
}

func nextRecord(number, _, _, to int) int {
	return max(number, to)
}

// TestLongPathsOfAllKinds counts all paths up to MaxPairs pairs, or steps, step by step.
func TestLongPathsOfAllKinds(t *testing.T) {
	for n := range impl.MaxPairs + 1 {
		above, ok := impl.CountByAbove(n)
		wantList(t, about("CountByAbove", n), above, ok, walk(2*n, nextAbove).byNumber(2*n, 2))
		want := walk(2*n, nextReturn).byNumber(2*n, 2)
		last, ok := impl.CountByLastReturn(n)
		wantList(t, about("CountByLastReturn", n), last, ok, want)
		wantList(t, about("CountByLastReturn as CountByAbove", n), last, ok, above)
		wantValue(t, about("all of CountByLastReturn", n), sumOf(last), ok, power(4, n))
		never, ok := impl.CountNeverBack(n)
		wantValue(t, about("CountNeverBack", n), never, ok, want[0])
		closed, _ := impl.CountPaths(n, n)
		wantValue(t, about("CountNeverBack as closed", n), never, ok, closed)
		records, ok := impl.CountByRecords(n)
		wantList(t, about("CountByRecords", n), records, ok, walk(n, nextRecord).byNumber(n, 1))
		wantValue(t, about("all of CountByRecords", n), sumOf(records), ok, power(2, n))
	}
}

// turningPaths are long paths, of which some have all MaxPath steps.
func turningPaths() []string {
	half := impl.MaxPath / 2
	return append(somePaths(),
		steps("U", half)+steps("D", half), steps("D", half)+steps("U", half), steps("DU", half), steps("UDDU", half/2), steps("UUDD", half/2),
		steps("UUD", 13), steps("DDU", 13)+"U", steps("UUD", 13)+"D", steps("UUDDDDUU", 5), "D"+steps("UD", half-1)+"U", "D"+steps("UD", half-1)+"D",
		steps("U", half)+steps("UD", half/2), steps("D", half-1)+steps("U", half+1), steps("DU", half-1)+"DD", steps("UD", half-1)+"UU",
	)
}

// TestRecordsOfPaths holds records, steps above and last returns against the heights.
func TestRecordsOfPaths(t *testing.T) {
	for _, path := range append(turningPaths(), pathsUpTo(11)...) {
		records, ok := impl.RecordsOfPath(path)
		wantList(t, "RecordsOfPath "+path, records, ok, recordsBySearch(path))
		wantValue(t, "number of RecordsOfPath "+path, len(records), ok, highestBySearch(path))
		above, ok := impl.StepsAbove(path)
		wantValue(t, "StepsAbove "+path, above, ok, aboveBySearch(path))
		last, ok := impl.LastReturn(path)
		wantValue(t, "LastReturn "+path, last, ok, lastReturnBySearch(path))
	}
}

// TestKnownRecordsOfPaths takes paths of each kind there is.
func TestKnownRecordsOfPaths(t *testing.T) {
	for _, known := range []struct {
		path    string
		records []int
		above   int
		last    int
	}{
		// Without steps, and with one.
		{"", nil, 0, 0}, {"U", []int{1}, 1, 0}, {"D", nil, 0, 0},
		// Good and closed, good, closed, and neither.
		{"UD", []int{1}, 2, 2}, {"UUD", []int{1, 2}, 3, 0}, {"UDDU", []int{1}, 2, 4}, {"DUD", nil, 0, 2}, {"DUU", []int{3}, 1, 2},
		// Always below 0, at last at 0, and once more to the same height.
		{"DDUD", nil, 0, 0}, {"DDUU", nil, 0, 4}, {"UDUDU", []int{1}, 5, 4}, {"UUDUDU", []int{1, 2}, 6, 0}, {"UDUUDUU", []int{1, 4, 7}, 7, 2},
		// To 0 from above and from below, and through it both ways.
		{"UDUD", []int{1}, 4, 4}, {"DUDU", nil, 0, 4}, {"UDDUUD", []int{1}, 4, 6}, {"UDDD", []int{1}, 2, 2}, {"DDUUU", []int{5}, 1, 4},
		{steps("U", 3) + steps("D", 5) + steps("U", 6), []int{1, 2, 3, 14}, 10, 10},
	} {
		records, ok := impl.RecordsOfPath(known.path)
		wantList(t, "RecordsOfPath "+known.path, records, ok, known.records)
		above, ok := impl.StepsAbove(known.path)
		wantValue(t, "StepsAbove "+known.path, above, ok, known.above)
		last, ok := impl.LastReturn(known.path)
		wantValue(t, "LastReturn "+known.path, last, ok, known.last)
	}
}

// TestAreaIndex counts the squares between paths and UDUD.., up to the longest paths there are.
func TestAreaIndex(t *testing.T) {
	for n := range 9 {
		for _, path := range closedOf(n) {
			index, ok := impl.AreaIndex(path)
			wantValue(t, "AreaIndex "+path, index, ok, squaresBySearch(path))
		}
	}
	for n := range impl.MaxPath/2 + 1 {
		index, ok := impl.AreaIndex(steps("UD", n))
		wantValue(t, about("AreaIndex of UDUD..", n), index, ok, 0)
		index, ok = impl.AreaIndex(steps("U", n) + steps("D", n))
		wantValue(t, about("AreaIndex of U..UD..D", n), index, ok, n*(n-1)/2)
	}
	index, ok := impl.AreaIndex(steps("UUDD", impl.MaxPath/4))
	wantValue(t, "AreaIndex of UUDD..", index, ok, impl.MaxPath/4)
}

// TestAreaIndexOfOtherPaths takes paths that are not good, not closed, or neither.
func TestAreaIndexOfOtherPaths(t *testing.T) {
	for _, path := range append(turningPaths(), pathsUpTo(10)...) {
		index, ok := impl.AreaIndex(path)
		if isGoodClosed(path) {
			wantValue(t, "AreaIndex "+path, index, ok, squaresBySearch(path))
		} else {
			wantFailure(t, "AreaIndex "+path, index, ok)
		}
	}
}
