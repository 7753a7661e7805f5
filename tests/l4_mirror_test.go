package tests

import (
	"slices"
	"testing"

	"loop.example/g01218/impl"
)

// heightsAlong returns the heights of a path.
func heightsAlong(path string) []int {
	var heights []int
	for i := range len(path) + 1 {
		heights = append(heights, heightAt(path, i))
	}
	return heights
}

// exchanged returns steps with U and D exchanged.
func exchanged(path string) string {
	other := map[rune]string{'U': "D", 'D': "U"}
	text := ""
	for _, step := range path {
		text += other[step]
	}
	return text
}

// staysBetween reports whether all heights of a path are between two heights.
func staysBetween(path string, low, high int) bool {
	heights := heightsAlong(path)
	return slices.Min(heights) >= low && slices.Max(heights) <= high
}

// countThose returns how many paths have a property.
func countThose(paths []string, has func(path string) bool) int {
	count := 0
	for _, path := range paths {
		if has(path) {
			count++
		}
	}
	return count
}

// grid is a number of paths for each number of ups and of downs.
type grid [impl.MaxPath + 1][impl.MaxPath + 1]int

// gridBetween counts paths between two heights by their last steps. There are none if
// the height 0 is not between them.
func gridBetween(low, high int) grid {
	var counts grid
	for a := range impl.MaxPath + 1 {
		for b := range impl.MaxPath + 1 - a {
			if a-b < low || a-b > high || low > 0 || high < 0 {
				continue
			}
			if a+b == 0 {
				counts[a][b] = 1
			}
			if a > 0 {
				counts[a][b] += counts[a-1][b]
			}
			if b > 0 {
				counts[a][b] += counts[a][b-1]
			}
		}
	}
	return counts
}

// eachSteps visits all numbers of ups and downs that are at most so many together.
func eachSteps(most int, visit func(ups, downs int)) {
	for ups := range most + 1 {
		for downs := range most + 1 - ups {
			visit(ups, downs)
		}
	}
}

// edgeHeights are heights about 0 and about the limits.
func edgeHeights() []int {
	return []int{-impl.MaxPath, 1 - impl.MaxPath, -21, -20, -5, -3, -2, -1, 0, 1, 2, 3, 4, 7, 20, 21, impl.MaxPath - 1, impl.MaxPath}
}

// eachWalls visits all walls of the edge heights.
func eachWalls(visit func(low, high int)) {
	for _, low := range edgeHeights() {
		for _, high := range edgeHeights() {
			if low <= 0 && high >= 0 {
				visit(low, high)
			}
		}
	}
}

// TestTouches holds touches and reflected paths against the heights gone through.
func TestTouches(t *testing.T) {
	for _, path := range append(somePaths(), pathsUpTo(9)...) {
		heights := heightsAlong(path)
		for _, height := range append(edgeHeights(), 5, 6, 8, 9, -4, -6, -7, -8, -9) {
			first, ok := impl.FirstAt(path, height)
			last, lastOK := impl.LastAt(path, height)
			before, beforeOK := impl.ReflectBefore(path, height)
			behind, behindOK := impl.ReflectBehind(path, height)
			at := slices.Index(heights, height)
			if at < 0 {
				wantFailure(t, about("FirstAt "+path, height), first, ok)
				wantFailure(t, about("LastAt "+path, height), last, lastOK)
				wantFailure(t, about("ReflectBefore "+path, height), before, beforeOK)
				wantFailure(t, about("ReflectBehind "+path, height), behind, behindOK)
				continue
			}
			wantValue(t, about("FirstAt "+path, height), first, ok, at)
			backwards := slices.Clone(heights)
			slices.Reverse(backwards)
			wantValue(t, about("LastAt "+path, height), last, lastOK, len(path)-slices.Index(backwards, height))
			wantValue(t, about("ReflectBefore "+path, height), before, beforeOK, exchanged(path[:at])+path[at:])
			wantValue(t, about("ReflectBehind "+path, height), behind, behindOK, path[:at]+exchanged(path[at:]))
		}
	}
}

// TestReflectedPathsComeBack also holds their ends against those told.
func TestReflectedPathsComeBack(t *testing.T) {
	for _, path := range append(somePaths(), pathsUpTo(9)...) {
		end := heightAt(path, len(path))
		for _, height := range heightsAlong(path) {
			before, _ := impl.ReflectBefore(path, height)
			newEnd, ok := impl.EndHeight(before)
			wantValue(t, about("end before "+path, height), newEnd, ok, end-2*height)
			again, ok := impl.ReflectBefore(before, -height)
			wantValue(t, about("twice before "+path, height), again, ok, path)

			behind, _ := impl.ReflectBehind(path, height)
			newEnd, ok = impl.EndHeight(behind)
			wantValue(t, about("end behind "+path, height), newEnd, ok, 2*height-end)
			again, ok = impl.ReflectBehind(behind, height)
			wantValue(t, about("twice behind "+path, height), again, ok, path)
		}
	}
}

func TestKnownReflections(t *testing.T) {
	first, ok := impl.FirstAt("UDDU", -1)
	wantValue(t, "first", first, ok, 3)
	first, ok = impl.FirstAt("UDDU", 0)
	wantValue(t, "first at 0", first, ok, 0)
	last, ok := impl.LastAt("UDDU", 0)
	wantValue(t, "last at 0", last, ok, 4)
	last, ok = impl.LastAt("UUUU", 0)
	wantValue(t, "last at 0, first of all", last, ok, 0)
	path, ok := impl.ReflectBefore("UDDU", -1)
	wantValue(t, "before", path, ok, "DUUU")
	path, ok = impl.ReflectBehind("UDDU", -1)
	wantValue(t, "behind", path, ok, "UDDD")
	path, ok = impl.PairOf("UDDU")
	wantValue(t, "pair", path, ok, "DUUU")
	path, ok = impl.ReflectBefore("UDDU", 0)
	wantValue(t, "before 0", path, ok, "UDDU")
	path, ok = impl.ReflectBehind("UDDU", 0)
	wantValue(t, "behind 0", path, ok, "DUUD")
	count, ok := impl.CountTouching(2, 2, -1)
	wantValue(t, "touching", count, ok, 4)
	paths, ok := impl.AllBetween(2, 2, 0, 1)
	wantList(t, "between", paths, ok, []string{"UDUD"})
	paths, ok = impl.AllBetween(2, 2, -1, 1)
	wantList(t, "between", paths, ok, []string{"DUDU", "DUUD", "UDDU", "UDUD"})
	signs, ok := impl.TouchText("UDUDDDUUU", 0, 1)
	wantValue(t, "signs", signs, ok, "lhlhlh")
	counts, ok := impl.CountByHighest(3)
	wantList(t, "by highest", counts, ok, []int{3, 3, 1, 1})
}

// TestTouchesBehindTheLastStep takes heights that a path touches first at its end: all
// of it is before the touch.
func TestTouchesBehindTheLastStep(t *testing.T) {
	for _, path := range []string{"U", "D", "UUDUU", "DUDDUDD", steps("U", impl.MaxPath), steps("D", impl.MaxPath)} {
		end := heightAt(path, len(path))
		first, ok := impl.FirstAt(path, end)
		wantValue(t, "first "+path, first, ok, len(path))
		last, ok := impl.LastAt(path, end)
		wantValue(t, "last "+path, last, ok, len(path))
		before, ok := impl.ReflectBefore(path, end)
		wantValue(t, "before "+path, before, ok, exchanged(path))
		behind, ok := impl.ReflectBehind(path, end)
		wantValue(t, "behind "+path, behind, ok, path)
	}
}

// TestReflectedCounts holds counts at one wall against all paths gone through.
func TestReflectedCounts(t *testing.T) {
	eachSteps(9, func(ups, downs int) {
		paths := pathsWith(ups, downs)
		for height := -11; height <= 11; height++ {
			touching, ok := impl.CountTouching(ups, downs, height)
			wantValue(t, about("CountTouching", ups, downs, height), touching, ok, countThose(paths, func(path string) bool {
				return slices.Contains(heightsAlong(path), height)
			}))
			if height <= 0 {
				above, ok := impl.CountAbove(ups, downs, height)
				wantValue(t, about("CountAbove", ups, downs, height), above, ok, countThose(paths, func(path string) bool {
					return slices.Min(heightsAlong(path)) >= height
				}))
			}
			if height >= 0 {
				highest, ok := impl.CountHighest(ups, downs, height)
				wantValue(t, about("CountHighest", ups, downs, height), highest, ok, countThose(paths, func(path string) bool {
					return slices.Max(heightsAlong(path)) == height
				}))
			}
		}
	})
}

// TestPathsBetweenWalls holds counts and lists at two walls against all paths gone through.
func TestPathsBetweenWalls(t *testing.T) {
	eachSteps(9, func(ups, downs int) {
		paths := pathsWith(ups, downs)
		for low := -10; low <= 0; low++ {
			for high := range 11 {
				what := about("", ups, downs, low, high)
				want := slices.DeleteFunc(slices.Clone(paths), func(path string) bool {
					return !staysBetween(path, low, high)
				})
				between, ok := impl.CountBetween(ups, downs, low, high)
				wantValue(t, "CountBetween"+what, between, ok, len(want))
				list, ok := impl.AllBetween(ups, downs, low, high)
				wantList(t, "AllBetween"+what, list, ok, want)
				both, ok := impl.CountBothTouched(ups, downs, low, high)
				wantValue(t, "CountBothTouched"+what, both, ok, countThose(paths, func(path string) bool {
					heights := heightsAlong(path)
					return slices.Contains(heights, low) && slices.Contains(heights, high)
				}))
			}
		}
	})
}

// TestLongPathsAtOneWall holds counts against recurrences, up to MaxPath steps.
func TestLongPathsAtOneWall(t *testing.T) {
	all := gridBetween(-impl.MaxPath, impl.MaxPath)
	for height := -impl.MaxPath; height <= impl.MaxPath; height++ {
		apart := gridBetween(-impl.MaxPath, height-1)
		if height < 0 {
			apart = gridBetween(height+1, impl.MaxPath)
		}
		above, upTo := gridBetween(height, impl.MaxPath), gridBetween(-impl.MaxPath, height)
		eachSteps(impl.MaxPath, func(ups, downs int) {
			touching, ok := impl.CountTouching(ups, downs, height)
			wantValue(t, about("CountTouching", ups, downs, height), touching, ok, all[ups][downs]-apart[ups][downs])
			if height <= 0 {
				got, ok := impl.CountAbove(ups, downs, height)
				wantValue(t, about("CountAbove", ups, downs, height), got, ok, above[ups][downs])
			}
			if height >= 0 {
				got, ok := impl.CountHighest(ups, downs, height)
				wantValue(t, about("CountHighest", ups, downs, height), got, ok, upTo[ups][downs]-apart[ups][downs])
			}
		})
	}
}

// TestLongPathsBetweenWalls holds counts against recurrences, up to MaxPath steps.
func TestLongPathsBetweenWalls(t *testing.T) {
	all := gridBetween(-impl.MaxPath, impl.MaxPath)
	eachWalls(func(low, high int) {
		between := gridBetween(low, high)
		notLow, notHigh := gridBetween(low+1, impl.MaxPath), gridBetween(-impl.MaxPath, high-1)
		neither := gridBetween(low+1, high-1)
		eachSteps(impl.MaxPath, func(ups, downs int) {
			got, ok := impl.CountBetween(ups, downs, low, high)
			wantValue(t, about("CountBetween", ups, downs, low, high), got, ok, between[ups][downs])
			both := all[ups][downs] - notLow[ups][downs] - notHigh[ups][downs] + neither[ups][downs]
			got, ok = impl.CountBothTouched(ups, downs, low, high)
			wantValue(t, about("CountBothTouched", ups, downs, low, high), got, ok, both)
		})
	})
}

// TestHeightsAboutTheEnd takes the heights between 0 and the end, at both, and beyond both.
func TestHeightsAboutTheEnd(t *testing.T) {
	for height, want := range map[int]int{-3: 0, -2: 1, -1: 7, 0: 21, 1: 21, 2: 21, 3: 21, 4: 7, 5: 1, 6: 0} {
		count, ok := impl.CountTouching(5, 2, height)
		wantValue(t, about("CountTouching up to 3", height), count, ok, want)
		count, ok = impl.CountTouching(2, 5, -height)
		wantValue(t, about("CountTouching down to -3", -height), count, ok, want)
	}
	for height, want := range map[int]int{-impl.MaxPath: 0, -1: 0, 0: 1, impl.MaxPath: 1} {
		count, ok := impl.CountTouching(impl.MaxPath, 0, height)
		wantValue(t, about("CountTouching", impl.MaxPath, 0, height), count, ok, want)
		count, ok = impl.CountTouching(0, impl.MaxPath, -height)
		wantValue(t, about("CountTouching", 0, impl.MaxPath, -height), count, ok, want)
	}
}

// TestGoodPathsAreAboveZero takes the wall 0, at which each path is at first.
func TestGoodPathsAreAboveZero(t *testing.T) {
	eachSteps(impl.MaxPath, func(ups, downs int) {
		want, _ := impl.CountNeverBehind(ups, downs, 1)
		above, ok := impl.CountAbove(ups, downs, 0)
		wantValue(t, about("CountAbove", ups, downs, 0), above, ok, want)
		highest, ok := impl.CountHighest(downs, ups, 0)
		wantValue(t, about("CountHighest", downs, ups, 0), highest, ok, want)
		both, ok := impl.CountBothTouched(ups, downs, 0, 0)
		all, _ := impl.CountPaths(ups, downs)
		wantValue(t, about("CountBothTouched", ups, downs, 0, 0), both, ok, all)
		stays := 0
		if ups+downs == 0 {
			stays = 1
		}
		between, ok := impl.CountBetween(ups, downs, 0, 0)
		wantValue(t, about("CountBetween", ups, downs, 0, 0), between, ok, stays)
	})
}

func TestIsBetween(t *testing.T) {
	for _, path := range append(somePaths(), pathsUpTo(9)...) {
		eachWalls(func(low, high int) {
			between, ok := impl.IsBetween(path, low, high)
			wantValue(t, about("IsBetween "+path, low, high), between, ok, staysBetween(path, low, high))
		})
	}
}

// growBetween returns the paths with so many ups and downs between two heights, in
// order, each joined to a beginning that ends at a height.
func growBetween(beginning string, height, ups, downs, low, high int) []string {
	if height < low || height > high {
		return nil
	}
	if ups+downs == 0 {
		return []string{beginning}
	}
	var paths []string
	if downs > 0 {
		paths = append(paths, growBetween(beginning+"D", height-1, ups, downs-1, low, high)...)
	}
	if ups > 0 {
		paths = append(paths, growBetween(beginning+"U", height+1, ups-1, downs, low, high)...)
	}
	return paths
}

// TestAsManyPathsAsMaxWalls takes lists of MaxWalls paths, and those with the next
// greater numbers of paths that there are.
func TestAsManyPathsAsMaxWalls(t *testing.T) {
	for _, n := range [][5]int{
		{2, 23, -23, 2, 300}, {2, 23, -40, 40, 300}, {23, 2, -2, 23, 300}, {2, 23, -22, 2, 299}, {23, 2, -2, 22, 299},
		{5, 6, -5, 1, 296}, {1, 39, -40, 40, 40}, {20, 20, 0, 1, 1}, {20, 20, -1, 0, 1}, {40, 0, 0, 40, 1}, {0, 40, -40, 0, 1},
	} {
		what := about("AllBetween", n[:]...)
		paths, ok := impl.AllBetween(n[0], n[1], n[2], n[3])
		wantList(t, what, paths, ok, growBetween("", 0, n[0], n[1], n[2], n[3]))
		if len(paths) != n[4] {
			t.Errorf("%s: %d paths", what, len(paths))
		}
	}
	for _, n := range [][5]int{
		{4, 7, -5, 2, 308}, {7, 4, -2, 5, 308}, {4, 7, -5, 3, 318}, {2, 24, -40, 40, 325}, {24, 2, -1, 23, 323},
		{20, 20, -40, 40, 137846528820}, {20, 20, -1, 1, 1 << 20},
	} {
		what := about("AllBetween", n[:]...)
		paths, ok := impl.AllBetween(n[0], n[1], n[2], n[3])
		wantListFailure(t, what, paths, ok)
		count, ok := impl.CountBetween(n[0], n[1], n[2], n[3])
		wantValue(t, "count of "+what, count, ok, n[4])
	}
}

// signsOf returns the signs of the walls that a path touches in turn.
func signsOf(path string, low, high int) string {
	signs := ""
	for _, height := range heightsAlong(path) {
		for wall, sign := range map[int]string{low: "l", high: "h"} {
			if height == wall && (signs == "" || signs[len(signs)-1:] != sign) {
				signs += sign
			}
		}
	}
	return signs
}

func TestTouchText(t *testing.T) {
	for _, path := range append(somePaths(), pathsUpTo(8)...) {
		eachWalls(func(low, high int) {
			signs, ok := impl.TouchText(path, low, high)
			if low == high {
				wantFailure(t, about("TouchText "+path, low, high), signs, ok)
			} else {
				wantValue(t, about("TouchText "+path, low, high), signs, ok, signsOf(path, low, high))
			}
		})
	}
}

// TestFirstPassages holds counts against paths gone through, and against recurrences.
func TestFirstPassages(t *testing.T) {
	for n := 1; n <= 10; n++ {
		for height := 1; height <= 12; height++ {
			want := countThose(pathsOf(n), func(path string) bool {
				return slices.Index(heightsAlong(path), height) == n
			})
			count, ok := impl.CountFirstPassage(n, height)
			wantValue(t, about("CountFirstPassage", n, height), count, ok, want)
			count, ok = impl.CountFirstPassage(n, -height)
			wantValue(t, about("CountFirstPassage", n, -height), count, ok, want)
		}
	}
	for height := 1; height <= impl.MaxPath; height++ {
		below := gridBetween(-impl.MaxPath, height-1)
		for n := 1; n <= impl.MaxPath; n++ {
			want := 0
			if n >= height && (n-height)%2 == 0 {
				want = below[(n+height)/2-1][(n-height)/2]
			}
			count, ok := impl.CountFirstPassage(n, height)
			wantValue(t, about("CountFirstPassage", n, height), count, ok, want)
			count, ok = impl.CountFirstPassage(n, -height)
			wantValue(t, about("CountFirstPassage", n, -height), count, ok, want)
		}
	}
}

// TestPairs wants each path with the end 2 to be that of just one path.
func TestPairs(t *testing.T) {
	for n := range 13 {
		var pairs, want []string
		for _, path := range pathsOf(n) {
			if heightAt(path, n) == 2 {
				want = append(want, path)
			}
			pair, ok := impl.PairOf(path)
			first := slices.Index(heightsAlong(path), -1)
			if heightAt(path, n) != 0 || first < 0 {
				wantFailure(t, "PairOf "+path, pair, ok)
				continue
			}
			wantValue(t, "PairOf "+path, pair, ok, exchanged(path[:first])+path[first:])
			pairs = append(pairs, pair)
		}
		slices.Sort(pairs)
		wantList(t, about("pairs of steps", n), pairs, true, want)
	}
	half := impl.MaxPath / 2
	pair, ok := impl.PairOf(steps("D", half) + steps("U", half))
	wantValue(t, "PairOf MaxPath steps", pair, ok, "U"+steps("D", half-1)+steps("U", half))
	pair, ok = impl.PairOf(steps("UD", half-1) + "DU")
	wantValue(t, "PairOf MaxPath steps", pair, ok, steps("DU", half-1)+"UU")
}

// TestCountByHighest holds counts against paths gone through, and against recurrences.
func TestCountByHighest(t *testing.T) {
	for n := range 11 {
		want := make([]int, n+1)
		for _, path := range pathsOf(n) {
			want[slices.Max(heightsAlong(path))]++
		}
		counts, ok := impl.CountByHighest(n)
		wantList(t, about("CountByHighest", n), counts, ok, want)
	}
	for n := range impl.MaxPath + 1 {
		want := make([]int, n+1)
		for high := range want {
			upTo, below := gridBetween(-impl.MaxPath, high), gridBetween(-impl.MaxPath, high-1)
			for ups := range n + 1 {
				want[high] += upTo[ups][n-ups] - below[ups][n-ups]
			}
		}
		counts, ok := impl.CountByHighest(n)
		wantList(t, about("CountByHighest", n), counts, ok, want)
		if sumOf(counts) != 1<<n {
			t.Errorf("%s: %d together", about("CountByHighest", n), sumOf(counts))
		}
	}
}
