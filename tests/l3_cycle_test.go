package tests

import (
	"slices"
	"strconv"
	"strings"
	"testing"

	"loop.example/g01218/impl"
)

// eachList goes through all lists of n numbers in 0..most in order.
func eachList(n, most int, visit func(list []int)) {
	list := make([]int, n)
	for {
		visit(slices.Clone(list))
		i := n - 1
		for i >= 0 && list[i] == most {
			list[i] = 0
			i--
		}
		if i < 0 {
			return
		}
		list[i]++
	}
}

// eachForest goes through all forests of n nodes in order.
func eachForest(n int, visit func(list []int)) {
	eachList(n, n-1, func(list []int) {
		if forestByName(list) {
			visit(list)
		}
	})
}

func sumOf(list []int) int {
	sum := 0
	for _, n := range list {
		sum += n
	}
	return sum
}

// forestByName reports whether degrees are a forest, in the words of the document.
func forestByName(list []int) bool {
	r := len(list) - sumOf(list)
	if r < 1 {
		return false
	}
	for i := range list {
		if sumOf(list[:i])-i <= -r {
			return false
		}
	}
	return true
}

// turned returns a list begun at k and gone on around.
func turned(list []int, k int) []int {
	return append(slices.Clone(list[k:]), list[:k]...)
}

// parentsBySearch gives each node to the last one ahead of it that lacks a child.
func parentsBySearch(list []int) []int {
	lacking := slices.Clone(list)
	parents := make([]int, len(list))
	for node := range list {
		parent := node - 1
		for parent >= 0 && lacking[parent] == 0 {
			parent--
		}
		if parent >= 0 {
			lacking[parent]--
		}
		parents[node] = parent
	}
	return parents
}

// depthsBySearch counts the nodes above each one.
func depthsBySearch(list []int) []int {
	parents := parentsBySearch(list)
	depths := make([]int, len(list))
	for node := range list {
		for above := parents[node]; above >= 0; above = parents[above] {
			depths[node]++
		}
	}
	return depths
}

// treesBySearch cuts a forest at the nodes without a parent.
func treesBySearch(list []int) [][]int {
	var trees [][]int
	for node, parent := range parentsBySearch(list) {
		if parent < 0 {
			trees = append(trees, nil)
		}
		last := len(trees) - 1
		trees[last] = append(trees[last], list[node])
	}
	return trees
}

// mirrorBySearch tells the children of a node, or of none with -1, from the last one on.
func mirrorBySearch(list []int, above int) []int {
	parents := parentsBySearch(list)
	var mirror []int
	for node := len(list) - 1; node >= 0; node-- {
		if parents[node] == above {
			mirror = append(mirror, list[node])
			mirror = append(mirror, mirrorBySearch(list, node)...)
		}
	}
	return mirror
}

// pathBySearch goes from each node to the next one by their depths.
func pathBySearch(tree []int) string {
	path, height := "", 0
	for _, depth := range depthsBySearch(tree)[1:] {
		path += steps("D", height+1-depth) + "U"
		height = depth
	}
	return path + steps("D", height)
}

// largeForests are forests of MaxNodes nodes, of one tree and of more.
func largeForests() [][]int {
	forests := [][]int{
		make([]int, impl.MaxNodes),
		append([]int{impl.MaxNodes - 1}, make([]int, impl.MaxNodes-1)...),
		append(slices.Repeat([]int{1}, impl.MaxNodes-1), 0),
		{3, 2, 0, 0, 1, 0, 4, 0, 2, 0, 0, 0, 3, 0, 0, 0},
		{0, 3, 2, 0, 0, 1, 0, 4, 0, 2, 0, 0, 0, 1, 0, 0},
	}
	seed := 1
	for len(forests) < 300 {
		list := make([]int, impl.MaxNodes)
		for left := len(forests) % impl.MaxNodes; left > 0; left-- {
			seed = (seed*1103515245 + 12345) % (1 << 31)
			list[seed>>16%impl.MaxNodes]++
		}
		for k := range list {
			if forestByName(turned(list, k)) {
				forests = append(forests, turned(list, k))
				break
			}
		}
	}
	return forests
}

// aboutList tells of which list and numbers a test speaks.
func aboutList(what string, list []int, numbers ...int) string {
	words := make([]string, len(list))
	for i, n := range list {
		words[i] = strconv.Itoa(n)
	}
	return about(what+" ["+strings.Join(words, " ")+"]", numbers...)
}

func wantLists(t *testing.T, what string, got [][]int, gotOK bool, want [][]int) {
	t.Helper()
	if !slices.EqualFunc(got, want, slices.Equal[[]int]) || !gotOK {
		t.Errorf("%s: %v, %v; want %v, true", what, got, gotOK, want)
	}
}

func TestKnownCycles(t *testing.T) {
	excess, ok := impl.ExcessOf([]int{0, 2, 0})
	wantValue(t, "excess", excess, ok, 1)
	rotations, ok := impl.GoodRotations([]int{0, 2, 0})
	wantList(t, "rotations", rotations, ok, []int{1})
	rotated, ok := impl.RotateList([]int{0, 2, 0}, 1)
	wantList(t, "rotation", rotated, ok, []int{2, 0, 0})
	path, ok := impl.PathOfTree([]int{2, 0, 0})
	wantValue(t, "path", path, ok, "UDUD")
	tree, ok := impl.TreeOfPath("UUDD")
	wantList(t, "tree", tree, ok, []int{1, 1, 0})
	rotations, ok = impl.RatioRotations("UDUUD", 1)
	wantList(t, "ratio", rotations, ok, []int{2})
	count, ok := impl.CountForests([]int{2, 1})
	wantValue(t, "count", count, ok, 2)
	first, ok := impl.FirstForest([]int{2, 1})
	wantList(t, "first", first, ok, []int{0, 1, 0})
	trees, ok := impl.TreesOf([]int{1, 0, 0, 2, 0, 1, 0})
	wantLists(t, "trees", trees, ok, [][]int{{1, 0}, {0}, {2, 0, 1, 0}})
	parents, ok := impl.ParentsOf([]int{1, 0, 0, 2, 0, 1, 0})
	wantList(t, "parents", parents, ok, []int{-1, 0, -1, -1, 3, 3, 5})
	depths, ok := impl.DepthsOf([]int{1, 0, 0, 2, 0, 1, 0})
	wantList(t, "depths", depths, ok, []int{0, 1, 0, 0, 1, 1, 2})
	mirror, ok := impl.MirrorForest([]int{1, 0, 0, 2, 0, 1, 0})
	wantList(t, "mirror", mirror, ok, []int{2, 1, 0, 0, 0, 1, 0})
}

// TestDegrees goes through all small lists: the excess, whether they are a forest, and their rotations.
func TestDegrees(t *testing.T) {
	for n := 1; n <= 6; n++ {
		eachList(n, 6, func(list []int) { checkDegrees(t, list) })
	}
}

func checkDegrees(t *testing.T, list []int) {
	t.Helper()
	if !impl.IsDegrees(list) {
		t.Errorf("%s are none", aboutList("degrees", list))
	}
	excess, ok := impl.ExcessOf(list)
	wantValue(t, aboutList("excess", list), excess, ok, len(list)-sumOf(list))
	forest, ok := impl.IsForest(list)
	wantValue(t, aboutList("forest", list), forest, ok, forestByName(list))
	var want []int
	for k := range list {
		rotated, ok := impl.RotateList(list, k)
		wantList(t, aboutList("rotation", list, k), rotated, ok, turned(list, k))
		if forestByName(turned(list, k)) {
			want = append(want, k)
		}
	}
	rotations, ok := impl.GoodRotations(list)
	wantList(t, aboutList("good rotations", list), rotations, ok, want)
	if len(rotations) != max(excess, 0) {
		t.Errorf("%s: as many as %d", aboutList("good rotations", list), len(rotations))
	}
}

// TestLargestDegrees checks lists of MaxNodes numbers, the greatest ones with them.
func TestLargestDegrees(t *testing.T) {
	for _, list := range largeForests() {
		for k := range list {
			checkDegrees(t, turned(list, k))
		}
	}
	for _, degree := range []int{0, 1, 2, impl.MaxNodes - 1, impl.MaxNodes} {
		checkDegrees(t, slices.Repeat([]int{degree}, impl.MaxNodes))
		checkDegrees(t, []int{degree})
	}
	checkDegrees(t, append([]int{impl.MaxNodes}, make([]int, impl.MaxNodes-1)...))
	checkDegrees(t, append(make([]int, impl.MaxNodes-1), impl.MaxNodes-1))
	rotations, ok := impl.GoodRotations(make([]int, impl.MaxNodes))
	wantValue(t, "rotations without children", len(rotations), ok, impl.MaxNodes)
}

// TestExcessOfLessThanOne has lists with no nodes to begin with, which are no forests in any rotation.
func TestExcessOfLessThanOne(t *testing.T) {
	for list, want := range map[[2]int]int{{1, 1}: 0, {0, 2}: 0, {2, 0}: 0, {2, 1}: -1, {16, 16}: -30} {
		excess, ok := impl.ExcessOf(list[:])
		wantValue(t, aboutList("excess", list[:]), excess, ok, want)
		forest, ok := impl.IsForest(list[:])
		wantValue(t, aboutList("forest", list[:]), forest, ok, false)
		rotations, ok := impl.GoodRotations(list[:])
		wantList(t, aboutList("good rotations", list[:]), rotations, ok, nil)
	}
}

// TestForests holds trees, parents, depths and mirrored forests against a search.
func TestForests(t *testing.T) {
	for n := 1; n <= 6; n++ {
		eachForest(n, func(list []int) { checkForest(t, list) })
	}
	for _, list := range largeForests() {
		checkForest(t, list)
	}
}

func checkForest(t *testing.T, list []int) {
	t.Helper()
	trees, ok := impl.TreesOf(list)
	wantLists(t, aboutList("trees", list), trees, ok, treesBySearch(list))
	parents, ok := impl.ParentsOf(list)
	wantList(t, aboutList("parents", list), parents, ok, parentsBySearch(list))
	depths, ok := impl.DepthsOf(list)
	wantList(t, aboutList("depths", list), depths, ok, depthsBySearch(list))
	mirror, ok := impl.MirrorForest(list)
	wantList(t, aboutList("mirror", list), mirror, ok, mirrorBySearch(list, -1))
	again, ok := impl.MirrorForest(mirror)
	wantList(t, aboutList("mirror of the mirror", list), again, ok, list)
	path, ok := impl.PathOfTree(list)
	if len(trees) > 1 {
		wantFailure(t, aboutList("path", list), path, ok)
		return
	}
	wantValue(t, aboutList("path", list), path, ok, pathBySearch(list))
	tree, ok := impl.TreeOfPath(path)
	wantList(t, "tree of "+path, tree, ok, list)
	back, _ := impl.BackPath(path)
	path, ok = impl.PathOfTree(mirror)
	wantValue(t, aboutList("path", mirror), path, ok, back)
}

func TestTreeOfOneNode(t *testing.T) {
	checkDegrees(t, []int{0})
	checkForest(t, []int{0})
	path, ok := impl.PathOfTree([]int{0})
	wantValue(t, "path of one node", path, ok, "")
	tree, ok := impl.TreeOfPath("")
	wantList(t, "tree without steps", tree, ok, []int{0})
	rank, ok := impl.RankOfTree([]int{0})
	wantValue(t, "rank of one node", rank, ok, 0)
	trees, ok := impl.AllTrees(1)
	wantLists(t, "trees of one node", trees, ok, [][]int{{0}})
}

// TestTreesOfPaths goes through all paths, those of no tree with them.
func TestTreesOfPaths(t *testing.T) {
	for _, path := range append(somePaths(), pathsUpTo(12)...) {
		good, _ := impl.IsGood(path)
		closed, _ := impl.IsClosedPath(path)
		tree, ok := impl.TreeOfPath(path)
		if !good || !closed || len(path) > 2*(impl.MaxNodes-1) {
			wantListFailure(t, "tree of "+path, tree, ok)
			continue
		}
		wantValue(t, "nodes of "+path, len(tree), ok, len(path)/2+1)
		again, ok := impl.PathOfTree(tree)
		wantValue(t, "path of the tree of "+path, again, ok, path)
	}
}

// TestLargestTreesOfPaths checks paths of MaxNodes nodes, and of one more.
func TestLargestTreesOfPaths(t *testing.T) {
	most := impl.MaxNodes - 1
	tree, ok := impl.TreeOfPath(steps("UD", most))
	wantList(t, "tree of peaks", tree, ok, append([]int{most}, make([]int, most)...))
	tree, ok = impl.TreeOfPath(steps("U", most) + steps("D", most))
	wantList(t, "tree of one peak", tree, ok, append(slices.Repeat([]int{1}, most), 0))
	for pairs := most + 1; 2*pairs <= impl.MaxPath; pairs++ {
		tree, ok = impl.TreeOfPath(steps("UD", pairs))
		wantListFailure(t, about("tree of peaks", pairs), tree, ok)
		tree, ok = impl.TreeOfPath(steps("U", pairs) + steps("D", pairs))
		wantListFailure(t, about("tree of one peak", pairs), tree, ok)
	}
}

// countsIn returns how many numbers of a list are 0, 1, .., up to its length.
func countsIn(list []int) []int {
	counts := make([]int, len(list)+1)
	for _, n := range list {
		counts[n]++
	}
	return counts
}

// TestCounts counts the forests of all counts of few nodes, with and without zeros at the end.
func TestCounts(t *testing.T) {
	for n := 1; n <= 5; n++ {
		counted := map[string]int{}
		first := map[string][]int{}
		eachForest(n, func(list []int) {
			key := aboutList("", countsIn(list))
			if counted[key] == 0 {
				first[key] = list
			}
			counted[key]++
		})
		eachList(n+1, n, func(counts []int) {
			if sumOf(counts) != n {
				return
			}
			key := aboutList("", counts)
			checkCounts(t, counts, counted[key], first[key])
			checkCounts(t, append(counts, make([]int, impl.MaxNodes-n)...), counted[key], first[key])
			for counts[len(counts)-1] == 0 {
				counts = counts[:len(counts)-1]
			}
			checkCounts(t, counts, counted[key], first[key])
		})
	}
}

func checkCounts(t *testing.T, counts []int, want int, wantFirst []int) {
	t.Helper()
	count, ok := impl.CountForests(counts)
	wantValue(t, aboutList("count", counts), count, ok, want)
	first, ok := impl.FirstForest(counts)
	if want == 0 {
		wantListFailure(t, aboutList("first", counts), first, ok)
	} else {
		wantList(t, aboutList("first", counts), first, ok, wantFirst)
	}
}

// endings counts how the degrees left can follow when so many nodes are awaited.
func endings(left []int, awaited int, known map[string]int) int {
	if awaited < 1 || sumOf(left) == 0 {
		if awaited == 0 && sumOf(left) == 0 {
			return 1
		}
		return 0
	}
	key := aboutList("", left, awaited)
	if count, ok := known[key]; ok {
		return count
	}
	count := 0
	for degree := range left {
		count += endingsWith(left, awaited, degree, known)
	}
	known[key] = count
	return count
}

// endingsWith counts those that begin with a degree.
func endingsWith(left []int, awaited, degree int, known map[string]int) int {
	if left[degree] == 0 {
		return 0
	}
	rest := slices.Clone(left)
	rest[degree]--
	return endings(rest, awaited+degree-1, known)
}

// firstBySearch takes each time the least degree that others can follow.
func firstBySearch(counts []int, awaited int, known map[string]int) []int {
	left := slices.Clone(counts)
	var list []int
	for sumOf(left) > 0 {
		degree := 0
		for endingsWith(left, awaited, degree, known) == 0 {
			degree++
		}
		left[degree]--
		awaited += degree - 1
		list = append(list, degree)
	}
	return list
}

// TestLargestCounts counts forests of MaxNodes nodes by their first numbers.
func TestLargestCounts(t *testing.T) {
	for _, counts := range [][]int{
		{8, 4, 3, 1}, {7, 6, 2, 1}, {10, 1, 3, 0, 2}, {9, 0, 7}, {1, 15}, {15, 1}, {10, 2, 2, 1, 0, 1}, {11, 3, 0, 0, 1, 1}, {12, 2, 1, 0, 0, 1},
	} {
		awaited := 0
		for degree, count := range counts {
			awaited += count * (1 - degree)
		}
		known := map[string]int{}
		checkCounts(t, counts, endings(counts, awaited, known), firstBySearch(counts, awaited, known))
	}
}

func TestKnownCounts(t *testing.T) {
	zeros := make([]int, impl.MaxNodes)
	star := slices.Concat([]int{15}, zeros[:14], []int{1})
	known := []struct {
		counts []int
		count  int
		first  []int
	}{
		{[]int{1}, 1, []int{0}},
		{[]int{impl.MaxNodes}, 1, zeros},
		{[]int{1, 15}, 1, append(slices.Repeat([]int{1}, 15), 0)},
		{star, 1, append([]int{15}, zeros[:15]...)},
		{append(slices.Clone(star), 0), 1, append([]int{15}, zeros[:15]...)},
		{[]int{9, 0, 7}, 1430, []int{0, 2, 0, 2, 0, 2, 0, 2, 0, 2, 0, 2, 0, 2, 0, 0}},
		{[]int{8, 0, 7}, 429, []int{2, 0, 2, 0, 2, 0, 2, 0, 2, 0, 2, 0, 2, 0, 0}},
		{[]int{8, 0, 8}, 0, nil},
		{[]int{0, 1}, 0, nil},
		{[]int{0, impl.MaxNodes}, 0, nil},
		{[]int{1, 0, 1}, 0, nil},
		{append(slices.Clone(zeros), 1), 0, nil},
		{append(slices.Clone(zeros), impl.MaxNodes), 0, nil},
		{slices.Concat([]int{15}, zeros[:15], []int{1}), 0, nil},
	}
	for _, k := range known {
		checkCounts(t, k.counts, k.count, k.first)
	}
}

// TestAllTrees holds the lists and ranks of trees against all lists gone through.
func TestAllTrees(t *testing.T) {
	for n, want := range []int{0, 1, 1, 2, 5, 14, 42, 132} {
		if n == 0 {
			continue
		}
		var found [][]int
		eachForest(n, func(list []int) {
			if sumOf(list) == n-1 {
				found = append(found, list)
			}
		})
		trees, ok := impl.AllTrees(n)
		wantLists(t, about("all trees", n), trees, ok, found)
		wantValue(t, about("number of trees", n), len(trees), ok, want)
		for i, tree := range trees {
			rank, ok := impl.RankOfTree(tree)
			wantValue(t, aboutList("rank", tree), rank, ok, i)
		}
	}
}

// treesBehind counts by its first number how so many nodes can follow when so many are awaited.
func treesBehind() [impl.MaxNodes + 1][2*impl.MaxNodes + 1]int {
	var counts [impl.MaxNodes + 1][2*impl.MaxNodes + 1]int
	counts[0][0] = 1
	for nodes := 1; nodes <= impl.MaxNodes; nodes++ {
		for awaited := 1; awaited <= impl.MaxNodes; awaited++ {
			for degree := range impl.MaxNodes {
				counts[nodes][awaited] += counts[nodes-1][awaited-1+degree]
			}
		}
	}
	return counts
}

func TestRanksOfLargestTrees(t *testing.T) {
	counts := treesBehind()
	for _, tree := range largeForests() {
		rank, ok := impl.RankOfTree(tree)
		if sumOf(tree) != impl.MaxNodes-1 {
			wantFailure(t, aboutList("rank", tree), rank, ok)
			continue
		}
		want, awaited := 0, 1
		for i, degree := range tree {
			for less := range degree {
				if awaited-1+less >= 0 {
					want += counts[impl.MaxNodes-1-i][awaited-1+less]
				}
			}
			awaited += degree - 1
		}
		wantValue(t, aboutList("rank", tree), rank, ok, want)
	}
	for n := 2; n <= impl.MaxNodes; n++ {
		rank, ok := impl.RankOfTree(append(slices.Repeat([]int{1}, n-1), 0))
		wantValue(t, about("rank of the first tree", n), rank, ok, 0)
		rank, ok = impl.RankOfTree(append([]int{n - 1}, make([]int, n-1)...))
		wantValue(t, about("rank of the last tree", n), rank, ok, counts[n][1]-1)
	}
}

// rotationsByRatio returns the indexes from which on a path has more U than k times as many D in each beginning.
func rotationsByRatio(path string, k int) []int {
	var rotations []int
	for i := range path {
		if leadsAtLeast(path[i:]+path[:i], k, 1) {
			rotations = append(rotations, i)
		}
	}
	return rotations
}

func checkRatio(t *testing.T, path string, k int) {
	t.Helper()
	rotations, ok := impl.RatioRotations(path, k)
	wantList(t, about("rotations of "+path, k), rotations, ok, rotationsByRatio(path, k))
	wantValue(t, about("number of rotations of "+path, k), len(rotations), ok, max(leadAt(path, len(path), k), 0))
}

func TestRatioRotations(t *testing.T) {
	for _, path := range pathsUpTo(9) {
		for k := range 6 {
			checkRatio(t, path, k)
		}
		checkRatio(t, path, 40)
	}
	for _, path := range somePaths() {
		for k := range 41 {
			checkRatio(t, path, k)
		}
	}
	rotations, ok := impl.RatioRotations("UDDUU", 0)
	wantList(t, "rotations without a ratio", rotations, ok, []int{0, 3, 4})
}

// TestRatioRotationsOfLongestPaths moves one or more D through paths of MaxPath steps.
func TestRatioRotationsOfLongestPaths(t *testing.T) {
	for at := range impl.MaxPath {
		path := steps("U", at) + "D" + steps("U", impl.MaxPath-1-at)
		for _, k := range []int{0, 1, 2, 37, 38, 39, 40} {
			checkRatio(t, path, k)
		}
	}
	for _, path := range []string{steps("UUUD", 10), steps("UUUDU", 8), steps("UUDUUUUDUU", 4), steps("DU", 20)} {
		for k := range 41 {
			checkRatio(t, path, k)
		}
	}
	for k := range 41 {
		rotations, ok := impl.RatioRotations("", k)
		wantList(t, about("rotations without steps", k), rotations, ok, nil)
	}
}
