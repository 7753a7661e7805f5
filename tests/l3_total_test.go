package tests

import (
	"math"
	"slices"
	"testing"

	"loop.example/g01218/impl"
)

// noDegrees are lists that are no degrees: none or too many numbers, and numbers outside 0..MaxNodes.
func noDegrees() [][]int {
	lists := [][]int{
		nil, {}, make([]int, impl.MaxNodes+1), make([]int, 10000),
		append(slices.Repeat([]int{1}, impl.MaxNodes), 0), {math.MaxInt, math.MaxInt, 3}, {math.MinInt, math.MinInt, 1},
	}
	for _, bad := range []int{math.MinInt, -impl.MaxNodes, -1, impl.MaxNodes + 1, 1 << 32, math.MaxInt} {
		lists = append(lists, []int{bad}, []int{bad, 0, 0}, []int{1, bad, 0}, []int{1, 0, bad})
	}
	return lists
}

// noForests are degrees that are no forest.
func noForests() [][]int {
	lists := [][]int{
		append([]int{0, impl.MaxNodes - 1}, make([]int, impl.MaxNodes-2)...),
		append([]int{impl.MaxNodes}, make([]int, impl.MaxNodes-1)...),
		append(make([]int, impl.MaxNodes-1), 1),
		slices.Repeat([]int{impl.MaxNodes}, impl.MaxNodes),
	}
	for n := 1; n <= 5; n++ {
		eachList(n, 4, func(list []int) {
			if !forestByName(list) {
				lists = append(lists, list)
			}
		})
	}
	return lists
}

// noCounts are lists that are no counts: too many numbers, numbers less than 0, and too few or too many nodes.
func noCounts() [][]int {
	lists := [][]int{
		nil, {}, {0}, {0, 0, 0}, make([]int, impl.MaxNodes+1),
		append([]int{1}, make([]int, impl.MaxNodes+1)...), append([]int{1}, make([]int, 10000)...),
		{impl.MaxNodes + 1}, {impl.MaxNodes, 1}, {0, impl.MaxNodes + 1}, {1, impl.MaxNodes}, {8, 4, 3, 2},
		slices.Repeat([]int{1}, impl.MaxNodes+1),
		{math.MaxInt, math.MaxInt, 3}, {1 << 62, 1 << 62, 1 << 62, 1 << 62, 1}, {2, 1 << 62, 1 << 62, 1 << 62, 1 << 62},
		{2, math.MaxInt, math.MaxInt, 3}, {math.MaxInt, math.MaxInt, 4},
	}
	for _, bad := range []int{math.MinInt, -impl.MaxNodes, -1, 1 << 32, math.MaxInt} {
		lists = append(lists, []int{bad}, []int{bad, 3}, []int{3, bad}, []int{3, 1, bad}, []int{3, bad, 1})
	}
	return lists
}

// failDegrees wants all functions that require degrees, and no more, to fail.
func failDegrees(t *testing.T, list []int) {
	t.Helper()
	if impl.IsDegrees(list) {
		t.Errorf("%s are some", aboutList("degrees", list))
	}
	excess, ok := impl.ExcessOf(list)
	wantFailure(t, aboutList("ExcessOf", list), excess, ok)
	forest, ok := impl.IsForest(list)
	wantFailure(t, aboutList("IsForest", list), forest, ok)
	rotations, ok := impl.GoodRotations(list)
	wantListFailure(t, aboutList("GoodRotations", list), rotations, ok)
	for _, k := range append(someNumbers(), len(list)-1, len(list)) {
		rotated, ok := impl.RotateList(list, k)
		wantListFailure(t, aboutList("RotateList", list, k), rotated, ok)
	}
}

// failForest wants all functions that require a forest to fail.
func failForest(t *testing.T, list []int) {
	t.Helper()
	trees, ok := impl.TreesOf(list)
	wantListFailure(t, aboutList("TreesOf", list), trees, ok)
	parents, ok := impl.ParentsOf(list)
	wantListFailure(t, aboutList("ParentsOf", list), parents, ok)
	depths, ok := impl.DepthsOf(list)
	wantListFailure(t, aboutList("DepthsOf", list), depths, ok)
	mirror, ok := impl.MirrorForest(list)
	wantListFailure(t, aboutList("MirrorForest", list), mirror, ok)
}

// failTree wants all functions that require a tree to fail.
func failTree(t *testing.T, list []int) {
	t.Helper()
	path, ok := impl.PathOfTree(list)
	wantFailure(t, aboutList("PathOfTree", list), path, ok)
	rank, ok := impl.RankOfTree(list)
	wantFailure(t, aboutList("RankOfTree", list), rank, ok)
}

func TestListsThatAreNoDegreesFail(t *testing.T) {
	for _, list := range noDegrees() {
		failDegrees(t, list)
		failForest(t, list)
		failTree(t, list)
	}
}

func TestDegreesThatAreNoForestFail(t *testing.T) {
	for _, list := range noForests() {
		forest, ok := impl.IsForest(list)
		wantValue(t, aboutList("IsForest", list), forest, ok, false)
		failForest(t, list)
		failTree(t, list)
	}
}

func TestForestsThatAreNoTreeFail(t *testing.T) {
	for n := 2; n <= 6; n++ {
		eachForest(n, func(list []int) {
			if sumOf(list) < n-1 {
				failTree(t, list)
			}
		})
	}
	failTree(t, make([]int, impl.MaxNodes))
}

func TestListsThatAreNoCountsFail(t *testing.T) {
	for _, counts := range noCounts() {
		count, ok := impl.CountForests(counts)
		wantFailure(t, aboutList("CountForests", counts), count, ok)
		first, ok := impl.FirstForest(counts)
		wantListFailure(t, aboutList("FirstForest", counts), first, ok)
	}
}

// TestNumbersOfRotations checks that k is in 0 up to one less than the numbers.
func TestNumbersOfRotations(t *testing.T) {
	for _, list := range append(largeForests()[:9], []int{0}, []int{2, 0}, []int{16, 16, 16}) {
		for _, k := range append(someNumbers(), len(list)-1, len(list), len(list)+1, -len(list)) {
			rotated, ok := impl.RotateList(list, k)
			if k < 0 || k >= len(list) {
				wantListFailure(t, aboutList("RotateList", list, k), rotated, ok)
			} else {
				wantList(t, aboutList("RotateList", list, k), rotated, ok, turned(list, k))
			}
		}
	}
}

func TestPathsOfNoTreeFail(t *testing.T) {
	for _, path := range append(noPaths(), "U", "D", "DU", "UDDU", "UUD", "UDU", "UDD", "DUUD", steps("UD", 16), steps("UD", 20)) {
		tree, ok := impl.TreeOfPath(path)
		wantListFailure(t, "TreeOfPath "+path, tree, ok)
	}
}

func TestRatiosThatThereAreNoneOf(t *testing.T) {
	for _, path := range noPaths() {
		for _, k := range someNumbers() {
			rotations, ok := impl.RatioRotations(path, k)
			wantListFailure(t, about("RatioRotations "+path, k), rotations, ok)
		}
	}
	for _, path := range somePaths() {
		for _, k := range append(someNumbers(), -impl.MaxPath, 39, 40, 41) {
			rotations, ok := impl.RatioRotations(path, k)
			if k < 0 || k > 40 {
				wantListFailure(t, about("RatioRotations "+path, k), rotations, ok)
			} else if !ok {
				t.Errorf("%s fails", about("RatioRotations "+path, k))
			}
		}
	}
}

// TestNumbersOfNodes checks that the number of nodes of AllTrees is in 1..7.
func TestNumbersOfNodes(t *testing.T) {
	for _, n := range append(someNumbers(), 6, 7, 8, 9, impl.MaxNodes) {
		trees, ok := impl.AllTrees(n)
		if n < 1 || n > 7 {
			wantListFailure(t, about("AllTrees", n), trees, ok)
		} else if !ok {
			t.Errorf("%s fails", about("AllTrees", n))
		}
	}
}

type cycleCall struct {
	name string
	call func([]int) ([]int, bool)
}

// cycleCalls are the functions from a list to a list.
func cycleCalls() []cycleCall {
	calls := []cycleCall{
		{"GoodRotations", impl.GoodRotations}, {"ParentsOf", impl.ParentsOf}, {"DepthsOf", impl.DepthsOf},
		{"MirrorForest", impl.MirrorForest}, {"FirstForest", impl.FirstForest},
	}
	for k := range 5 {
		calls = append(calls, cycleCall{about("RotateList", k), func(list []int) ([]int, bool) {
			return impl.RotateList(list, k)
		}})
	}
	return calls
}

// cycleLists are lists of all kinds.
func cycleLists() [][]int {
	return slices.Concat(noDegrees(), noCounts(), noForests()[:100], largeForests()[:40],
		[][]int{{0}, {1, 0}, {2, 0, 0}, {2, 1}, {2, 1, 0, 0}, {0, 2, 1, 0, 0}, {4, 2, 1, 0, 0}})
}

// roomy returns a copy of a list with numbers behind its length.
func roomy(list []int) []int {
	room := append(slices.Clone(list), 0, 0, 1, 0, 0, 0, 5, 0)
	return room[:len(list)]
}

// wantRoomy wants a list of roomy, and the numbers behind it, to be as they were.
func wantRoomy(t *testing.T, what string, got, list []int) {
	t.Helper()
	want := roomy(list)
	if !slices.Equal(got, list) || !slices.Equal(got[:len(list)+8], want[:len(list)+8]) {
		t.Errorf("%s changes its argument: %v", what, got[:len(list)+8])
	}
}

// overwrite fills a list up to its capacity.
func overwrite(list []int) {
	all := list[:cap(list)]
	for i := range all {
		all[i] = 77
	}
}

// wantNoSharing overwrites a result, and holds the argument and later results against earlier ones.
func wantNoSharing(t *testing.T, f cycleCall, list []int) {
	t.Helper()
	argument := roomy(list)
	want, wantOK := f.call(slices.Clone(list))
	got, ok := f.call(argument)
	other, _ := f.call(argument)
	overwrite(got)
	wantRoomy(t, aboutList(f.name, list), argument, list)
	third, _ := f.call(argument)
	if ok != wantOK || !slices.Equal(other, want) || !slices.Equal(third, want) {
		t.Errorf("%s: %v, %v, %v; want %v, %v", aboutList(f.name, list), other, third, ok, want, wantOK)
	}
}

func TestCyclesShareNoMemory(t *testing.T) {
	for _, f := range cycleCalls() {
		for _, list := range cycleLists() {
			wantNoSharing(t, f, list)
		}
	}
}

// wantApart overwrites one list of a result after the other, and wants those behind it as they were.
func wantApart(t *testing.T, what string, lists, want [][]int) {
	t.Helper()
	for i := range lists {
		if !slices.Equal(lists[i], want[i]) {
			t.Errorf("%s: %v; want %v", what, lists[i], want[i])
		}
		overwrite(lists[i])
	}
}

func reversed(lists [][]int) [][]int {
	lists = slices.Clone(lists)
	slices.Reverse(lists)
	return lists
}

func TestTreesShareNoMemory(t *testing.T) {
	for _, list := range cycleLists() {
		want, _ := impl.TreesOf(slices.Clone(list))
		argument := roomy(list)
		first, _ := impl.TreesOf(argument)
		second, _ := impl.TreesOf(argument)
		wantApart(t, aboutList("TreesOf", list), first, want)
		wantRoomy(t, aboutList("TreesOf", list), argument, list)
		wantApart(t, aboutList("TreesOf", list), reversed(second), reversed(want))
		wantRoomy(t, aboutList("TreesOf", list), argument, list)
	}
	for n := 1; n <= 7; n++ {
		want, _ := impl.AllTrees(n)
		first, _ := impl.AllTrees(n)
		second, _ := impl.AllTrees(n)
		wantApart(t, about("AllTrees", n), first, want)
		wantApart(t, about("AllTrees", n), reversed(second), reversed(want))
	}
}

// TestCyclesModifyNoList calls the functions whose results are no lists.
func TestCyclesModifyNoList(t *testing.T) {
	for _, list := range cycleLists() {
		argument := roomy(list)
		impl.IsDegrees(argument)
		impl.ExcessOf(argument)
		impl.IsForest(argument)
		impl.PathOfTree(argument)
		impl.CountForests(argument)
		impl.RankOfTree(argument)
		wantRoomy(t, aboutList("a function", list), argument, list)
	}
}

// TestCyclesOfPathsModifyNoPath also overwrites the results of the functions of a path.
func TestCyclesOfPathsModifyNoPath(t *testing.T) {
	for _, text := range append(somePaths(), noPaths()...) {
		path := freshText(text)
		for k := -1; k <= 3; k++ {
			want, _ := impl.RatioRotations(path, k)
			got, _ := impl.RatioRotations(path, k)
			overwrite(got)
			again, _ := impl.RatioRotations(path, k)
			if !slices.Equal(again, want) {
				t.Errorf("%s: %v; want %v", about("RatioRotations "+text, k), again, want)
			}
		}
		want, _ := impl.TreeOfPath(path)
		got, _ := impl.TreeOfPath(path)
		overwrite(got)
		again, _ := impl.TreeOfPath(path)
		if !slices.Equal(again, want) || path != text {
			t.Errorf("TreeOfPath %q: %v; want %v", text, again, want)
		}
	}
}
