package tests

import (
	"slices"
	"strings"
	"testing"

	"loop.example/g01218/impl"
)

// wallNumbers are numbers about the limits of heights, and far beyond them.
func wallNumbers() []int {
	return append(someNumbers(), -impl.MaxPath, 1-impl.MaxPath, -1<<32)
}

func areHeights(heights ...int) bool {
	return slices.Min(heights) >= -impl.MaxPath && slices.Max(heights) <= impl.MaxPath
}

// areSteps reports whether numbers of steps are at least 0, and at most MaxPath together.
func areSteps(ups, downs int) bool {
	return ups >= 0 && downs >= 0 && ups <= impl.MaxPath && downs <= impl.MaxPath && ups+downs <= impl.MaxPath
}

// areWalls reports whether heights are walls.
func areWalls(low, high int) bool {
	return areHeights(low, high) && low <= 0 && high >= 0
}

// wantSuccess wants a call to fail exactly where its arguments are not valid.
func wantSuccess(t *testing.T, what string, got int, gotOK, valid bool) {
	t.Helper()
	if !valid {
		wantFailure(t, what, got, gotOK)
	} else if !gotOK || got < 0 {
		t.Errorf("%s: %d, %v", what, got, gotOK)
	}
}

func TestMirrorsOfTextsThatAreNoPathFail(t *testing.T) {
	for _, text := range noPaths() {
		pair, ok := impl.PairOf(text)
		wantFailure(t, "PairOf "+text, pair, ok)
		for _, height := range wallNumbers() {
			failTouches(t, text, height)
			for _, high := range []int{0, 1, impl.MaxPath, impl.MaxPath + 1} {
				failWalls(t, text, height, high)
			}
		}
	}
}

// failTouches wants all functions of a path and a height to fail.
func failTouches(t *testing.T, path string, height int) {
	t.Helper()
	first, ok := impl.FirstAt(path, height)
	wantFailure(t, about("FirstAt "+path, height), first, ok)
	last, ok := impl.LastAt(path, height)
	wantFailure(t, about("LastAt "+path, height), last, ok)
	before, ok := impl.ReflectBefore(path, height)
	wantFailure(t, about("ReflectBefore "+path, height), before, ok)
	behind, ok := impl.ReflectBehind(path, height)
	wantFailure(t, about("ReflectBehind "+path, height), behind, ok)
}

// failWalls wants all functions of a path and walls to fail.
func failWalls(t *testing.T, path string, low, high int) {
	t.Helper()
	between, ok := impl.IsBetween(path, low, high)
	wantFailure(t, about("IsBetween "+path, low, high), between, ok)
	signs, ok := impl.TouchText(path, low, high)
	wantFailure(t, about("TouchText "+path, low, high), signs, ok)
}

// TestHeightsThatAreNotTouchedFail also takes heights beyond the limits.
func TestHeightsThatAreNotTouchedFail(t *testing.T) {
	for _, path := range append(somePaths(), pathsUpTo(4)...) {
		heights := heightsAlong(path)
		for _, height := range append(wallNumbers(), slices.Min(heights)-1, slices.Max(heights)+1) {
			if !slices.Contains(heights, height) {
				failTouches(t, path, height)
			}
		}
	}
}

// TestWallsOfPaths takes heights that are no walls: on the wrong side of 0, and beyond the limits.
func TestWallsOfPaths(t *testing.T) {
	for _, path := range append(somePaths(), pathsUpTo(3)...) {
		for _, low := range wallNumbers() {
			for _, high := range wallNumbers() {
				if !areWalls(low, high) {
					failWalls(t, path, low, high)
					continue
				}
				if _, ok := impl.IsBetween(path, low, high); !ok {
					t.Errorf("%s fails", about("IsBetween "+path, low, high))
				}
				if _, ok := impl.TouchText(path, low, high); ok == (low == high) {
					t.Errorf("%s: %v", about("TouchText "+path, low, high), ok)
				}
			}
		}
	}
}

// TestNumbersAtOneWall takes numbers of steps less than 0 and more than MaxPath
// together, and heights beyond the limits or on the wrong side of 0.
func TestNumbersAtOneWall(t *testing.T) {
	for _, ups := range wallNumbers() {
		for _, downs := range wallNumbers() {
			for _, height := range wallNumbers() {
				valid := areSteps(ups, downs) && areHeights(height)
				count, ok := impl.CountTouching(ups, downs, height)
				wantSuccess(t, about("CountTouching", ups, downs, height), count, ok, valid)
				count, ok = impl.CountAbove(ups, downs, height)
				wantSuccess(t, about("CountAbove", ups, downs, height), count, ok, valid && height <= 0)
				count, ok = impl.CountHighest(ups, downs, height)
				wantSuccess(t, about("CountHighest", ups, downs, height), count, ok, valid && height >= 0)
			}
		}
	}
}

// TestNumbersAtTwoWalls does so with two heights.
func TestNumbersAtTwoWalls(t *testing.T) {
	for _, ups := range wallNumbers() {
		for _, downs := range wallNumbers() {
			for _, low := range wallNumbers() {
				for _, high := range wallNumbers() {
					valid := areSteps(ups, downs) && areWalls(low, high)
					count, ok := impl.CountBetween(ups, downs, low, high)
					wantSuccess(t, about("CountBetween", ups, downs, low, high), count, ok, valid)
					paths, pathsOK := impl.AllBetween(ups, downs, low, high)
					wantSuccess(t, about("AllBetween", ups, downs, low, high), len(paths), pathsOK, valid && count <= impl.MaxWalls)
					if pathsOK && len(paths) != count {
						t.Errorf("%s: %d paths; want %d", about("AllBetween", ups, downs, low, high), len(paths), count)
					}
					count, ok = impl.CountBothTouched(ups, downs, low, high)
					wantSuccess(t, about("CountBothTouched", ups, downs, low, high), count, ok, valid)
				}
			}
		}
	}
}

// TestStepsOfPassages takes steps outside 0..MaxPath, or 1..MaxPath, and a height of 0.
func TestStepsOfPassages(t *testing.T) {
	for _, n := range wallNumbers() {
		for _, height := range wallNumbers() {
			count, ok := impl.CountFirstPassage(n, height)
			valid := n >= 1 && n <= impl.MaxPath && areHeights(height) && height != 0
			wantSuccess(t, about("CountFirstPassage", n, height), count, ok, valid)
		}
		counts, ok := impl.CountByHighest(n)
		if n < 0 || n > impl.MaxPath {
			wantListFailure(t, about("CountByHighest", n), counts, ok)
		} else if !ok || len(counts) != n+1 {
			t.Errorf("%s: %v, %v", about("CountByHighest", n), counts, ok)
		}
	}
}

// TestMirrorsOfNoSteps takes the path without steps, which is at the height 0 at first and at last.
func TestMirrorsOfNoSteps(t *testing.T) {
	first, ok := impl.FirstAt("", 0)
	wantValue(t, "FirstAt", first, ok, 0)
	last, ok := impl.LastAt("", 0)
	wantValue(t, "LastAt", last, ok, 0)
	path, ok := impl.ReflectBefore("", 0)
	wantValue(t, "ReflectBefore", path, ok, "")
	path, ok = impl.ReflectBehind("", 0)
	wantValue(t, "ReflectBehind", path, ok, "")
	between, ok := impl.IsBetween("", 0, 0)
	wantValue(t, "IsBetween", between, ok, true)
	count, ok := impl.CountTouching(0, 0, 0)
	wantValue(t, "CountTouching", count, ok, 1)
	count, ok = impl.CountTouching(0, 0, 1)
	wantValue(t, "CountTouching", count, ok, 0)
	count, ok = impl.CountAbove(0, 0, 0)
	wantValue(t, "CountAbove", count, ok, 1)
	count, ok = impl.CountHighest(0, 0, 0)
	wantValue(t, "CountHighest", count, ok, 1)
	count, ok = impl.CountBetween(0, 0, 0, 0)
	wantValue(t, "CountBetween", count, ok, 1)
	paths, ok := impl.AllBetween(0, 0, 0, 0)
	wantList(t, "AllBetween", paths, ok, []string{""})
	count, ok = impl.CountBothTouched(0, 0, 0, 0)
	wantValue(t, "CountBothTouched", count, ok, 1)
	signs, ok := impl.TouchText("", -1, 1)
	wantValue(t, "TouchText", signs, ok, "")
	signs, ok = impl.TouchText("", 0, 1)
	wantValue(t, "TouchText", signs, ok, "l")
	signs, ok = impl.TouchText("", -1, 0)
	wantValue(t, "TouchText", signs, ok, "h")
	pair, ok := impl.PairOf("")
	wantFailure(t, "PairOf", pair, ok)
	counts, ok := impl.CountByHighest(0)
	wantList(t, "CountByHighest", counts, ok, []int{1})
}

// wantOwnMemory wants a path not to lie in the memory of another one, at its beginning
// or anywhere else.
func wantOwnMemory(t *testing.T, what, got, path string) {
	t.Helper()
	// Go has all texts of one byte in one place.
	if len(got) == 1 {
		return
	}
	for i := range path {
		for j := range got {
			if sameMemory(got[j:], path[i:]) {
				t.Errorf("%s: shares memory", what)
				return
			}
		}
	}
}

func TestReflectedPathsAreNewMemory(t *testing.T) {
	for _, text := range append(somePaths(), pathsUpTo(6)...) {
		path := freshText(text)
		for _, height := range heightsAlong(path) {
			before, _ := impl.ReflectBefore(path, height)
			wantOwnMemory(t, about("ReflectBefore "+text, height), before, path)
			behind, _ := impl.ReflectBehind(path, height)
			wantOwnMemory(t, about("ReflectBehind "+text, height), behind, path)
			impl.FirstAt(path, height)
			impl.LastAt(path, height)
			impl.IsBetween(path, min(height, 0), max(height, 0))
			impl.TouchText(path, min(height, 0), max(height, 0))
		}
		pair, _ := impl.PairOf(path)
		wantOwnMemory(t, "PairOf "+text, pair, path)
		if path != text {
			t.Errorf("%q became %q", text, path)
		}
	}
}

// TestListsOfMirrorsAreNewMemory overwrites results, up to their capacity, and asks again.
func TestListsOfMirrorsAreNewMemory(t *testing.T) {
	for n := range impl.MaxPath + 1 {
		want, _ := impl.CountByHighest(n)
		got, _ := impl.CountByHighest(n)
		overwrite(got)
		again, ok := impl.CountByHighest(n)
		wantList(t, about("CountByHighest again", n), again, ok, want)
	}
	eachSteps(6, func(ups, downs int) {
		for low := -3; low <= 0; low++ {
			for high := range 4 {
				want, _ := impl.AllBetween(ups, downs, low, high)
				got, _ := impl.AllBetween(ups, downs, low, high)
				for i := range got {
					for _, other := range got[:i] {
						wantOwnMemory(t, about("AllBetween", ups, downs, low, high), got[i], other)
					}
				}
				all := got[:cap(got)]
				for i := range all {
					all[i] = strings.Repeat("x", i)
				}
				again, ok := impl.AllBetween(ups, downs, low, high)
				wantList(t, about("AllBetween again", ups, downs, low, high), again, ok, want)
			}
		}
	})
}
