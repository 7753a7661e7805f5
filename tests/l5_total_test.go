package tests

import (
	"math"
	"slices"
	"testing"

	"loop.example/g01218/impl"
)

// noMixed are texts that are no mixed path: other letters, too many steps, and heights
// below 0 or at last not 0.
func noMixed() []string {
	return []string{
		"f", "u", "FfF", "UFd", "UxD", "U D", " ", "F\n", "\x00", "F\x00", "U\xffD", "Ü", "F-", "1",
		"U", "D", "UU", "DU", "FU", "FD", "UFF", "DFU", "UDDU", "UFDD", "UUFD", "DDUU", "UDFDU",
		steps("F", 13), steps("UD", 7), "U" + steps("F", 11) + "D", steps("U", 7) + steps("D", 7), steps("F", 100000), steps("UD", 50000),
		steps("U", 12), steps("D", 12), steps("DU", 6), steps("F", 11) + "U", steps("F", 12) + "x",
	}
}

// weightsWith returns a list of ones with one number in one place.
func weightsWith(size, at, number int) []int {
	list := slices.Repeat([]int{1}, size)
	list[at] = number
	return list
}

// noLevels are lists that are no levels: too few or too many weights, not as many in
// Flat as in Down, and weights outside what is told.
func noLevels() []impl.Levels {
	levels := []impl.Levels{
		{}, {Flat: []int{}, Down: []int{}}, {Flat: []int{1}}, {Down: []int{1}}, evenLevels(7, 1, 1), evenLevels(100, 0, 1),
		{Flat: []int{1, 1}, Down: []int{1}}, {Flat: []int{1}, Down: []int{1, 1}},
		{Flat: make([]int, 6), Down: []int{1, 1, 1, 1, 1}}, {Flat: make([]int, 7), Down: []int{1, 1, 1, 1, 1, 1}},
		{Flat: make([]int, 5), Down: []int{1, 1, 1, 1, 1, 1}}, {Flat: make([]int, 6), Down: []int{1, 1, 1, 1, 1, 1, 1}},
	}
	for size := 1; size <= 6; size++ {
		for at := range size {
			for _, bad := range []int{math.MinInt, -1 << 32, -6, 6, 1 << 32, math.MaxInt} {
				levels = append(levels, impl.Levels{Flat: weightsWith(size, at, bad), Down: weightsWith(size, 0, 1)})
				levels = append(levels, impl.Levels{Flat: weightsWith(size, 0, 1), Down: weightsWith(size, at, bad)})
			}
			for _, bad := range []int{0, -1, -5} {
				levels = append(levels, impl.Levels{Flat: weightsWith(size, 0, 1), Down: weightsWith(size, at, bad)})
			}
		}
	}
	return levels
}

// noMoments are lists that are no moments: none or too many numbers, and numbers of too great a size.
func noMoments() [][]int {
	lists := [][]int{nil, {}, make([]int, 9), make([]int, 10), weightsWith(9, 0, 1), weightsWith(10000, 0, 1), weightsWith(10001, 0, 1)}
	for length := 1; length <= 8; length++ {
		for at := range length {
			for _, bad := range []int{math.MinInt, math.MinInt + 1, -1 << 32, -1e9 - 1, 1e9 + 1, 1 << 32, math.MaxInt} {
				lists = append(lists, weightsWith(length, at, bad))
			}
		}
	}
	return lists
}

// kindNumbers are numbers about the limits of the chapter, and far beyond them.
func kindNumbers() []int {
	return append(someNumbers(), -10, -9, -8, 4, 5, 6, 7, 8, 9, 10, 11, impl.MaxKinds, impl.MaxKinds+1, -1<<32)
}

func TestTextsThatAreNoMixedPathFail(t *testing.T) {
	for _, text := range noMixed() {
		if impl.IsMixed(text) {
			t.Errorf("IsMixed %q", text)
		}
		path, ok := impl.PathOfMixed(text)
		wantFailure(t, "PathOfMixed "+text, path, ok)
		for _, l := range []impl.Levels{evenLevels(1, 1, 1), evenLevels(6, 0, 5), evenLevels(6, 5, 5), {}} {
			weight, ok := impl.WeightOf(l, text)
			wantFailure(t, aboutLevels("WeightOf "+text, l), weight, ok)
		}
	}
	for _, text := range append(noPaths(), "F", "UFD", "UDF", "FF") {
		mixed, ok := impl.MixedOfPath(text)
		wantFailure(t, "MixedOfPath "+text, mixed, ok)
	}
}

func TestListsThatAreNoLevelsFail(t *testing.T) {
	for _, l := range noLevels() {
		if impl.IsLevels(l) {
			t.Errorf("%s", aboutLevels("IsLevels", l))
		}
		for _, path := range []string{"", "F", "UD", "FUFD", "UFDD"} {
			weight, ok := impl.WeightOf(l, path)
			wantFailure(t, aboutLevels("WeightOf "+path, l), weight, ok)
		}
		for _, n := range []int{-1, 0, 1, 2, 3, 8, 9} {
			moments, ok := impl.MomentsOf(l, n)
			wantListFailure(t, aboutLevels("MomentsOf", l, n), moments, ok)
		}
	}
	for _, l := range someLevels() {
		if !impl.IsLevels(l) {
			t.Errorf("no %s", aboutLevels("IsLevels", l))
		}
	}
}

func TestListsThatAreNoMomentsFail(t *testing.T) {
	for _, moments := range noMoments() {
		for _, n := range kindNumbers() {
			hankel, ok := impl.HankelOf(moments, n)
			wantFailure(t, aboutList("HankelOf", moments, n), hankel, ok)
			shifted, ok := impl.ShiftMoments(moments, n)
			wantListFailure(t, aboutList("ShiftMoments", moments, n), shifted, ok)
		}
		downs, ok := impl.DownsOf(moments)
		wantListFailure(t, aboutList("DownsOf", moments), downs, ok)
		levels, ok := impl.LevelsOf(moments)
		wantLevelsFailure(t, aboutList("LevelsOf", moments), levels, ok)
	}
}

// TestNumbersOfKinds takes numbers of steps and of colours outside what is told.
func TestNumbersOfKinds(t *testing.T) {
	colors := func(n int) bool { return n >= 0 && n <= 9 }
	for _, n := range kindNumbers() {
		valid := n >= 0 && n <= impl.MaxKinds
		count, ok := impl.CountNoFloor(n)
		wantSuccess(t, about("CountNoFloor", n), count, ok, valid)
		paths, ok := impl.AllMixed(n)
		wantSuccess(t, about("AllMixed", n), len(paths), ok, n >= 0 && n <= 6)
		count, ok = impl.CountSchroder(n)
		wantSuccess(t, about("CountSchroder", n), count, ok, n >= 0 && n <= 12)
		for _, a := range kindNumbers() {
			count, ok = impl.CountMixed(n, a)
			wantSuccess(t, about("CountMixed", n, a), count, ok, valid && colors(a))
			count, ok = impl.CountDelannoy(n, a)
			wantSuccess(t, about("CountDelannoy", n, a), count, ok, n >= 0 && n <= 12 && a >= 0 && a <= 12)
			for _, b := range []int{-1, 0, 1, 9, 10, a} {
				for _, c := range []int{-1, 0, 1, 9, 10, a} {
					count, ok = impl.CountColors(n, a, b, c)
					wantSuccess(t, about("CountColors", n, a, b, c), count, ok, valid && colors(a) && colors(b) && colors(c))
				}
			}
		}
	}
}

// TestNumbersOfMoments takes numbers outside what is told for moments.
func TestNumbersOfMoments(t *testing.T) {
	for _, n := range kindNumbers() {
		for size := 1; size <= 6; size++ {
			moments, ok := impl.MomentsOf(evenLevels(size, 1, 1), n)
			valid := n >= 1 && n <= 8 && n <= 2*size
			wantSuccess(t, about("MomentsOf", size, n), len(moments), ok, valid)
			if valid && len(moments) != n {
				t.Errorf("%s: %v", about("MomentsOf", size, n), moments)
			}
		}
		for length := 1; length <= 8; length++ {
			moments := weightsWith(length, 0, 1)
			hankel, ok := impl.HankelOf(moments, n)
			wantSuccess(t, about("HankelOf", length, n), hankel, ok, n >= 0 && n <= 4 && 2*n-1 <= length)
			shifted, ok := impl.ShiftMoments(moments, n)
			if n < -9 || n > 9 {
				wantListFailure(t, about("ShiftMoments", length, n), shifted, ok)
			} else if !ok {
				t.Errorf("%s fails", about("ShiftMoments", length, n))
			}
		}
	}
}

// TestKindsOfNoSteps takes the path without steps, and n of 0.
func TestKindsOfNoSteps(t *testing.T) {
	if !impl.IsMixed("") {
		t.Error("IsMixed")
	}
	paths, ok := impl.AllMixed(0)
	wantList(t, "AllMixed", paths, ok, []string{""})
	weight, ok := impl.WeightOf(evenLevels(1, 0, 1), "")
	wantValue(t, "WeightOf", weight, ok, 1)
	moments, ok := impl.MomentsOf(evenLevels(1, 0, 5), 1)
	wantList(t, "MomentsOf", moments, ok, []int{1})
	path, ok := impl.PathOfMixed("")
	wantValue(t, "PathOfMixed", path, ok, "")
	mixed, ok := impl.MixedOfPath("")
	wantValue(t, "MixedOfPath", mixed, ok, "")
	hankel, ok := impl.HankelOf([]int{7}, 0)
	wantValue(t, "HankelOf", hankel, ok, 1)
	for colors := range 10 {
		count, ok := impl.CountMixed(0, colors)
		wantValue(t, about("CountMixed", 0, colors), count, ok, 1)
		count, ok = impl.CountColors(0, colors, 0, 9)
		wantValue(t, about("CountColors", 0, colors, 0, 9), count, ok, 1)
	}
	for n := range 13 {
		count, ok := impl.CountDelannoy(n, 0)
		wantValue(t, about("CountDelannoy", n, 0), count, ok, 1)
		count, ok = impl.CountDelannoy(0, n)
		wantValue(t, about("CountDelannoy", 0, n), count, ok, 1)
	}
}

// TestLevelsAreNotModified also holds the numbers behind the lists against those before.
func TestLevelsAreNotModified(t *testing.T) {
	for _, l := range append(someLevels(), noLevels()...) {
		argument := impl.Levels{Flat: roomy(l.Flat), Down: roomy(l.Down)}
		impl.IsLevels(argument)
		for _, path := range []string{"", "F", "UFD", "UUFDDF", "UUUUUUDDDDDD", "FD"} {
			impl.WeightOf(argument, path)
		}
		for n := range 10 {
			want, wantOK := impl.MomentsOf(l, n)
			got, _ := impl.MomentsOf(argument, n)
			overwrite(got)
			again, ok := impl.MomentsOf(argument, n)
			if ok != wantOK || !slices.Equal(again, want) {
				t.Errorf("%s: %v, %v; want %v", aboutLevels("MomentsOf again", l, n), again, ok, want)
			}
		}
		wantRoomy(t, aboutLevels("Flat in a function", l), argument.Flat, l.Flat)
		wantRoomy(t, aboutLevels("Down in a function", l), argument.Down, l.Down)
	}
}

// momentCalls are the functions from moments to a list.
func momentCalls() []cycleCall {
	calls := []cycleCall{{"DownsOf", impl.DownsOf}}
	for _, k := range []int{-9, -1, 0, 1, 9, 10} {
		calls = append(calls, cycleCall{about("ShiftMoments", k), func(moments []int) ([]int, bool) {
			return impl.ShiftMoments(moments, k)
		}})
	}
	return calls
}

// momentArguments are moments of levels, others, and lists that are none.
func momentArguments() [][]int {
	lists := slices.Concat(noMoments(), momentLists(3, 10), momentLists(1e9, 3))
	for _, l := range someLevels() {
		for n := 1; n <= min(8, 2*len(l.Flat)); n++ {
			moments, _ := impl.MomentsOf(l, n)
			lists = append(lists, moments)
		}
	}
	return lists
}

func TestMomentsShareNoMemory(t *testing.T) {
	for _, list := range momentArguments() {
		for _, f := range momentCalls() {
			wantNoSharing(t, f, list)
		}
		argument := roomy(list)
		for n := range 6 {
			impl.HankelOf(argument, n)
		}
		wantRoomy(t, aboutList("HankelOf", list), argument, list)
	}
}

// TestFoundLevelsShareNoMemory overwrites one list of LevelsOf after the other.
func TestFoundLevelsShareNoMemory(t *testing.T) {
	for _, list := range momentArguments() {
		want, _ := impl.LevelsOf(slices.Clone(list))
		argument := roomy(list)
		first, _ := impl.LevelsOf(argument)
		second, _ := impl.LevelsOf(argument)
		wantApart(t, aboutList("LevelsOf", list), [][]int{first.Flat, first.Down}, [][]int{want.Flat, want.Down})
		wantApart(t, aboutList("LevelsOf", list), [][]int{second.Down, second.Flat}, [][]int{want.Down, want.Flat})
		wantRoomy(t, aboutList("LevelsOf", list), argument, list)
		third, _ := impl.LevelsOf(argument)
		if !sameLevels(third, want) {
			t.Errorf("%s: %v; want %v", aboutList("LevelsOf again", list), third, want)
		}
	}
}

func TestMixedPathsAreNewMemory(t *testing.T) {
	for n := range 7 {
		want, _ := impl.AllMixed(n)
		got, _ := impl.AllMixed(n)
		for i := range got {
			for _, other := range got[:i] {
				wantOwnMemory(t, about("AllMixed", n), got[i], other)
			}
		}
		all := got[:cap(got)]
		for i := range all {
			all[i] = "x"
		}
		again, ok := impl.AllMixed(n)
		wantList(t, about("AllMixed again", n), again, ok, want)
	}
	for _, text := range slices.Concat(mixedUpTo(6), longMixed(), noMixed()) {
		mixed := freshText(text)
		impl.IsMixed(mixed)
		impl.WeightOf(evenLevels(2, 3, 4), mixed)
		path, _ := impl.PathOfMixed(mixed)
		wantOwnMemory(t, "PathOfMixed "+text, path, mixed)
		again, _ := impl.MixedOfPath(path)
		wantOwnMemory(t, "MixedOfPath "+path, again, path)
		if mixed != text {
			t.Errorf("%q became %q", text, mixed)
		}
	}
}
