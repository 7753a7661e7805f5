package tests

import (
	"math/big"
	"slices"
	"strings"
	"testing"

	"loop.example/g01218/impl"
)

// textsOf returns all texts of n of the letters D, F and U, in order.
func textsOf(n int) []string {
	if n == 0 {
		return []string{""}
	}
	var texts []string
	for _, first := range []string{"D", "F", "U"} {
		for _, rest := range textsOf(n - 1) {
			texts = append(texts, first+rest)
		}
	}
	return texts
}

// mixedByName reports whether a text of the letters D, F and U ends at the height 0 and never comes below it.
func mixedByName(text string) bool {
	heights := heightsAlong(text)
	return slices.Min(heights) == 0 && heights[len(text)] == 0
}

// mixedOf returns all mixed paths of n steps in order: such a path is without steps,
// begins with an F, or with a part that goes up, on as a mixed path, and down.
func mixedOf(n int) []string {
	if n == 0 {
		return []string{""}
	}
	var paths []string
	for _, rest := range mixedOf(n - 1) {
		paths = append(paths, "F"+rest)
	}
	for i := range n - 1 {
		for _, inside := range mixedOf(i) {
			for _, rest := range mixedOf(n - 2 - i) {
				paths = append(paths, "U"+inside+"D"+rest)
			}
		}
	}
	slices.Sort(paths)
	return paths
}

// mixedUpTo returns all mixed paths of 0 to n steps.
func mixedUpTo(n int) []string {
	var paths []string
	for i := range n + 1 {
		paths = append(paths, mixedOf(i)...)
	}
	return paths
}

// longMixed are mixed paths of MaxKinds steps.
func longMixed() []string {
	return []string{
		steps("F", 12), steps("UD", 6), steps("U", 6) + steps("D", 6), "U" + steps("F", 10) + "D",
		"UUUUU" + "FF" + "DDDDD", "FUFUFUDFDFDF", "UUUFDDUFUDDD", "FFFFFFFFFFUD", "UDFFFFFFFFFF",
	}
}

func power(base, exponent int) int {
	product := 1
	for range exponent {
		product *= base
	}
	return product
}

// aboutLevels tells of a call with levels.
func aboutLevels(what string, l impl.Levels, numbers ...int) string {
	return aboutList(aboutList(what, l.Flat), l.Down, numbers...)
}

// dice gives numbers that look thrown, the same ones each time.
type dice uint64

func (d *dice) from(least, most int) int {
	*d = *d*6364136223846793005 + 1442695040888963407
	return least + int(uint64(*d)>>33)%(most-least+1)
}

// thrownLevels returns levels with so many weights.
func (d *dice) thrownLevels(size int) impl.Levels {
	var l impl.Levels
	for range size {
		l.Flat = append(l.Flat, d.from(-impl.MaxWeight, impl.MaxWeight))
		l.Down = append(l.Down, d.from(1, impl.MaxWeight))
	}
	return l
}

// evenLevels returns levels with so many equal weights.
func evenLevels(size, flat, down int) impl.Levels {
	return impl.Levels{Flat: slices.Repeat([]int{flat}, size), Down: slices.Repeat([]int{down}, size)}
}

// someLevels are levels of all sizes, with the least and the greatest weights among
// them, and all levels of one weight.
func someLevels() []impl.Levels {
	var levels []impl.Levels
	thrown := dice(5)
	for size := 1; size <= 6; size++ {
		for _, flat := range []int{-impl.MaxWeight, -1, 0, 1, impl.MaxWeight} {
			for _, down := range []int{1, 2, impl.MaxWeight} {
				levels = append(levels, evenLevels(size, flat, down))
			}
		}
		for range 30 {
			levels = append(levels, thrown.thrownLevels(size))
		}
	}
	for flat := -impl.MaxWeight; flat <= impl.MaxWeight; flat++ {
		for down := 1; down <= impl.MaxWeight; down++ {
			levels = append(levels, evenLevels(1, flat, down))
		}
	}
	return levels
}

// weightByHeights returns the weight of a mixed path. It fails if a step is beyond the lists.
func weightByHeights(l impl.Levels, path string) (int, bool) {
	product := 1
	for i, step := range path {
		height := heightAt(path, i)
		switch {
		case step == 'F' && height >= len(l.Flat), step == 'D' && height > len(l.Down):
			return 0, false
		case step == 'F':
			product *= l.Flat[height]
		case step == 'D':
			product *= l.Down[height-1]
		}
	}
	return product, true
}

// momentsOfPaths returns the moments of 0, .., n - 1 as sums over lists of paths.
func momentsOfPaths(l impl.Levels, paths [][]string, n int) []int {
	moments := make([]int, n)
	for i := range moments {
		for _, path := range paths[i] {
			weight, _ := weightByHeights(l, path)
			moments[i] += weight
		}
	}
	return moments
}

func listsOfMixed(n int) [][]string {
	var lists [][]string
	for i := range n + 1 {
		lists = append(lists, mixedOf(i))
	}
	return lists
}

func isSmall(most int, list []int) bool {
	return slices.Min(list) >= -most && slices.Max(list) <= most
}

func TestKnownKinds(t *testing.T) {
	paths, ok := impl.AllMixed(3)
	wantList(t, "AllMixed 3", paths, ok, []string{"FFF", "FUD", "UDF", "UFD"})
	moments, ok := impl.MomentsOf(evenLevels(2, 1, 1), 4)
	wantList(t, "moments of ones", moments, ok, []int{1, 1, 2, 4})
	hankel, ok := impl.HankelOf(moments, 2)
	wantValue(t, "HankelOf", hankel, ok, 1)
	moments, ok = impl.MomentsOf(impl.Levels{Flat: []int{0, 0}, Down: []int{2, 1}}, 4)
	wantList(t, "moments", moments, ok, []int{1, 0, 2, 0})
	downs, ok := impl.DownsOf([]int{1, 0, 2})
	wantList(t, "DownsOf", downs, ok, []int{2})
	levels, ok := impl.LevelsOf([]int{1, 0, 2, 0})
	wantLevels(t, "LevelsOf", levels, ok, impl.Levels{Flat: []int{0, 0}, Down: []int{2, 1}})
	shifted, ok := impl.ShiftMoments([]int{1, 0, 2, 0}, 1)
	wantList(t, "ShiftMoments", shifted, ok, []int{1, 1, 3, 7})
	weight, ok := impl.WeightOf(impl.Levels{Flat: []int{2, -3}, Down: []int{5, 4}}, "FUFUDFD")
	wantValue(t, "WeightOf", weight, ok, 2*-3*4*-3*5)
	path, ok := impl.PathOfMixed("FUFD")
	wantValue(t, "PathOfMixed", path, ok, "UDUUUDDD")
	mixed, ok := impl.MixedOfPath("UDUUUDDD")
	wantValue(t, "MixedOfPath", mixed, ok, "FUFD")
}

func TestKnownCountsOfKinds(t *testing.T) {
	for n, want := range []int{1, 1, 2, 4, 9, 21, 51, 127, 323, 835, 2188, 5798, 15511} {
		count, ok := impl.CountMixed(n, 1)
		wantValue(t, about("CountMixed", n, 1), count, ok, want)
	}
	for n, want := range []int{1, 0, 1, 1, 3, 6, 15, 36, 91, 232, 603, 1585, 4213} {
		count, ok := impl.CountNoFloor(n)
		wantValue(t, about("CountNoFloor", n), count, ok, want)
	}
	for n, want := range []int{1, 3, 13, 63, 321, 1683, 8989, 48639, 265729, 1462563, 8097453, 45046719, 251595969} {
		count, ok := impl.CountDelannoy(n, n)
		wantValue(t, about("CountDelannoy", n, n), count, ok, want)
	}
	for n, want := range []int{1, 2, 6, 22, 90, 394, 1806, 8558, 41586, 206098, 1037718, 5293446, 27297738} {
		count, ok := impl.CountSchroder(n)
		wantValue(t, about("CountSchroder", n), count, ok, want)
	}
}

// TestIsMixed goes through all texts of few steps, and takes some of as many as there may be.
func TestIsMixed(t *testing.T) {
	for n := range 10 {
		var found []string
		for _, text := range textsOf(n) {
			mixed := impl.IsMixed(text)
			if mixed != mixedByName(text) {
				t.Errorf("IsMixed %q: %v", text, mixed)
			}
			if mixed {
				found = append(found, text)
			}
		}
		wantList(t, about("mixed paths of steps", n), found, true, mixedOf(n))
	}
	for _, text := range append(longMixed(), mixedOf(impl.MaxKinds)...) {
		if !impl.IsMixed(text) || impl.IsMixed(text+"F") || impl.IsMixed("U"+text+"D") {
			t.Errorf("IsMixed %q, or with more steps", text)
		}
	}
}

func TestAllMixed(t *testing.T) {
	for n, count := range []int{1, 1, 2, 4, 9, 21, 51} {
		paths, ok := impl.AllMixed(n)
		wantList(t, about("AllMixed", n), paths, ok, slices.DeleteFunc(textsOf(n), func(text string) bool {
			return !mixedByName(text)
		}))
		if len(paths) != count {
			t.Errorf("%s: %d paths", about("AllMixed", n), len(paths))
		}
	}
}

// TestColorsAreCounted holds counts against lists of all mixed paths, with all numbers
// of colours.
func TestColorsAreCounted(t *testing.T) {
	for n := range impl.MaxKinds + 1 {
		withFlats := make([]int, n+1)
		floorless := 0
		for _, path := range mixedOf(n) {
			withFlats[strings.Count(path, "F")]++
			if !slices.ContainsFunc(heightsOfFlats(path), func(height int) bool { return height == 0 }) {
				floorless++
			}
		}
		count, ok := impl.CountNoFloor(n)
		wantValue(t, about("CountNoFloor", n), count, ok, floorless)
		for colors := range 1000 {
			ups, flats, downs := colors/100, colors/10%10, colors%10
			want := 0
			for f, paths := range withFlats {
				want += paths * power(flats, f) * power(ups*downs, (n-f)/2)
			}
			count, ok := impl.CountColors(n, ups, flats, downs)
			wantValue(t, about("CountColors", n, ups, flats, downs), count, ok, want)
			if ups == 1 && downs == 1 {
				count, ok = impl.CountMixed(n, flats)
				wantValue(t, about("CountMixed", n, flats), count, ok, want)
			}
		}
	}
}

// heightsOfFlats returns the heights of the steps F.
func heightsOfFlats(path string) []int {
	var heights []int
	for i, step := range path {
		if step == 'F' {
			heights = append(heights, heightAt(path, i))
		}
	}
	return heights
}

// TestNoColors leaves steps of one kind away.
func TestNoColors(t *testing.T) {
	for n := range impl.MaxKinds + 1 {
		closed := 0
		if n%2 == 0 {
			closed, _ = impl.CountNeverBehind(n/2, n/2, 1)
		}
		count, ok := impl.CountMixed(n, 0)
		wantValue(t, about("CountMixed", n, 0), count, ok, closed)
		for colors := range 10 {
			count, ok = impl.CountColors(n, 0, colors, 9)
			wantValue(t, about("CountColors", n, 0, colors, 9), count, ok, power(colors, n))
			count, ok = impl.CountColors(n, 9, colors, 0)
			wantValue(t, about("CountColors", n, 9, colors, 0), count, ok, power(colors, n))
		}
		more, _ := impl.CountNeverBehind(n+1, n+1, 1)
		count, ok = impl.CountMixed(n, 2)
		wantValue(t, about("CountMixed", n, 2), count, ok, more)
	}
}

// TestWeightOf takes paths with steps beyond the lists, too.
func TestWeightOf(t *testing.T) {
	paths := append(longMixed(), mixedUpTo(7)...)
	beyond := 0
	for _, l := range someLevels() {
		for _, path := range paths {
			want, has := weightByHeights(l, path)
			weight, ok := impl.WeightOf(l, path)
			if has {
				wantValue(t, aboutLevels("WeightOf "+path, l), weight, ok, want)
			} else {
				wantFailure(t, aboutLevels("WeightOf "+path, l), weight, ok)
				beyond++
			}
		}
	}
	if beyond == 0 {
		t.Error("no path has a step beyond the lists")
	}
}

// TestStepsBeyondTheLists also takes weights of 0: a path that has one and then a step
// beyond the lists has no weight at all.
func TestStepsBeyondTheLists(t *testing.T) {
	for size := 1; size <= 6; size++ {
		l := evenLevels(size, 0, impl.MaxWeight)
		weight, ok := impl.WeightOf(l, "")
		wantValue(t, aboutLevels("WeightOf", l), weight, ok, 1)
		weight, ok = impl.WeightOf(l, steps("U", size)+steps("D", size))
		wantValue(t, aboutLevels("WeightOf a path as high as the lists", l), weight, ok, power(impl.MaxWeight, size))
		if size == 6 {
			break
		}
		highest := steps("U", size+1) + steps("D", size+1)
		flat := steps("U", size) + "F" + steps("D", size)
		for _, path := range []string{highest, flat} {
			weight, ok = impl.WeightOf(l, path)
			wantFailure(t, aboutLevels("WeightOf "+path, l), weight, ok)
			if len(path) < impl.MaxKinds {
				weight, ok = impl.WeightOf(l, "F"+path)
				wantFailure(t, aboutLevels("WeightOf F"+path, l), weight, ok)
			}
		}
		lower := steps("U", size-1) + "F" + steps("D", size-1)
		weight, ok = impl.WeightOf(l, lower)
		wantValue(t, aboutLevels("WeightOf "+lower, l), weight, ok, 0)
	}
	for _, weight := range []int{-impl.MaxWeight, impl.MaxWeight} {
		product, ok := impl.WeightOf(evenLevels(1, weight, 1), steps("F", 11))
		wantValue(t, about("WeightOf 11 F", weight), product, ok, power(weight, 11))
		product, ok = impl.WeightOf(evenLevels(1, weight, 1), steps("F", 12))
		wantValue(t, about("WeightOf 12 F", weight), product, ok, power(weight, 12))
	}
}

// TestMomentsOf holds moments against sums over all mixed paths.
func TestMomentsOf(t *testing.T) {
	paths := listsOfMixed(7)
	for _, l := range someLevels() {
		for n := 1; n <= 14; n++ {
			moments, ok := impl.MomentsOf(l, n)
			if n > 8 || n > 2*len(l.Flat) {
				wantListFailure(t, aboutLevels("MomentsOf", l, n), moments, ok)
			} else {
				wantList(t, aboutLevels("MomentsOf", l, n), moments, ok, momentsOfPaths(l, paths, n))
			}
		}
	}
}

// determinantByOrders returns a Hankel determinant as the sum over all orders of the columns.
func determinantByOrders(moments []int, n int) int {
	sum := 0
	var choose func(columns []int, product int)
	choose = func(columns []int, product int) {
		row := len(columns)
		if row == n {
			sum += product
			return
		}
		for column := range n {
			if slices.Contains(columns, column) {
				continue
			}
			sign := 1
			for _, earlier := range columns {
				if earlier > column {
					sign = -sign
				}
			}
			choose(append(slices.Clone(columns), column), product*sign*moments[row+column])
		}
	}
	choose(nil, 1)
	return sum
}

// momentLists are lists of 1 to 8 numbers of a size of at most one.
func momentLists(most, each int) [][]int {
	var lists [][]int
	thrown := dice(most)
	for length := 1; length <= 8; length++ {
		lists = append(lists, slices.Repeat([]int{most}, length), slices.Repeat([]int{-most}, length), make([]int, length))
		for range each {
			list := make([]int, length)
			edges := make([]int, length)
			for i := range list {
				list[i] = thrown.from(-most, most)
				edges[i] = thrown.from(-1, 1) * most
			}
			lists = append(lists, list, edges)
		}
	}
	return lists
}

// TestHankelOf takes fewer moments than needed, just as many, and more.
func TestHankelOf(t *testing.T) {
	lists := slices.Concat(momentLists(2, 60), momentLists(20, 20), momentLists(10000, 60))
	lists = append(lists, []int{10000, 10000, -10000, 10000, -10000, -10000, 10000}, []int{0, 1, 0}, []int{1, 2, 4})
	signs := map[int]bool{}
	for _, moments := range lists {
		for n := range 5 {
			hankel, ok := impl.HankelOf(moments, n)
			if len(moments) < 2*n-1 {
				wantFailure(t, aboutList("HankelOf", moments, n), hankel, ok)
				continue
			}
			want := determinantByOrders(moments, n)
			wantValue(t, aboutList("HankelOf", moments, n), hankel, ok, want)
			signs[min(max(want, -1), 1)] = true
		}
	}
	if len(signs) != 3 {
		t.Errorf("determinants of the signs %v alone", signs)
	}
}

// TestMomentsTooGreatForHankel takes moments of a size beyond 10^4 anywhere in the list.
func TestMomentsTooGreatForHankel(t *testing.T) {
	for length := 1; length <= 8; length++ {
		for at := range length {
			for _, moment := range []int{-10001, -10000, 10000, 10001, 1e9, -1e9} {
				moments := make([]int, length)
				moments[at] = moment
				for n := range (length+1)/2 + 1 {
					hankel, ok := impl.HankelOf(moments, n)
					if isSmall(10000, moments) {
						wantValue(t, aboutList("HankelOf", moments, n), hankel, ok, determinantByOrders(moments, n))
					} else {
						wantFailure(t, aboutList("HankelOf", moments, n), hankel, ok)
					}
				}
			}
		}
	}
}

// TestHankelDeterminantsAreProductsOfWeights takes the moments of levels.
func TestHankelDeterminantsAreProductsOfWeights(t *testing.T) {
	held := [5]int{}
	for _, l := range someLevels() {
		for n := range min(len(l.Flat), 4) + 1 {
			moments, _ := impl.MomentsOf(l, max(1, 2*n-1))
			if !isSmall(10000, moments) {
				continue
			}
			want := 1
			for i := 0; i < n-1; i++ {
				want *= power(l.Down[i], n-1-i)
			}
			hankel, ok := impl.HankelOf(moments, n)
			wantValue(t, aboutLevels("HankelOf the moments", l, n), hankel, ok, want)
			held[n]++
		}
	}
	if slices.Contains(held[:], 0) {
		t.Errorf("held %v", held)
	}
}

// ratiosAlong returns the quotients of each number by the one before. It fails if one
// is no whole number of at least 1.
func ratiosAlong(numbers []int) ([]int, bool) {
	var ratios []int
	for i := 1; i < len(numbers); i++ {
		if numbers[i-1] == 0 {
			return nil, false
		}
		ratio := big.NewRat(int64(numbers[i]), int64(numbers[i-1]))
		if !ratio.IsInt() || ratio.Sign() < 1 {
			return nil, false
		}
		ratios = append(ratios, int(ratio.Num().Int64()))
	}
	return ratios, true
}

// checkDowns holds DownsOf against exact ratios, and returns whether it succeeds.
func checkDowns(t *testing.T, moments []int) bool {
	t.Helper()
	determinants := []int{}
	for n := 0; 2*n-1 <= len(moments); n++ {
		determinants = append(determinants, determinantByOrders(moments, n))
	}
	ratios, whole := ratiosAlong(determinants)
	var want []int
	if whole {
		want, whole = ratiosAlong(ratios)
	}
	downs, ok := impl.DownsOf(moments)
	if len(moments)%2 == 0 || !whole || moments[0] != 1 {
		wantListFailure(t, aboutList("DownsOf", moments), downs, ok)
		return false
	}
	wantList(t, aboutList("DownsOf", moments), downs, ok, want)
	return true
}

func TestDownsOfLevels(t *testing.T) {
	held := [4]int{}
	for _, l := range someLevels() {
		for downs := range min(len(l.Flat), 4) {
			moments, _ := impl.MomentsOf(l, 2*downs+1)
			got, ok := impl.DownsOf(moments)
			if isSmall(10000, moments) {
				wantList(t, aboutLevels("DownsOf the moments", l, downs), got, ok, l.Down[:downs])
				held[downs]++
			} else {
				wantListFailure(t, aboutLevels("DownsOf the moments", l, downs), got, ok)
			}
		}
	}
	if slices.Contains(held[:], 0) {
		t.Errorf("held %v", held)
	}
}

// TestDownsOf goes through lists of small numbers.
func TestDownsOf(t *testing.T) {
	held := [8]int{}
	try := func(moments ...int) {
		if checkDowns(t, moments) {
			held[len(moments)]++
		}
	}
	for a := -4; a <= 4; a++ {
		try(a)
		try(1, a)
		for b := -4; b <= 10; b++ {
			try(1, a, b)
			try(a, 1, b)
			try(1, a, b, 1)
			for c := -3; c <= 3; c++ {
				for d := -4; d <= 30; d++ {
					try(1, a, b, c, d)
				}
				try(2, a, b, c, 4)
				try(1, a, b, c, 4, 5)
			}
		}
	}
	for a := -1; a <= 4; a++ {
		for b := 0; b <= 20; b++ {
			for c := 0; c <= 100; c++ {
				try(1, 0, a, 0, b, 0, c)
				try(1, 1, a+1, 4, b, 21, c)
			}
		}
	}
	for _, length := range []int{1, 3, 5, 7} {
		if held[length] == 0 {
			t.Errorf("no list of %d moments succeeds", length)
		}
	}
}

// TestKnownDowns takes quotients that are no whole numbers, less than 1, or far beyond MaxWeight.
func TestKnownDowns(t *testing.T) {
	for _, known := range []struct{ moments, want []int }{
		{[]int{1}, nil}, {[]int{1, 0, 1}, []int{1}}, {[]int{1, 0, 10000}, []int{10000}}, {[]int{1, 99, 9802}, []int{1}},
		{[]int{1, 0, 2, 0, 8}, []int{2, 2}}, {[]int{1, 0, 1, 0, 10000}, []int{1, 9999}},
		{[]int{1, 0, 1, 0, 2, 0, 5}, []int{1, 1, 1}}, {[]int{1, 0, 1, 0, 3, 0, 15}, []int{1, 2, 3}},
		{[]int{1, 0, 1, 0, 2, 0, 10000}, []int{1, 1, 9996}},
	} {
		downs, ok := impl.DownsOf(known.moments)
		wantList(t, aboutList("DownsOf", known.moments), downs, ok, known.want)
	}
	for _, moments := range [][]int{
		// The first quotient is not 1.
		{0}, {2}, {-1}, {2, 0, 2}, {-1, 0, -1},
		// A determinant is 0.
		{1, 0, 0}, {1, 100, 10000}, {1, 1, 1}, {1, 0, 1, 0, 1},
		// A determinant is less than 0.
		{1, 0, -1}, {1, 100, 9999}, {1, 0, 1, 0, 0}, {1, 0, 2, 1, 4},
		// The last quotient is 1 / 2, or 3 / 2.
		{1, 0, 2, 1, 5}, {1, 0, 2, 1, 6},
		// The quotients are 1, 2 and 1, or 3.
		{1, 0, 2, 0, 5}, {1, 0, 2, 0, 7},
		// There is an even number of moments.
		{1, 0}, {1, 0, 2, 0}, {1, 0, 1, 0, 2, 0}, {1, 0, 1, 0, 2, 0, 5, 0},
		// A moment is beyond 10^4.
		{1, 0, 10001}, {1, 0, 1, 0, 10001}, {1, 0, 1, 0, 2, 0, 10001}, {1, 10001, 2}, {1, -10001, 2}, {10001},
	} {
		downs, ok := impl.DownsOf(moments)
		wantListFailure(t, aboutList("DownsOf", moments), downs, ok)
	}
}

func sameLevels(a, b impl.Levels) bool {
	return slices.Equal(a.Flat, b.Flat) && slices.Equal(a.Down, b.Down)
}

func wantLevels(t *testing.T, what string, got impl.Levels, gotOK bool, want impl.Levels) {
	t.Helper()
	if !sameLevels(got, want) || !gotOK {
		t.Errorf("%s: %v, %v; want %v, true", what, got, gotOK, want)
	}
}

func wantLevelsFailure(t *testing.T, what string, got impl.Levels, gotOK bool) {
	t.Helper()
	if len(got.Flat) != 0 || len(got.Down) != 0 || gotOK {
		t.Errorf("%s: %v, %v; want a failing call", what, got, gotOK)
	}
}

// endedByOne returns the first so many weights of levels, the last Down being 1.
func endedByOne(l impl.Levels, size int) impl.Levels {
	ended := impl.Levels{Flat: slices.Clone(l.Flat[:size]), Down: slices.Clone(l.Down[:size])}
	ended.Down[size-1] = 1
	return ended
}

// TestLevelsAreFoundAgain takes the moments of levels, also those of a size of more than 10^4.
func TestLevelsAreFoundAgain(t *testing.T) {
	for _, l := range someLevels() {
		for size := 1; size <= min(len(l.Flat), 4); size++ {
			moments, _ := impl.MomentsOf(l, 2*size)
			found, ok := impl.LevelsOf(moments)
			wantLevels(t, aboutList("LevelsOf", moments), found, ok, endedByOne(l, size))
			if len(found.Flat) == size && !impl.IsLevels(found) {
				t.Errorf("%s: no levels", aboutList("LevelsOf", moments))
			}
			for n := 1; n < 2*size; n += 2 {
				found, ok = impl.LevelsOf(moments[:n])
				wantLevelsFailure(t, aboutList("LevelsOf", moments[:n]), found, ok)
			}
		}
	}
}

// TestMomentsOfAllSmallLevels goes through all levels of two weights, and wants lists
// that are nearly their moments to be found only if they are those of others.
func TestMomentsOfAllSmallLevels(t *testing.T) {
	paths := listsOfMixed(3)
	known := map[[4]int]impl.Levels{}
	for first := -impl.MaxWeight; first <= impl.MaxWeight; first++ {
		for second := -impl.MaxWeight; second <= impl.MaxWeight; second++ {
			for down := 1; down <= impl.MaxWeight; down++ {
				l := impl.Levels{Flat: []int{first, second}, Down: []int{down, 1}}
				known[[4]int(momentsOfPaths(l, paths, 4))] = l
			}
		}
	}
	if len(known) != 605 {
		t.Fatalf("%d lists of moments of 605 levels", len(known))
	}
	for moments := range known {
		for at := range 4 {
			for change := -3; change <= 3; change++ {
				near := moments
				near[at] += change
				found, ok := impl.LevelsOf(near[:])
				if want, has := known[near]; has {
					wantLevels(t, aboutList("LevelsOf", near[:]), found, ok, want)
				} else {
					wantLevelsFailure(t, aboutList("LevelsOf", near[:]), found, ok)
				}
			}
		}
	}
}

func TestMomentsOfNoLevels(t *testing.T) {
	for first := -2; first <= 3; first++ {
		for second := -7; second <= 7; second++ {
			found, ok := impl.LevelsOf([]int{first, second})
			if first == 1 && isSmall(impl.MaxWeight, []int{second}) {
				wantLevels(t, aboutList("LevelsOf", []int{first, second}), found, ok, evenLevels(1, second, 1))
			} else {
				wantLevelsFailure(t, aboutList("LevelsOf", []int{first, second}), found, ok)
			}
		}
	}
	for _, moments := range [][]int{
		{0, 0}, {2, 0}, {-1, 0}, {1e9, 1e9}, {1, 1e9}, {1, -1e9}, {1, 0, 1e9, 0}, {1, 0, -1e9, 0}, {1, 0, 1, 1e9},
		{1, 0, 0, 0}, {1, 0, -1, 0}, {1, 0, 6, 0}, // a Down of 0, of less, and of more than MaxWeight
		{1, 0, 1, 6}, {1, 0, 1, -6}, // the second Flat beyond MaxWeight
		{1, 0, 2, 1}, {1, 0, 2, 0, 5, 0}, // weights that are no whole numbers
		{1, 0, 1, 0, 1, 0}, {1, 0, 1, 0, 7, 0}, {1, 0, 1, 0, 2, 6}, {1, 0, 1, 0, 2, 0, 4, 0}, {1, 0, 1, 0, 2, 0, 10, 0},
		{1, 0, 1, 0, 2, 0, 5, 6}, {1, 0, 1, 0, 2, 0, 5, -6},
		{1}, {1, 0, 1}, {1, 0, 1, 0, 2}, {1, 0, 1, 0, 2, 0, 5},
	} {
		found, ok := impl.LevelsOf(moments)
		wantLevelsFailure(t, aboutList("LevelsOf", moments), found, ok)
	}
	for _, last := range []int{-5, 0, 5} {
		moments := []int{1, 0, 1, 0, 2, 0, 5, last}
		found, ok := impl.LevelsOf(moments)
		wantLevels(t, aboutList("LevelsOf", moments), found, ok, impl.Levels{Flat: []int{0, 0, 0, last}, Down: []int{1, 1, 1, 1}})
	}
}

// TestHighestMomentsAreFoundAgain takes levels with the weights of the greatest sizes.
func TestHighestMomentsAreFoundAgain(t *testing.T) {
	for _, flat := range []int{-impl.MaxWeight, 0, impl.MaxWeight} {
		l := evenLevels(4, flat, impl.MaxWeight)
		moments, ok := impl.MomentsOf(l, 8)
		wantList(t, aboutLevels("MomentsOf", l, 8), moments, ok, momentsOfPaths(l, listsOfMixed(7), 8))
		found, ok := impl.LevelsOf(moments)
		wantLevels(t, aboutList("LevelsOf", moments), found, ok, endedByOne(l, 4))
	}
}

// shiftedByChoice returns shifted moments by the formula told, in numbers of any size.
func shiftedByChoice(moments []int, k int) []*big.Int {
	var shifted []*big.Int
	for n := range moments {
		sum := new(big.Int)
		for i := range n + 1 {
			term := new(big.Int).Binomial(int64(n), int64(i))
			term.Mul(term, new(big.Int).Exp(big.NewInt(int64(k)), big.NewInt(int64(n-i)), nil))
			sum.Add(sum, term.Mul(term, big.NewInt(int64(moments[i]))))
		}
		shifted = append(shifted, sum)
	}
	return shifted
}

// TestShiftMoments takes moments that go beyond 10^9, too.
func TestShiftMoments(t *testing.T) {
	most := big.NewInt(1e9)
	beyond, within := 0, 0
	for _, moments := range slices.Concat(momentLists(3, 8), momentLists(10000, 8), momentLists(1e9, 30)) {
		for k := -9; k <= 9; k++ {
			wanted := shiftedByChoice(moments, k)
			shifted, ok := impl.ShiftMoments(moments, k)
			if slices.ContainsFunc(wanted, func(moment *big.Int) bool { return moment.CmpAbs(most) > 0 }) {
				wantListFailure(t, aboutList("ShiftMoments", moments, k), shifted, ok)
				beyond++
				continue
			}
			var want []int
			for _, moment := range wanted {
				want = append(want, int(moment.Int64()))
			}
			wantList(t, aboutList("ShiftMoments", moments, k), shifted, ok, want)
			back, ok := impl.ShiftMoments(shifted, -k)
			wantList(t, aboutList("ShiftMoments back", moments, k), back, ok, moments)
			within++
		}
	}
	if beyond == 0 || within == 0 {
		t.Errorf("%d lists go beyond 10^9, %d do not", beyond, within)
	}
}

// TestShiftedWeights holds shifted moments against those of levels with other weights in Flat.
func TestShiftedWeights(t *testing.T) {
	for _, l := range someLevels() {
		for k := -9; k <= 9; k++ {
			other := impl.Levels{Down: l.Down}
			for _, weight := range l.Flat {
				other.Flat = append(other.Flat, weight+k)
			}
			if !impl.IsLevels(other) {
				continue
			}
			for n := 1; n <= min(8, 2*len(l.Flat)); n++ {
				moments, _ := impl.MomentsOf(l, n)
				want, _ := impl.MomentsOf(other, n)
				shifted, ok := impl.ShiftMoments(moments, k)
				wantList(t, aboutLevels("ShiftMoments of the moments", l, n, k), shifted, ok, want)
			}
		}
	}
}

// TestMomentsAtTheLimit takes moments of a size of 10^9, shifted to just that size and beyond it.
func TestMomentsAtTheLimit(t *testing.T) {
	for _, known := range []struct {
		moments []int
		k       int
		want    []int
	}{
		{[]int{1e9}, 9, []int{1e9}}, {[]int{-1e9}, -9, []int{-1e9}}, {[]int{1e9, -1e9}, 0, []int{1e9, -1e9}},
		{[]int{1e9, 0}, 1, []int{1e9, 1e9}}, {[]int{1e9, 0}, -1, []int{1e9, -1e9}}, {[]int{1e9, -1e9}, 2, []int{1e9, 1e9}},
		{[]int{1, 1e9 - 9}, 9, []int{1, 1e9}}, {[]int{-1, 9 - 1e9}, 9, []int{-1, -1e9}}, {[]int{1, 9 - 1e9}, -9, []int{1, -1e9}},
	} {
		shifted, ok := impl.ShiftMoments(known.moments, known.k)
		wantList(t, aboutList("ShiftMoments", known.moments, known.k), shifted, ok, known.want)
	}
	for _, known := range []struct {
		moments []int
		k       int
	}{
		{[]int{1e9, 1}, 1}, {[]int{1e9, -1}, -1}, {[]int{1, 1e9 - 8}, 9}, {[]int{1, 8 - 1e9}, -9}, {[]int{-1, 8 - 1e9}, 9},
		{[]int{1e9, 0}, 2}, {slices.Repeat([]int{1e9}, 8), 9}, {slices.Repeat([]int{-1e9}, 8), 9}, {[]int{1e9, -1e9, 1e9, -1e9, 1e9, -1e9, 1e9, -1e9}, -9},
	} {
		shifted, ok := impl.ShiftMoments(known.moments, known.k)
		wantListFailure(t, aboutList("ShiftMoments", known.moments, known.k), shifted, ok)
	}
}

// gridWays counts ways over a grid by their last steps: all of them, or only those that
// never come above the line from the corner.
func gridWays(below bool) [13][13]int {
	var ways [13][13]int
	for east := range ways {
		for north := range ways[east] {
			switch {
			case below && north > east:
				continue
			case east+north == 0:
				ways[east][north] = 1
			}
			if east > 0 {
				ways[east][north] += ways[east-1][north]
			}
			if north > 0 {
				ways[east][north] += ways[east][north-1]
			}
			if east > 0 && north > 0 {
				ways[east][north] += ways[east-1][north-1]
			}
		}
	}
	return ways
}

func TestWaysOverGrids(t *testing.T) {
	all, below := gridWays(false), gridWays(true)
	for m := range all {
		for n := range all[m] {
			count, ok := impl.CountDelannoy(m, n)
			wantValue(t, about("CountDelannoy", m, n), count, ok, all[m][n])
		}
		count, ok := impl.CountSchroder(m)
		wantValue(t, about("CountSchroder", m), count, ok, below[m][m])
	}
}

// doubled returns the path of a mixed path.
func doubled(mixed string) string {
	return strings.NewReplacer("U", "UU", "D", "DD", "F", "UD").Replace(mixed)
}

func TestPathsOfMixedPaths(t *testing.T) {
	for _, mixed := range slices.Concat(mixedUpTo(9), longMixed()) {
		path, ok := impl.PathOfMixed(mixed)
		wantValue(t, "PathOfMixed "+mixed, path, ok, doubled(mixed))
		good, ok := impl.IsGood(path)
		wantValue(t, "IsGood "+path, good, ok, true)
		closed, ok := impl.IsClosedPath(path)
		wantValue(t, "IsClosedPath "+path, closed, ok, true)
		again, ok := impl.MixedOfPath(path)
		wantValue(t, "MixedOfPath "+path, again, ok, mixed)
	}
}

// TestPathsOfNoMixedPath goes through all paths of few steps, and takes some of more
// steps than a mixed path has.
func TestPathsOfNoMixedPath(t *testing.T) {
	known := map[string]string{}
	for _, mixed := range mixedUpTo(6) {
		known[doubled(mixed)] = mixed
	}
	for _, path := range pathsUpTo(13) {
		mixed, ok := impl.MixedOfPath(path)
		if want, has := known[path]; has {
			wantValue(t, "MixedOfPath "+path, mixed, ok, want)
		} else {
			wantFailure(t, "MixedOfPath "+path, mixed, ok)
		}
	}
	for _, path := range []string{
		"U", "D", "DU", "UU", "DDUU", "UDU", "UUDUDD", "UUDUDDUD", "UUUU", "UUDDDD",
		steps("UD", 13), steps("UD", 20), steps("U", 14) + steps("D", 14), steps("U", 20) + steps("D", 20), steps("UUDD", 10),
		steps("UD", 11) + "DU", steps("U", 24), steps("UD", 11) + "U", steps("DU", 12),
	} {
		mixed, ok := impl.MixedOfPath(path)
		wantFailure(t, "MixedOfPath "+path, mixed, ok)
	}
}
