package impl

import (
	"slices"
	"strings"
)

const MaxPath = 40

// part is a part of a path: the index of its first step and that of the step behind it.
type part struct {
	from int
	to   int
}

// IsPath reports whether a text is a path.
func IsPath(path string) bool {
	if len(path) > MaxPath {
		return false
	}
	for i := range len(path) {
		if path[i] != 'U' && path[i] != 'D' {
			return false
		}
	}
	return true
}

// HeightsOf returns the heights ahead of and behind each step.
func HeightsOf(path string) ([]int, bool) {
	if !IsPath(path) {
		return nil, false
	}
	heights := make([]int, len(path)+1)
	for i := range len(path) {
		heights[i+1] = heights[i] + climbOf(path[i])
	}
	return heights, true
}

func climbOf(step byte) int {
	if step == 'U' {
		return 1
	}
	return -1
}

// EndHeight returns the last height.
func EndHeight(path string) (int, bool) {
	heights, ok := HeightsOf(path)
	if !ok {
		return 0, false
	}
	return heights[len(heights)-1], true
}

// LowestOf returns the least height.
func LowestOf(path string) (int, bool) {
	heights, ok := HeightsOf(path)
	if !ok {
		return 0, false
	}
	return slices.Min(heights), true
}

// HighestOf returns the greatest height.
func HighestOf(path string) (int, bool) {
	heights, ok := HeightsOf(path)
	if !ok {
		return 0, false
	}
	return slices.Max(heights), true
}

// TimesAtHeight returns how many heights are a given one.
func TimesAtHeight(path string, height int) (int, bool) {
	heights, ok := HeightsOf(path)
	times := 0
	for _, h := range heights {
		if h == height {
			times++
		}
	}
	return times, ok
}

// PeaksOf returns how many steps there are before each peak, increasing.
func PeaksOf(path string) ([]int, bool) {
	if !IsPath(path) {
		return nil, false
	}
	var peaks []int
	for i := 1; i < len(path); i++ {
		if path[i-1] == 'U' && path[i] == 'D' {
			peaks = append(peaks, i-1)
		}
	}
	return peaks, true
}

// ReturnsOf returns all returns, increasing.
func ReturnsOf(path string) ([]int, bool) {
	heights, ok := HeightsOf(path)
	var returns []int
	for i, h := range heights {
		if i > 0 && h == 0 {
			returns = append(returns, i)
		}
	}
	return returns, ok
}

// AreaOfPath returns the sum of the heights.
func AreaOfPath(path string) (int, bool) {
	heights, ok := HeightsOf(path)
	area := 0
	for _, h := range heights {
		area += h
	}
	return area, ok
}

// IsGood reports whether a path is good.
func IsGood(path string) (bool, bool) {
	lowest, ok := LowestOf(path)
	return ok && lowest >= 0, ok
}

// IsClosedPath reports whether a path is closed.
func IsClosedPath(path string) (bool, bool) {
	end, ok := EndHeight(path)
	return ok && end == 0, ok
}

// TurnPath returns the path with U and D exchanged.
func TurnPath(path string) (string, bool) {
	if !IsPath(path) {
		return "", false
	}
	steps := make([]byte, len(path))
	for i := range steps {
		steps[i] = otherStep(path[i])
	}
	return string(steps), true
}

func otherStep(step byte) byte {
	if step == 'U' {
		return 'D'
	}
	return 'U'
}

// BackPath returns the path backwards, with U and D exchanged.
func BackPath(path string) (string, bool) {
	turned, ok := TurnPath(path)
	steps := []byte(turned)
	slices.Reverse(steps)
	return string(steps), ok
}

// JoinPaths returns the steps of a and then those of b. It fails if that is no path.
func JoinPaths(a string, b string) (string, bool) {
	if !IsPath(a) || !IsPath(b) || len(a)+len(b) > MaxPath {
		return "", false
	}
	// Not a + b: with one of them empty, that is the other one itself and not new memory.
	return string(append([]byte(a), b...)), true
}

// CutAtReturns returns the parts of a closed path between its returns, from the first step on.
func CutAtReturns(path string) ([]string, bool) {
	closed, ok := IsClosedPath(path)
	if !ok || !closed {
		return nil, false
	}
	var texts []string
	for _, p := range cutPath(path, nextReturn) {
		// A part of the path as a string would share its memory.
		texts = append(texts, strings.Clone(path[p.from:p.to]))
	}
	return texts, true
}

// cutPath cuts a path into parts. endOf tells where the part that begins at a
// step ends: behind this step at the least, and at the end of the path at the most.
func cutPath(path string, endOf func(path string, from int) int) []part {
	nothing := part{len(path), len(path)}
	var parts []part
	from := 0
cut:
	next := part{from, endOf(path, from)}
	if next == nothing {
		return parts
	}
	parts = append(parts, next)
	from = next.to
	goto cut
}

// nextReturn returns the return that follows on a step behind a height of 0, or
// the end of the path.
func nextReturn(path string, from int) int {
	height := 0
	for i := from; i < len(path); i++ {
		height += climbOf(path[i])
		if height == 0 {
			return i + 1
		}
	}
	return len(path)
}

// endOfRun returns the index behind all steps from one on that are equal to it.
func endOfRun(path string, from int) int {
	to := from
	for to < len(path) && path[to] == path[from] {
		to++
	}
	return to
}

// LiftPath returns U, the path, and D. It fails if that is no path.
func LiftPath(path string) (string, bool) {
	if !IsPath(path) || len(path)+2 > MaxPath {
		return "", false
	}
	return "U" + path + "D", true
}

// RankOfPath returns how many paths with as many U and as many D come before a path.
func RankOfPath(path string) (int, bool) {
	if !IsPath(path) {
		return 0, false
	}
	ups := strings.Count(path, "U")
	downs := len(path) - ups
	rank := 0
	for i := range len(path) {
		if path[i] == 'D' {
			downs--
			continue
		}
		// All paths that go down here come before; without a D left, the count
		// fails, and there are 0 of them.
		before, _ := CountPaths(ups, downs-1)
		rank += before
		ups--
	}
	return rank, true
}

// PathOfRank returns the path with so many ups and downs and a rank. It fails if there is none.
func PathOfRank(ups int, downs int, rank int) (string, bool) {
	count, ok := CountPaths(ups, downs)
	if !ok || rank < 0 || rank >= count {
		return "", false
	}
	var steps []byte
	for ups+downs > 0 {
		// Without a D left, the count fails, and 0 paths go down.
		goingDown, _ := CountPaths(ups, downs-1)
		if rank < goingDown {
			steps = append(steps, 'D')
			downs--
		} else {
			steps = append(steps, 'U')
			rank -= goingDown
			ups--
		}
	}
	return string(steps), true
}

// CountPaths returns how many paths there are with so many ups and downs.
func CountPaths(ups int, downs int) (int, bool) {
	// The sum of both is not taken before each is known to be small: it might overflow.
	if ups < 0 || downs < 0 || ups > MaxPath || downs > MaxPath-ups {
		return 0, false
	}
	count := 1
	for i := 1; i <= ups; i++ {
		count = count * (downs + i) / i
	}
	return count, true
}

// RunsOfPath returns the lengths of the greatest parts of equal steps, in turn of
// steps U and D, the first one for U, 0 if the path begins with D: none without steps.
func RunsOfPath(path string) ([]int, bool) {
	if !IsPath(path) {
		return nil, false
	}
	var runs []int
	if strings.HasPrefix(path, "D") {
		runs = append(runs, 0)
	}
	for _, p := range cutPath(path, endOfRun) {
		runs = append(runs, p.to-p.from)
	}
	return runs, true
}

// PathOfRuns returns the path with such lengths. It fails if there is none.
func PathOfRuns(runs []int) (string, bool) {
	if !areRuns(runs) {
		return "", false
	}
	var steps []byte
	step := byte('U')
	for _, length := range runs {
		for range length {
			steps = append(steps, step)
		}
		step = otherStep(step)
	}
	return string(steps), true
}

// areRuns reports whether there is a path with such lengths.
func areRuns(runs []int) bool {
	if len(runs) == 1 && runs[0] == 0 {
		return false
	}
	left := MaxPath
	for i, length := range runs {
		// Held against what is left, and not added up: a sum might overflow.
		if length < 0 || length == 0 && i > 0 || length > left {
			return false
		}
		left -= length
	}
	return true
}
