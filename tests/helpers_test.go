package tests

import (
	"math"
	"slices"
	"strings"
	"testing"
	"unsafe"

	"loop.example/g01218/impl"
)

// noPaths are texts that are no path: other letters, other signs, and too many steps.
func noPaths() []string {
	return []string{
		"u", "d", "UDu", "xUD", "U D", " ", "UD\n", "\x00", "U\x00D", "U\xffD", "Ü", "1", "-",
		steps("U", impl.MaxPath+1), steps("D", impl.MaxPath+1), steps("UD", 30), steps("U", 100000),
	}
}

// somePaths are paths with the edge cases among them.
func somePaths() []string {
	return []string{
		"", "U", "D", "UD", "DU", "UDDU", "UUDUDD", "DDUUDU",
		steps("U", impl.MaxPath), steps("D", impl.MaxPath), steps("UD", impl.MaxPath/2), steps("DDU", 13),
	}
}

// someNumbers are numbers about the limits, and far beyond them.
func someNumbers() []int {
	return []int{
		math.MinInt, math.MinInt + 1, -impl.MaxPath - 1, -2, -1, 0, 1, 2, 3, 19, 20, 21,
		impl.MaxPath - 1, impl.MaxPath, impl.MaxPath + 1, 1 << 32, math.MaxInt - 1, math.MaxInt,
	}
}

// steps returns a text so many times.
func steps(text string, times int) string {
	return strings.Repeat(text, times)
}

// pathsOf returns all paths of n steps in the order of texts.
func pathsOf(n int) []string {
	if n == 0 {
		return []string{""}
	}
	var paths []string
	for _, first := range []string{"D", "U"} {
		for _, rest := range pathsOf(n - 1) {
			paths = append(paths, first+rest)
		}
	}
	return paths
}

// pathsUpTo returns all paths of 0 to n steps.
func pathsUpTo(n int) []string {
	var paths []string
	for i := range n + 1 {
		paths = append(paths, pathsOf(i)...)
	}
	return paths
}

// pathsWith returns all paths with so many ups and downs in the order of texts.
func pathsWith(ups, downs int) []string {
	var paths []string
	for _, path := range pathsOf(ups + downs) {
		if strings.Count(path, "U") == ups {
			paths = append(paths, path)
		}
	}
	return paths
}

// heightAt returns the height of a path behind its first n steps.
func heightAt(path string, n int) int {
	return strings.Count(path[:n], "U") - strings.Count(path[:n], "D")
}

// lastFresh keeps the last text of freshText. One that nothing keeps might be on the stack,
// from where a text is copied even by code that hands its argument out.
var lastFresh string

// freshText returns a text in memory of its own.
func freshText(text string) string {
	lastFresh = string([]byte(text))
	return lastFresh
}

// sameMemory reports whether two texts share their first byte in memory.
func sameMemory(a, b string) bool {
	return len(a) > 0 && len(b) > 0 && unsafe.StringData(a) == unsafe.StringData(b)
}

func wantValue[T comparable](t *testing.T, what string, got T, gotOK bool, want T) {
	t.Helper()
	if got != want || !gotOK {
		t.Errorf("%s: %v, %v; want %v, true", what, got, gotOK, want)
	}
}

func wantList[T comparable](t *testing.T, what string, got []T, gotOK bool, want []T) {
	t.Helper()
	if !slices.Equal(got, want) || !gotOK {
		t.Errorf("%s: %v, %v; want %v, true", what, got, gotOK, want)
	}
}

func wantFailure[T comparable](t *testing.T, what string, got T, gotOK bool) {
	t.Helper()
	var zero T
	if got != zero || gotOK {
		t.Errorf("%s: %v, %v; want a failing call", what, got, gotOK)
	}
}

func wantListFailure[T any](t *testing.T, what string, got []T, gotOK bool) {
	t.Helper()
	if len(got) != 0 || gotOK {
		t.Errorf("%s: %v, %v; want a failing call", what, got, gotOK)
	}
}
