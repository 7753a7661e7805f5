package tests

import (
	"math"
	"slices"
	"testing"

	"loop.example/g01218/impl"
)

// pairNumbersCall is a function of a number of pairs, or of steps, that returns a number.
type pairNumbersCall struct {
	name string
	call func(int) (int, bool)
}

// pairNumberCalls are all such functions.
func pairNumberCalls() []pairNumbersCall {
	return []pairNumbersCall{
		{"CountGoodClosed", impl.CountGoodClosed}, {"SumOfAreas", impl.SumOfAreas},
		{"SumOfHighest", impl.SumOfHighest}, {"CountNeverBack", impl.CountNeverBack},
	}
}

// pairListCalls are all functions of a number of pairs, or of steps, that return a list.
func pairListCalls() []pairsCall {
	return append(closedCalls(), pairsCall{name: "CountByRecords", call: impl.CountByRecords},
		pairsCall{name: "CountByAbove", call: impl.CountByAbove}, pairsCall{name: "CountByLastReturn", call: impl.CountByLastReturn})
}

// recordNumberCalls are the functions of a path that return a number.
func recordNumberCalls() []numberCall {
	return []numberCall{{"StepsAbove", impl.StepsAbove}, {"LastReturn", impl.LastReturn}, {"AreaIndex", impl.AreaIndex}}
}

// numbersOfPairs are numbers about the limits of the chapter, and far beyond them.
func numbersOfPairs() []int {
	numbers := []int{math.MinInt, math.MinInt + 1, -1 << 32, -impl.MaxPairs, -3, 30, 31, impl.MaxPath, 1 << 31, 1 << 32, 1<<32 + 3, 1 << 62, math.MaxInt - 1, math.MaxInt}
	for n := -2; n <= impl.MaxPath/2+1; n++ {
		numbers = append(numbers, n)
	}
	return numbers
}

// TestNumbersOfPairs wants calls to fail exactly for numbers outside 0..MaxPairs.
func TestNumbersOfPairs(t *testing.T) {
	for _, n := range numbersOfPairs() {
		valid := n >= 0 && n <= impl.MaxPairs
		for _, f := range pairNumberCalls() {
			number, ok := f.call(n)
			wantSuccess(t, about(f.name, n), number, ok, valid)
		}
		for _, f := range pairListCalls() {
			counts, ok := f.call(n)
			if !valid {
				wantListFailure(t, about(f.name, n), counts, ok)
			} else if !ok || len(counts) != mostOf(f, n)+1 || slices.Min(counts) < 0 {
				t.Errorf("%s: %v, %v", about(f.name, n), counts, ok)
			}
		}
	}
}

// TestRecordsOfTextsThatAreNoPathFail also takes good closed paths of more than MaxPath steps.
func TestRecordsOfTextsThatAreNoPathFail(t *testing.T) {
	half := impl.MaxPath / 2
	longer := []string{steps("UD", half+1), steps("U", half+1) + steps("D", half+1), steps("UUDD", half), "UDF", "UDx", "xUD", "ud", "UD UD"}
	for _, text := range append(noPaths(), longer...) {
		records, ok := impl.RecordsOfPath(text)
		wantListFailure(t, "RecordsOfPath "+text, records, ok)
		for _, f := range recordNumberCalls() {
			number, ok := f.call(text)
			wantFailure(t, f.name+" "+text, number, ok)
		}
	}
}

// wantNewList overwrites one result up to its capacity, and wants no other one to change.
func wantNewList(t *testing.T, what string, call func() ([]int, bool)) {
	t.Helper()
	before, _ := call()
	want := slices.Clone(before)
	first, _ := call()
	overwrite(first)
	wantList(t, what+" before", before, true, want)
	again, ok := call()
	wantList(t, what+" again", again, ok, want)
}

func TestCountsOfPairsAreNewMemory(t *testing.T) {
	for n := range impl.MaxPairs + 1 {
		for _, f := range pairListCalls() {
			wantNewList(t, about(f.name, n), func() ([]int, bool) { return f.call(n) })
		}
	}
}

// TestCountsShareNoMemory takes functions whose counts are the same.
func TestCountsShareNoMemory(t *testing.T) {
	for n := range impl.MaxPairs + 1 {
		for _, one := range pairListCalls() {
			for _, other := range pairListCalls() {
				first, _ := one.call(n)
				second, _ := other.call(n)
				want := slices.Clone(second)
				overwrite(first)
				wantList(t, about(other.name+" behind "+one.name, n), second, true, want)
			}
		}
	}
}

func TestRecordsAreNewMemory(t *testing.T) {
	for _, text := range append(turningPaths(), pathsUpTo(6)...) {
		path := freshText(text)
		wantNewList(t, "RecordsOfPath "+text, func() ([]int, bool) { return impl.RecordsOfPath(path) })
		for _, f := range recordNumberCalls() {
			before, beforeOK := f.call(path)
			again, ok := f.call(path)
			if again != before || ok != beforeOK {
				t.Errorf("%s %s: %d, %v; at first %d, %v", f.name, text, again, ok, before, beforeOK)
			}
		}
		if path != text {
			t.Errorf("%q became %q", text, path)
		}
	}
}

// TestRecordsKeepNoState asks the same before and behind other calls.
func TestRecordsKeepNoState(t *testing.T) {
	for n := range impl.MaxPairs + 1 {
		for _, f := range pairListCalls() {
			want, _ := f.call(n)
			for _, other := range []int{-1, 0, impl.MaxPairs - n, impl.MaxPairs, impl.MaxPairs + 1} {
				for _, g := range pairListCalls() {
					g.call(other)
				}
				for _, g := range pairNumberCalls() {
					g.call(other)
				}
			}
			counts, ok := f.call(n)
			wantList(t, about(f.name, n), counts, ok, want)
		}
	}
}
