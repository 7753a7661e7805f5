package tests

import (
	"math"
	"slices"
	"testing"

	"loop.example/g01218/impl"
)

// noVotes are texts that are no votes: other letters, other signs, and too many letters.
func noVotes() []string {
	texts := []string{
		"e", "A", "B", "D", "U", "abe", "eab", "aeb", "abC", "a b", " a", "a ", " ", "ab\n", "\x00", "a\x00b", "a\xffb", "\xe4", "ä", "a,b", "`", "1", "-", "abcde",
		steps("a", impl.MaxVotes+1), steps("d", impl.MaxVotes+1), steps("abcd", 4) + "a", steps("a", impl.MaxVotes) + "e", steps("ab", 50), steps("a", 100000),
	}
	for letter := range 256 {
		if letter < 'a' || letter > 'd' {
			text := string([]byte{byte(letter)})
			texts = append(texts, text, "a"+text, text+"a", "aab"+text+"bc")
		}
	}
	return texts
}

// noOrdered are votes that are not ordered.
func noOrdered() []string {
	return []string{
		"b", "c", "d", "ba", "ac", "ad", "abb", "abba", "acb", "aabcc", "abcdd", "abd", "aabbb", steps("b", 16), steps("ba", 8), steps("ab", 7) + "bb",
		steps("a", 7) + steps("b", 9), steps("a", 15) + "c", steps("dcba", 4), steps("abc", 4) + "cbad", steps("abcd", 3) + "abdc",
	}
}

// failOrdered wants all functions that ask for ordered votes to fail.
func failOrdered(t *testing.T, votes string) {
	t.Helper()
	rank, ok := impl.RankOrdered(votes)
	wantFailure(t, "RankOrdered "+votes, rank, ok)
	rows, ok := impl.TableOfVotes(votes)
	wantListFailure(t, "TableOfVotes "+votes, rows, ok)
	columns, ok := impl.ColumnVotes(votes)
	wantFailure(t, "ColumnVotes "+votes, columns, ok)
}

func TestTextsThatAreNoVotesFail(t *testing.T) {
	for _, text := range noVotes() {
		if impl.AreVotes(text) {
			t.Errorf("AreVotes %q: true", text)
		}
		counts, ok := impl.CountsOfVotes(text)
		wantListFailure(t, "CountsOfVotes "+text, counts, ok)
		winners, ok := impl.WinnersOf(text)
		wantFailure(t, "WinnersOf "+text, winners, ok)
		leaders, ok := impl.LeadersAlong(text)
		wantListFailure(t, "LeadersAlong "+text, leaders, ok)
		ordered, ok := impl.IsOrdered(text)
		wantFailure(t, "IsOrdered "+text, ordered, ok)
		at, ok := impl.FirstOvertaken(text)
		wantFailure(t, "FirstOvertaken "+text, at, ok)
		turned, ok := impl.ReverseVotes(text)
		wantFailure(t, "ReverseVotes "+text, turned, ok)
		failOrdered(t, text)
	}
}

func TestVotesThatAreNotOrderedFail(t *testing.T) {
	for _, votes := range noOrdered() {
		ordered, ok := impl.IsOrdered(votes)
		wantValue(t, "IsOrdered "+votes, ordered, ok, false)
		failOrdered(t, votes)
		rows := tableBySearch(votes)
		again, ok := impl.VotesOfTable(rows)
		wantFailure(t, aboutRows("VotesOfTable", rows), again, ok)
	}
}

// noResults are lists that are no result: fewer or more than four numbers, numbers less
// than 0 or greater than the one before, and more than MaxVotes together.
func noResults() [][]int {
	lists := [][]int{
		nil, {}, {0}, {1}, {16}, {2, 1}, {2, 1, 0}, {1, 1, 1}, {0, 0, 0}, {2, 2, 1, 0, 0}, {0, 0, 0, 0, 0}, {1, 1, 1, 1, 1}, make([]int, 1000),
		{0, 1, 0, 0}, {1, 2, 0, 0}, {1, 0, 1, 0}, {2, 1, 0, 1}, {1, 1, 1, 2}, {0, 0, 0, 1}, {4, 4, 4, 5}, {3, 4, 4, 4}, {1, 2, 3, 4},
		{17, 0, 0, 0}, {16, 1, 0, 0}, {9, 8, 0, 0}, {5, 4, 4, 4}, {5, 5, 5, 5}, {6, 6, 5, 0}, {16, 16, 16, 16}, {14, 1, 1, 1},
		{math.MaxInt, math.MaxInt, 2, 0}, {math.MaxInt, math.MaxInt, math.MaxInt, math.MaxInt}, {1 << 62, 1 << 62, 1 << 62, 1 << 62}, {math.MaxInt, 1, 0, 0},
		{1 << 62, 1 << 62, 0, 0}, {1 << 32, 1 << 32, 1 << 32, 1 << 32}, {1<<32 + 1, 1, 0, 0}, {0, math.MinInt, 0, 0}, {math.MaxInt, 0, 0, math.MinInt},
	}
	for at := range 4 {
		for _, bad := range []int{math.MinInt, math.MinInt + 1, -1 << 32, -17, -1} {
			list := []int{2, 2, 1, 1}
			list[at] = bad
			behind := slices.Repeat([]int{bad}, 4)
			copy(behind, list[:at])
			lists = append(lists, list, behind)
		}
		for _, bad := range []int{17, 1 << 31, 1 << 32, 1 << 62, math.MaxInt - 1, math.MaxInt} {
			list := []int{3, 2, 2, 1}
			list[at] = bad
			ahead := slices.Clone(list)
			for i := range at {
				ahead[i] = bad
			}
			lists = append(lists, list, ahead)
		}
	}
	return lists
}

// failResult wants all functions that ask for a result to fail.
func failResult(t *testing.T, list []int) {
	t.Helper()
	if impl.IsResult(list) {
		t.Errorf("%s: true", aboutList("IsResult", list))
	}
	hooks, ok := impl.HooksOf(list)
	wantListFailure(t, aboutList("HooksOf", list), hooks, ok)
	count, ok := impl.CountOrdered(list)
	wantFailure(t, aboutList("CountOrdered", list), count, ok)
	count, ok = impl.CountVotes(list)
	wantFailure(t, aboutList("CountVotes", list), count, ok)
	all, ok := impl.AllOrdered(list)
	wantListFailure(t, aboutList("AllOrdered", list), all, ok)
	columns, ok := impl.ColumnsOf(list)
	wantListFailure(t, aboutList("ColumnsOf", list), columns, ok)
	for _, rank := range []int{0, 1, -1, math.MaxInt} {
		votes, ok := impl.OrderedOfRank(list, rank)
		wantFailure(t, aboutList("OrderedOfRank", list, rank), votes, ok)
	}
}

func TestListsThatAreNoResultFail(t *testing.T) {
	for _, list := range noResults() {
		failResult(t, list)
	}
	eachList(4, 7, func(list []int) {
		if !falls(list) || sumOf(list) > impl.MaxVotes {
			failResult(t, list)
		}
	})
}

func TestRanksOfNoOrderedVotes(t *testing.T) {
	for _, result := range [][]int{{0, 0, 0, 0}, {1, 0, 0, 0}, {16, 0, 0, 0}, {2, 2, 1, 0}, {4, 4, 4, 4}, {6, 5, 3, 2}} {
		count, _ := impl.CountOrdered(result)
		last, ok := impl.OrderedOfRank(result, count-1)
		wantList(t, aboutList("result of the last one", result), countsBySearch(last), ok, result)
		for _, rank := range []int{math.MinInt, math.MinInt + 1, -1 << 32, -count, -1, count, count + 1, 1<<32 - 1, 1 << 32, 1 << 62, math.MaxInt - 1, math.MaxInt} {
			votes, ok := impl.OrderedOfRank(result, rank)
			wantFailure(t, aboutList("OrderedOfRank", result, rank), votes, ok)
		}
	}
}

// noTables are rows that no ordered votes have.
func noTables() [][][]int {
	tables := [][][]int{
		// Fewer or more than four rows.
		nil, {}, {nil}, {{1}}, {{1}, {2}}, {{1}, {2}, {3}}, {{1}, {2}, {3}, {4}, {5}}, {{1}, {2}, {3}, {4}, {}}, make([][]int, 3), make([][]int, 5), make([][]int, 1000),
		// An empty row ahead of one that is not.
		{{}, {1}, {}, {}}, {nil, nil, nil, {1}}, {{1}, {}, {2}, {}}, {{1, 2}, {3}, {}, {4}},
		// A row longer than the one above it.
		{{1}, {2, 3}, {}, {}}, {{1, 2}, {3, 4, 5}, {}, {}}, {{1, 4}, {2, 5}, {3}, {6, 7}},
		// Numbers that are wanting, or come twice.
		{{2}, {}, {}, {}}, {{1, 3}, {}, {}, {}}, {{1}, {3}, {}, {}}, {{1, 1}, {}, {}, {}}, {{1}, {1}, {}, {}}, {{1, 2}, {2}, {}, {}}, {{1, 2}, {3, 3}, {4}, {}}, {{1, 3}, {2, 4}, {4}, {}},
		{{1, 2}, {3}, {5}, {}}, {{1, 2, 4}, {3, 4}, {}, {}},
		// Numbers that do not rise along a row.
		{{2, 1}, {}, {}, {}}, {{1, 3, 2}, {}, {}, {}}, {{1, 3, 2}, {4}, {}, {}}, {{1, 2}, {4, 3}, {}, {}}, {{1}, {2}, {3}, {5, 4}},
		// Numbers that do not rise downward.
		{{2}, {1}, {}, {}}, {{1, 4}, {2, 3}, {}, {}}, {{1}, {3}, {2}, {}}, {{1}, {2}, {4}, {3}}, {{1, 2}, {3, 5}, {4, 6}, {8, 7}}, {{1, 2, 6}, {3, 4, 5}, {}, {}},
		// Numbers less than 1 or beyond all.
		{{0}, {}, {}, {}}, {{-1}, {}, {}, {}}, {{0, 1}, {}, {}, {}}, {{1, 2}, {-3}, {}, {}}, {{1, 2}, {4}, {}, {}}, {{1}, {math.MaxInt}, {}, {}}, {{math.MinInt}, {}, {}, {}},
		{{math.MinInt, 1}, {2}, {}, {}}, {{1, math.MaxInt}, {2}, {}, {}}, {{1 << 32}, {}, {}, {}}, {{1<<32 + 1}, {}, {}, {}}, {{257}, {}, {}, {}}, {{1, 1<<8 + 2}, {}, {}, {}},
	}
	// More than MaxVotes numbers.
	long := make([]int, impl.MaxVotes+1)
	for i := range long {
		long[i] = i + 1
	}
	return append(tables, [][]int{long, {}, {}, {}}, [][]int{long[:16], {17}, {}, {}}, rowsOf(long, []int{5, 4, 4, 4}), rowsOf(long, []int{14, 1, 1, 1}),
		[][]int{long, long, long, long}, [][]int{make([]int, 100000), nil, nil, nil}, slices.Repeat([][]int{make([]int, 1000)}, 4), [][]int{nil, nil, nil, long})
}

func TestRowsThatAreNoTableFail(t *testing.T) {
	for _, rows := range noTables() {
		votes, ok := impl.VotesOfTable(rows)
		wantFailure(t, aboutRows("VotesOfTable", rows), votes, ok)
	}
}

// TestTablesWithOneChange puts another number into tables, takes numbers out, and exchanges rows.
func TestTablesWithOneChange(t *testing.T) {
	for _, votes := range longOrdered() {
		rows := tableBySearch(votes)
		for i, row := range rows {
			for place, number := range row {
				for _, bad := range []int{number - 1, number + 1, 0, -number, len(votes) + 1, number + 1<<32} {
					row[place] = bad
					again, ok := impl.VotesOfTable(rows)
					wantFailure(t, aboutRows("VotesOfTable", rows), again, ok)
				}
				row[place] = number
			}
			if len(row) > 0 {
				checkWithoutLast(t, rows, i, votes)
			}
		}
		for i := 1; i < len(rows) && len(rows[i-1]) > 0; i++ {
			rows[i-1], rows[i] = rows[i], rows[i-1]
			again, ok := impl.VotesOfTable(rows)
			wantFailure(t, aboutRows("VotesOfTable", rows), again, ok)
			rows[i-1], rows[i] = rows[i], rows[i-1]
		}
	}
}

// checkWithoutLast takes the last number out of a row: what is left is a table if it was that of the last vote.
func checkWithoutLast(t *testing.T, rows [][]int, i int, votes string) {
	t.Helper()
	row := rows[i]
	rows[i] = row[:len(row)-1]
	again, ok := impl.VotesOfTable(rows)
	if row[len(row)-1] == len(votes) {
		wantValue(t, aboutRows("VotesOfTable", rows), again, ok, votes[:len(votes)-1])
	} else {
		wantFailure(t, aboutRows("VotesOfTable", rows), again, ok)
	}
	rows[i] = row
}

// someResults are results, and lists that are none.
func someResults() [][]int {
	return slices.Concat(noResults()[:40], allResults()[:60], [][]int{
		{2, 2, 1, 0}, {3, 2, 1, 1}, {4, 4, 4, 4}, {16, 0, 0, 0}, {4, 4, 1, 1}, {7, 5, 0, 0}, {6, 3, 1, 0}, {5, 5, 5, 1}, {4, 4, 0, 0}, {4, 2, 2, 2},
	})
}

func TestResultsShareNoMemory(t *testing.T) {
	behind := []int{7, 0, 5, 1}
	for _, list := range someResults() {
		wantNoSharing(t, cycleCall{"ColumnsOf", impl.ColumnsOf}, list)
		want, wantOK := impl.HooksOf(slices.Clone(list))
		argument := withRoom(list, behind...)
		first, _ := impl.HooksOf(argument)
		second, _ := impl.HooksOf(argument)
		wantApart(t, aboutList("HooksOf", list), first, want)
		spoil(first, []int{7})
		wantApart(t, aboutList("HooksOf", list), reversed(second), reversed(want))
		third, ok := impl.HooksOf(argument)
		if ok != wantOK || !slices.EqualFunc(third, hooksOrNone(list), slices.Equal[[]int]) {
			t.Errorf("%s: %v, %v", aboutList("HooksOf", list), third, ok)
		}
		wantRoom(t, aboutList("HooksOf", list), argument, list, behind...)
	}
}

// hooksOrNone returns the hooks of a result, and none of another list.
func hooksOrNone(list []int) [][]int {
	if !impl.IsResult(list) {
		return nil
	}
	return hooksBySearch(list)
}

// TestResultsAreNotModified calls the functions whose results are no lists, and lists of texts.
func TestResultsAreNotModified(t *testing.T) {
	behind := []int{7, 0, 5, 1}
	for _, list := range someResults() {
		argument := withRoom(list, behind...)
		want, _ := impl.AllOrdered(slices.Clone(list))
		impl.IsResult(argument)
		impl.CountOrdered(argument)
		impl.CountVotes(argument)
		impl.OrderedOfRank(argument, 0)
		impl.OrderedOfRank(argument, 3)
		first, _ := impl.AllOrdered(argument)
		wantOwnTexts(t, aboutList("AllOrdered", list), first)
		spoil(first, "x")
		again, _ := impl.AllOrdered(argument)
		if !slices.Equal(again, want) {
			t.Errorf("%s: %v; want %v", aboutList("AllOrdered", list), again, want)
		}
		wantRoom(t, aboutList("a function of a result", list), argument, list, behind...)
	}
}

// wantOwnTexts wants no two texts next to each other to share memory.
func wantOwnTexts(t *testing.T, what string, texts []string) {
	t.Helper()
	for i := 1; i < len(texts); i++ {
		wantOwnMemory(t, what, texts[i], texts[i-1])
	}
}

func TestTextsOfVotesAreNewMemory(t *testing.T) {
	for _, text := range slices.Concat(votesUpTo(4), longVotes(), longOrdered()[:200]) {
		votes := freshText(text)
		winners, _ := impl.WinnersOf(votes)
		wantOwnMemory(t, "WinnersOf "+text, winners, votes)
		turned, _ := impl.ReverseVotes(votes)
		wantOwnMemory(t, "ReverseVotes "+text, turned, votes)
		columns, _ := impl.ColumnVotes(votes)
		wantOwnMemory(t, "ColumnVotes "+text, columns, votes)
		leaders, _ := impl.LeadersAlong(votes)
		wantOwnTexts(t, "LeadersAlong "+text, leaders)
		for _, leader := range leaders {
			wantOwnMemory(t, "LeadersAlong "+text, leader, votes)
		}
		spoil(leaders, "x")
		again, ok := impl.LeadersAlong(votes)
		if len(again) != len(text) || !ok || slices.Contains(again, "x") {
			t.Errorf("LeadersAlong %s: %v, %v", text, again, ok)
		}
		impl.IsOrdered(votes)
		impl.FirstOvertaken(votes)
		impl.RankOrdered(votes)
		if votes != text {
			t.Errorf("%q became %q", text, votes)
		}
	}
}

func TestListsOfVotesAreNewMemory(t *testing.T) {
	for _, text := range slices.Concat(votesUpTo(4), longVotes(), longOrdered()[:200]) {
		votes := freshText(text)
		wantNewList(t, "CountsOfVotes "+text, func() ([]int, bool) { return impl.CountsOfVotes(votes) })
		if overtakenBySearch(text) != 0 {
			continue
		}
		first, _ := impl.TableOfVotes(votes)
		second, _ := impl.TableOfVotes(votes)
		wantApart(t, "TableOfVotes "+text, first, tableBySearch(text))
		spoil(first, []int{7})
		wantApart(t, "TableOfVotes "+text, reversed(second), reversed(tableBySearch(text)))
		third, ok := impl.TableOfVotes(votes)
		wantLists(t, "TableOfVotes again "+text, third, ok, tableBySearch(text))
	}
}

func TestTablesAreNotModified(t *testing.T) {
	tables := noTables()
	for _, votes := range slices.Concat(noOrdered(), longOrdered()[:200]) {
		tables = append(tables, tableBySearch(votes))
	}
	for _, rows := range tables {
		var argument [][]int
		for _, row := range rows {
			argument = append(argument, roomy(row))
		}
		argument = withRoom(argument, []int{7}, nil)
		want, wantOK := impl.VotesOfTable(rows)
		what := aboutRows("VotesOfTable", rows)
		for range 2 {
			votes, ok := impl.VotesOfTable(argument)
			if votes != want || ok != wantOK {
				t.Errorf("%s: %s, %v; want %s, %v", what, votes, ok, want, wantOK)
			}
		}
		for i, row := range rows {
			wantRoomy(t, what, argument[i], row)
		}
		if more := argument[:len(rows)+2]; !slices.Equal(more[len(rows)], []int{7}) || more[len(rows)+1] != nil {
			t.Errorf("%s changes what is behind its rows", what)
		}
	}
}

// TestRoomBehindListsIsNotRead takes lists that would be a result, or a table, with what is behind their length.
func TestRoomBehindListsIsNotRead(t *testing.T) {
	result := []int{2, 2, 1, 0, 0}
	failResult(t, result[:3])
	failResult(t, result)
	if !impl.IsResult(result[:4]) {
		t.Errorf("%s: false", aboutList("IsResult", result[:4]))
	}
	rows := [][]int{{1}, {2}, {3}, {4}, {5}}
	for _, number := range []int{0, 1, 2, 3, 5} {
		votes, ok := impl.VotesOfTable(rows[:number])
		wantFailure(t, aboutRows("VotesOfTable", rows[:number]), votes, ok)
	}
	votes, ok := impl.VotesOfTable(rows[:4])
	wantValue(t, "VotesOfTable", votes, ok, "abcd")
	long := []int{1, 2, 3, 4}
	votes, ok = impl.VotesOfTable([][]int{long[:2], {3}, long[4:], nil})
	wantValue(t, "VotesOfTable", votes, ok, "aab")
}

// TestVotesKeepNoState asks the same behind other calls, failing ones among them.
func TestVotesKeepNoState(t *testing.T) {
	others := slices.Concat(noVotes()[:30], noOrdered(), longVotes())
	for _, votes := range slices.Concat(votesUpTo(3), noOrdered(), longVotes()) {
		ordered, _ := impl.IsOrdered(votes)
		at, _ := impl.FirstOvertaken(votes)
		rank, _ := impl.RankOrdered(votes)
		for _, other := range others {
			impl.IsOrdered(other)
			impl.FirstOvertaken(other)
			impl.RankOrdered(other)
			impl.OrderedOfRank(countsBySearch(other), 1)
		}
		orderedAgain, _ := impl.IsOrdered(votes)
		atAgain, _ := impl.FirstOvertaken(votes)
		rankAgain, _ := impl.RankOrdered(votes)
		if orderedAgain != ordered || atAgain != at || rankAgain != rank {
			t.Errorf("%s: %v, %d, %d; at first %v, %d, %d", votes, orderedAgain, atAgain, rankAgain, ordered, at, rank)
		}
	}
}
