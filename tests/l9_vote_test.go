package tests

import (
	"slices"
	"strings"
	"testing"

	"loop.example/g01218/impl"
)

// letters are those of all candidates.
const letters = "abcd"

// votesOf returns all votes of n letters in the order of texts.
func votesOf(n int) []string {
	if n == 0 {
		return []string{""}
	}
	var all []string
	for _, first := range strings.Split(letters, "") {
		for _, rest := range votesOf(n - 1) {
			all = append(all, first+rest)
		}
	}
	return all
}

// votesUpTo returns all votes of 0 to n letters.
func votesUpTo(n int) []string {
	var all []string
	for i := range n + 1 {
		all = append(all, votesOf(i)...)
	}
	return all
}

// longVotes are votes of all kinds with just MaxVotes letters, or nearly as many.
func longVotes() []string {
	return []string{
		steps("a", 16), steps("b", 16), steps("d", 16), steps("ab", 8), steps("ba", 8), steps("abcd", 4), steps("dcba", 4),
		steps("a", 8) + steps("b", 8), steps("a", 7) + steps("b", 8) + "a", steps("a", 15) + "b", steps("a", 15) + "c", "b" + steps("a", 15),
		steps("a", 4) + steps("b", 4) + steps("c", 4) + steps("d", 4), "aabbccddabcdabcd", "aaabbbcccddabcdd", "abcabcabcabcabcd",
		steps("a", 15), steps("abc", 5), "aabbaabbccccdd", "aaabbcadbacbadc", "abacabadabacabad", "ddddccccbbbbaaaa",
	}
}

// countsBySearch returns how often each letter is there.
func countsBySearch(votes string) []int {
	var counts []int
	for _, letter := range strings.Split(letters, "") {
		counts = append(counts, strings.Count(votes, letter))
	}
	return counts
}

// winnersBySearch returns the letters of which no other one is there more often.
func winnersBySearch(votes string) string {
	winners := ""
	for _, letter := range strings.Split(letters, "") {
		if strings.Count(votes, letter) == slices.Max(countsBySearch(votes)) {
			winners += letter
		}
	}
	return winners
}

// falls reports whether no number is greater than the one before.
func falls(list []int) bool {
	for i := range list {
		if slices.Max(list[i:]) != list[i] {
			return false
		}
	}
	return true
}

// overtakenBySearch returns the least number of votes behind which counts do not fall, 0 if there is none.
func overtakenBySearch(votes string) int {
	for i := range len(votes) + 1 {
		if !falls(countsBySearch(votes[:i])) {
			return i
		}
	}
	return 0
}

// tableBySearch returns for each letter at which numbers it is.
func tableBySearch(votes string) [][]int {
	rows := make([][]int, len(letters))
	for i := range len(votes) {
		for row := range rows {
			if votes[i] == letters[row] {
				rows[row] = append(rows[row], i+1)
			}
		}
	}
	return rows
}

// columnsBySearch returns for each vote the letter with the number of those like it before.
func columnsBySearch(votes string) string {
	columns := ""
	for i := range len(votes) {
		before := strings.Count(votes[:i], votes[i:i+1])
		columns += letters[before : before+1]
	}
	return columns
}

// backwards returns a text from its end on.
func backwards(text string) string {
	turned := ""
	for i := range len(text) {
		turned = text[i:i+1] + turned
	}
	return turned
}

// allResults returns all results.
func allResults() [][]int {
	var results [][]int
	eachList(len(letters), impl.MaxVotes, func(list []int) {
		if falls(list) && sumOf(list) <= impl.MaxVotes {
			results = append(results, list)
		}
	})
	return results
}

// lead is what leads from one list of four numbers to another one.
type lead struct {
	from [4]int
	to   [4]int
}

// leads keeps in how many ways ordered votes lead on, found by their last votes.
type leads map[lead]int

func (l leads) count(from, to []int) int {
	key := lead{[4]int(from), [4]int(to)}
	if slices.Equal(from, to) {
		return 1
	}
	ways, known := l[key]
	if known {
		return ways
	}
	for candidate := range to {
		before := slices.Clone(to)
		before[candidate]--
		if before[candidate] >= from[candidate] && falls(before) {
			ways += l.count(from, before)
		}
	}
	l[key] = ways
	return ways
}

// rank counts the ordered votes that leave some votes at one of them, for a letter before it.
func (l leads) rank(votes string) int {
	rank := 0
	for i := range len(votes) {
		for _, letter := range strings.Split(letters, "") {
			other := votes[:i] + letter
			if letter < votes[i:i+1] && overtakenBySearch(other) == 0 {
				rank += l.count(countsBySearch(other), countsBySearch(votes))
			}
		}
	}
	return rank
}

// goOn returns the ordered votes with a result that begin with some votes, in order.
func goOn(votes string, result []int) []string {
	counts := countsBySearch(votes)
	if slices.Equal(counts, result) {
		return []string{votes}
	}
	var all []string
	for candidate, letter := range strings.Split(letters, "") {
		if counts[candidate] < result[candidate] && overtakenBySearch(votes+letter) == 0 {
			all = append(all, goOn(votes+letter, result)...)
		}
	}
	return all
}

// longOrdered returns ordered votes with each result, of ranks all over.
func longOrdered() []string {
	var all []string
	thrown := dice(9)
	for _, result := range allResults() {
		count, _ := impl.CountOrdered(result)
		for _, rank := range []int{0, count - 1, thrown.from(0, count-1), thrown.from(0, count-1)} {
			votes, _ := impl.OrderedOfRank(result, rank)
			all = append(all, votes)
		}
	}
	return all
}

func TestKnownVotes(t *testing.T) {
	result := []int{2, 2, 1, 0}
	ordered, ok := impl.IsOrdered("aabbc")
	wantValue(t, "IsOrdered", ordered, ok, true)
	counts, ok := impl.CountsOfVotes("aabbc")
	wantList(t, "CountsOfVotes", counts, ok, result)
	ordered, ok = impl.IsOrdered("abb")
	wantValue(t, "IsOrdered", ordered, ok, false)
	at, ok := impl.FirstOvertaken("abb")
	wantValue(t, "FirstOvertaken", at, ok, 3)
	hooks, ok := impl.HooksOf(result)
	wantLists(t, "HooksOf", hooks, ok, [][]int{{4, 2}, {3, 1}, {1}, {}})
	count, ok := impl.CountOrdered(result)
	wantValue(t, "CountOrdered", count, ok, 5)
	count, ok = impl.CountVotes(result)
	wantValue(t, "CountVotes", count, ok, 30)
	all, ok := impl.AllOrdered(result)
	wantList(t, "AllOrdered", all, ok, []string{"aabbc", "aabcb", "ababc", "abacb", "abcab"})
	rank, ok := impl.RankOrdered("aabcb")
	wantValue(t, "RankOrdered", rank, ok, 1)
	votes, ok := impl.OrderedOfRank(result, 4)
	wantValue(t, "OrderedOfRank", votes, ok, "abcab")
	rows, ok := impl.TableOfVotes("abacb")
	wantLists(t, "TableOfVotes", rows, ok, [][]int{{1, 3}, {2, 5}, {4}, {}})
	votes, ok = impl.VotesOfTable([][]int{{1, 3}, {2, 5}, {4}, {}})
	wantValue(t, "VotesOfTable", votes, ok, "abacb")
	columns, ok := impl.ColumnsOf(result)
	wantList(t, "ColumnsOf", columns, ok, []int{3, 2, 0, 0})
	votes, ok = impl.ColumnVotes("aabbc")
	wantValue(t, "ColumnVotes", votes, ok, "ababa")
	votes, ok = impl.ColumnVotes("ababa")
	wantValue(t, "ColumnVotes again", votes, ok, "aabbc")
	votes, ok = impl.ReverseVotes("aabbc")
	wantValue(t, "ReverseVotes", votes, ok, "cbbaa")
}

// TestKnownWinners takes one, several and all candidates with the most votes, and such with none.
func TestKnownWinners(t *testing.T) {
	for _, known := range []struct {
		votes   string
		winners string
		leaders []string
	}{
		{"", "abcd", nil}, {"a", "a", []string{"a"}}, {"b", "b", []string{"b"}}, {"d", "d", []string{"d"}},
		{"ba", "ab", []string{"b", "ab"}}, {"dcba", "abcd", []string{"d", "cd", "bcd", "abcd"}},
		{"dcbb", "b", []string{"d", "cd", "bcd", "b"}}, {"ccaacb", "c", []string{"c", "c", "c", "ac", "c", "c"}},
		{"bbdda", "bd", []string{"b", "b", "b", "bd", "bd"}}, {"abab", "ab", []string{"a", "ab", "a", "ab"}},
	} {
		winners, ok := impl.WinnersOf(known.votes)
		wantValue(t, "WinnersOf "+known.votes, winners, ok, known.winners)
		leaders, ok := impl.LeadersAlong(known.votes)
		wantList(t, "LeadersAlong "+known.votes, leaders, ok, known.leaders)
	}
}

// TestKnownOvertakings takes votes that are overtaken at the first vote, in the middle, at the last one, or not.
func TestKnownOvertakings(t *testing.T) {
	for _, known := range []struct {
		votes string
		at    int
	}{
		{"", 0}, {"a", 0}, {"b", 1}, {"c", 1}, {"d", 1}, {"ab", 0}, {"ac", 2}, {"ad", 2}, {"abc", 0}, {"abd", 3}, {"abcd", 0},
		{"abba", 3}, {"abbaa", 3}, {"baaa", 1}, {"aabbb", 5}, {"aabcc", 5}, {"abcdd", 5}, {"aabbccddd", 9}, {"aabcdab", 0}, {"acb", 2},
		{"dddd", 1}, {steps("a", 16), 0}, {steps("ab", 7) + "bb", 15}, {steps("ab", 7) + "ba", 15}, {steps("abcd", 4), 0},
		{steps("a", 8) + steps("b", 8), 0}, {steps("a", 7) + steps("b", 9), 15}, {steps("abcd", 3) + "abdc", 15}, {steps("abc", 5) + "d", 0},
		{steps("a", 15) + "c", 16}, {"b" + steps("a", 15), 1},
	} {
		at, ok := impl.FirstOvertaken(known.votes)
		if known.at > 0 {
			wantValue(t, "FirstOvertaken "+known.votes, at, ok, known.at)
		} else {
			wantFailure(t, "FirstOvertaken "+known.votes, at, ok)
		}
		ordered, ok := impl.IsOrdered(known.votes)
		wantValue(t, "IsOrdered "+known.votes, ordered, ok, known.at == 0)
	}
}

func TestNoVotesAtAll(t *testing.T) {
	none := []int{0, 0, 0, 0}
	ordered, ok := impl.IsOrdered("")
	wantValue(t, "IsOrdered", ordered, ok, true)
	leaders, ok := impl.LeadersAlong("")
	wantList(t, "LeadersAlong", leaders, ok, nil)
	counts, ok := impl.CountsOfVotes("")
	wantList(t, "CountsOfVotes", counts, ok, none)
	hooks, ok := impl.HooksOf(none)
	wantLists(t, "HooksOf", hooks, ok, make([][]int, 4))
	count, ok := impl.CountOrdered(none)
	wantValue(t, "CountOrdered", count, ok, 1)
	count, ok = impl.CountVotes(none)
	wantValue(t, "CountVotes", count, ok, 1)
	all, ok := impl.AllOrdered(none)
	wantList(t, "AllOrdered", all, ok, []string{""})
	rank, ok := impl.RankOrdered("")
	wantValue(t, "RankOrdered", rank, ok, 0)
	votes, ok := impl.OrderedOfRank(none, 0)
	wantValue(t, "OrderedOfRank", votes, ok, "")
	rows, ok := impl.TableOfVotes("")
	wantLists(t, "TableOfVotes", rows, ok, make([][]int, 4))
	for _, table := range [][][]int{make([][]int, 4), {{}, {}, {}, {}}, {nil, {}, nil, {}}} {
		votes, ok = impl.VotesOfTable(table)
		wantValue(t, "VotesOfTable", votes, ok, "")
	}
	columns, ok := impl.ColumnsOf(none)
	wantList(t, "ColumnsOf", columns, ok, none)
	votes, ok = impl.ColumnVotes("")
	wantValue(t, "ColumnVotes", votes, ok, "")
	votes, ok = impl.ReverseVotes("")
	wantValue(t, "ReverseVotes", votes, ok, "")
}

// TestVotes holds what is told of any votes against the words of the document.
func TestVotes(t *testing.T) {
	for _, votes := range slices.Concat(votesUpTo(6), longVotes(), longOrdered()) {
		if !impl.AreVotes(votes) {
			t.Errorf("AreVotes %s: false", votes)
		}
		counts, ok := impl.CountsOfVotes(votes)
		wantList(t, "CountsOfVotes "+votes, counts, ok, countsBySearch(votes))
		winners, ok := impl.WinnersOf(votes)
		wantValue(t, "WinnersOf "+votes, winners, ok, winnersBySearch(votes))
		var want []string
		for i := range len(votes) {
			want = append(want, winnersBySearch(votes[:i+1]))
		}
		leaders, ok := impl.LeadersAlong(votes)
		wantList(t, "LeadersAlong "+votes, leaders, ok, want)
		turned, ok := impl.ReverseVotes(votes)
		wantValue(t, "ReverseVotes "+votes, turned, ok, backwards(votes))
		overtaken := overtakenBySearch(votes)
		ordered, ok := impl.IsOrdered(votes)
		wantValue(t, "IsOrdered "+votes, ordered, ok, overtaken == 0)
		at, ok := impl.FirstOvertaken(votes)
		if overtaken == 0 {
			wantFailure(t, "FirstOvertaken "+votes, at, ok)
			checkOrdered(t, votes)
		} else {
			wantValue(t, "FirstOvertaken "+votes, at, ok, overtaken)
			failOrdered(t, votes)
		}
	}
}

// checkOrdered checks what is told of ordered votes alone.
func checkOrdered(t *testing.T, votes string) {
	t.Helper()
	rows, ok := impl.TableOfVotes(votes)
	wantLists(t, "TableOfVotes "+votes, rows, ok, tableBySearch(votes))
	again, ok := impl.VotesOfTable(rows)
	wantValue(t, "VotesOfTable "+votes, again, ok, votes)
	for i := 1; i < len(rows); i++ {
		for place, number := range rows[i] {
			if number <= rows[i-1][place] {
				t.Errorf("TableOfVotes %s: %v", votes, rows)
			}
		}
	}
	counts := countsBySearch(votes)
	if !impl.IsResult(counts) {
		t.Errorf("%s: false", aboutList("IsResult", counts))
	}
	rank, ok := impl.RankOrdered(votes)
	if count, _ := impl.CountOrdered(counts); !ok || rank < 0 || rank >= count {
		t.Errorf("RankOrdered %s: %d, %v", votes, rank, ok)
	}
	again, ok = impl.OrderedOfRank(counts, rank)
	wantValue(t, "OrderedOfRank "+votes, again, ok, votes)
	checkColumns(t, votes)
}

// checkColumns reads ordered votes by columns, and twice.
func checkColumns(t *testing.T, votes string) {
	t.Helper()
	counts := countsBySearch(votes)
	columns, ok := impl.ColumnVotes(votes)
	if counts[0] > 4 {
		wantFailure(t, "ColumnVotes "+votes, columns, ok)
		return
	}
	wantValue(t, "ColumnVotes "+votes, columns, ok, columnsBySearch(votes))
	ordered, ok := impl.IsOrdered(columns)
	wantValue(t, "IsOrdered ColumnVotes "+votes, ordered, ok, true)
	want, ok := impl.ColumnsOf(counts)
	wantList(t, aboutList("ColumnsOf", counts), countsBySearch(columns), ok, want)
	again, ok := impl.ColumnVotes(columns)
	wantValue(t, "ColumnVotes of ColumnVotes "+votes, again, ok, votes)
}

// ranksAbout returns all ranks among so many, or those at both ends and some between.
func (d *dice) ranksAbout(count int) []int {
	var ranks []int
	if count <= 40 {
		for rank := range count {
			ranks = append(ranks, rank)
		}
		return ranks
	}
	ranks = append(ranks, 0, 1, 2, count/2, count-3, count-2, count-1)
	for range 8 {
		ranks = append(ranks, d.from(0, count-1))
	}
	slices.Sort(ranks)
	return slices.Compact(ranks)
}

// TestRanksTellOrderedVotes counts, for each result, the votes before some by other ways.
func TestRanksTellOrderedVotes(t *testing.T) {
	known, thrown := leads{}, dice(3)
	for _, result := range allResults() {
		count, _ := impl.CountOrdered(result)
		before := ""
		for _, rank := range thrown.ranksAbout(count) {
			what := aboutList("OrderedOfRank", result, rank)
			votes, ok := impl.OrderedOfRank(result, rank)
			if !ok || !slices.Equal(countsBySearch(votes), result) || overtakenBySearch(votes) != 0 {
				t.Errorf("%s: %s, %v", what, votes, ok)
			}
			if rank > 0 && before >= votes {
				t.Errorf("%s: %s is not behind %s", what, votes, before)
			}
			wantValue(t, what+" by ways on", known.rank(votes), ok, rank)
			again, ok := impl.RankOrdered(votes)
			wantValue(t, "RankOrdered "+votes, again, ok, rank)
			before = votes
		}
		for _, rank := range []int{-1, -2, -count, count, count + 1, 2 * count} {
			votes, ok := impl.OrderedOfRank(result, rank)
			wantFailure(t, aboutList("OrderedOfRank", result, rank), votes, ok)
		}
	}
}

// TestOrderedAreListed takes lists of all votes with few letters.
func TestOrderedAreListed(t *testing.T) {
	for n := range 8 {
		listed := map[[4]int][]string{}
		together := map[[4]int]int{}
		for _, votes := range votesOf(n) {
			key := [4]int(countsBySearch(votes))
			together[key]++
			if overtakenBySearch(votes) == 0 {
				listed[key] = append(listed[key], votes)
			}
		}
		for _, result := range allResults() {
			if sumOf(result) != n {
				continue
			}
			want := listed[[4]int(result)]
			got, ok := impl.AllOrdered(result)
			wantList(t, aboutList("AllOrdered", result), got, ok, want)
			count, ok := impl.CountOrdered(result)
			wantValue(t, aboutList("CountOrdered", result), count, ok, len(want))
			count, ok = impl.CountVotes(result)
			wantValue(t, aboutList("CountVotes", result), count, ok, together[[4]int(result)])
			for rank, votes := range want {
				got, ok := impl.RankOrdered(votes)
				wantValue(t, "RankOrdered "+votes, got, ok, rank)
			}
			delete(listed, [4]int(result))
		}
		if len(listed) != 0 {
			t.Errorf("%s: %v", about("results left", n), listed)
		}
	}
}

// TestLimitOfOrdered lists all results: some have just MaxListedVotes ordered votes, others fewer or more.
func TestLimitOfOrdered(t *testing.T) {
	just, fewer, more := 0, 0, 0
	known := leads{}
	for _, result := range allResults() {
		count := known.count(make([]int, 4), result)
		all, ok := impl.AllOrdered(result)
		if count > impl.MaxListedVotes {
			more++
			wantListFailure(t, aboutList("AllOrdered", result), all, ok)
			continue
		}
		if count == impl.MaxListedVotes {
			just++
		} else {
			fewer++
		}
		wantValue(t, aboutList("length of AllOrdered", result), len(all), ok, count)
		wantList(t, aboutList("AllOrdered", result), all, ok, goOn("", result))
	}
	if just != 2 || fewer == 0 || more == 0 {
		t.Errorf("%d results with just as many, %d with fewer, %d with more", just, fewer, more)
	}
}

// TestKnownLimitOfOrdered takes the results next to the limit.
func TestKnownLimitOfOrdered(t *testing.T) {
	for _, known := range []struct {
		result []int
		count  int
	}{
		{[]int{7, 5, 0, 0}, 297}, {[]int{4, 4, 1, 1}, 300}, {[]int{4, 2, 2, 2}, 300}, {[]int{6, 3, 1, 0}, 315}, {[]int{9, 2, 1, 0}, 320},
	} {
		count, ok := impl.CountOrdered(known.result)
		wantValue(t, aboutList("CountOrdered", known.result), count, ok, known.count)
		all, ok := impl.AllOrdered(known.result)
		if known.count > impl.MaxListedVotes {
			wantListFailure(t, aboutList("AllOrdered", known.result), all, ok)
		} else {
			wantValue(t, aboutList("AllOrdered", known.result), len(all), ok, known.count)
		}
	}
}

// hooksBySearch counts the places to the right of each one and below it.
func hooksBySearch(result []int) [][]int {
	hooks := make([][]int, len(result))
	for candidate := range result {
		for place := range result[candidate] {
			length := 1
			for other := range result {
				for there := range result[other] {
					if other == candidate && there > place || there == place && other > candidate {
						length++
					}
				}
			}
			hooks[candidate] = append(hooks[candidate], length)
		}
	}
	return hooks
}

// ordersBySteps returns in how many orders votes with a result can be: choices of places for one candidate after the other.
func ordersBySteps(result []int) int {
	orders, places := 1, 0
	for _, votes := range result {
		for i := range votes {
			places++
			orders = orders * places / (i + 1)
		}
	}
	return orders
}

// TestOrderedAreCountedByHooks takes all results.
func TestOrderedAreCountedByHooks(t *testing.T) {
	known := leads{}
	results := allResults()
	// So many lists there are of at most four numbers that do not rise.
	wantValue(t, "number of results", len(results), true, 359)
	for _, result := range results {
		if !impl.IsResult(result) {
			t.Errorf("%s: false", aboutList("IsResult", result))
		}
		hooks, ok := impl.HooksOf(result)
		wantLists(t, aboutList("HooksOf", result), hooks, ok, hooksBySearch(result))
		count, ok := impl.CountOrdered(result)
		wantValue(t, aboutList("CountOrdered", result), count, ok, known.count(make([]int, 4), result))
		product := count
		for _, hook := range slices.Concat(hooks...) {
			product *= hook
		}
		factorial := ordersBySteps(slices.Repeat([]int{1}, sumOf(result)))
		wantValue(t, aboutList("CountOrdered by hooks", result), product, ok, factorial)
		count, ok = impl.CountVotes(result)
		wantValue(t, aboutList("CountVotes", result), count, ok, ordersBySteps(result))
	}
}

// TestMostVotes takes results of just MaxVotes votes, and of one number alone.
func TestMostVotes(t *testing.T) {
	for _, known := range []struct {
		result  []int
		ordered int
		all     int
	}{
		{[]int{16, 0, 0, 0}, 1, 1}, {[]int{15, 1, 0, 0}, 15, 16}, {[]int{8, 8, 0, 0}, 1430, 12870}, {[]int{4, 4, 4, 4}, 24024, 63063000},
		{[]int{13, 1, 1, 1}, 455, 3360}, {[]int{6, 5, 3, 2}, 500500, 20180160}, {[]int{1, 1, 1, 1}, 1, 24}, {[]int{7, 0, 0, 0}, 1, 1}, {[]int{3, 3, 3, 3}, 462, 369600},
	} {
		count, ok := impl.CountOrdered(known.result)
		wantValue(t, aboutList("CountOrdered", known.result), count, ok, known.ordered)
		count, ok = impl.CountVotes(known.result)
		wantValue(t, aboutList("CountVotes", known.result), count, ok, known.all)
	}
	all, ok := impl.AllOrdered([]int{16, 0, 0, 0})
	wantList(t, "AllOrdered of one number alone", all, ok, []string{steps("a", 16)})
	first, ok := impl.OrderedOfRank([]int{4, 4, 4, 4}, 0)
	wantValue(t, "first of four equal ones", first, ok, "aaaabbbbccccdddd")
	last, ok := impl.OrderedOfRank([]int{4, 4, 4, 4}, 24023)
	wantValue(t, "last of four equal ones", last, ok, steps("abcd", 4))
	rank, ok := impl.RankOrdered(steps("abcd", 4))
	wantValue(t, "rank of the last one", rank, ok, 24023)
}

// TestColumnsOf takes all results, and counts the numbers that are greater.
func TestColumnsOf(t *testing.T) {
	for _, result := range allResults() {
		columns, ok := impl.ColumnsOf(result)
		if result[0] > 4 {
			wantListFailure(t, aboutList("ColumnsOf", result), columns, ok)
			continue
		}
		want := make([]int, 4)
		for column := range want {
			for _, number := range result {
				if number > column {
					want[column]++
				}
			}
		}
		wantList(t, aboutList("ColumnsOf", result), columns, ok, want)
		again, ok := impl.ColumnsOf(columns)
		wantList(t, aboutList("ColumnsOf ColumnsOf", result), again, ok, result)
		count, _ := impl.CountOrdered(result)
		other, ok := impl.CountOrdered(columns)
		wantValue(t, aboutList("CountOrdered of columns", result), other, ok, count)
	}
}

// TestColumnVotesAtTheLimit takes candidates with just 4 votes, and with one more.
func TestColumnVotesAtTheLimit(t *testing.T) {
	for _, known := range []struct{ votes, columns string }{
		{"aaaa", "abcd"}, {"abcd", "aaaa"}, {"aaaabbbbccccdddd", "abcdabcdabcdabcd"}, {"aaaab", "abcda"}, {"aabaa", "abacd"}, {"ababab", "aabbcc"},
	} {
		columns, ok := impl.ColumnVotes(known.votes)
		wantValue(t, "ColumnVotes "+known.votes, columns, ok, known.columns)
		columns, ok = impl.ColumnVotes(known.columns)
		wantValue(t, "ColumnVotes "+known.columns, columns, ok, known.votes)
	}
	for _, votes := range []string{"aaaaa", "aaaaab", "aaaabaa", steps("a", 16), steps("ab", 8), steps("abc", 5)} {
		columns, ok := impl.ColumnVotes(votes)
		wantFailure(t, "ColumnVotes "+votes, columns, ok)
	}
	for _, result := range [][]int{{5, 0, 0, 0}, {5, 4, 4, 3}, {5, 5, 5, 1}, {16, 0, 0, 0}} {
		columns, ok := impl.ColumnsOf(result)
		wantListFailure(t, aboutList("ColumnsOf", result), columns, ok)
	}
}

// rowsOf cuts a list into four rows of such lengths.
func rowsOf(list, lengths []int) [][]int {
	var rows [][]int
	for _, length := range lengths {
		rows = append(rows, list[:length])
		list = list[length:]
	}
	return rows
}

// TestAllSmallTables fills rows of all lengths with all numbers, and with some that are too small or too great.
func TestAllSmallTables(t *testing.T) {
	for n := range 5 {
		known := map[string]string{}
		for _, votes := range votesOf(n) {
			if overtakenBySearch(votes) == 0 {
				known[aboutRows("", tableBySearch(votes))] = votes
			}
		}
		found := 0
		eachList(4, n, func(lengths []int) {
			if sumOf(lengths) != n {
				return
			}
			eachList(n, n+1, func(list []int) {
				rows := rowsOf(list, lengths)
				want, is := known[aboutRows("", rows)]
				votes, ok := impl.VotesOfTable(rows)
				if !is {
					wantFailure(t, aboutRows("VotesOfTable", rows), votes, ok)
					return
				}
				found++
				wantValue(t, aboutRows("VotesOfTable", rows), votes, ok, want)
			})
		})
		if found != len(known) {
			t.Errorf("%s: %d of %d", about("tables", n), found, len(known))
		}
	}
}

// TestOrderedTogether adds up all results of as many votes.
func TestOrderedTogether(t *testing.T) {
	// The numbers of ordered votes for at most four candidates are known.
	want := []int{1, 1, 2, 4, 10, 25, 70, 196, 588, 1764, 5544, 17424, 56628, 184041, 613470, 2044900, 6952660}
	got := make([]int, len(want))
	for _, result := range allResults() {
		count, _ := impl.CountOrdered(result)
		got[sumOf(result)] += count
	}
	wantList(t, "sums of CountOrdered", got, true, want)
}
