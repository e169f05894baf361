package tests

import (
	"math"
	"slices"
	"testing"

	"loop.example/g00992/impl"
)

// noTotals are numbers of which there are no perfect lists, among them some that
// wrap around to small ones.
var noTotals = []int{
	0, 25, 26, 100, -1, -2, -24, 1 << 32, 1<<32 + 1, 1<<32 + 24, -1 << 32, -1<<32 + 5, 1<<63 - 24, -1<<63 + 24,
	math.MinInt, math.MinInt + 1, math.MaxInt - 1, math.MaxInt,
}

// noProducts are numbers of which there are no products.
var noProducts = []int{
	1, 0, 101, 102, 128, 1000, -1, -2, -6, -100, 1 << 32, 1<<32 + 6, 1<<32 + 100, -1 << 32, -1<<32 + 6, 1<<63 - 100, -1<<63 + 100,
	math.MinInt, math.MinInt + 1, math.MaxInt - 1, math.MaxInt,
}

// choiceWays tries all subsets of a set, without the program, and counts those
// with the same numbers once. It returns how many there are for each sum.
func choiceWays(set []int) map[int]int {
	ways, known := map[int]int{}, map[[8]int]bool{}
	for subset := range 1 << len(set) {
		var chosen [8]int
		count, sum := 0, 0
		for i, weight := range set {
			if subset>>i&1 == 1 {
				chosen[count] = weight
				count, sum = count+1, sum+weight
			}
		}
		if !known[chosen] {
			known[chosen] = true
			ways[sum]++
		}
	}
	return ways
}

// runWays is choiceWays for ascending lists of any length: it takes none, one or
// more of each run of equal numbers.
func runWays(list []int) map[int]int {
	ways := map[int]int{0: 1}
	for len(list) > 0 {
		run := 1
		for run < len(list) && list[run] == list[0] {
			run++
		}
		longer := map[int]int{}
		for sum, count := range ways {
			for taken := range run + 1 {
				longer[sum+taken*list[0]] += count
			}
		}
		ways, list = longer, list[run:]
	}
	return ways
}

// fewestAndMost are the least and the greatest number of ways to a number from
// 1 to the sum.
func fewestAndMost(ways map[int]int, sum int) (int, int) {
	fewest, most := math.MaxInt, 0
	for n := 1; n <= sum; n++ {
		fewest, most = min(fewest, ways[n]), max(most, ways[n])
	}
	return fewest, most
}

// ascendingLists are all ascending lists of positive numbers with a sum, none of
// them less than least, in lexicographic order.
func ascendingLists(sum int, least int) [][]int {
	if sum == 0 {
		return [][]int{{}}
	}
	var lists [][]int
	for first := least; first <= sum; first++ {
		for _, rest := range ascendingLists(sum-first, first) {
			lists = append(lists, append([]int{first}, rest...))
		}
	}
	return lists
}

// perfectLists are those of the ascending lists that have one way to each
// number, found without the program.
func perfectLists(n int) [][]int {
	var lists [][]int
	for _, list := range ascendingLists(n, 1) {
		if fewest, most := fewestAndMost(runWays(list), n); fewest == 1 && most == 1 {
			lists = append(lists, list)
		}
	}
	return lists
}

// factorLists multiplies as long as a product is at most 100, and returns the
// lists by product, in lexicographic order.
func factorLists() [101][][]int {
	var lists [101][][]int
	var multiply func(list []int, product int)
	multiply = func(list []int, product int) {
		if len(list) > 0 {
			lists[product] = append(lists[product], list)
		}
		for factor := 2; factor*product <= 100; factor++ {
			multiply(append(slices.Clone(list), factor), factor*product)
		}
	}
	multiply(nil, 1)
	return lists
}

func sameLists(a [][]int, b [][]int) bool {
	return slices.EqualFunc(a, b, slices.Equal[[]int])
}

func cloneLists(lists [][]int) [][]int {
	var cloned [][]int
	for _, list := range lists {
		cloned = append(cloned, slices.Clone(list))
	}
	return cloned
}

// checkOrder reports lists that do not grow lexicographically.
func checkOrder(t *testing.T, name string, n int, lists [][]int) {
	t.Helper()
	for i := 1; i < len(lists); i++ {
		if slices.Compare(lists[i-1], lists[i]) >= 0 {
			t.Errorf("%s(%d): %v stands before %v", name, n, lists[i-1], lists[i])
		}
	}
}

// checkChoices compares what the program says of a valid set with all subsets,
// for every n from a little below 0 to a little above the sum.
func checkChoices(t *testing.T, set []int) {
	t.Helper()
	if !impl.SetOk(set) {
		t.Fatalf("SetOk(%v) is false", set)
	}
	ways, sum := choiceWays(set), 0
	for _, weight := range set {
		sum += weight
	}
	for n := -3; n <= sum+3; n++ {
		if got := impl.SumWays(set, n); got != ways[n] {
			t.Errorf("SumWays(%v, %d) = %d; want %d", set, n, got, ways[n])
		}
	}
	for _, n := range append([]int{-sum, -sum - 1, -1000}, farNumbers...) {
		if got := impl.SumWays(set, n); got != 0 {
			t.Errorf("SumWays(%v, %d) = %d; want 0", set, n, got)
		}
	}
	fewest, most := fewestAndMost(ways, sum)
	checkKind(t, set, fewest >= 1, fewest == 1 && most == 1)
}

func checkKind(t *testing.T, set []int, complete bool, perfect bool) {
	t.Helper()
	if got := impl.IsComplete(set); got != complete {
		t.Errorf("IsComplete(%v) = %v", set, got)
	}
	if got := impl.IsPerfectSet(set); got != perfect {
		t.Errorf("IsPerfectSet(%v) = %v", set, got)
	}
}

func TestPerfectLimit(t *testing.T) {
	if impl.MaxTotal != 24 {
		t.Error("greatest sum:", impl.MaxTotal)
	}
}

// TestSumWays lists the ways to 0, 1, 2 and so on, up to the sum.
func TestSumWays(t *testing.T) {
	cases := []struct{ set, ways []int }{
		{[]int{1}, []int{1, 1}},
		{[]int{2}, []int{1, 0, 1}},
		{[]int{5}, []int{1, 0, 0, 0, 0, 1}},
		{[]int{1, 1}, []int{1, 1, 1}},
		{[]int{2, 2}, []int{1, 0, 1, 0, 1}},
		{[]int{1, 1, 1}, []int{1, 1, 1, 1}},
		{[]int{1, 2}, []int{1, 1, 1, 1}},
		{[]int{1, 3}, []int{1, 1, 0, 1, 1}},
		{[]int{1, 1, 2}, []int{1, 1, 2, 1, 1}},
		{[]int{1, 1, 3}, []int{1, 1, 1, 1, 1, 1}},
		{[]int{1, 2, 2}, []int{1, 1, 1, 1, 1, 1}},
		{[]int{1, 2, 3}, []int{1, 1, 1, 2, 1, 1, 1}},
		{[]int{2, 2, 4}, []int{1, 0, 1, 0, 2, 0, 1, 0, 1}},
		{[]int{1, 2, 2, 3}, []int{1, 1, 1, 2, 2, 2, 1, 1, 1}},
		{[]int{1, 2, 3, 3}, []int{1, 1, 1, 2, 1, 1, 2, 1, 1, 1}},
		{[]int{1, 1, 2, 2}, []int{1, 1, 2, 1, 2, 1, 1}},
		{[]int{1, 1, 1, 2, 2, 2}, []int{1, 1, 2, 2, 2, 2, 2, 2, 1, 1}},
		{[]int{1, 1, 2, 3, 3}, []int{1, 1, 2, 2, 2, 2, 2, 2, 2, 1, 1}},
	}
	for _, c := range cases {
		for n, want := range c.ways {
			if got := impl.SumWays(c.set, n); got != want {
				t.Errorf("SumWays(%v, %d) = %d; want %d", c.set, n, got, want)
			}
		}
		checkChoices(t, c.set)
	}
}

// TestSumWaysOfNothing has the choice of no weight, which is the only one with
// the sum 0, and negative numbers, which two pans could weigh.
func TestSumWaysOfNothing(t *testing.T) {
	for _, set := range append(ascendingSets(4, 1, 5), powersOf(2, 8), powersOf(3, 7), slices.Repeat([]int{1000}, 8)) {
		if got := impl.SumWays(set, 0); got != 1 {
			t.Errorf("SumWays(%v, 0) = %d; want 1", set, got)
		}
		for _, n := range []int{-1, -2, -3, -set[0], -set[len(set)-1], -1000, -8000, math.MinInt} {
			if got := impl.SumWays(set, n); got != 0 {
				t.Errorf("SumWays(%v, %d) = %d; want 0", set, n, got)
			}
		}
	}
}

// TestSumWaysOfEqualWeights has runs of each length at the beginning, in the
// middle and at the end.
func TestSumWaysOfEqualWeights(t *testing.T) {
	for count := 1; count <= 8; count++ {
		for _, weight := range []int{1, 2, 7, 999, 1000} {
			set := slices.Repeat([]int{weight}, count)
			for taken := range count + 1 {
				if got := impl.SumWays(set, taken*weight); got != 1 {
					t.Errorf("SumWays(%v, %d) = %d; want 1", set, taken*weight, got)
				}
			}
			checkChoices(t, set)
		}
		for before := range 9 - count {
			for after := range 9 - count - before {
				checkChoices(t, slices.Concat([]int{1, 2, 3, 4, 5, 6, 7}[:before], slices.Repeat([]int{8}, count), []int{9, 10, 11, 12, 13, 14, 15}[:after]))
				checkChoices(t, slices.Concat(slices.Repeat([]int{1}, before), slices.Repeat([]int{2}, count), slices.Repeat([]int{3}, after)))
			}
		}
	}
}

// TestChoicesOfSmallSets has all sets of few or light weights, with all equal
// ones.
func TestChoicesOfSmallSets(t *testing.T) {
	for i, most := range []int{40, 12, 9, 8, 6, 5, 4, 3} {
		for _, set := range ascendingSets(i+1, 1, most) {
			checkChoices(t, set)
		}
	}
}

func TestChoicesOfLargeSets(t *testing.T) {
	for _, set := range [][]int{
		{1000}, {999, 1000}, {1000, 1000}, {1, 1, 1000}, {500, 500, 1000}, {1, 500, 500, 1000}, {333, 334, 335, 1000},
		{1, 2, 5, 10, 20, 50, 100, 200}, {1, 2, 2, 5, 10, 20, 20, 50}, {7, 7, 7, 50, 50, 120, 120, 120},
		{1, 1, 2, 3, 5, 8, 13, 21}, {1, 2, 3, 4, 5, 6, 7, 8}, {1, 1, 3, 3, 9, 9, 27, 27}, {1, 1, 1, 4, 4, 4, 16, 16}, {1, 2, 2, 6, 6, 18, 18, 54},
		{993, 994, 995, 996, 997, 998, 999, 1000}, powersOf(2, 8), powersOf(3, 7), append(powersOf(3, 7), 1000),
	} {
		checkChoices(t, set)
	}
}

// TestEightOfThousand has the greatest sum of a valid set.
func TestEightOfThousand(t *testing.T) {
	set := slices.Repeat([]int{1000}, 8)
	for n := -10; n <= 8010; n++ {
		want := 0
		if n >= 0 && n <= 8000 && n%1000 == 0 {
			want = 1
		}
		if got := impl.SumWays(set, n); got != want {
			t.Errorf("SumWays(%v, %d) = %d; want %d", set, n, got, want)
		}
	}
	for _, n := range []int{9000, -1000, -8000, math.MinInt, math.MaxInt} {
		if got := impl.SumWays(set, n); got != 0 {
			t.Errorf("SumWays(%v, %d) = %d; want 0", set, n, got)
		}
	}
	checkKind(t, set, false, false)
}

// TestCompleteAndPerfect has sets with a gap, with two ways to a sum, and with
// one way to each sum.
func TestCompleteAndPerfect(t *testing.T) {
	for _, set := range [][]int{
		{2}, {1000}, {1, 3}, {2, 2}, {2, 3}, {1, 4}, {1, 1, 4}, {1, 2, 5}, {1, 2, 4, 9}, {2, 3, 4}, {1, 1, 1, 5}, {1, 2, 2, 7}, {1, 1000},
		// A gap and two ways to a sum, or as many choices as a perfect set has.
		{1, 3, 4}, {2, 2, 4}, {1, 1, 2, 6}, {1, 5, 5, 6}, {1, 2, 3, 8}, {3, 3, 3, 3}, powersOf(3, 7), append(powersOf(2, 7), 129),
		append(slices.Repeat([]int{1}, 7), 9), append(slices.Repeat([]int{1}, 7), 1000), append([]int{1}, slices.Repeat([]int{1000}, 7)...),
	} {
		checkKind(t, set, false, false)
	}
	for _, set := range [][]int{
		{1, 1, 2}, {1, 2, 3}, {1, 1, 1, 2}, {1, 1, 1, 3}, {1, 2, 2, 2, 3}, {1, 2, 2, 5}, {1, 2, 4, 7}, {1, 1, 3, 5}, {1, 1, 2, 5},
		{1, 2, 3, 4, 5, 6, 7, 8}, {1, 1, 2, 3, 5, 8, 13, 21}, append(powersOf(2, 7), 127), append(slices.Repeat([]int{1}, 7), 7),
	} {
		checkKind(t, set, true, false)
	}
	for _, set := range [][]int{
		{1}, {1, 1}, {1, 2}, {1, 1, 1}, {1, 1, 3}, {1, 2, 2}, {1, 2, 4}, {1, 1, 1, 4}, {1, 2, 2, 2}, {1, 1, 3, 6}, {1, 2, 2, 6}, {1, 2, 4, 8},
		{1, 1, 3, 3, 9, 9, 27, 27}, {1, 1, 1, 4, 4, 4, 16, 16}, {1, 2, 2, 6, 6, 18, 18, 54}, powersOf(2, 8),
		slices.Repeat([]int{1}, 8), append(slices.Repeat([]int{1}, 7), 8), append([]int{1}, slices.Repeat([]int{2}, 7)...),
	} {
		checkKind(t, set, true, true)
	}
}

// TestChoicesOfInvalidSets has sets that would be perfect if they were valid,
// and asks for numbers that could be weighed.
func TestChoicesOfInvalidSets(t *testing.T) {
	list := append(invalidSets(),
		[]int{3, 1, 1}, []int{1, 3, 1}, []int{2, 1, 2}, []int{2, 2, 1}, []int{4, 2, 1}, []int{1, 4, 2}, []int{2, 1, 4, 8},
		[]int{2, 1, 4, 8, 16, 32, 64, 128}, []int{1, 2, 4, 8, 16, 32, 128, 64}, []int{0, 1}, []int{0, 0}, []int{0}, []int{-1, 1}, []int{-1}, []int{1, 0},
		[]int{1001}, []int{1, 1001}, []int{1, 2, 4, 8, 16, 32, 64, 1001}, append([]int{1}, slices.Repeat([]int{2}, 8)...))
	for _, set := range list {
		numbers := append([]int{0, 1, -1, 2, 3, 4, 5, 7, 9, 255, 1000, 1001}, farNumbers...)
		sum := 0
		for _, weight := range set {
			sum += weight
			numbers = append(numbers, weight, sum)
		}
		for _, n := range numbers {
			if got := impl.SumWays(set, n); got != 0 {
				t.Errorf("SumWays(%v, %d) = %d; want 0", set, n, got)
			}
		}
		checkKind(t, set, false, false)
	}
}

func TestPerfectLists(t *testing.T) {
	cases := []struct {
		n    int
		want [][]int
	}{
		{1, [][]int{{1}}},
		{2, [][]int{{1, 1}}},
		{3, [][]int{{1, 1, 1}, {1, 2}}},
		{4, [][]int{{1, 1, 1, 1}}},
		{5, [][]int{{1, 1, 1, 1, 1}, {1, 1, 3}, {1, 2, 2}}},
		{6, [][]int{{1, 1, 1, 1, 1, 1}}},
		{7, [][]int{{1, 1, 1, 1, 1, 1, 1}, {1, 1, 1, 4}, {1, 2, 2, 2}, {1, 2, 4}}},
		{8, [][]int{{1, 1, 1, 1, 1, 1, 1, 1}, {1, 1, 3, 3}}},
		{11, [][]int{
			slices.Repeat([]int{1}, 11), {1, 1, 1, 1, 1, 6}, {1, 1, 1, 4, 4}, {1, 1, 3, 3, 3}, {1, 1, 3, 6}, {1, 2, 2, 2, 2, 2}, {1, 2, 2, 6}, {1, 2, 4, 4},
		}},
		{22, [][]int{slices.Repeat([]int{1}, 22)}},
		{24, [][]int{slices.Repeat([]int{1}, 24), {1, 1, 1, 1, 5, 5, 5, 5}}},
	}
	for _, c := range cases {
		if got := impl.PerfectLists(c.n); !sameLists(got, c.want) {
			t.Errorf("PerfectLists(%d) = %v; want %v", c.n, got, c.want)
		}
	}
}

// TestPerfectListsAmongAll compares them with all ascending lists, for every n.
func TestPerfectListsAmongAll(t *testing.T) {
	for n := 1; n <= 24; n++ {
		got := impl.PerfectLists(n)
		if want := perfectLists(n); !sameLists(got, want) {
			t.Errorf("PerfectLists(%d) = %v; want %v", n, got, want)
		}
		checkOrder(t, "PerfectLists", n, got)
	}
}

// TestListOfOnes has lists of more than eight numbers, which are no valid sets.
func TestListOfOnes(t *testing.T) {
	for n := 1; n <= 24; n++ {
		ones := slices.Repeat([]int{1}, n)
		if lists := impl.PerfectLists(n); len(lists) == 0 || !slices.Equal(lists[0], ones) {
			t.Errorf("PerfectLists(%d) = %v, which does not begin with %d ones", n, lists, n)
		}
		checkKind(t, ones, n <= 8, n <= 8)
	}
}

// TestPerfectListsArePerfectSets compares the lists of at most eight numbers
// with the sets that are perfect.
func TestPerfectListsArePerfectSets(t *testing.T) {
	for n := 1; n <= 24; n++ {
		lists := impl.PerfectLists(n)
		for _, set := range ascendingLists(n, 1) {
			listed := slices.ContainsFunc(lists, func(list []int) bool { return slices.Equal(list, set) })
			if len(set) <= 8 && impl.IsPerfectSet(set) != listed {
				t.Errorf("IsPerfectSet(%v) = %v, but it is in PerfectLists(%d): %v", set, !listed, n, listed)
			}
		}
	}
}

func TestPerfectListsRejects(t *testing.T) {
	for _, n := range noTotals {
		if got := impl.PerfectLists(n); len(got) != 0 {
			t.Errorf("PerfectLists(%d) = %v; want nil", n, got)
		}
	}
}

func TestOrderedFactors(t *testing.T) {
	cases := []struct {
		n    int
		want [][]int
	}{
		{2, [][]int{{2}}},
		{3, [][]int{{3}}},
		{4, [][]int{{2, 2}, {4}}},
		{5, [][]int{{5}}},
		{6, [][]int{{2, 3}, {3, 2}, {6}}},
		{8, [][]int{{2, 2, 2}, {2, 4}, {4, 2}, {8}}},
		{9, [][]int{{3, 3}, {9}}},
		{12, [][]int{{2, 2, 3}, {2, 3, 2}, {2, 6}, {3, 2, 2}, {3, 4}, {4, 3}, {6, 2}, {12}}},
		{16, [][]int{{2, 2, 2, 2}, {2, 2, 4}, {2, 4, 2}, {2, 8}, {4, 2, 2}, {4, 4}, {8, 2}, {16}}},
		{49, [][]int{{7, 7}, {49}}},
		{97, [][]int{{97}}},
		{99, [][]int{{3, 3, 11}, {3, 11, 3}, {3, 33}, {9, 11}, {11, 3, 3}, {11, 9}, {33, 3}, {99}}},
		{100, [][]int{
			{2, 2, 5, 5}, {2, 2, 25}, {2, 5, 2, 5}, {2, 5, 5, 2}, {2, 5, 10}, {2, 10, 5}, {2, 25, 2}, {2, 50}, {4, 5, 5}, {4, 25},
			{5, 2, 2, 5}, {5, 2, 5, 2}, {5, 2, 10}, {5, 4, 5}, {5, 5, 2, 2}, {5, 5, 4}, {5, 10, 2}, {5, 20}, {10, 2, 5}, {10, 5, 2},
			{10, 10}, {20, 5}, {25, 2, 2}, {25, 4}, {50, 2}, {100},
		}},
	}
	for _, c := range cases {
		if got := impl.OrderedFactors(c.n); !sameLists(got, c.want) {
			t.Errorf("OrderedFactors(%d) = %v; want %v", c.n, got, c.want)
		}
	}
}

// TestOrderedFactorsAmongAll compares them with all products up to 100.
func TestOrderedFactorsAmongAll(t *testing.T) {
	all := factorLists()
	for n := 2; n <= 100; n++ {
		got := impl.OrderedFactors(n)
		if !sameLists(got, all[n]) {
			t.Errorf("OrderedFactors(%d) = %v; want %v", n, got, all[n])
		}
		checkOrder(t, "OrderedFactors", n, got)
	}
}

// TestOrderedFactorsOfPrimesAndPowers knows how many there are: of a power of a
// prime as many as there are ordered sums of its exponent.
func TestOrderedFactorsOfPrimesAndPowers(t *testing.T) {
	for _, prime := range []int{2, 3, 5, 7, 11, 13, 17, 19, 23, 29, 31, 37, 41, 43, 47, 53, 59, 61, 67, 71, 73, 79, 83, 89, 97} {
		count := 1
		for power := prime; power <= 100; power *= prime {
			if got := impl.OrderedFactors(power); len(got) != count {
				t.Errorf("OrderedFactors(%d) = %v; want %d lists", power, got, count)
			}
			count *= 2
		}
	}
}

func TestOrderedFactorsRejects(t *testing.T) {
	for _, n := range noProducts {
		if got := impl.OrderedFactors(n); len(got) != 0 {
			t.Errorf("OrderedFactors(%d) = %v; want nil", n, got)
		}
	}
}

func TestAsManyListsAsProducts(t *testing.T) {
	counts := []int{1, 1, 2, 1, 3, 1, 4, 2, 3, 1, 8, 1, 3, 3, 8, 1, 8, 1, 8, 3, 3, 1, 20, 2}
	for i, want := range counts {
		n := i + 1
		lists, products := impl.PerfectLists(n), impl.OrderedFactors(n+1)
		if len(lists) != len(products) || len(lists) != want {
			t.Errorf("PerfectLists(%d) has %d lists, and OrderedFactors(%d) %d; want %d", n, len(lists), n+1, len(products), want)
		}
	}
}

// factorsOf are the lengths of the runs of equal numbers, each plus 1.
func factorsOf(list []int) []int {
	var factors []int
	for i, weight := range list {
		if i == 0 || weight != list[i-1] {
			factors = append(factors, 1)
		}
		factors[len(factors)-1]++
	}
	return factors
}

// TestRunsAreFactors shows why there are as many lists as products.
func TestRunsAreFactors(t *testing.T) {
	for n := 1; n <= 24; n++ {
		var products [][]int
		for _, list := range impl.PerfectLists(n) {
			products = append(products, factorsOf(list))
		}
		slices.SortFunc(products, slices.Compare[[]int])
		if want := impl.OrderedFactors(n + 1); !sameLists(products, want) {
			t.Errorf("the runs of PerfectLists(%d) are %v; want %v", n, products, want)
		}
	}
}

// TestChoicesChangeNothing calls the functions with valid and invalid sets that
// have spare capacity.
func TestChoicesChangeNothing(t *testing.T) {
	list := append(invalidSets(), slices.Repeat([]int{1000}, 8), slices.Repeat([]int{1}, 8), powersOf(2, 8), powersOf(3, 7))
	for count := 1; count <= 5; count++ {
		list = append(list, ascendingSets(count, 1, 5)...)
	}
	for _, set := range list {
		given, changed := guarded(set)
		for n := -2; n <= 12; n++ {
			impl.SumWays(given, n)
		}
		impl.SumWays(given, math.MinInt)
		impl.SumWays(given, math.MaxInt)
		impl.IsComplete(given)
		impl.IsPerfectSet(given)
		if changed() {
			t.Errorf("an argument of %v was changed", set)
		}
	}
}

// checkNewLists writes to each list of an answer and behind it, from either end,
// and looks at the lists that were not written to and at other answers.
func checkNewLists(t *testing.T, name string, n int, answer func(int) [][]int) {
	t.Helper()
	first, second, third := answer(n), answer(n), answer(n)
	want := cloneLists(third)
	for i := range first {
		overwrite(first[i])
		if !sameLists(first[i+1:], want[i+1:]) || !sameLists(second, want) {
			t.Fatalf("list %d of %s(%d) shares memory: %v and %v; want %v", i, name, n, first, second, want)
		}
	}
	for i := len(second) - 1; i >= 0; i-- {
		overwrite(second[i])
		if !sameLists(second[:i], want[:i]) || !sameLists(third, want) {
			t.Fatalf("list %d of %s(%d) shares memory: %v and %v; want %v", i, name, n, second, third, want)
		}
	}
	clear(first[:cap(first)])
	if got := answer(n); !sameLists(third, want) || !sameLists(got, want) {
		t.Fatalf("%s(%d) keeps memory: %v and %v; want %v", name, n, third, got, want)
	}
}

// checkAppends appends to each list of an answer, in place if there is room, and
// looks at all lists.
func checkAppends(t *testing.T, name string, n int, answer func(int) [][]int) {
	t.Helper()
	lists := answer(n)
	want := cloneLists(lists)
	for i, list := range lists {
		overwrite(append(list, 9, 9, 9)[len(list):])
		if !sameLists(lists, want) {
			t.Fatalf("list %d of %s(%d) has another one behind it: %v; want %v", i, name, n, lists, want)
		}
	}
}

func TestPerfectListsAreNew(t *testing.T) {
	for n := 1; n <= 24; n++ {
		checkNewLists(t, "PerfectLists", n, impl.PerfectLists)
		checkAppends(t, "PerfectLists", n, impl.PerfectLists)
	}
}

func TestOrderedFactorsAreNew(t *testing.T) {
	for n := 2; n <= 100; n++ {
		checkNewLists(t, "OrderedFactors", n, impl.OrderedFactors)
		checkAppends(t, "OrderedFactors", n, impl.OrderedFactors)
	}
}

// TestPerfectKeepsNothing asks for one thing after another, so that something
// that was kept would show.
func TestPerfectKeepsNothing(t *testing.T) {
	all := factorLists()
	for range 3 {
		checkChoices(t, []int{1, 1, 2})
		checkChoices(t, powersOf(2, 8))
		checkKind(t, []int{2, 1}, false, false)
		checkChoices(t, []int{2, 4})
		for _, n := range []int{23, 1, 24, 11, 2, 5} {
			if got, want := impl.PerfectLists(n), perfectLists(n); !sameLists(got, want) {
				t.Errorf("PerfectLists(%d) = %v; want %v", n, got, want)
			}
			if got := impl.OrderedFactors(4 * n); !sameLists(got, all[4*n]) {
				t.Errorf("OrderedFactors(%d) = %v; want %v", 4*n, got, all[4*n])
			}
			if got, other := impl.PerfectLists(n+24), impl.OrderedFactors(n+100); len(got) != 0 || len(other) != 0 {
				t.Errorf("PerfectLists(%d) = %v, and OrderedFactors(%d) = %v", n+24, got, n+100, other)
			}
		}
	}
}
