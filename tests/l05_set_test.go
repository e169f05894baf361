package tests

import (
	"math"
	"slices"
	"testing"

	"loop.example/g00992/impl"
)

// farNumbers lie far outside what eight weights can reach, but some of them wrap
// around to small numbers.
var farNumbers = []int{
	8001, -8001, 16001, -16001, 1 << 32, 1<<32 + 1, -1 << 32, 1<<63 - 1000, -1<<63 + 1000,
	math.MinInt, math.MinInt + 1, math.MinInt + 8000, math.MaxInt - 8000, math.MaxInt - 1, math.MaxInt,
}

// otherPans are numbers of pans that nothing can be weighed with.
var otherPans = []int{0, 3, -1, -2, 4, 1<<32 + 1, 1<<32 + 2, math.MinInt, math.MinInt + 1, math.MinInt + 2, math.MaxInt - 1, math.MaxInt}

// powersOf are the first count powers of base, from 1 on.
func powersOf(base int, count int) []int {
	var list []int
	for power := 1; len(list) < count; power *= base {
		list = append(list, power)
	}
	return list
}

// ascendingSets are all lists of count weights from least to most in ascending
// order, with and without equal ones.
func ascendingSets(count int, least int, most int) [][]int {
	if count == 0 {
		return [][]int{{}}
	}
	var list [][]int
	for first := least; first <= most; first++ {
		for _, rest := range ascendingSets(count-1, first, most) {
			list = append(list, append([]int{first}, rest...))
		}
	}
	return list
}

// weighings tries every choice of aside, left and right for each weight, without
// the program. It returns in how many ways the right pan is heavier by a number,
// and by which numbers it is with nothing in the left pan.
func weighings(set []int) (map[int]int, map[int]bool) {
	ways, alone := map[int]int{}, map[int]bool{}
	choices := 1
	for range set {
		choices *= 3
	}
	for choice := range choices {
		left, right, leftCount, rest := 0, 0, 0, choice
		for _, weight := range set {
			switch rest % 3 {
			case 1:
				left, leftCount = left+weight, leftCount+1
			case 2:
				right += weight
			}
			rest /= 3
		}
		ways[right-left]++
		if leftCount == 0 {
			alone[right-left] = true
		}
	}
	return ways, alone
}

// checkWeighings compares what the program says of a valid set with all choices,
// for every n from a little below the negative sum to a little above the sum.
func checkWeighings(t *testing.T, set []int) {
	t.Helper()
	if !impl.SetOk(set) {
		t.Fatalf("SetOk(%v) is false", set)
	}
	ways, alone := weighings(set)
	sum := 0
	for _, weight := range set {
		sum += weight
	}
	for n := -sum - 3; n <= sum+3; n++ {
		checkNumber(t, set, n, ways[n], alone[n])
	}
	for _, n := range farNumbers {
		checkNumber(t, set, n, 0, false)
	}
	onePan, twoPans := 0, 0
	for alone[onePan+1] {
		onePan++
	}
	for ways[twoPans+1] > 0 {
		twoPans++
	}
	checkReach(t, set, onePan, twoPans)
}

func checkNumber(t *testing.T, set []int, n int, ways int, alone bool) {
	t.Helper()
	if got := impl.OnePan(set, n); got != alone {
		t.Errorf("OnePan(%v, %d) = %v", set, n, got)
	}
	if got := impl.TwoPans(set, n); got != (ways > 0) {
		t.Errorf("TwoPans(%v, %d) = %v", set, n, got)
	}
	if got := impl.WaysOf(set, n); got != ways {
		t.Errorf("WaysOf(%v, %d) = %d; want %d", set, n, got, ways)
	}
}

func checkReach(t *testing.T, set []int, onePan int, twoPans int) {
	t.Helper()
	if got := impl.ReachOf(set, 1); got != onePan {
		t.Errorf("ReachOf(%v, 1) = %d; want %d", set, got, onePan)
	}
	if got := impl.ReachOf(set, 2); got != twoPans {
		t.Errorf("ReachOf(%v, 2) = %d; want %d", set, got, twoPans)
	}
	if got := impl.LeastMissing(set); got != onePan+1 {
		t.Errorf("LeastMissing(%v) = %d; want %d", set, got, onePan+1)
	}
	for _, pans := range otherPans {
		if got := impl.ReachOf(set, pans); got != 0 {
			t.Errorf("ReachOf(%v, %d) = %d; want 0", set, pans, got)
		}
	}
}

func TestSetOk(t *testing.T) {
	good := [][]int{
		{1}, {2}, {999}, {1000}, {1, 1}, {1, 2}, {1, 1000}, {1000, 1000}, {999, 1000}, {1, 3, 9}, {2, 2, 5}, {1, 3, 3, 9}, {1, 4, 4},
		{1, 2, 3, 4, 5, 6, 7, 8}, powersOf(2, 8), powersOf(3, 7), append(powersOf(3, 7), 1000), {993, 994, 995, 996, 997, 998, 999, 1000},
	}
	for _, set := range good {
		if !impl.SetOk(set) {
			t.Errorf("SetOk(%v) is false", set)
		}
	}
}

func TestSetOkCount(t *testing.T) {
	for n := range 40 {
		for _, weight := range []int{1, 7, 1000} {
			if got, want := impl.SetOk(slices.Repeat([]int{weight}, n)), n >= 1 && n <= 8; got != want {
				t.Errorf("SetOk of %d weights of %d is %v", n, weight, got)
			}
		}
	}
}

// invalidSets break one condition each: the number of the weights, the least or
// the greatest weight, or the order, at the beginning, in the middle and at the
// end.
func invalidSets() [][]int {
	list := [][]int{nil, {}, make([]int, 0, 8), powersOf(2, 9), {1, 2, 3, 4, 5, 6, 7, 8, 9}, make([]int, 8), powersOf(3, 8)}
	for _, n := range []int{9, 10, 16, 41, 64, 1000} {
		list = append(list, slices.Repeat([]int{1}, n), slices.Repeat([]int{1000}, n))
	}
	for n := range 8 {
		for _, weight := range []int{0, -1, -1000, -1 << 32, math.MinInt + 1, math.MinInt} {
			list = append(list, append([]int{weight}, powersOf(2, n)...))
		}
		for _, weight := range []int{1001, 2000, 1 << 32, 1<<32 + 1, math.MaxInt - 1, math.MaxInt} {
			list = append(list, append(powersOf(2, n), weight))
		}
	}
	for n := 2; n <= 8; n++ {
		for place := range n - 1 {
			set := []int{10, 20, 30, 40, 50, 60, 70, 80}[:n]
			list = append(list, with(set, place, set[place+1]+1), with(with(set, place, set[place+1]), place+1, set[place]))
		}
		for place := 1; place < n; place++ {
			list = append(list, with(slices.Repeat([]int{5}, n), place, 4), with(slices.Repeat([]int{5}, n), place-1, 6))
		}
	}
	return append(list, []int{2, 1}, []int{1000, 1}, []int{1000, 999}, []int{math.MaxInt, math.MinInt}, []int{math.MinInt, math.MaxInt})
}

// TestInvalidSets asks for numbers that could be weighed if the set were valid,
// 0 among them.
func TestInvalidSets(t *testing.T) {
	for _, set := range invalidSets() {
		if impl.SetOk(set) {
			t.Errorf("SetOk(%v) is true", set)
		}
		numbers := append([]int{0, 1, -1, 2, 3, 7, 1000, 1001}, farNumbers...)
		numbers = append(numbers, set[:min(len(set), 9)]...)
		if len(set) <= 5 {
			ways, _ := weighings(set)
			for n := range ways {
				numbers = append(numbers, n)
			}
		}
		for _, n := range numbers {
			checkNumber(t, set, n, 0, false)
		}
		for _, pans := range append([]int{1, 2}, otherPans...) {
			if got := impl.ReachOf(set, pans); got != 0 {
				t.Errorf("ReachOf(%v, %d) = %d; want 0", set, pans, got)
			}
		}
		if got := impl.LeastMissing(set); got != 0 {
			t.Errorf("LeastMissing(%v) = %d; want 0", set, got)
		}
	}
}

func TestOnePan(t *testing.T) {
	cases := []struct {
		set       []int
		yes, nope []int
	}{
		{[]int{1}, []int{0, 1}, []int{-1, 2, -2}},
		{[]int{5}, []int{0, 5}, []int{1, 4, 6, 10, -5}},
		{[]int{1, 2, 4}, []int{0, 1, 2, 3, 4, 5, 6, 7}, []int{-1, -7, 8}},
		{[]int{2, 4}, []int{0, 2, 4, 6}, []int{1, 3, 5, 8, -2, -4}},
		{[]int{1, 3}, []int{0, 1, 3, 4}, []int{2, -1, -2, -3, 5}},
		{[]int{3, 3}, []int{0, 3, 6}, []int{1, 9, -3}},
		{[]int{1000}, []int{0, 1000}, []int{1, 999, 1001, 2000, -1000}},
		{slices.Repeat([]int{1000}, 8), []int{0, 1000, 4000, 7000, 8000}, []int{1, 500, 7999, 8001, 9000, -1000, -8000}},
	}
	for _, c := range cases {
		for _, n := range c.yes {
			if !impl.OnePan(c.set, n) {
				t.Errorf("OnePan(%v, %d) is false", c.set, n)
			}
		}
		for _, n := range append(c.nope, farNumbers...) {
			if impl.OnePan(c.set, n) {
				t.Errorf("OnePan(%v, %d) is true", c.set, n)
			}
		}
	}
}

func TestTwoPans(t *testing.T) {
	cases := []struct {
		set       []int
		yes, nope []int
	}{
		{[]int{1}, []int{0, 1, -1}, []int{2, -2}},
		{[]int{5}, []int{0, 5, -5}, []int{1, 4, 6, 10, -10}},
		{[]int{1, 3}, []int{0, 1, 2, 3, 4, -1, -2, -3, -4}, []int{5, -5}},
		{[]int{2, 4}, []int{0, 2, 4, 6, -2, -4, -6}, []int{1, 3, 5, 8, -1, -3, -8}},
		{[]int{3, 3}, []int{0, 3, 6, -3, -6}, []int{1, 9, -9}},
		{[]int{999, 1000}, []int{0, 1, -1, 999, 1000, 1999, -999, -1000, -1999}, []int{2, -2, 998, 1001, 2000, -2000}},
		{slices.Repeat([]int{1000}, 8), []int{0, 1000, 8000, -1000, -8000}, []int{1, 500, 7999, 8001, 9000, -1, -7999, -9000}},
	}
	for _, c := range cases {
		for _, n := range c.yes {
			if !impl.TwoPans(c.set, n) {
				t.Errorf("TwoPans(%v, %d) is false", c.set, n)
			}
		}
		for _, n := range append(c.nope, farNumbers...) {
			if impl.TwoPans(c.set, n) {
				t.Errorf("TwoPans(%v, %d) is true", c.set, n)
			}
		}
	}
}

// TestWaysOf has equal weights at the beginning, in the middle and at the end,
// each of which is told apart.
func TestWaysOf(t *testing.T) {
	cases := []struct {
		set     []int
		n, want int
	}{
		{[]int{1}, 0, 1}, {[]int{1}, 1, 1}, {[]int{1}, -1, 1}, {[]int{1}, 2, 0}, {[]int{1}, -2, 0},
		{[]int{1, 2}, 0, 1}, {[]int{1, 2}, 1, 2}, {[]int{1, 2}, -1, 2}, {[]int{1, 2}, 2, 1}, {[]int{1, 2}, 3, 1},
		{[]int{1, 2, 3}, 0, 3}, {[]int{1, 3, 9}, 0, 1}, {[]int{1, 3, 9}, 5, 1}, {[]int{1, 3, 9}, 14, 0},
		{[]int{1, 1}, 0, 3}, {[]int{1, 1}, 1, 2}, {[]int{1, 1}, -1, 2}, {[]int{1, 1}, 2, 1}, {[]int{1, 1}, 3, 0},
		{[]int{1, 1, 1}, 0, 7}, {[]int{1, 1, 1}, 1, 6}, {[]int{1, 1, 1}, -2, 3}, {[]int{1, 1, 1}, 3, 1},
		{[]int{2, 2, 5}, 5, 3}, {[]int{2, 2, 5}, 0, 3}, {[]int{2, 2, 5}, 7, 2}, {[]int{2, 2, 5}, -3, 2}, {[]int{2, 2, 5}, 1, 1},
		{[]int{1, 3, 3, 9}, 9, 3}, {[]int{1, 3, 3, 9}, 3, 3}, {[]int{1, 3, 3, 9}, 7, 3}, {[]int{1, 3, 3, 9}, -13, 2},
		{[]int{1, 4, 4}, 0, 3}, {[]int{1, 4, 4}, 1, 3}, {[]int{1, 4, 4}, 4, 2}, {[]int{1, 4, 4}, -5, 2}, {[]int{1, 4, 4}, 9, 1},
	}
	for _, c := range cases {
		if got := impl.WaysOf(c.set, c.n); got != c.want {
			t.Errorf("WaysOf(%v, %d) = %d; want %d", c.set, c.n, got, c.want)
		}
	}
}

// TestWaysOfEightEqual knows the ways from the powers of 1/x + 1 + x.
func TestWaysOfEightEqual(t *testing.T) {
	for _, weight := range []int{1, 2, 999, 1000} {
		set := slices.Repeat([]int{weight}, 8)
		for count, want := range []int{1107, 1016, 784, 504, 266, 112, 36, 8, 1, 0} {
			for _, n := range []int{count * weight, -count * weight} {
				if got := impl.WaysOf(set, n); got != want {
					t.Errorf("WaysOf(%v, %d) = %d; want %d", set, n, got, want)
				}
			}
		}
	}
}

func TestReach(t *testing.T) {
	cases := []struct {
		set             []int
		onePan, twoPans int
	}{
		{[]int{1}, 1, 1}, {[]int{2}, 0, 0}, {[]int{1000}, 0, 0}, {[]int{1, 1}, 2, 2}, {[]int{1, 2}, 3, 3}, {[]int{1, 3}, 1, 4},
		{[]int{1, 4}, 1, 1}, {[]int{2, 3}, 0, 3}, {[]int{2, 4}, 0, 0}, {[]int{2, 2, 2}, 0, 0}, {[]int{5, 5, 6}, 0, 1},
		{[]int{1, 2, 4}, 7, 7}, {[]int{1, 2, 5}, 3, 8}, {[]int{1, 1, 4}, 2, 6}, {[]int{1, 2, 3}, 6, 6}, {[]int{1, 3, 9}, 1, 13},
		{[]int{1, 2, 4, 15}, 7, 22}, {[]int{1, 2, 4, 16}, 7, 7}, {[]int{1, 1, 1, 1, 1, 1, 1, 1000}, 7, 7}, {[]int{1, 2, 7}, 3, 10}, {[]int{1, 2, 8}, 3, 3},
		// The sums of two pans are all there up to a gap, and again after it.
		{[]int{1, 2, 9}, 3, 3}, {[]int{999, 1000}, 0, 1}, {[]int{2, 3, 9}, 0, 12}, {slices.Repeat([]int{1}, 8), 8, 8},
		{slices.Repeat([]int{1000}, 8), 0, 0}, {append([]int{1}, slices.Repeat([]int{1000}, 7)...), 1, 1},
		{[]int{1, 2, 3, 4, 5, 6, 7, 8}, 36, 36}, {append(powersOf(3, 7), 1000), 1, 2093},
	}
	for _, c := range cases {
		checkReach(t, c.set, c.onePan, c.twoPans)
	}
}

// TestPowersReachFurthest has powers up to 1000 only, which are eight of 2 and
// seven of 3.
func TestPowersReachFurthest(t *testing.T) {
	onePan, twoPans := 0, 0
	for count := 1; count <= 8; count++ {
		onePan, twoPans = 2*onePan+1, 3*twoPans+1
		twos, threes := powersOf(2, count), powersOf(3, count)
		if got := impl.ReachOf(twos, 1); got != onePan {
			t.Errorf("ReachOf(%v, 1) = %d; want %d", twos, got, onePan)
		}
		if got := impl.LeastMissing(twos); got != onePan+1 {
			t.Errorf("LeastMissing(%v) = %d; want %d", twos, got, onePan+1)
		}
		if count == 8 {
			continue
		}
		if got := impl.ReachOf(threes, 2); got != twoPans {
			t.Errorf("ReachOf(%v, 2) = %d; want %d", threes, got, twoPans)
		}
		for n := -twoPans; n <= twoPans; n++ {
			if got := impl.WaysOf(threes, n); got != 1 {
				t.Errorf("WaysOf(%v, %d) = %d; want 1", threes, n, got)
			}
		}
	}
}

// TestNoSetReachesFurther tries all sets of small weights, with up to five of
// them far enough for the powers of 2.
func TestNoSetReachesFurther(t *testing.T) {
	onePan, twoPans := 0, 0
	for i, most := range []int{1000, 60, 30, 30, 16, 7, 5, 4} {
		onePan, twoPans = 2*onePan+1, 3*twoPans+1
		for _, set := range ascendingSets(i+1, 1, most) {
			if got := impl.ReachOf(set, 1); got > onePan {
				t.Errorf("ReachOf(%v, 1) = %d, but no more than %d is possible", set, got, onePan)
			}
			if got := impl.ReachOf(set, 2); got > twoPans {
				t.Errorf("ReachOf(%v, 2) = %d, but no more than %d is possible", set, got, twoPans)
			}
		}
	}
}

// TestSmallSets has all sets of few or light weights, with all equal ones.
func TestSmallSets(t *testing.T) {
	for i, most := range []int{40, 12, 8, 6, 4, 3, 3, 2} {
		for _, set := range ascendingSets(i+1, 1, most) {
			checkWeighings(t, set)
		}
	}
}

func TestLargeSets(t *testing.T) {
	for _, set := range [][]int{
		{1000}, {999, 1000}, {1000, 1000}, {1, 1, 1000}, {500, 500, 1000}, {1, 500, 500, 1000}, {333, 334, 335, 1000},
		{1, 2, 5, 10, 20, 50, 100, 200}, {1, 2, 2, 5, 10, 20, 20, 50}, {7, 7, 7, 50, 50, 120, 120, 120},
		powersOf(2, 8), powersOf(3, 7), append(powersOf(3, 7), 1000), slices.Repeat([]int{1000}, 8),
	} {
		checkWeighings(t, set)
	}
}

// TestSetsChangeNothing calls the functions with valid and invalid sets that
// have spare capacity.
func TestSetsChangeNothing(t *testing.T) {
	list := append(invalidSets(), slices.Repeat([]int{1000}, 8), powersOf(2, 8), powersOf(3, 7))
	for count := 1; count <= 4; count++ {
		list = append(list, ascendingSets(count, 1, 5)...)
	}
	for _, set := range list {
		given, changed := guarded(set)
		impl.SetOk(given)
		for n := -6; n <= 6; n++ {
			impl.OnePan(given, n)
			impl.TwoPans(given, n)
			impl.WaysOf(given, n)
		}
		for pans := -1; pans <= 3; pans++ {
			impl.ReachOf(given, pans)
		}
		impl.LeastMissing(given)
		if changed() {
			t.Errorf("an argument of %v was changed", set)
		}
	}
}

// TestSetsKeepNothing asks for one set after another, so that a sum that was
// kept would show.
func TestSetsKeepNothing(t *testing.T) {
	for range 3 {
		checkReach(t, powersOf(3, 7), 1, 1093)
		checkReach(t, []int{2, 4}, 0, 0)
		checkReach(t, powersOf(2, 8), 255, 255)
		checkNumber(t, []int{1, 1}, 1, 2, true)
		checkNumber(t, []int{1, 3}, 2, 1, false)
		checkNumber(t, []int{2, 4}, 1, 0, false)
	}
}
