package tests

import (
	"math"
	"slices"
	"testing"

	"loop.example/g00992/impl"
)

// The sides are written as numbers in these tests, too: 1 is the left pan, -1
// the right one, and 0 stands for a coin in no pan.

// noSides are numbers that say of no coin where it lies.
var noSides = []int{2, -2, 3, -3, 255, 1 << 32, math.MinInt, math.MinInt + 1, math.MaxInt - 1, math.MaxInt}

// noWeights are numbers that no coin weighs.
var noWeights = []int{-1, 10001, -2, -10000, 10002, 20000, 1 << 32, math.MinInt, math.MinInt + 1, math.MaxInt - 1, math.MaxInt}

// allLoads are all lists of n sides.
func allLoads(n int) [][]int {
	if n == 0 {
		return [][]int{{}}
	}
	var list [][]int
	for _, load := range allLoads(n - 1) {
		for _, side := range []int{1, 0, -1} {
			list = append(list, append(slices.Clone(load), side))
		}
	}
	return list
}

// fullLoads have 12 or fewer coins, more than allLoads could be asked for.
func fullLoads() [][]int {
	return [][]int{
		slices.Repeat([]int{1}, 12), slices.Repeat([]int{-1}, 12), slices.Repeat([]int{0}, 12),
		slices.Repeat([]int{1, -1}, 6), slices.Repeat([]int{0, 1, -1}, 4), slices.Repeat([]int{-1, 0, 0, 1}, 3),
		{1, 1, 1, 1, 1, 1, -1, -1, -1, -1, -1, -1},
		{-1, -1, -1, -1, 0, 0, 0, 0, 1, 1, 1, 1},
		{0, 0, 0, 0, 0, 0, 0, 0, 0, 0, 0, 1},
		{-1, 0, 0, 0, 0, 0, 0, 0, 0, 0, 0, 0},
		{1, 0, 0, 0, 0, 0, 0, 0, 0, 0, -1},
		{1, -1, -1, 0, 0, 0, 0, 0, 0, 1},
	}
}

// with returns a copy of the list that has n at the place.
func with(list []int, place int, n int) []int {
	changed := slices.Clone(list)
	changed[place] = n
	return changed
}

// guarded returns a copy of the list with spare capacity behind it, and a test
// whether it or what is behind it has been changed.
func guarded(list []int) ([]int, func() bool) {
	whole := append(slices.Clone(list), 1, -1, 7, math.MaxInt)
	before := slices.Clone(whole)
	return whole[:len(list)], func() bool { return !slices.Equal(whole, before) }
}

func TestBalanceConstants(t *testing.T) {
	if impl.MaxCoins != 12 || impl.Left != 1 || impl.Even != 0 || impl.Right != -1 {
		t.Error("unexpected constants:", impl.MaxCoins, impl.Left, impl.Even, impl.Right)
	}
}

func TestCoinsOk(t *testing.T) {
	good := [][]int{
		{0}, {1}, {10000}, {0, 10000}, {10000, 0}, {5, 3, 2}, {3, 3, 3}, {0, 0, 0, 0}, {9999, 1, 10000, 0, 5000},
		{1, 2, 3, 4, 5, 6, 7, 8, 9, 10, 11, 12},
	}
	for _, weights := range good {
		if !impl.CoinsOk(weights) {
			t.Errorf("CoinsOk(%v) is false", weights)
		}
	}
	for _, weights := range [][]int{nil, {}, make([]int, 0, 12)} {
		if impl.CoinsOk(weights) {
			t.Errorf("CoinsOk(%v) is true", weights)
		}
	}
}

func TestCoinsOkCount(t *testing.T) {
	for n := range 40 {
		for _, weight := range []int{0, 1, 10000} {
			if got, want := impl.CoinsOk(slices.Repeat([]int{weight}, n)), n >= 1 && n <= 12; got != want {
				t.Errorf("CoinsOk of %d coins that weigh %d is %v", n, weight, got)
			}
		}
	}
}

// TestCoinsOkEachPlace puts the limits and what is past them at every place.
func TestCoinsOkEachPlace(t *testing.T) {
	for n := 1; n <= 12; n++ {
		weights := slices.Repeat([]int{7}, n)
		for place := range n {
			for _, weight := range []int{0, 1, 9999, 10000} {
				if list := with(weights, place, weight); !impl.CoinsOk(list) {
					t.Errorf("CoinsOk(%v) is false", list)
				}
			}
			for _, weight := range noWeights {
				if list := with(weights, place, weight); impl.CoinsOk(list) {
					t.Errorf("CoinsOk(%v) is true", list)
				}
			}
		}
	}
}

func TestLoadOk(t *testing.T) {
	for n := 1; n <= 6; n++ {
		for _, load := range allLoads(n) {
			if !impl.LoadOk(n, load) {
				t.Errorf("LoadOk(%d, %v) is false", n, load)
			}
		}
	}
	for _, load := range fullLoads() {
		if !impl.LoadOk(len(load), load) {
			t.Errorf("LoadOk(%d, %v) is false", len(load), load)
		}
	}
}

// TestLoadOkCount compares every n with loads of every length, nil and empty
// ones among them.
func TestLoadOkCount(t *testing.T) {
	counts := []int{-13, -12, -2, -1, 20, 1<<32 + 1, math.MinInt, math.MinInt + 1, math.MaxInt - 1, math.MaxInt}
	for n := range 16 {
		counts = append(counts, n)
	}
	for _, n := range counts {
		if impl.LoadOk(n, nil) || impl.LoadOk(n, []int{}) {
			t.Errorf("LoadOk of %d and no numbers is true", n)
		}
		for length := range 21 {
			for _, side := range []int{1, 0, -1} {
				got := impl.LoadOk(n, slices.Repeat([]int{side}, length))
				if want := n == length && n >= 1 && n <= 12; got != want {
					t.Errorf("LoadOk of %d and %d times %d is %v", n, length, side, got)
				}
			}
		}
	}
}

func TestLoadOkEachPlace(t *testing.T) {
	for n := 1; n <= 12; n++ {
		for _, load := range [][]int{slices.Repeat([]int{0}, n), slices.Repeat([]int{1, -1}, 6)[:n]} {
			for place := range n {
				for _, other := range noSides {
					if list := with(load, place, other); impl.LoadOk(n, list) {
						t.Errorf("LoadOk(%d, %v) is true", n, list)
					}
				}
			}
		}
	}
}

func TestWeigh(t *testing.T) {
	cases := []struct {
		weights, load []int
		want          int
	}{
		{[]int{5, 3, 2}, []int{1, -1, -1}, 0}, {[]int{5, 3, 2}, []int{-1, 1, 1}, 0},
		{[]int{5, 3, 2}, []int{1, -1, 1}, 1}, {[]int{5, 3, 2}, []int{-1, 1, -1}, -1},
		{[]int{3, 3}, []int{1, -1}, 0}, {[]int{3, 3}, []int{1, 1}, 1}, {[]int{3, 3}, []int{-1, -1}, -1},
		{[]int{4, 5}, []int{1, -1}, -1}, {[]int{5, 4}, []int{1, -1}, 1},
		// All coins are in no pan.
		{[]int{5}, []int{0}, 0}, {[]int{5, 3, 2}, []int{0, 0, 0}, 0}, {[]int{10000, 0}, []int{0, 0}, 0},
		// Some coins are in no pan, and would change the result in either one.
		{[]int{5, 3, 2}, []int{1, 0, -1}, 1}, {[]int{5, 3, 2}, []int{-1, 0, 1}, -1},
		{[]int{100, 3, 3}, []int{0, 1, -1}, 0}, {[]int{3, 100, 3}, []int{1, 0, -1}, 0}, {[]int{3, 3, 100}, []int{-1, 1, 0}, 0},
		{[]int{100, 3, 2, 100}, []int{0, -1, 1, 0}, -1}, {[]int{2, 100, 100, 1}, []int{1, 0, 0, -1}, 1},
		// Coins lie on one side alone.
		{[]int{5}, []int{1}, 1}, {[]int{5}, []int{-1}, -1}, {[]int{5, 3, 2}, []int{0, 0, 1}, 1}, {[]int{5, 3, 2}, []int{0, -1, 0}, -1},
		{[]int{5, 3, 2}, []int{0, 1, 1}, 1}, {[]int{5, 3, 2}, []int{-1, -1, 0}, -1},
		// Coins without weight.
		{[]int{0}, []int{1}, 0}, {[]int{0}, []int{-1}, 0}, {[]int{0, 0}, []int{1, -1}, 0}, {[]int{0, 1}, []int{1, -1}, -1},
		{[]int{0, 0, 0, 1}, []int{-1, -1, -1, 1}, 1}, {[]int{7, 0}, []int{0, 1}, 0},
		{[]int{10000}, []int{1}, 1}, {[]int{10000, 9999}, []int{-1, 1}, -1}, {[]int{10000, 9999, 1}, []int{1, -1, -1}, 0},
		// As many coins as there can be; the number of coins does not count, their weight does.
		{slices.Repeat([]int{10000}, 12), slices.Repeat([]int{1, -1}, 6), 0},
		{slices.Repeat([]int{10000}, 12), slices.Repeat([]int{-1}, 12), -1},
		{[]int{11, 1, 1, 1, 1, 1, 1, 1, 1, 1, 1, 1}, []int{1, -1, -1, -1, -1, -1, -1, -1, -1, -1, -1, -1}, 0},
		{[]int{11, 1, 1, 1, 1, 1, 1, 1, 1, 1, 1, 1}, []int{1, -1, -1, -1, -1, -1, -1, -1, -1, -1, -1, 0}, 1},
		{[]int{1, 1, 1, 1, 1, 1, 1, 1, 1, 1, 1, 12}, []int{1, 1, 1, 1, 1, 1, 1, 1, 1, 1, 1, -1}, -1},
	}
	for _, c := range cases {
		if got, ok := impl.Weigh(c.weights, c.load); !ok || got != c.want {
			t.Errorf("Weigh(%v, %v) = %d, %v; want %d, true", c.weights, c.load, got, ok, c.want)
		}
	}
}

func checkNotWeighed(t *testing.T, weights []int, load []int) {
	t.Helper()
	if got, ok := impl.Weigh(weights, load); ok || got != 0 {
		t.Errorf("Weigh(%v, %v) = %d, %v; want 0, false", weights, load, got, ok)
	}
}

// TestWeighRejectsCounts has loads with more and with fewer numbers than there
// are coins, and too few and too many coins.
func TestWeighRejectsCounts(t *testing.T) {
	for n := range 16 {
		for length := range 16 {
			weights, load := slices.Repeat([]int{5}, n), slices.Repeat([]int{1}, length)
			if n == length && n >= 1 && n <= 12 {
				if got, ok := impl.Weigh(weights, load); !ok || got != 1 {
					t.Errorf("Weigh(%v, %v) = %d, %v; want 1, true", weights, load, got, ok)
				}
				continue
			}
			checkNotWeighed(t, weights, load)
		}
	}
	for _, list := range [][]int{nil, {}, {1}, {0}, {1, -1, 0}} {
		for _, none := range [][]int{nil, {}} {
			checkNotWeighed(t, none, list)
			checkNotWeighed(t, list, none)
		}
	}
}

// TestWeighRejectsNumbers has one number at each place that is no weight, also
// of a coin in no pan, or that is no side, also of a coin without weight.
func TestWeighRejectsNumbers(t *testing.T) {
	for n := 1; n <= 12; n++ {
		weights, load := slices.Repeat([]int{5, 0, 3}, 4)[:n], slices.Repeat([]int{1, 0, 0, -1, 0}, 3)[:n]
		if _, ok := impl.Weigh(weights, load); !ok {
			t.Errorf("Weigh(%v, %v) fails", weights, load)
		}
		for place := range n {
			for _, weight := range noWeights {
				checkNotWeighed(t, with(weights, place, weight), load)
				checkNotWeighed(t, with(weights, place, weight), make([]int, n))
			}
			for _, other := range noSides {
				checkNotWeighed(t, weights, with(load, place, other))
				checkNotWeighed(t, make([]int, n), with(load, place, other))
			}
		}
	}
}

func TestCountLoad(t *testing.T) {
	cases := []struct {
		load        []int
		left, right int
	}{
		{nil, 0, 0}, {[]int{}, 0, 0}, {[]int{0}, 0, 0}, {[]int{1}, 1, 0}, {[]int{-1}, 0, 1},
		{[]int{1, -1, -1}, 1, 2}, {[]int{1, 0, -1}, 1, 1}, {[]int{0, 0, 0}, 0, 0}, {[]int{1, 1, 0, 1}, 3, 0}, {[]int{0, -1, 0, -1}, 0, 2},
		{slices.Repeat([]int{1}, 12), 12, 0}, {slices.Repeat([]int{1, 0, -1, -1}, 3), 3, 6},
		// There is no limit for the number of coins.
		{slices.Repeat([]int{1}, 13), 13, 0}, {slices.Repeat([]int{-1}, 13), 0, 13}, {slices.Repeat([]int{0}, 13), 0, 0},
		{slices.Repeat([]int{1, -1, 0, -1}, 250), 250, 500},
		// A coin with another number lies in neither pan.
		{[]int{2}, 0, 0}, {[]int{-2}, 0, 0}, {[]int{math.MinInt}, 0, 0}, {[]int{math.MaxInt}, 0, 0},
		{[]int{2, 1, -1, -1}, 1, 2}, {[]int{1, -2, 1, -1}, 2, 1}, {[]int{1, -1, math.MinInt}, 1, 1}, {[]int{math.MaxInt, -1}, 0, 1},
		{[]int{2, -2, 3, -3, 1 << 32, 1<<32 + 1}, 0, 0}, {append(slices.Repeat([]int{1, 2, -2}, 10), -1), 10, 1},
	}
	for _, c := range cases {
		if left, right := impl.CountLoad(c.load); left != c.left || right != c.right {
			t.Errorf("CountLoad(%v) = %d, %d; want %d, %d", c.load, left, right, c.left, c.right)
		}
	}
}

func TestIsFair(t *testing.T) {
	fair := [][]int{
		{1, -1}, {-1, 1}, {1, 0, -1}, {0, -1, 1}, {1, -1, 0, 0}, {1, 1, -1, -1}, {-1, 1, 1, 0, -1},
		slices.Repeat([]int{1, -1}, 6), slices.Repeat([]int{0, 1, -1}, 4), {1, 0, 0, 0, 0, 0, 0, 0, 0, 0, 0, -1},
	}
	for _, load := range fair {
		if !impl.IsFair(len(load), load) {
			t.Errorf("IsFair(%d, %v) is false", len(load), load)
		}
	}
	unfair := [][]int{
		nil, {}, {0}, {0, 0}, {0, 0, 0}, slices.Repeat([]int{0}, 12), slices.Repeat([]int{0}, 13), // none in either pan
		{1}, {-1}, {1, 1}, {-1, -1}, {1, 0}, {0, -1}, {1, 1, -1}, {1, -1, -1}, {1, 0, 1, -1}, {0, -1, -1, 1},
		slices.Repeat([]int{1}, 12), slices.Repeat([]int{-1}, 12), append(slices.Repeat([]int{1, -1}, 5), 1, 0),
		append(slices.Repeat([]int{1, -1}, 6), 0), slices.Repeat([]int{1, -1}, 7), // too many coins
		{1, -1, 2}, {2, -2}, {1, -2}, {2, -1}, {-2, 1, -1}, {1, math.MinInt, -1}, {math.MaxInt, 1, -1}, {1, -1, math.MinInt},
	}
	for _, load := range unfair {
		if impl.IsFair(len(load), load) {
			t.Errorf("IsFair(%d, %v) is true", len(load), load)
		}
	}
}

// TestIsFairCount has loads with more and with fewer numbers than n.
func TestIsFairCount(t *testing.T) {
	counts := []int{-2, -1, 0, 1, 2, 3, 11, 12, 13, 14, 1<<32 + 2, math.MinInt, math.MinInt + 1, math.MaxInt - 1, math.MaxInt}
	loads := [][]int{nil, {}, {0}, {1}, {1, -1}, {1, 0, -1}}
	for n := 2; n <= 14; n++ {
		loads = append(loads, append(make([]int, n-2), 1, -1), append([]int{-1, 1}, make([]int, n-2)...))
	}
	for _, n := range counts {
		for _, load := range loads {
			want := n == len(load) && n >= 2 && n <= 12
			if got := impl.IsFair(n, load); got != want {
				t.Errorf("IsFair(%d, %v) is %v", n, load, got)
			}
		}
	}
}

// TestIsFairEachLoad counts the coins in both pans by their numbers.
func TestIsFairEachLoad(t *testing.T) {
	for n := 1; n <= 6; n++ {
		for _, load := range allLoads(n) {
			sum, coins := 0, 0
			for _, side := range load {
				sum, coins = sum+side, coins+side*side
			}
			if got, want := impl.IsFair(n, load), sum == 0 && coins > 0; got != want {
				t.Errorf("IsFair(%d, %v) is %v", n, load, got)
			}
		}
	}
}

// TestIsFairEachPlace adds a number that is no side to a fair load.
func TestIsFairEachPlace(t *testing.T) {
	for _, load := range [][]int{{1, -1}, {-1, 0, 1}, {1, 0, 0, 1, -1, -1}, {1, -1, 1, -1, 0, 0, 0, -1, 1, -1, 1}} {
		for place := range len(load) + 1 {
			for _, side := range []int{2, -2, 3, -3, math.MinInt, math.MaxInt, 0} {
				list := slices.Insert(slices.Clone(load), place, side)
				if got := impl.IsFair(len(list), list); got != (side == 0) {
					t.Errorf("IsFair(%d, %v) is %v", len(list), list, got)
				}
			}
		}
	}
}

func TestTurnLoad(t *testing.T) {
	cases := []struct{ load, want []int }{
		{nil, nil}, {[]int{}, nil}, {[]int{0}, []int{0}}, {[]int{1}, []int{-1}}, {[]int{-1}, []int{1}},
		{[]int{1, 0, -1}, []int{-1, 0, 1}}, {[]int{1, 1, 0, -1}, []int{-1, -1, 0, 1}}, {[]int{0, 0, 0}, []int{0, 0, 0}},
		{slices.Repeat([]int{1}, 12), slices.Repeat([]int{-1}, 12)},
		// There is no limit for the number of coins.
		{slices.Repeat([]int{-1}, 13), slices.Repeat([]int{1}, 13)}, {slices.Repeat([]int{0}, 13), slices.Repeat([]int{0}, 13)},
		{slices.Repeat([]int{1, 0, -1, -1}, 250), slices.Repeat([]int{-1, 0, 1, 1}, 250)},
	}
	for _, c := range cases {
		if got := impl.TurnLoad(c.load); !slices.Equal(got, c.want) {
			t.Errorf("TurnLoad(%v) = %v; want %v", c.load, got, c.want)
		}
	}
}

func TestTurnLoadRejects(t *testing.T) {
	for _, n := range []int{1, 2, 3, 7, 12, 13, 100} {
		for _, load := range [][]int{make([]int, n), slices.Repeat([]int{1, -1}, n)[:n]} {
			for place := range n {
				for _, other := range noSides {
					list := with(load, place, other)
					if got := impl.TurnLoad(list); len(got) != 0 {
						t.Errorf("TurnLoad(%v) = %v; want nil", list, got)
					}
				}
			}
		}
	}
}

// heavier weighs without the program: it puts each weight on its pan.
func heavier(weights []int, load []int) int {
	pans := map[int]int{}
	for i, side := range load {
		pans[side] += weights[i]
	}
	if pans[1] > pans[-1] {
		return 1
	}
	if pans[1] < pans[-1] {
		return -1
	}
	return 0
}

// checkTurned weighs a load and the turned one, which is turned back then.
func checkTurned(t *testing.T, weights []int, load []int) {
	t.Helper()
	want := heavier(weights, load)
	if got, ok := impl.Weigh(weights, load); !ok || got != want {
		t.Errorf("Weigh(%v, %v) = %d, %v; want %d, true", weights, load, got, ok, want)
	}
	turned := impl.TurnLoad(load)
	if got, ok := impl.Weigh(weights, turned); !ok || got != -want {
		t.Errorf("Weigh(%v, %v) = %d, %v; want %d, true", weights, turned, got, ok, -want)
	}
	left, right := impl.CountLoad(load)
	if l, r := impl.CountLoad(turned); l != right || r != left {
		t.Errorf("%v has %d and %d coins, but turned %d and %d", load, left, right, l, r)
	}
	if impl.IsFair(len(load), load) != impl.IsFair(len(turned), turned) {
		t.Errorf("only one of %v and %v is fair", load, turned)
	}
	if back := impl.TurnLoad(turned); !slices.Equal(back, load) {
		t.Errorf("%v turned twice is %v", load, back)
	}
}

func TestExchangedPans(t *testing.T) {
	list := [][]int{
		{0}, {1}, {10000}, {0, 0}, {3, 3}, {4, 5}, {10000, 0}, {5, 3, 2}, {3, 3, 3}, {0, 1, 10000}, {1, 3, 9}, {9, 3, 1},
		{1, 2, 4, 8}, {2, 2, 2, 2}, {0, 7, 0, 7}, {10000, 9999, 1, 0}, {1, 1, 2, 3, 5}, {1, 3, 9, 27, 81}, {0, 0, 0, 0, 0},
		{10000, 10000, 10000, 10000, 10000}, {6, 1, 5, 2, 4, 3}, {10000, 5000, 2500, 1250, 625, 625},
	}
	for _, weights := range list {
		for _, load := range allLoads(len(weights)) {
			checkTurned(t, weights, load)
		}
	}
	for _, load := range fullLoads() {
		n := len(load)
		checkTurned(t, []int{1, 2, 3, 4, 5, 6, 7, 8, 9, 10, 11, 12}[:n], load)
		checkTurned(t, []int{10000, 0, 9999, 1, 5000, 5000, 2, 9998, 0, 10000, 3, 9997}[:n], load)
		checkTurned(t, slices.Repeat([]int{10000}, n), load)
	}
}

// TestBalanceChangesNothing calls all functions with valid and invalid
// arguments that have spare capacity.
func TestBalanceChangesNothing(t *testing.T) {
	for _, w := range [][]int{nil, {}, {5}, {5, 3, 2}, {10000, 0, 1, 10000}, {5, -1, 2}, slices.Repeat([]int{9}, 12), slices.Repeat([]int{9}, 13)} {
		for _, l := range append(fullLoads(), nil, []int{}, []int{1}, []int{1, 0, -1}, []int{-1, 1, 0, 0}, []int{1, 2, -1}, slices.Repeat([]int{1, -1}, 9)) {
			weights, weightsChanged := guarded(w)
			load, loadChanged := guarded(l)
			impl.CoinsOk(weights)
			impl.LoadOk(len(weights), load)
			impl.LoadOk(len(load), load)
			impl.Weigh(weights, load)
			impl.CountLoad(load)
			impl.IsFair(len(load), load)
			turned := impl.TurnLoad(load)
			_ = append(turned, 9, 9, 9)
			if weightsChanged() || loadChanged() {
				t.Errorf("an argument of %v and %v was changed", w, l)
			}
		}
	}
}

// TestTurnLoadIsNew writes to the result and behind it, and to the argument.
func TestTurnLoadIsNew(t *testing.T) {
	for _, l := range [][]int{{}, {0}, {0, 0, 0}, {1, 0, -1}, {1, -1, 1, -1, 0}, slices.Repeat([]int{0, 1}, 6), slices.Repeat([]int{0, -1}, 20)} {
		load, changed := guarded(l)
		turned, other := impl.TurnLoad(load), impl.TurnLoad(load)
		for i := range turned {
			turned[i] = 9
		}
		spare := turned[:cap(turned)]
		for i := range spare {
			spare[i] = 9
		}
		if changed() {
			t.Errorf("TurnLoad(%v) shares memory with its argument", l)
		}
		for i := range load {
			load[i] = 8
		}
		if want := impl.TurnLoad(l); !slices.Equal(other, want) {
			t.Errorf("TurnLoad(%v) shares memory: %v; want %v", l, other, want)
		}
	}
}
