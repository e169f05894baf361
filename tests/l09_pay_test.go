package tests

import (
	"math"
	"slices"
	"testing"

	"loop.example/g00992/impl"
)

// noPurseCoins are coins that no purse has, at whatever place.
var noPurseCoins = []int{
	1, 0, -1, 21, -2, 22, 40, 100, -3, -20, -21, 1 << 32, 1<<32 + 2, 1<<32 + 20, -1 << 32, -1<<32 + 2, 1<<63 - 20, -1<<63 + 20,
	math.MinInt, math.MinInt + 1, math.MinInt + 2, math.MaxInt - 1, math.MaxInt,
}

// noSums are amounts that IsPayable refuses. Many are multiples of small coins.
var noSums = []int{
	-1, 1001, -2, 1002, -6, -20, -30, -60, 1008, 1020, 1050, 1080, 2000, -1000, -1001, 1 << 32, 1<<32 + 20, 1<<32 + 1000, -1 << 32, -1<<32 + 20,
	math.MinInt, math.MinInt + 1, math.MinInt + 8, math.MaxInt - 1, math.MaxInt,
}

// noDifferences are amounts that ExactChange refuses.
var noDifferences = []int{
	-1001, 1001, -1002, 1002, -1008, 1008, -1020, 1020, -1050, 1050, -2000, 2000, 1 << 32, 1<<32 + 20, 1<<32 + 1000, -1 << 32, -1<<32 + 20, -1<<32 - 1000,
	math.MinInt, math.MinInt + 1, math.MinInt + 8, math.MaxInt - 1, math.MaxInt,
}

// A purseCase says what is right for the coins.
type purseCase struct {
	coins                    []int
	divisor, greatest, count int
}

// purseCases have, beside others, coins that have common divisors in pairs only,
// coins of which all but one have one, and coins whose divisor is none of them.
func purseCases() []purseCase {
	return []purseCase{
		{[]int{2}, 2, -1, -1}, {[]int{3}, 3, -1, -1}, {[]int{13}, 13, -1, -1}, {[]int{20}, 20, -1, -1},
		{[]int{2, 3}, 1, 1, 1}, {[]int{3, 5}, 1, 7, 4}, {[]int{2, 19}, 1, 17, 9}, {[]int{3, 20}, 1, 37, 19}, {[]int{17, 20}, 1, 303, 152}, {[]int{18, 19}, 1, 305, 153}, {[]int{19, 20}, 1, 341, 171},
		{[]int{2, 20}, 2, -1, -1}, {[]int{4, 6}, 2, -1, -1}, {[]int{6, 9}, 3, -1, -1}, {[]int{10, 20}, 10, -1, -1}, {[]int{12, 18}, 6, -1, -1}, {[]int{15, 20}, 5, -1, -1}, {[]int{18, 20}, 2, -1, -1},
		{[]int{3, 5, 7}, 1, 4, 3}, {[]int{6, 9, 20}, 1, 43, 22}, {[]int{2, 19, 20}, 1, 17, 9}, {[]int{4, 6, 9}, 1, 11, 6}, {[]int{18, 19, 20}, 1, 161, 81},
		{[]int{6, 10, 15}, 1, 29, 15}, {[]int{10, 14, 15}, 1, 61, 31}, {[]int{10, 12, 15}, 1, 53, 27}, {[]int{12, 15, 20}, 1, 73, 37},
		{[]int{4, 6, 7}, 1, 9, 5}, {[]int{5, 18, 20}, 1, 67, 34}, {[]int{16, 18, 19}, 1, 97, 51},
		{[]int{4, 6, 8}, 2, -1, -1}, {[]int{6, 9, 15}, 3, -1, -1}, {[]int{6, 10, 14}, 2, -1, -1}, {[]int{5, 10, 20}, 5, -1, -1}, {[]int{12, 16, 20}, 4, -1, -1}, {[]int{16, 18, 20}, 2, -1, -1},
		{[]int{17, 18, 19, 20}, 1, 101, 51}, {[]int{2, 3, 19, 20}, 1, 1, 1}, {[]int{5, 6, 7, 8}, 1, 9, 5}, {[]int{6, 10, 15, 20}, 1, 29, 15}, {[]int{4, 6, 8, 9}, 1, 11, 6}, {[]int{14, 16, 18, 19}, 1, 59, 31}, {[]int{12, 15, 18, 20}, 1, 61, 31},
		{[]int{2, 4, 6, 8}, 2, -1, -1}, {[]int{6, 9, 12, 15}, 3, -1, -1}, {[]int{5, 10, 15, 20}, 5, -1, -1}, {[]int{8, 12, 16, 20}, 4, -1, -1}, {[]int{14, 16, 18, 20}, 2, -1, -1},
	}
}

// somePurses are those of the cases.
func somePurses() [][]int {
	var purses [][]int
	for _, c := range purseCases() {
		purses = append(purses, c.coins)
	}
	return purses
}

// pursesWith are all purses with this number of coins.
func pursesWith(count int) [][]int {
	if count == 0 {
		return [][]int{{}}
	}
	var purses [][]int
	for _, shorter := range pursesWith(count - 1) {
		least := 2
		if count > 1 {
			least = shorter[count-2] + 1
		}
		for coin := least; coin <= 20; coin++ {
			purses = append(purses, append(slices.Clone(shorter), coin))
		}
	}
	return purses
}

func allPurses() [][]int {
	return slices.Concat(pursesWith(1), pursesWith(2), pursesWith(3), pursesWith(4))
}

// invalidPurses break one condition each: the number of the coins, the least or
// the greatest coin, or the order, at the beginning, in the middle and at the end.
func invalidPurses() [][]int {
	list := [][]int{
		nil, {}, make([]int, 0, 4), {2, 3, 4, 5, 6}, {2, 4, 6, 8, 10}, {16, 17, 18, 19, 20}, {2, 5, 10, 15, 20}, {2, 3, 4, 5, 6, 7}, slices.Repeat([]int{2}, 5), make([]int, 4), make([]int, 100),
		{1}, {0}, {-1}, {21}, {22}, {1, 2}, {0, 2}, {-1, 2}, {1, 20}, {1, 2, 3}, {1, 3, 5}, {0, 3, 5}, {-1, 3, 5}, {1, 2, 3, 4}, {0, 4, 6, 8}, {-2, 4, 6, 8}, {1, 21}, {0, 21}, {0, 1}, {-2, -1},
		{2, 21}, {3, 21}, {20, 21}, {7, 14, 21}, {3, 5, 21}, {18, 19, 20, 21}, {2, 4, 6, 22}, {2, 1000}, {21, 22}, {21, 20}, {21, 2},
		{2, 2}, {20, 20}, {3, 3, 5}, {3, 5, 5}, {3, 3, 5, 7}, {3, 5, 5, 7}, {3, 5, 7, 7}, {2, 2, 19, 20}, {2, 3, 20, 20}, {4, 4, 4}, {4, 4, 4, 4},
		{3, 2}, {20, 2}, {5, 3}, {20, 19}, {5, 3, 7}, {3, 7, 5}, {7, 5, 3}, {5, 3, 7, 9}, {3, 7, 5, 9}, {3, 5, 9, 7}, {9, 7, 5, 3}, {4, 2, 6, 8}, {2, 4, 8, 6}, {10, 6, 15}, {6, 15, 10}, {20, 2, 3, 4}, {2, 3, 20, 4},
		{2, math.MaxInt}, {2, math.MinInt}, {math.MinInt, 20}, {math.MaxInt, 20}, {math.MinInt, math.MaxInt}, {math.MaxInt, math.MinInt}, {math.MinInt, 3, math.MaxInt}, {2, math.MaxInt, math.MinInt}, {2, math.MinInt, 20}, {2, math.MaxInt, 20},
	}
	for n := 5; n <= 19; n++ {
		coins := make([]int, n)
		for i := range coins {
			coins[i] = i + 2
		}
		list = append(list, coins)
	}
	for _, purse := range [][]int{{2}, {6}, {3, 5}, {4, 20}, {6, 10, 15}, {4, 6, 8}, {3, 5, 7, 11}, {5, 10, 15, 20}} {
		for place := range purse {
			for _, coin := range noPurseCoins {
				list = append(list, with(purse, place, coin))
			}
			if place > 0 {
				before := purse[place-1]
				list = append(list, with(purse, place, before), with(purse, place, before-1), with(with(purse, place, before), place-1, purse[place]))
			}
		}
	}
	return list
}

// isPurse is what the chapter says of the coins, one pair after the other.
func isPurse(coins []int) bool {
	for i, coin := range coins {
		if coin < 2 || coin > 20 || i > 0 && coins[i-1] >= coin {
			return false
		}
	}
	return len(coins) >= 1 && len(coins) <= 4
}

// divisorOf tries one number after the other, the greatest one first.
func divisorOf(coins []int) int {
	for divisor := slices.Max(coins); divisor > 1; divisor-- {
		if !slices.ContainsFunc(coins, func(coin int) bool { return coin%divisor != 0 }) {
			return divisor
		}
	}
	return 1
}

// paidUpTo tells of the amounts from 0 to most whether they are payable, found
// without the program: for each coin and each number of it, whether the rest is
// payable with the coins before.
func paidUpTo(coins []int, most int) []bool {
	paid := make([]bool, most+1)
	paid[0] = true
	for _, coin := range coins {
		longer := make([]bool, most+1)
		for amount := range longer {
			for rest := amount; rest >= 0; rest -= coin {
				longer[amount] = longer[amount] || paid[rest]
			}
		}
		paid = longer
	}
	return paid
}

// greatestAndCount are those of the numbers that are not payable, found without
// the program. If the last ones up to 1000 are payable, as many as the least coin
// is worth, all that follow are, because they are paid with more of this coin.
func greatestAndCount(t *testing.T, coins []int) (int, int) {
	t.Helper()
	greatest, count := -1, 0
	for amount, isPaid := range paidUpTo(coins, 1000) {
		if !isPaid {
			greatest = amount
			count++
		}
	}
	if greatest > 1000-coins[0] {
		t.Fatalf("%d is not payable with %v: there are greater ones", greatest, coins)
	}
	return greatest, count
}

// canSettle tells whether n is the difference of two payable amounts, of which
// paid has those up to 2000.
func canSettle(paid []bool, n int) bool {
	for back := 0; back <= 1000; back++ {
		if paid[back] && paid[back+max(n, -n)] {
			return true
		}
	}
	return false
}

// checkUnpayable is for any valid purse.
func checkUnpayable(t *testing.T, coins []int) {
	t.Helper()
	divisor := divisorOf(coins)
	if got := impl.CommonDivisor(coins); got != divisor {
		t.Errorf("CommonDivisor(%v) = %d; want %d", coins, got, divisor)
	}
	greatest, count := -1, -1
	if divisor == 1 {
		greatest, count = greatestAndCount(t, coins)
	}
	if got := impl.LargestUnpayable(coins); got != greatest {
		t.Errorf("LargestUnpayable(%v) = %d; want %d", coins, got, greatest)
	}
	if got := impl.CountUnpayable(coins); got != count {
		t.Errorf("CountUnpayable(%v) = %d; want %d", coins, got, count)
	}
}

// checkPayable has every amount up to the limit, and some that are refused.
func checkPayable(t *testing.T, coins []int) {
	t.Helper()
	for n, want := range paidUpTo(coins, 1000) {
		if got := impl.IsPayable(coins, n); got != want {
			t.Errorf("IsPayable(%v, %d) = %v; want %v", coins, n, got, want)
		}
	}
	checkNoSums(t, coins, noSums)
}

func checkNoSums(t *testing.T, coins []int, amounts []int) {
	t.Helper()
	for _, n := range amounts {
		if impl.IsPayable(coins, n) {
			t.Errorf("IsPayable(%v, %d) is true", coins, n)
		}
	}
}

// checkSettled compares what both sides can pay with the multiples of the common
// divisor, too, because the chapter says that they are the same.
func checkSettled(t *testing.T, coins []int) {
	t.Helper()
	divisor := divisorOf(coins)
	paid := paidUpTo(coins, 2000)
	for n := -1000; n <= 1000; n++ {
		want := canSettle(paid, n)
		if want != (n%divisor == 0) {
			t.Fatalf("the divisor of %v is %d, but settling %d is %v", coins, divisor, n, want)
		}
		if got := impl.ExactChange(coins, n); got != want {
			t.Errorf("ExactChange(%v, %d) = %v; want %v", coins, n, got, want)
		}
	}
	checkNoDifferences(t, coins, noDifferences)
}

func checkNoDifferences(t *testing.T, coins []int, amounts []int) {
	t.Helper()
	for _, n := range amounts {
		if impl.ExactChange(coins, n) {
			t.Errorf("ExactChange(%v, %d) is true", coins, n)
		}
	}
}

// checkNoPurse is for an invalid purse: whatever the amount, nothing is paid.
func checkNoPurse(t *testing.T, coins []int) {
	t.Helper()
	if impl.PurseOk(coins) {
		t.Errorf("PurseOk(%v) is true", coins)
	}
	if got := impl.CommonDivisor(coins); got != 0 {
		t.Errorf("CommonDivisor(%v) = %d; want 0", coins, got)
	}
	if got := impl.LargestUnpayable(coins); got != -1 {
		t.Errorf("LargestUnpayable(%v) = %d; want -1", coins, got)
	}
	if got := impl.CountUnpayable(coins); got != -1 {
		t.Errorf("CountUnpayable(%v) = %d; want -1", coins, got)
	}
	amounts := []int{0, 1, 2, 3, 4, 6, 10, 20, 30, 60, 120, 420, 840, 999, 1000}
	checkNoSums(t, coins, append(amounts, noSums...))
	checkNoDifferences(t, coins, append(append(amounts, opposite(amounts)...), noDifferences...))
}

func TestPurseOk(t *testing.T) {
	for _, coins := range allPurses() {
		if !impl.PurseOk(coins) {
			t.Errorf("PurseOk(%v) is false", coins)
		}
	}
	for coin := -3; coin <= 30; coin++ {
		if got := impl.PurseOk([]int{coin}); got != (coin >= 2 && coin <= 20) {
			t.Errorf("PurseOk({%d}) = %v", coin, got)
		}
		if got := impl.PurseOk([]int{2, coin}); got != (coin >= 3 && coin <= 20) {
			t.Errorf("PurseOk({2, %d}) = %v", coin, got)
		}
		if got := impl.PurseOk([]int{coin, 20}); got != (coin >= 2 && coin <= 19) {
			t.Errorf("PurseOk({%d, 20}) = %v", coin, got)
		}
	}
}

// TestPurseOkEachList has all lists of a few small numbers.
func TestPurseOkEachList(t *testing.T) {
	var tryAll func(list []int)
	tryAll = func(list []int) {
		if got, want := impl.PurseOk(list), isPurse(list); got != want {
			t.Errorf("PurseOk(%v) = %v; want %v", list, got, want)
		}
		for coin := 0; coin <= 6 && len(list) < 5; coin++ {
			tryAll(append(slices.Clone(list), coin))
		}
	}
	tryAll(nil)
}

// TestPurseOkEachPlace moves one coin of a purse past the ones beside it.
func TestPurseOkEachPlace(t *testing.T) {
	for _, purse := range somePurses() {
		for place := range purse {
			for coin := -3; coin <= 24; coin++ {
				coins := with(purse, place, coin)
				if got, want := impl.PurseOk(coins), isPurse(coins); got != want {
					t.Errorf("PurseOk(%v) = %v; want %v", coins, got, want)
				}
			}
		}
	}
}

func TestInvalidPurses(t *testing.T) {
	for _, coins := range invalidPurses() {
		if isPurse(coins) {
			t.Fatalf("%v is a purse", coins)
		}
		checkNoPurse(t, coins)
	}
}

func TestPurseCases(t *testing.T) {
	for _, c := range purseCases() {
		if got := impl.CommonDivisor(c.coins); got != c.divisor {
			t.Errorf("CommonDivisor(%v) = %d; want %d", c.coins, got, c.divisor)
		}
		if got := impl.LargestUnpayable(c.coins); got != c.greatest {
			t.Errorf("LargestUnpayable(%v) = %d; want %d", c.coins, got, c.greatest)
		}
		if got := impl.CountUnpayable(c.coins); got != c.count {
			t.Errorf("CountUnpayable(%v) = %d; want %d", c.coins, got, c.count)
		}
	}
}

// TestAllPurses has each of them, so also those with coins that have common
// divisors in pairs only.
func TestAllPurses(t *testing.T) {
	without := 0
	purses := allPurses()
	for _, coins := range purses {
		checkUnpayable(t, coins)
		if divisorOf(coins) == 1 {
			without++
		}
	}
	if len(purses) != 5035 || without == 0 || without == len(purses) {
		t.Errorf("%d of %d purses have no common divisor", without, len(purses))
	}
}

// TestHalfIsPayable is promise 9, for each pair of coins.
func TestHalfIsPayable(t *testing.T) {
	for _, coins := range pursesWith(2) {
		if divisorOf(coins) != 1 {
			continue
		}
		checkUnpayable(t, coins)
		greatest := impl.LargestUnpayable(coins)
		payable := 0
		for n := 0; n <= greatest; n++ {
			isPaid := impl.IsPayable(coins, n)
			if isPaid {
				payable++
			}
			if isPaid == impl.IsPayable(coins, greatest-n) {
				t.Errorf("%d and %d of %d are alike with %v", n, greatest-n, greatest, coins)
			}
		}
		if 2*payable != greatest+1 || payable != impl.CountUnpayable(coins) {
			t.Errorf("%d of the %d numbers up to %d are payable with %v; %d are not", payable, greatest+1, greatest, coins, impl.CountUnpayable(coins))
		}
		for n := greatest + 1; n <= 1000; n++ {
			if !impl.IsPayable(coins, n) {
				t.Errorf("%d is not payable with %v, but greater than %d", n, coins, greatest)
			}
		}
	}
}

// TestPairsWithDivisor have no greatest number that is not payable.
func TestPairsWithDivisor(t *testing.T) {
	for _, coins := range pursesWith(2) {
		if divisorOf(coins) == 1 {
			continue
		}
		if impl.CommonDivisor(coins) != divisorOf(coins) || impl.LargestUnpayable(coins) != -1 || impl.CountUnpayable(coins) != -1 {
			t.Errorf("CommonDivisor(%v) = %d, LargestUnpayable = %d, CountUnpayable = %d", coins, impl.CommonDivisor(coins), impl.LargestUnpayable(coins), impl.CountUnpayable(coins))
		}
		checkPayable(t, coins)
	}
}

// TestOneCoinOnly has purses with which only multiples are paid.
func TestOneCoinOnly(t *testing.T) {
	for coin := 2; coin <= 20; coin++ {
		coins := []int{coin}
		if impl.CommonDivisor(coins) != coin || impl.LargestUnpayable(coins) != -1 || impl.CountUnpayable(coins) != -1 {
			t.Errorf("CommonDivisor(%v) = %d, LargestUnpayable = %d, CountUnpayable = %d", coins, impl.CommonDivisor(coins), impl.LargestUnpayable(coins), impl.CountUnpayable(coins))
		}
		for n := -1000; n <= 1000; n++ {
			if got, want := impl.IsPayable(coins, n), n >= 0 && n%coin == 0; got != want {
				t.Errorf("IsPayable(%v, %d) = %v; want %v", coins, n, got, want)
			}
			if got, want := impl.ExactChange(coins, n), n%coin == 0; got != want {
				t.Errorf("ExactChange(%v, %d) = %v; want %v", coins, n, got, want)
			}
		}
	}
}

// TestPayLimits has coins that divide all amounts at the limits and beside them.
func TestPayLimits(t *testing.T) {
	cases := []struct {
		coins               []int
		n                   int
		payable, exchanging bool
	}{
		{[]int{2, 3}, 0, true, true}, {[]int{2, 3}, 1000, true, true}, {[]int{2, 3}, 1001, false, false}, {[]int{2, 3}, 999, true, true},
		{[]int{2, 3}, -1, false, true}, {[]int{2, 3}, -999, false, true}, {[]int{2, 3}, -1000, false, true}, {[]int{2, 3}, -1001, false, false}, {[]int{2, 3}, 1, false, true},
		{[]int{7, 13}, 1001, false, false}, {[]int{7, 13}, -1001, false, false}, {[]int{7, 13}, 1000, true, true}, {[]int{7, 13}, -1000, false, true}, {[]int{7, 13}, 71, false, true}, {[]int{7, 13}, 72, true, true},
		{[]int{11}, 1001, false, false}, {[]int{11}, -1001, false, false}, {[]int{11}, 990, true, true}, {[]int{11}, -990, false, true}, {[]int{11}, 1000, false, false},
		{[]int{20}, 1000, true, true}, {[]int{20}, -1000, false, true}, {[]int{20}, 1020, false, false}, {[]int{20}, -1020, false, false}, {[]int{20}, -20, false, true},
		{[]int{4, 6}, -2, false, true}, {[]int{4, 6}, 2, false, true}, {[]int{4, 6}, 3, false, false}, {[]int{4, 6}, -3, false, false}, {[]int{4, 6}, 1000, true, true}, {[]int{4, 6}, 1002, false, false},
		{[]int{6, 10, 15}, 29, false, true}, {[]int{6, 10, 15}, 30, true, true}, {[]int{6, 10, 15}, 31, true, true}, {[]int{6, 10, 15}, 1, false, true},
		{[]int{5, 10, 15, 20}, math.MinInt, false, false}, {[]int{2, 3}, math.MinInt, false, false}, {[]int{2, 3}, math.MaxInt, false, false}, {[]int{7}, math.MaxInt, false, false}, {[]int{2}, math.MinInt, false, false},
	}
	for _, c := range cases {
		if got := impl.IsPayable(c.coins, c.n); got != c.payable {
			t.Errorf("IsPayable(%v, %d) = %v; want %v", c.coins, c.n, got, c.payable)
		}
		if got := impl.ExactChange(c.coins, c.n); got != c.exchanging {
			t.Errorf("ExactChange(%v, %d) = %v; want %v", c.coins, c.n, got, c.exchanging)
		}
	}
}

func TestNothingIsPayable(t *testing.T) {
	for _, coins := range allPurses() {
		if !impl.IsPayable(coins, 0) || !impl.ExactChange(coins, 0) {
			t.Errorf("IsPayable(%v, 0) = %v, ExactChange = %v", coins, impl.IsPayable(coins, 0), impl.ExactChange(coins, 0))
		}
	}
}

func TestPayableAmounts(t *testing.T) {
	for _, coins := range append(somePurses(), pursesWith(2)...) {
		checkPayable(t, coins)
	}
}

// TestPayableEachChange compares with choices of coins that are counted one by
// one.
func TestPayableEachChange(t *testing.T) {
	for _, coins := range append(somePurses(), pursesWith(3)...) {
		for n := range 61 {
			if got, want := impl.IsPayable(coins, n), eachChange(coins, n) > 0; got != want {
				t.Errorf("IsPayable(%v, %d) = %v; want %v", coins, n, got, want)
			}
		}
	}
}

func TestExactChange(t *testing.T) {
	for _, coins := range append(somePurses(), pursesWith(2)...) {
		checkSettled(t, coins)
	}
}

// TestPayAltersNothing calls the functions with valid and invalid purses that
// have spare capacity.
func TestPayAltersNothing(t *testing.T) {
	for _, coins := range slices.Concat(somePurses(), pursesWith(3), invalidPurses()) {
		given, changed := guarded(coins)
		for _, n := range slices.Concat([]int{0, 1, 2, 30, 1000, -30, -1000}, noSums, noDifferences) {
			impl.IsPayable(given, n)
			impl.ExactChange(given, n)
		}
		impl.PurseOk(given)
		impl.CommonDivisor(given)
		impl.LargestUnpayable(given)
		impl.CountUnpayable(given)
		if changed() {
			t.Errorf("an argument of %v was changed", coins)
		}
	}
}

// TestPayKeepsNothing asks for one thing after another, so that something that
// was kept would show.
func TestPayKeepsNothing(t *testing.T) {
	for range 3 {
		for _, coins := range somePurses() {
			checkUnpayable(t, coins)
			checkNoPurse(t, append(slices.Clone(coins), 21))
			checkPayable(t, coins)
			checkNoPurse(t, append([]int{1}, coins...))
			checkSettled(t, coins)
			checkNoPurse(t, append(slices.Clone(coins), coins[0]))
		}
	}
}
