package tests

import (
	"math"
	"slices"
	"testing"

	"loop.example/g00992/impl"
)

// farCoins are coins that no system has, at whatever place.
var farCoins = []int{
	0, -1, 101, -2, 102, 200, -100, -101, 1 << 32, 1<<32 + 1, 1<<32 + 100, -1 << 32, -1<<32 + 1, 1<<63 - 100, -1<<63 + 100,
	math.MinInt, math.MinInt + 1, math.MaxInt - 1, math.MaxInt,
}

// noAmounts are amounts that are neither paid nor counted.
var noAmounts = []int{
	-1, 1001, -2, 1002, 2000, -200, -201, -1000, -1001, 1 << 32, 1<<32 + 1, 1<<32 + 200, 1<<32 + 1000, -1 << 32, -1<<32 + 5,
	math.MinInt, math.MinInt + 1, math.MinInt + 200, math.MaxInt - 1, math.MaxInt,
}

// A badSystem has the least amount for which greedy change is not best.
type badSystem struct {
	coins []int
	first int
}

// goodSystems are systems with which greedy change is always best: real coins,
// coins of which each divides the next one, and some others.
func goodSystems() [][]int {
	return [][]int{
		{1}, {1, 2}, {1, 99}, {1, 100}, {1, 2, 3}, {1, 5, 10}, {1, 2, 100}, {1, 10, 100}, {1, 50, 100}, {1, 50, 99}, {1, 34, 67, 100},
		{1, 2, 4, 8}, {1, 5, 10, 25}, {1, 5, 10, 50}, {1, 4, 16, 64}, {1, 2, 3, 4, 5}, {1, 3, 9, 27, 81}, {1, 2, 5, 10, 20}, {1, 2, 4, 5, 8}, {1, 5, 10, 25, 40},
		{1, 2, 3, 4, 5, 6}, {1, 2, 4, 8, 16, 32}, {1, 2, 3, 5, 8, 13}, {1, 3, 6, 12, 24, 48}, {1, 2, 6, 12, 48, 96}, {1, 20, 39, 58, 77, 96},
		{1, 5, 10, 25, 50, 100}, {1, 2, 5, 10, 20, 50}, {1, 2, 5, 10, 25, 50}, {1, 2, 5, 10, 50, 100}, {1, 5, 10, 20, 50, 100}, {1, 2, 5, 10, 20, 100},
	}
}

// badSystems are systems whose first bad amount is just before the sum of the
// two greatest coins, between it and the greatest coin, or below that.
func badSystems() []badSystem {
	return []badSystem{
		{[]int{1, 3, 4}, 6}, {[]int{1, 4, 5}, 8}, {[]int{1, 50, 51}, 100}, {[]int{1, 99, 100}, 198}, {[]int{1, 2, 4, 5}, 8}, {[]int{1, 2, 99, 100}, 198}, {[]int{1, 2, 3, 4, 16, 17}, 32},
		{[]int{1, 5, 8}, 10}, {[]int{1, 7, 10}, 14}, {[]int{1, 10, 25}, 30}, {[]int{1, 51, 100}, 102}, {[]int{1, 3, 4, 5}, 7}, {[]int{1, 40, 80, 100}, 120}, {[]int{1, 95, 96, 97, 98, 100}, 190},
		{[]int{1, 2, 3, 98, 99, 100}, 196}, {[]int{1, 3, 4, 50}, 6}, {[]int{1, 3, 4, 12, 13}, 6}, {[]int{1, 3, 4, 98, 99, 100}, 6}, {[]int{1, 5, 20, 25, 50, 100}, 40}, {[]int{1, 10, 20, 50, 75, 100}, 80},
	}
}

// someSystems are those of both kinds.
func someSystems() [][]int {
	systems := goodSystems()
	for _, bad := range badSystems() {
		systems = append(systems, bad.coins)
	}
	return systems
}

// systemsWith are all systems with this number of coins, up to a greatest one.
func systemsWith(count int, most int) [][]int {
	if count == 1 {
		return [][]int{{1}}
	}
	var systems [][]int
	for _, shorter := range systemsWith(count-1, most) {
		for coin := shorter[count-2] + 1; coin <= most; coin++ {
			systems = append(systems, append(slices.Clone(shorter), coin))
		}
	}
	return systems
}

// mixedSystems are systems of four to six coins up to 100. Each step follows
// from the one before, so that they are the same in every run.
func mixedSystems(count int) [][]int {
	var systems [][]int
	step := 1
	for len(systems) < count {
		system := []int{1}
		for range 3 + len(systems)%3 {
			step = (step*1103 + 12345) % 65537
			system = append(system, 2+step%99)
		}
		slices.Sort(system)
		if isSystem(system) {
			systems = append(systems, system)
		}
	}
	return systems
}

// invalidSystems break one condition each: the number of the coins, the first or
// the last coin, or the order, at the beginning, in the middle and at the end.
func invalidSystems() [][]int {
	list := [][]int{
		nil, {}, make([]int, 0, 6), {1, 2, 3, 4, 5, 6, 7}, {1, 2, 5, 10, 20, 50, 100}, {1, 2, 3, 4, 5, 6, 7, 8}, {1, 2, 4, 8, 16, 32, 64}, slices.Repeat([]int{1}, 7), make([]int, 100),
		{0}, {2}, {-1}, {100}, {101}, {0, 1}, {0, 2}, {-1, 1}, {-1, 2}, {2, 3}, {2, 5, 10}, {0, 5, 10}, {-1, 5, 10}, {0, 1, 5, 10}, {-5, 1, 5, 10}, {2, 4, 8, 16, 32, 64}, {0, 1, 2, 3, 4, 5}, {-1, 0, 1, 2, 3, 4},
		{1, 1}, {1, 1, 2}, {1, 2, 2}, {1, 1, 5, 10}, {1, 5, 5, 10}, {1, 5, 10, 10}, {1, 1, 5, 10, 25, 50}, {1, 5, 10, 25, 50, 50}, {1, 100, 100}, {1, 1, 1}, slices.Repeat([]int{1}, 6),
		{2, 1}, {5, 1, 10}, {1, 10, 5}, {1, 5, 2, 10}, {1, 0}, {1, -1}, {1, 0, 5}, {2, 1, 5, 10, 25, 50}, {1, 5, 10, 50, 25, 100}, {1, 5, 10, 25, 100, 50}, {10, 5, 1}, {1, 100, 99}, {100, 1}, {6, 5, 4, 3, 2, 1},
		{1, 101}, {1, 100, 101}, {1, 2, 101}, {1, 5, 10, 25, 50, 101}, {1, 96, 97, 98, 99, 101}, {1, 200}, {1, 1000}, {1, 101, 100}, {1, 101, 2},
		{1, math.MaxInt}, {1, math.MinInt}, {math.MinInt, math.MaxInt}, {math.MaxInt, math.MinInt}, {math.MinInt, 1, math.MaxInt}, {1, math.MaxInt, math.MinInt}, {1, math.MinInt, math.MaxInt},
	}
	for n := 7; n <= 100; n++ {
		coins := make([]int, n)
		for i := range coins {
			coins[i] = i + 1
		}
		list = append(list, coins)
	}
	for n := 1; n <= 6; n++ {
		coins := []int{1, 5, 10, 25, 50, 100}[:n]
		for place := range n {
			for _, coin := range farCoins {
				list = append(list, with(coins, place, coin))
			}
			if place > 0 {
				list = append(list, with(coins, place, coins[place-1]), with(coins, place, coins[place-1]-1), with(with(coins, place, coins[place-1]), place-1, coins[place]))
			}
		}
	}
	return list
}

// isSystem is what the chapter says of the coins, one pair after the other.
func isSystem(coins []int) bool {
	for i, coin := range coins {
		if coin < 1 || coin > 100 || i > 0 && coins[i-1] >= coin {
			return false
		}
	}
	return len(coins) >= 1 && len(coins) <= 6 && coins[0] == 1
}

// greedyBySteps pays one coin after the other, without the program.
func greedyBySteps(coins []int, n int) []int {
	used := make([]int, len(coins))
	for n > 0 {
		greatest := 0
		for i, coin := range coins {
			if coin <= n {
				greatest = i
			}
		}
		used[greatest]++
		n -= coins[greatest]
	}
	return used
}

// fewestUpTo are the least numbers of coins for the amounts from 0 to most,
// found without the program: first what one coin pays, then what two pay, and
// so on.
func fewestUpTo(coins []int, most int) []int {
	fewest := slices.Repeat([]int{-1}, most+1)
	fewest[0] = 0
	paid := []int{0}
	for count := 1; len(paid) > 0; count++ {
		var further []int
		for _, amount := range paid {
			for _, coin := range coins {
				if next := amount + coin; next <= most && fewest[next] < 0 {
					fewest[next] = count
					further = append(further, next)
				}
			}
		}
		paid = further
	}
	return fewest
}

// waysUpTo are the numbers of ways to the amounts from 0 to most, found without
// the program: for each coin and each number of it, the ways to the rest with
// the coins before.
func waysUpTo(coins []int, most int) []int {
	ways := make([]int, most+1)
	ways[0] = 1
	for _, coin := range coins {
		longer := make([]int, most+1)
		for amount := range longer {
			for rest := amount; rest >= 0; rest -= coin {
				longer[amount] += ways[rest]
			}
		}
		ways = longer
	}
	return ways
}

// eachChange counts one choice of coins with the sum n after the other.
func eachChange(coins []int, n int) int {
	if len(coins) == 0 {
		if n == 0 {
			return 1
		}
		return 0
	}
	count := 0
	for rest := n; rest >= 0; rest -= coins[0] {
		count += eachChange(coins[1:], rest)
	}
	return count
}

func sumOf(list []int) int {
	sum := 0
	for _, n := range list {
		sum += n
	}
	return sum
}

// firstBadUpTo is the least amount at which greedy change uses more coins than
// needed, found without the program.
func firstBadUpTo(coins []int, most int) int {
	for n, fewest := range fewestUpTo(coins, most) {
		if sumOf(greedyBySteps(coins, n)) != fewest {
			return n
		}
	}
	return -1
}

// twoGreatest is the amount up to which greedy change has to be checked.
func twoGreatest(coins []int) int {
	if len(coins) == 1 {
		return 1
	}
	return sumOf(coins[len(coins)-2:])
}

// checkVerdict compares the verdict on a valid system with all amounts up to
// most, at which the program's greedy change is then best, too.
func checkVerdict(t *testing.T, coins []int, most int) bool {
	t.Helper()
	want := firstBadUpTo(coins, most)
	if got := impl.FirstGreedyBad(coins); got != want {
		t.Errorf("FirstGreedyBad(%v) = %d; want %d", coins, got, want)
	}
	good := impl.IsGreedyGood(coins)
	if good != (want == -1) {
		t.Errorf("IsGreedyGood(%v) = %v, but the first bad amount up to %d is %d", coins, good, most, want)
	}
	for n, fewest := range fewestUpTo(coins, most) {
		if got := sumOf(impl.GreedyChange(coins, n)); got < fewest || good && got != fewest {
			t.Errorf("GreedyChange(%v, %d) has %d coins; the least number is %d", coins, n, got, fewest)
		}
	}
	return good
}

// checkPaid compares the ways of paying all amounts up to most.
func checkPaid(t *testing.T, coins []int, most int) {
	t.Helper()
	for n, want := range fewestUpTo(coins, most) {
		if got := impl.FewestCoins(coins, n); got != want {
			t.Errorf("FewestCoins(%v, %d) = %d; want %d", coins, n, got, want)
		}
		checkGreedy(t, coins, n, greedyBySteps(coins, n))
	}
}

func checkGreedy(t *testing.T, coins []int, n int, want []int) {
	t.Helper()
	got := impl.GreedyChange(coins, n)
	if !slices.Equal(got, want) {
		t.Fatalf("GreedyChange(%v, %d) = %v; want %v", coins, n, got, want)
	}
	sum := 0
	for i, used := range got {
		sum += used * coins[i]
	}
	if sum != n {
		t.Errorf("GreedyChange(%v, %d) = %v has the sum %d", coins, n, got, sum)
	}
}

func checkWays(t *testing.T, coins []int, most int) {
	t.Helper()
	for n, want := range waysUpTo(coins, most) {
		if got := impl.CountChange(coins, n); got != want {
			t.Errorf("CountChange(%v, %d) = %d; want %d", coins, n, got, want)
		}
	}
}

// checkNotPaid is for an invalid system or an amount that is not paid.
func checkNotPaid(t *testing.T, coins []int, n int) {
	t.Helper()
	if got := impl.GreedyChange(coins, n); len(got) != 0 {
		t.Errorf("GreedyChange(%v, %d) = %v; want nil", coins, n, got)
	}
	if got := impl.FewestCoins(coins, n); got != -1 {
		t.Errorf("FewestCoins(%v, %d) = %d; want -1", coins, n, got)
	}
	checkNotCounted(t, coins, n)
}

func checkNotCounted(t *testing.T, coins []int, n int) {
	t.Helper()
	if got := impl.CountChange(coins, n); got != 0 {
		t.Errorf("CountChange(%v, %d) = %d; want 0", coins, n, got)
	}
}

func checkNoSystem(t *testing.T, coins []int) {
	t.Helper()
	if impl.SystemOk(coins) || impl.IsGreedyGood(coins) {
		t.Errorf("SystemOk(%v) = %v, IsGreedyGood = %v", coins, impl.SystemOk(coins), impl.IsGreedyGood(coins))
	}
	if got := impl.FirstGreedyBad(coins); got != -1 {
		t.Errorf("FirstGreedyBad(%v) = %d; want -1", coins, got)
	}
	for _, n := range append([]int{0, 1, 2, 6, 100, 200, 201, 1000}, noAmounts...) {
		checkNotPaid(t, coins, n)
	}
}

func TestSystemOk(t *testing.T) {
	for _, coins := range append(someSystems(), []int{1, 96, 97, 98, 99, 100}, []int{1, 2, 3, 4, 5, 100}) {
		if !impl.SystemOk(coins) {
			t.Errorf("SystemOk(%v) is false", coins)
		}
	}
	for last := -3; last <= 110; last++ {
		if got := impl.SystemOk([]int{last}); got != (last == 1) {
			t.Errorf("SystemOk({%d}) = %v", last, got)
		}
		if got := impl.SystemOk([]int{1, last}); got != (last >= 2 && last <= 100) {
			t.Errorf("SystemOk({1, %d}) = %v", last, got)
		}
	}
}

// TestSystemOkEachList has all lists of a few small numbers.
func TestSystemOkEachList(t *testing.T) {
	var tryAll func(list []int)
	tryAll = func(list []int) {
		if got, want := impl.SystemOk(list), isSystem(list); got != want {
			t.Errorf("SystemOk(%v) = %v; want %v", list, got, want)
		}
		for coin := -1; coin <= 4 && len(list) < 5; coin++ {
			tryAll(append(slices.Clone(list), coin))
		}
	}
	tryAll(nil)
}

// TestSystemOkEachPlace moves one coin of a system past the ones beside it.
func TestSystemOkEachPlace(t *testing.T) {
	for _, system := range someSystems() {
		for place := range system {
			for coin := -3; coin <= 104; coin++ {
				coins := with(system, place, coin)
				if got, want := impl.SystemOk(coins), isSystem(coins); got != want {
					t.Errorf("SystemOk(%v) = %v; want %v", coins, got, want)
				}
			}
		}
	}
}

func TestInvalidSystems(t *testing.T) {
	for _, coins := range invalidSystems() {
		if isSystem(coins) {
			t.Fatalf("%v is a system", coins)
		}
		checkNoSystem(t, coins)
	}
}

// TestOneCoin has one way to pay each amount, and no amount above 1 to check.
func TestOneCoin(t *testing.T) {
	coins := []int{1}
	if !impl.SystemOk(coins) || !impl.IsGreedyGood(coins) || impl.FirstGreedyBad(coins) != -1 {
		t.Error("greedy change is not good with one coin:", impl.SystemOk(coins), impl.IsGreedyGood(coins), impl.FirstGreedyBad(coins))
	}
	for n := range 1001 {
		checkGreedy(t, coins, n, []int{n})
		if got := impl.FewestCoins(coins, n); got != n {
			t.Errorf("FewestCoins({1}, %d) = %d; want %d", n, got, n)
		}
	}
	for n := range 201 {
		if got := impl.CountChange(coins, n); got != 1 {
			t.Errorf("CountChange({1}, %d) = %d; want 1", n, got)
		}
	}
}

func TestGreedyChange(t *testing.T) {
	cents := []int{1, 5, 10, 25, 50, 100}
	cases := []struct {
		coins []int
		n     int
		want  []int
	}{
		{[]int{1, 3, 4}, 6, []int{2, 0, 1}},
		{[]int{1, 3, 4}, 7, []int{0, 1, 1}},
		{[]int{1, 10, 25}, 30, []int{5, 0, 1}},
		{[]int{1, 99, 100}, 198, []int{98, 0, 1}},
		{[]int{1, 99, 100}, 1000, []int{0, 0, 10}},
		{[]int{1, 100}, 999, []int{99, 9}},
		{cents, 0, []int{0, 0, 0, 0, 0, 0}},
		{cents, 4, []int{4, 0, 0, 0, 0, 0}},
		{cents, 99, []int{4, 0, 2, 1, 1, 0}},
		{cents, 191, []int{1, 1, 1, 1, 1, 1}},
		{cents, 1000, []int{0, 0, 0, 0, 0, 10}},
		{[]int{1}, 0, []int{0}},
	}
	for _, c := range cases {
		checkGreedy(t, c.coins, c.n, c.want)
	}
}

func TestFewestCoins(t *testing.T) {
	cents := []int{1, 5, 10, 25, 50, 100}
	cases := []struct {
		coins   []int
		n, want int
	}{
		{[]int{1, 3, 4}, 6, 2}, {[]int{1, 3, 4}, 10, 3}, {[]int{1, 10, 25}, 30, 3}, {[]int{1, 99, 100}, 198, 2}, {[]int{1, 99, 100}, 990, 10}, {[]int{1, 7, 49, 50}, 98, 2},
		{[]int{1, 3, 4}, 1000, 250}, {[]int{1, 2}, 999, 500}, {cents, 99, 8}, {cents, 191, 6}, {cents, 1000, 10}, {cents, 999, 17},
	}
	for _, c := range cases {
		if got := impl.FewestCoins(c.coins, c.n); got != c.want {
			t.Errorf("FewestCoins(%v, %d) = %d; want %d", c.coins, c.n, got, c.want)
		}
	}
}

func TestCountChange(t *testing.T) {
	cents := []int{1, 5, 10, 25, 50, 100}
	cases := []struct {
		coins   []int
		n, want int
	}{
		{[]int{1, 5, 10}, 10, 4}, {[]int{1, 2}, 4, 3}, {[]int{1, 2}, 200, 101}, {[]int{1, 100}, 200, 3}, {[]int{1, 100}, 99, 1}, {[]int{1, 2, 3}, 6, 7},
		{cents, 4, 1}, {cents, 5, 2}, {cents, 100, 293}, {cents, 200, 2728}, {[]int{1, 2, 5, 10, 20, 50}, 100, 4562}, {[]int{1, 2, 3, 4, 5, 6}, 200, 4775383},
	}
	for _, c := range cases {
		if got := impl.CountChange(c.coins, c.n); got != c.want {
			t.Errorf("CountChange(%v, %d) = %d; want %d", c.coins, c.n, got, c.want)
		}
	}
}

// TestCountEachChange compares with choices that are counted one by one.
func TestCountEachChange(t *testing.T) {
	for _, coins := range slices.Concat(someSystems(), systemsWith(3, 9), systemsWith(4, 7)) {
		for n := range 31 {
			if got, want := impl.CountChange(coins, n), eachChange(coins, n); got != want {
				t.Errorf("CountChange(%v, %d) = %d; want %d", coins, n, got, want)
			}
		}
	}
	for _, coins := range [][]int{{1, 99, 100}, {1, 40, 80, 100}, {1, 10, 25}, {1, 5, 10, 25, 50, 100}} {
		for n := range 201 {
			if got, want := impl.CountChange(coins, n), eachChange(coins, n); got != want {
				t.Errorf("CountChange(%v, %d) = %d; want %d", coins, n, got, want)
			}
		}
	}
}

func TestNothingToPay(t *testing.T) {
	for _, coins := range append(someSystems(), mixedSystems(50)...) {
		checkGreedy(t, coins, 0, make([]int, len(coins)))
		if got := impl.FewestCoins(coins, 0); got != 0 {
			t.Errorf("FewestCoins(%v, 0) = %d; want 0", coins, got)
		}
		if got := impl.CountChange(coins, 0); got != 1 {
			t.Errorf("CountChange(%v, 0) = %d; want 1", coins, got)
		}
	}
}

// TestAllAmounts has every amount up to the limits, and none behind them.
func TestAllAmounts(t *testing.T) {
	for _, coins := range someSystems() {
		checkPaid(t, coins, 1000)
		checkWays(t, coins, 200)
		for n := 201; n <= 1001; n++ {
			checkNotCounted(t, coins, n)
		}
		for _, n := range noAmounts {
			checkNotPaid(t, coins, n)
		}
	}
}

func TestAmountsOfMoreSystems(t *testing.T) {
	for _, coins := range slices.Concat(systemsWith(2, 100), systemsWith(3, 16), mixedSystems(60)) {
		checkPaid(t, coins, 200)
		checkWays(t, coins, 200)
	}
}

func TestGreedyGood(t *testing.T) {
	for _, coins := range goodSystems() {
		if !impl.IsGreedyGood(coins) || impl.FirstGreedyBad(coins) != -1 {
			t.Errorf("IsGreedyGood(%v) = %v, FirstGreedyBad = %d", coins, impl.IsGreedyGood(coins), impl.FirstGreedyBad(coins))
		}
		checkVerdict(t, coins, 1000)
	}
}

func TestGreedyBad(t *testing.T) {
	for _, bad := range badSystems() {
		if impl.IsGreedyGood(bad.coins) || impl.FirstGreedyBad(bad.coins) != bad.first {
			t.Errorf("IsGreedyGood(%v) = %v, FirstGreedyBad = %d; want %d", bad.coins, impl.IsGreedyGood(bad.coins), impl.FirstGreedyBad(bad.coins), bad.first)
		}
		checkVerdict(t, bad.coins, 1000)
	}
}

// TestGreedyBadJustBefore has first bad amounts beside the sum of the two
// greatest coins, so that nothing less than this sum is enough to be checked.
func TestGreedyBadJustBefore(t *testing.T) {
	for last := 5; last <= 100; last++ {
		for _, coins := range [][]int{{1, last - 1, last}, {1, 2, last - 1, last}} {
			if got, want := impl.FirstGreedyBad(coins), 2*last-2; got != want || impl.IsGreedyGood(coins) {
				t.Errorf("FirstGreedyBad(%v) = %d; want %d", coins, got, want)
			}
		}
	}
}

// checkBothKinds reports systems among which there is no good or no bad one, as
// they would not show what they should.
func checkBothKinds(t *testing.T, systems [][]int, most func([]int) int) {
	t.Helper()
	good := 0
	for _, coins := range systems {
		if checkVerdict(t, coins, most(coins)) {
			good++
		}
	}
	if good == 0 || good == len(systems) {
		t.Errorf("%d of %d systems are good", good, len(systems))
	}
}

// wellAbove is three times the sum up to which greedy change is checked, or a
// little more with small coins.
func wellAbove(coins []int) int {
	return 3*twoGreatest(coins) + 20
}

func TestUpToThreeCoins(t *testing.T) {
	checkBothKinds(t, slices.Concat(systemsWith(1, 100), systemsWith(2, 100), systemsWith(3, 40)), wellAbove)
	checkBothKinds(t, systemsWith(3, 100), func(coins []int) int { return twoGreatest(coins) + coins[2] })
	checkBothKinds(t, systemsWith(3, 12), func([]int) int { return 1000 })
}

// TestTwoCoins are always good: the smaller one is 1.
func TestTwoCoins(t *testing.T) {
	for _, coins := range systemsWith(2, 100) {
		if !impl.IsGreedyGood(coins) {
			t.Errorf("IsGreedyGood(%v) is false", coins)
		}
	}
}

func TestFourToSixCoins(t *testing.T) {
	checkBothKinds(t, slices.Concat(systemsWith(4, 16), systemsWith(5, 12), systemsWith(6, 11)), wellAbove)
	checkBothKinds(t, append(mixedSystems(600), someSystems()...), wellAbove)
	checkBothKinds(t, append(mixedSystems(30), goodSystems()...), func([]int) int { return 1000 })
}

// TestChangeAltersNothing calls the functions with valid and invalid systems
// that have spare capacity.
func TestChangeAltersNothing(t *testing.T) {
	for _, coins := range slices.Concat(someSystems(), mixedSystems(50), invalidSystems()) {
		given, changed := guarded(coins)
		for _, n := range append([]int{0, 1, 6, 100, 200, 1000}, noAmounts...) {
			impl.GreedyChange(given, n)
			impl.FewestCoins(given, n)
			impl.CountChange(given, n)
		}
		impl.SystemOk(given)
		impl.IsGreedyGood(given)
		impl.FirstGreedyBad(given)
		if changed() {
			t.Errorf("an argument of %v was changed", coins)
		}
	}
}

func TestChangeIsNew(t *testing.T) {
	for _, coins := range slices.Concat(someSystems(), systemsWith(3, 9), invalidSystems()) {
		for _, n := range []int{0, 1, 6, 99, 1000, 1001, -1} {
			checkNewAnswer(t, "GreedyChange", coins, func(given []int) []int { return impl.GreedyChange(given, n) })
		}
	}
}

// TestChangesShareNothing writes to the change of one amount, and looks at those
// of others, of which it could be a part.
func TestChangesShareNothing(t *testing.T) {
	var answers, want [][]int
	for _, coins := range [][]int{{1, 3, 4}, {1, 3, 4, 50}, {1}, {1, 5, 10, 25, 50, 100}} {
		for n := range 12 {
			answers = append(answers, impl.GreedyChange(coins, n))
			want = append(want, greedyBySteps(coins, n))
		}
	}
	for i, answer := range answers {
		overwrite(append(answer, 9, 9, 9))
		overwrite(answer)
		want[i] = slices.Repeat([]int{9}, len(answer))
		if !sameLists(answers, want) {
			t.Fatalf("answer %d shares memory with another one: %v; want %v", i, answers, want)
		}
	}
}

// TestChangeKeepsNothing asks for one thing after another, so that something
// that was kept would show.
func TestChangeKeepsNothing(t *testing.T) {
	for range 3 {
		for _, coins := range someSystems() {
			checkVerdict(t, coins, 300)
			checkNoSystem(t, coins[1:])
			checkNotPaid(t, coins, 1001)
			checkPaid(t, coins, 20)
			checkNotCounted(t, coins, 201)
			checkWays(t, coins, 20)
			checkNoSystem(t, append(slices.Clone(coins), 101))
		}
	}
}
