package tests

import (
	"math"
	"slices"
	"testing"

	"loop.example/g00992/impl"
)

// What follows is beyond a limit: of a step, of a number that is rounded, and of one
// that is rounded with the rest of others.
var (
	noDisplaySteps = append([]int{0, -1, 1001, -2, 1002, -10, -1000, -1001, 2000, 10000}, farInts...)
	noRounded      = []int{
		-1000001, 1000001, -1000002, 1000002, -1000500, 1000500, -2000000, 2000000, 1 << 32, 1<<32 + 7, -1 << 32, -1<<32 - 7, 1 << 62, -1 << 62,
		math.MinInt, math.MinInt + 1, math.MinInt + 1000001, math.MaxInt - 1000001, math.MaxInt - 1, math.MaxInt,
	}
	noCarried = append([]int{-10001, 10001, -10002, 10002, -10500, 10500, -20000, 20000, -1000001, 1000001}, farInts...)
)

var someDisplaySteps = []int{1, 2, 3, 4, 5, 6, 7, 10, 16, 17, 50, 99, 100, 101, 250, 499, 500, 501, 998, 999, 1000}

// A roundedCase is a number, a step, and what the number is rounded to.
type roundedCase struct{ n, step, want int }

// A carriedCase is a list, a step, and what the list is rounded to; nil if it cannot be
// rounded.
type carriedCase struct {
	list []int
	step int
	want []int
}

// The reckonings below are without the program.

// nearestAround walks away from n, on both sides, until there is a multiple, and
// answers the ones that it meets there.
func nearestAround(n int, step int) []int {
	for d := 0; ; d++ {
		var found []int
		if (n-d)%step == 0 {
			found = append(found, n-d)
		}
		if d > 0 && (n+d)%step == 0 {
			found = append(found, n+d)
		}
		if found != nil {
			return found
		}
	}
}

// walked takes the even one of two multiples.
func walked(n int, step int) int {
	found := nearestAround(n, step)
	if found[0]%(2*step) == 0 {
		return found[0]
	}
	return found[len(found)-1]
}

// floated rounds a float; numbers and steps in the ranges are too small for it to be
// off.
func floated(n int, step int) int {
	return int(math.RoundToEven(float64(n)/float64(step))) * step
}

func canRound(n int, step int) bool {
	return step >= 1 && step <= 1000 && n >= -1000000 && n <= 1000000
}

func reckonedRound(n int, step int) int {
	if !canRound(n, step) {
		return n
	}
	return floated(n, step)
}

func reckonedSum(list []int, step int) int {
	sum := 0
	for _, n := range slices.Backward(list) {
		sum += reckonedRound(n, step)
	}
	return sum
}

// carriedBySums rounds sums instead of numbers: what is rounded adds up to the multiple
// that is nearest to the sum of the list. Of two equally near ones, it is the one that
// is an even number of steps away from the sum before.
func carriedBySums(list []int, step int) []int {
	sum, shown := 0, 0
	var rounded []int
	for _, n := range list {
		sum += n
		found := nearestAround(sum, step)
		next := found[0]
		if (next-shown)%(2*step) != 0 {
			next = found[len(found)-1]
		}
		rounded = append(rounded, next-shown)
		shown = next
	}
	return rounded
}

// carriedByRests follows the document, with floats.
func carriedByRests(list []int, step int) []int {
	rest := 0
	var rounded []int
	for _, n := range list {
		shown := floated(n+rest, step)
		rounded = append(rounded, shown)
		rest = n + rest - shown
	}
	return rounded
}

func checkRounded(t *testing.T, n int, step int, want int) {
	t.Helper()
	if got := impl.RoundTo(n, step); got != want {
		t.Errorf("RoundTo(%d, %d) = %d; want %d", n, step, got, want)
	}
	if got := impl.RoundError(n, step); got != want-n {
		t.Errorf("RoundError(%d, %d) = %d; want %d", n, step, got, want-n)
	}
}

// checkNearest looks only at what the program answers: it is a multiple, at most half
// of a step away, and stays there, and the sides are alike.
func checkNearest(t *testing.T, n int, step int) {
	t.Helper()
	got, lost := impl.RoundTo(n, step), impl.RoundError(n, step)
	if got%step != 0 || 2*apart(lost, 0) > step || n+lost != got {
		t.Errorf("RoundTo(%d, %d) = %d and RoundError %d", n, step, got, lost)
	}
	if 2*apart(lost, 0) == step && got%(2*step) != 0 {
		t.Errorf("RoundTo(%d, %d) = %d, an odd multiple", n, step, got)
	}
	if other, found := impl.RoundTo(-n, step), impl.RoundError(-n, step); other != -got || found != -lost {
		t.Errorf("RoundTo(%d, %d) = %d, but of the negative number %d; RoundError %d and %d", n, step, got, other, lost, found)
	}
	if again := impl.RoundTo(got, step); again != got {
		t.Errorf("RoundTo(%d, %d) = %d, a multiple", got, step, again)
	}
}

func checkSum(t *testing.T, list []int, step int, want int) {
	t.Helper()
	if got := impl.SumOfRounded(list, step); got != want {
		t.Errorf("SumOfRounded(%v, %d) = %d; want %d", list, step, got, want)
	}
}

func checkCarried(t *testing.T, list []int, step int, want []int) {
	t.Helper()
	if got := impl.CarryRounding(list, step); !slices.Equal(got, want) {
		t.Errorf("CarryRounding(%v, %d) = %v; want %v", list, step, got, want)
	}
}

func checkNotCarried(t *testing.T, list []int, step int) {
	t.Helper()
	if got := impl.CarryRounding(list, step); len(got) != 0 {
		t.Errorf("CarryRounding(%v, %d) = %v; want nil", list, step, got)
	}
}

func checkTwice(t *testing.T, n int, small int, large int, want int) {
	t.Helper()
	if got := impl.RoundTwice(n, small, large); got != want {
		t.Errorf("RoundTwice(%d, %d, %d) = %d; want %d", n, small, large, got, want)
	}
}

// checkCarry compares a valid list with both reckonings. What is rounded never adds up
// to more than half of a step more or less than the list.
func checkCarry(t *testing.T, list []int, step int) {
	t.Helper()
	want := carriedBySums(list, step)
	if other := carriedByRests(list, step); !slices.Equal(other, want) {
		t.Fatalf("with step %d, %v are rounded to %v or %v", step, list, want, other)
	}
	checkCarried(t, list, step, want)
	got := impl.CarryRounding(list, step)
	if len(got) != len(list) {
		t.Fatalf("CarryRounding(%v, %d) has %d numbers", list, step, len(got))
	}
	rest := 0
	for i, n := range list {
		rest += n - got[i]
		if got[i]%step != 0 || 2*apart(rest, 0) > step {
			t.Errorf("CarryRounding(%v, %d)[%d] = %d; the rest is %d", list, step, i, got[i], rest)
		}
	}
}

func TestRoundedByHand(t *testing.T) {
	cases := []roundedCase{
		{25, 10, 20}, {35, 10, 40}, {-25, 10, -20}, {-26, 10, -30}, {26, 10, 30}, {-35, 10, -40}, {24, 10, 20}, {-24, 10, -20}, {0, 10, 0}, {10, 10, 10}, {-10, 10, -10},
		// Next to 0.
		{1, 10, 0}, {4, 10, 0}, {5, 10, 0}, {6, 10, 10}, {-1, 10, 0}, {-4, 10, 0}, {-5, 10, 0}, {-6, 10, -10}, {9, 10, 10}, {-9, 10, -10}, {14, 10, 10}, {15, 10, 20}, {16, 10, 20}, {-14, 10, -10}, {-15, 10, -20}, {-16, 10, -20},
		{1, 2, 0}, {2, 2, 2}, {3, 2, 4}, {4, 2, 4}, {5, 2, 4}, {6, 2, 6}, {7, 2, 8}, {-1, 2, 0}, {-2, 2, -2}, {-3, 2, -4}, {-4, 2, -4}, {-5, 2, -4}, {-6, 2, -6}, {-7, 2, -8},
		{1, 4, 0}, {2, 4, 0}, {3, 4, 4}, {5, 4, 4}, {6, 4, 8}, {7, 4, 8}, {-2, 4, 0}, {-3, 4, -4}, {-5, 4, -4}, {-6, 4, -8}, {-10, 4, -8}, {10, 4, 8},
		// The even multiple need not be even, and with an odd step nothing is half way.
		{1, 3, 0}, {2, 3, 3}, {3, 3, 3}, {4, 3, 3}, {5, 3, 6}, {-1, 3, 0}, {-2, 3, -3}, {-4, 3, -3}, {-5, 3, -6}, {2, 5, 0}, {3, 5, 5}, {-2, 5, 0}, {-3, 5, -5}, {7, 5, 5}, {8, 5, 10}, {-7, 5, -5}, {-8, 5, -10},
		{3, 6, 0}, {9, 6, 12}, {15, 6, 12}, {21, 6, 24}, {-3, 6, 0}, {-9, 6, -12}, {-15, 6, -12}, {-21, 6, -24},
		{7, 1, 7}, {-7, 1, -7}, {0, 1, 0}, {1000000, 1, 1000000}, {-1000000, 1, -1000000}, {999999, 1, 999999},
		{499, 1000, 0}, {500, 1000, 0}, {501, 1000, 1000}, {1499, 1000, 1000}, {1500, 1000, 2000}, {1501, 1000, 2000}, {-500, 1000, 0}, {-501, 1000, -1000}, {-1500, 1000, -2000}, {-1499, 1000, -1000},
		{499, 999, 0}, {500, 999, 999}, {-499, 999, 0}, {-500, 999, -999}, {499, 998, 0}, {500, 998, 998}, {1497, 998, 1996}, {1496, 998, 998},
		// What is rounded can leave the range of the numbers.
		{1000000, 17, 1000008}, {-1000000, 17, -1000008}, {1000000, 999, 999999}, {1000000, 1000, 1000000}, {999500, 1000, 1000000}, {999499, 1000, 999000}, {998500, 1000, 998000}, {1000000, 3, 999999}, {1000000, 6, 1000002}, {-1000000, 6, -1000002}, {1000000, 960, 1000320}, {1000000, 961, 1000401}, {1000000, 955, 999885}, {1000000, 992, 999936}, {1000000, 997, 999991}, {1000000, 889, 1000125}, {-999500, 1000, -1000000},
	}
	for _, c := range cases {
		checkRounded(t, c.n, c.step, c.want)
		checkNearest(t, c.n, c.step)
		if walked(c.n, c.step) != c.want || floated(c.n, c.step) != c.want {
			t.Errorf("with step %d, %d is rounded to %d or %d; want %d", c.step, c.n, walked(c.n, c.step), floated(c.n, c.step), c.want)
		}
	}
}

// kindOfRounding says where a number is, between its multiples.
func kindOfRounding(n int, step int) string {
	found := nearestAround(n, step)
	side := "above 0"
	if n < 0 {
		side = "below 0"
	}
	switch d := apart(found[0], n); {
	case n == 0:
		return "0"
	case d == 0:
		return "a multiple " + side
	case len(found) == 2 && d == step/2 && found[0]%(2*step) == 0:
		return "half way to the even one below, " + side
	case len(found) == 2:
		return "half way to the even one above, " + side
	case 2*d == step-1 || 2*d == step-2:
		return "beside half way " + side
	case d == 1:
		return "beside a multiple " + side
	default:
		return "elsewhere " + side
	}
}

// numbersAround are multiples, those beside them, half way, and beside half way, near
// to 0 and to the ends of the range.
func numbersAround(step int) []int {
	var list []int
	last := 1000000 / step
	for _, count := range []int{0, 1, 2, 3, 4, 7, 50, last / 2, last/2 + 1, last - 2, last - 1, last} {
		for _, at := range []int{count * step, count*step + step/2, count*step + (step+1)/2} {
			for n := at - 2; n <= at+2; n++ {
				if n >= -1000000 && n <= 1000000 {
					list = append(list, n, -n)
				}
			}
		}
	}
	return list
}

// TestEveryDisplayStep has each step of the range with numbers of each kind.
func TestEveryDisplayStep(t *testing.T) {
	kinds := map[string]int{}
	for step := 1; step <= 1000; step++ {
		next := mixer(step)
		list := append(numbersAround(step), 1000000, 999999, -999999, -1000000)
		for range 40 {
			list = append(list, next(5*step)-2*step, next(65537)*15-491000)
		}
		for _, n := range list {
			want := walked(n, step)
			if other := floated(n, step); other != want {
				t.Fatalf("with step %d, %d is rounded to %d or %d", step, n, want, other)
			}
			checkRounded(t, n, step, want)
			checkNearest(t, n, step)
			kinds[kindOfRounding(n, step)]++
		}
		for count := -1000000 / step; count <= 1000000/step; count += 1 + 2500/step {
			checkRounded(t, count*step, step, count*step)
		}
	}
	for kind, count := range kinds {
		if count < 500 {
			t.Errorf("only %d numbers: %s", count, kind)
		}
	}
	if len(kinds) != 13 {
		t.Errorf("not all kinds of numbers: %v", kinds)
	}
}

// TestAllNumbers has every number of the range for some steps, and those around 0 for
// every step. Greater numbers are not rounded to less.
func TestAllNumbers(t *testing.T) {
	check := func(step int, low int, high int) {
		before := floated(low, step)
		for n := low; n <= high; n++ {
			want := floated(n, step)
			if got := impl.RoundTo(n, step); got != want || got < before {
				t.Errorf("RoundTo(%d, %d) = %d; want %d", n, step, got, want)
			}
			before = want
		}
	}
	for _, step := range []int{1, 2, 3, 10, 14, 999, 1000} {
		check(step, -1000000, 1000000)
	}
	for step := 1; step <= 1000; step++ {
		check(step, -3*step-3, 3*step+3)
	}
}

// TestHalfWay has the numbers half way between two multiples; there are none for odd
// steps.
func TestHalfWay(t *testing.T) {
	for step := 2; step <= 1000; step += 2 {
		half := step / 2
		for _, count := range []int{0, 1, 2, 3, 4, 5, 10, 101, 498, 499} {
			even := (count + 1) / 2 * 2
			checkRounded(t, count*step+half, step, even*step)
			checkRounded(t, -count*step-half, step, -even*step)
			checkRounded(t, count*step+half+1, step, (count+1)*step)
			checkRounded(t, -count*step-half-1, step, -(count+1)*step)
			checkRounded(t, count*step+half-1, step, count*step)
			checkRounded(t, -count*step-half+1, step, -count*step)
		}
	}
	for step := 1; step < 1000; step += 2 {
		for _, count := range []int{-500, -7, -2, -1, 0, 1, 2, 3, 499} {
			checkRounded(t, count*step+step/2, step, count*step)
			checkRounded(t, count*step-step/2, step, count*step)
			checkRounded(t, count*step+step/2+1, step, (count+1)*step)
			checkRounded(t, count*step-step/2-1, step, (count-1)*step)
		}
	}
}

// TestRoundedElsewhere adds an even number of steps, after which the same multiples are
// the even ones.
func TestRoundedElsewhere(t *testing.T) {
	for _, step := range someDisplaySteps {
		for n := -2 * step; n <= 2*step; n++ {
			at := impl.RoundTo(n, step)
			for _, count := range []int{-400, -2, 2, 6, 400} {
				checkRounded(t, n+count*step, step, at+count*step)
			}
			// An odd number of steps changes only what is half way.
			if want := at + step; 2*apart(at, n) != step {
				checkRounded(t, n+step, step, want)
			} else if got := impl.RoundTo(n+step, step); got == want {
				t.Errorf("RoundTo(%d, %d) = %d, as far from %d as %d is from %d", n+step, step, got, n+step, at, n)
			}
		}
	}
}

// TestRoundLimits has steps and numbers at their limits and beyond them, each alone and
// with the other.
func TestRoundLimits(t *testing.T) {
	cases := []roundedCase{
		{7, 0, 7}, {7, -1, 7}, {7, 1, 7}, {7, 1000, 0}, {7, 1001, 7}, {700, 1000, 1000}, {700, 1001, 700}, {-700, 1000, -1000}, {-700, 1001, -700}, {700, -1000, 700}, {700, -1, 700}, {0, 0, 0}, {0, -1, 0}, {0, 1001, 0},
		{1000000, 7, 999999}, {1000001, 7, 1000001}, {-1000000, 7, -999999}, {-1000001, 7, -1000001}, {999999, 1000, 1000000}, {1000001, 1000, 1000001}, {-999999, 1000, -1000000}, {-1000001, 1000, -1000001}, {1000001, 1, 1000001}, {-1000001, 1, -1000001}, {1000000, 1000, 1000000}, {-1000000, 1000, -1000000},
		{1000000, 0, 1000000}, {1000001, 0, 1000001}, {-1000001, -1, -1000001}, {1000001, 1001, 1000001}, {-1000000, 1001, -1000000}, {1000000, 1001, 1000000}, {1000000, -1, 1000000},
		{math.MinInt, 7, math.MinInt}, {math.MaxInt, 7, math.MaxInt}, {7, math.MinInt, 7}, {7, math.MaxInt, 7}, {math.MinInt, math.MinInt, math.MinInt}, {math.MaxInt, math.MaxInt, math.MaxInt}, {math.MinInt, math.MaxInt, math.MinInt}, {math.MaxInt, math.MinInt, math.MaxInt}, {math.MinInt, -1, math.MinInt}, {math.MinInt, 0, math.MinInt}, {math.MaxInt, 0, math.MaxInt}, {math.MinInt, 1, math.MinInt}, {math.MaxInt, 1000, math.MaxInt}, {math.MinInt, 1000, math.MinInt}, {1000000, math.MinInt, 1000000}, {-1000000, math.MaxInt, -1000000},
	}
	for _, c := range cases {
		checkRounded(t, c.n, c.step, c.want)
	}
	for step := -50; step <= 1100; step++ {
		for _, n := range []int{-1000000, -999999, -777, 0, 1, 499, 500, 501, 12345, 999999, 1000000} {
			checkRounded(t, n, step, reckonedRound(n, step))
		}
		for _, n := range noRounded {
			checkRounded(t, n, step, n)
		}
	}
	for _, step := range noDisplaySteps {
		for _, n := range slices.Concat(numbersAround(7), noRounded) {
			checkRounded(t, n, step, n)
		}
	}
	for n := 999000; n <= 1001000; n++ {
		for _, step := range []int{1, 9, 16, 1000} {
			checkRounded(t, n, step, reckonedRound(n, step))
			checkRounded(t, -n, step, reckonedRound(-n, step))
		}
	}
}

func TestTwiceByHand(t *testing.T) {
	cases := []struct{ n, small, large, once, want int }{
		{24, 5, 10, 20, 20}, {54, 10, 100, 100, 0}, {46, 10, 100, 0, 0}, {-54, 10, 100, -100, 0}, {146, 10, 100, 100, 200}, {-146, 10, 100, -100, -200}, {55, 10, 100, 100, 100}, {45, 10, 100, 0, 0}, {56, 10, 100, 100, 100}, {251, 10, 100, 300, 200}, {349, 10, 100, 300, 400}, {5, 2, 10, 0, 0}, {-5, 2, 10, 0, 0}, {7, 4, 6, 6, 6}, {13, 10, 6, 12, 12}, {2, 4, 3, 3, 0}, {14, 3, 10, 10, 20}, {-14, 3, 10, -10, -20},
		// The first step is the greater one.
		{54, 100, 10, 50, 100}, {49, 100, 10, 50, 0}, {-54, 100, 10, -50, -100}, {50, 100, 10, 50, 0},
		// Only one of the steps is valid, or none.
		{54, 0, 100, 100, 100}, {54, -1, 100, 100, 100}, {54, 1001, 100, 100, 100}, {54, 10, 0, 54, 50}, {54, 10, -1, 54, 50}, {54, 10, 1001, 54, 50}, {54, 0, 0, 54, 54}, {54, 1001, -1, 54, 54}, {54, -1, 1001, 54, 54}, {54, math.MinInt, 100, 100, 100}, {54, math.MaxInt, 100, 100, 100}, {54, 10, math.MinInt, 54, 50}, {54, 10, math.MaxInt, 54, 50}, {54, math.MinInt, math.MaxInt, 54, 54}, {54, 1, 100, 100, 100}, {54, 10, 1, 54, 50}, {499, 1000, 10, 500, 0}, {501, 10, 1000, 1000, 0},
		// Both are the same.
		{25, 10, 10, 20, 20}, {35, 10, 10, 40, 40}, {26, 10, 10, 30, 30}, {-26, 10, 10, -30, -30}, {7, 0, 0, 7, 7}, {7, 1001, 1001, 7, 7}, {7, 1, 1, 7, 7},
		// What the first one answers is beyond the range, so that it is not rounded again.
		{1000000, 17, 1000, 1000000, 1000008}, {-1000000, 17, 1000, -1000000, -1000008}, {1000000, 6, 7, 999999, 1000002}, {-1000000, 6, 7, -999999, -1000002}, {999999, 17, 7, 999999, 999992}, {1000000, 955, 17, 1000008, 999889}, {1000000, 3, 6, 1000002, 999996}, {1000000, 1000, 7, 999999, 999999},
		{1000001, 10, 1000, 1000001, 1000001}, {-1000001, 10, 1000, -1000001, -1000001}, {math.MinInt, 10, 1000, math.MinInt, math.MinInt}, {math.MaxInt, 10, 1000, math.MaxInt, math.MaxInt}, {math.MinInt, 0, -1, math.MinInt, math.MinInt}, {math.MaxInt, math.MaxInt, math.MinInt, math.MaxInt, math.MaxInt},
	}
	for _, c := range cases {
		checkTwice(t, c.n, c.small, c.large, c.want)
		checkRounded(t, c.n, c.large, c.once)
		if got := reckonedRound(reckonedRound(c.n, c.small), c.large); got != c.want {
			t.Errorf("with %d and %d, %d is rounded to %d; want %d", c.small, c.large, c.n, got, c.want)
		}
	}
}

// A second rounding counts how often it was as if there had been only one, and how
// often not.
type secondRounding struct{ same, otherwise, beyond int }

func (s *secondRounding) check(t *testing.T, n int, small int, large int) {
	t.Helper()
	first := reckonedRound(n, small)
	want := reckonedRound(first, large)
	checkTwice(t, n, small, large, want)
	switch {
	case !canRound(first, large):
		s.beyond++
	case want == reckonedRound(n, large):
		s.same++
	default:
		s.otherwise++
	}
	if canRound(n, small) && canRound(first, large) && 2*apart(want, n) > small+large {
		t.Errorf("with %d and %d, %d is rounded to %d, too far away", small, large, n, want)
	}
}

func TestTwiceForManySteps(t *testing.T) {
	var s secondRounding
	ends := []int{-1000000, -999995, -999500, 999500, 999984, 999999, 1000000, -1000001, 1000001, math.MinInt, math.MaxInt}
	steps := slices.Concat(someDisplaySteps, []int{0, -1, 1001, math.MinInt, math.MaxInt})
	for _, small := range steps {
		for _, large := range steps {
			for n := -1100; n <= 1100; n += 1 + small&7 {
				s.check(t, n, small, large)
			}
			for _, n := range ends {
				s.check(t, n, small, large)
			}
		}
	}
	for small := 1; small <= 1000; small++ {
		for _, large := range []int{1, 2, small, 1001 - small, 1000} {
			for _, n := range []int{-1000000, -3 * small / 2, -small / 2, small / 2, large / 2, large/2 + 1, large/2 - 1, 3 * large / 2, 1000000} {
				s.check(t, n, small, large)
			}
		}
		checkTwice(t, 3*small/2, small, small, reckonedRound(3*small/2, small))
	}
	if s.same < 10000 || s.otherwise < 10000 || s.beyond < 1000 {
		t.Errorf("second roundings, as one, otherwise, and beyond the range: %v", s)
	}
}

func TestSumByHand(t *testing.T) {
	cases := []struct {
		list       []int
		step, want int
	}{
		{[]int{4, 4, 4}, 10, 0}, {[]int{6, 6, 6}, 10, 30}, {[]int{-6, -6, -6}, 10, -30}, {[]int{5, 5, 5}, 10, 0}, {[]int{15, 15, 15}, 10, 60}, {[]int{15, -15, 25}, 10, 20}, {[]int{5}, 10, 0}, {[]int{16}, 10, 20}, {[]int{1, 2, 3}, 1, 6}, {[]int{499, 500, 501}, 1000, 1000},
		{[]int{-4, 4, -6, 6}, 10, 0}, {[]int{6, -4}, 10, 10}, {[]int{-4, 6}, 10, 10}, {[]int{-6, 4}, 10, -10}, {[]int{4, -6}, 10, -10},
		// The step is not valid, or some numbers are beyond the range.
		{[]int{4, 4, 4}, 0, 12}, {[]int{4, 4, 4}, -1, 12}, {[]int{4, 4, 4}, 1001, 12}, {[]int{6, -7}, math.MinInt, -1}, {[]int{6, -7}, math.MaxInt, -1}, {[]int{1000001, 6}, 10, 1000011}, {[]int{6, -1000001}, 10, -999991}, {[]int{1000000, 6}, 7, 1000006}, {[]int{1000001}, 7, 1000001}, {[]int{1000001, -1000001, 4}, 10, 0}, {[]int{math.MaxInt, math.MinInt}, 10, -1}, {[]int{math.MinInt, 6}, 10, math.MinInt + 10}, {[]int{6, math.MaxInt - 10}, 10, math.MaxInt}, {[]int{math.MinInt, 4, 4}, 0, math.MinInt + 8}, {[]int{1000000, 1000000}, 17, 2000016},
	}
	for _, c := range cases {
		checkSum(t, c.list, c.step, c.want)
		if got := reckonedSum(c.list, c.step); got != c.want {
			t.Errorf("with step %d, %v add up to %d; want %d", c.step, c.list, got, c.want)
		}
	}
}

// TestSumLimits has lists of up to 30 numbers, and of more.
func TestSumLimits(t *testing.T) {
	for _, list := range noInputs() {
		for _, step := range slices.Concat(someDisplaySteps, noDisplaySteps) {
			checkSum(t, list, step, 0)
		}
	}
	for _, step := range slices.Concat(someDisplaySteps, noDisplaySteps) {
		for _, n := range []int{1, 501, -501, 999999, 1000000, -1000000, 1000001, -1000001, 1 << 40} {
			for count := range 31 {
				checkSum(t, sameInputs(count, n), step, count*reckonedRound(n, step))
			}
			for _, count := range []int{31, 32, 33, 60, 64, 100, 1000} {
				checkSum(t, sameInputs(count, n), step, 0)
			}
			for _, place := range []int{0, 14, 29} {
				list := with(inputsBy(30, func(i int) int { return 7 * i * i }), place, n)
				checkSum(t, list, step, reckonedSum(list, step))
				checkSum(t, append(list, 700), step, 0)
			}
		}
	}
	checkSum(t, inputsBy(30, func(i int) int { return i }), 1, 435)
	checkSum(t, inputsBy(31, func(i int) int { return i }), 1, 0)
	checkSum(t, sameInputs(31, math.MinInt), 0, 0)
	checkSum(t, sameInputs(31, math.MaxInt), 1001, 0)
}

// carriedLists are numbers that are all alike, all half a step, rise, fall, are above
// and below 0 in turn, or are of any kind.
func carriedLists(step int) [][]int {
	half := (step + 1) / 2
	var list [][]int
	for _, n := range []int{0, 1, -1, half, -half, half - 1, 1 - half, half + 1, -half - 1, step, -step, step / 3, -step / 3, step + half, -step - half, 10000, -10000, 9999} {
		for _, count := range []int{1, 2, 7, 30} {
			list = append(list, sameInputs(count, n))
		}
		list = append(list,
			inputsBy(30, func(i int) int { return i * n }),
			inputsBy(30, func(i int) int { return n - i*half }),
			inputsBy(30, func(i int) int { return swing(i) * n }),
			inputsBy(29, func(i int) int { return -swing(i) * (n + i) }),
			inputsBy(30, func(i int) int { return swing(i/2) * n }),
			inputsBy(30, func(i int) int { return n + i%3*half }),
		)
	}
	next := mixer(19 + step)
	for _, wide := range []int{1, half, step, 3 * step, 10000} {
		list = append(list, inputsBy(30, func(int) int { return next(2*wide+1) - wide }))
	}
	return list
}

// A carrying counts the places of lists by what happens there.
type carrying struct{ halfWay, up, down, exact, otherwise, lessLost int }

func (c *carrying) count(list []int, step int) {
	sum, shown, lost := 0, 0, 0
	for i, n := range carriedBySums(list, step) {
		alone := floated(list[i], step)
		sum, shown, lost = sum+list[i], shown+n, lost+list[i]-alone
		switch rest := sum - shown; {
		case 2*apart(rest, 0) == step:
			c.halfWay++
		case rest > 0:
			c.down++
		case rest < 0:
			c.up++
		default:
			c.exact++
		}
		if n != alone {
			c.otherwise++
		}
		if 2*apart(lost, 0) > step {
			c.lessLost++
		}
	}
}

// TestCarriedNeverLosesMore has many lists and steps; for many of the lists, numbers
// that are rounded each alone lose more than half of a step in all.
func TestCarriedNeverLosesMore(t *testing.T) {
	var c carrying
	for _, step := range someDisplaySteps {
		for _, list := range carriedLists(step) {
			checkCarry(t, list, step)
			checkSum(t, list, step, reckonedSum(list, step))
			c.count(list, step)
			for count := range list {
				checkCarried(t, list[:count], step, carriedBySums(list, step)[:count])
			}
		}
		// The lists are made for another step.
		for _, list := range carriedLists(1001 - step) {
			checkCarry(t, list, step)
		}
	}
	if c.halfWay < 1000 || c.up < 1000 || c.down < 1000 || c.exact < 1000 || c.otherwise < 1000 || c.lessLost < 1000 {
		t.Errorf("not enough of each kind: %v", c)
	}
}

func TestCarriedWithEveryStep(t *testing.T) {
	for step := 1; step <= 1000; step++ {
		for _, list := range carriedLists(step)[:40] {
			checkCarry(t, list, step)
			checkSum(t, list, step, reckonedSum(list, step))
		}
		// Multiples have no rest.
		list := inputsBy(30, func(i int) int { return swing(i) * i * step / step * step })
		if step <= 300 {
			checkCarried(t, list, step, list)
		}
	}
}

func TestAllShortCarried(t *testing.T) {
	for step := 1; step <= 7; step++ {
		for n := range 17 * 17 * 17 {
			checkCarry(t, []int{n%17 - 8, n/17%17 - 8, n/289 - 8}, step)
		}
	}
	for _, step := range []int{2, 4, 6} {
		for n := range 5 * 5 * 5 * 5 * 5 {
			half := step / 2
			checkCarry(t, []int{(n%5 - 2) * half, (n/5%5 - 2) * half, (n/25%5 - 2) * half, (n/125%5 - 2) * half, (n/625 - 2) * half}, step)
		}
	}
}

func TestCarriedByHand(t *testing.T) {
	cases := []carriedCase{
		{[]int{4, 4, 4}, 10, []int{0, 10, 0}}, {[]int{-4, -4, -4}, 10, []int{0, -10, 0}}, {[]int{6, 6, 6}, 10, []int{10, 0, 10}}, {[]int{-6, -6, -6}, 10, []int{-10, 0, -10}}, {[]int{4}, 10, []int{0}}, {[]int{16}, 10, []int{20}},
		// All half a step: 5 is rounded to 0, and 5 more make a multiple.
		{[]int{5, 5, 5, 5}, 10, []int{0, 10, 0, 10}}, {[]int{-5, -5, -5, -5}, 10, []int{0, -10, 0, -10}}, {[]int{5, -5, 5, -5}, 10, []int{0, 0, 0, 0}}, {[]int{15, 15, 15}, 10, []int{20, 10, 20}}, {[]int{-15, -15, -15}, 10, []int{-20, -10, -20}}, {[]int{15, 5, 5, 5}, 10, []int{20, 0, 0, 10}}, {[]int{5, 10, 10, 10}, 10, []int{0, 20, 0, 20}}, {[]int{15, 20, 20}, 10, []int{20, 20, 20}}, {[]int{15, 10, 10}, 10, []int{20, 0, 20}}, {[]int{5, 20, 10, 5}, 10, []int{0, 20, 20, 0}},
		{[]int{1, 1, 1, 1}, 2, []int{0, 2, 0, 2}}, {[]int{1, 1, 1, 1, 1, 1}, 3, []int{0, 3, 0, 0, 3, 0}}, {[]int{1, 1, 1, 1}, 1, []int{1, 1, 1, 1}}, {[]int{3, -7, 0, 10000}, 1, []int{3, -7, 0, 10000}}, {[]int{0, 0, 0}, 10, []int{0, 0, 0}},
		{[]int{1, 2, 3, 4, 5}, 10, []int{0, 0, 10, 0, 0}}, {[]int{5, 4, 3, 2, 1}, 10, []int{0, 10, 0, 0, 0}}, {[]int{400, 400, 400}, 1000, []int{0, 1000, 0}}, {[]int{500, 500, 500}, 1000, []int{0, 1000, 0}}, {[]int{501, 498, 1}, 1000, []int{1000, 0, 0}}, {[]int{9, -9, 9, -9}, 10, []int{10, -10, 10, -10}}, {[]int{6, -6, 6}, 10, []int{10, -10, 10}}, {[]int{6, -2, -2, -2}, 10, []int{10, -10, 0, 0}}, {[]int{6, 0, 0}, 10, []int{10, 0, 0}}, {[]int{4, 0, 0, 1, 1}, 10, []int{0, 0, 0, 0, 10}}, {[]int{4, 2, 4}, 10, []int{0, 10, 0}},
		{[]int{10000, 10000}, 1000, []int{10000, 10000}}, {[]int{10000, 10000, 10000}, 999, []int{9990, 9990, 9990}}, {[]int{-10000, -10000}, 999, []int{-9990, -9990}}, {[]int{10000, 10000, 10000}, 7, []int{10003, 9996, 10003}}, {[]int{10000, -10000, 10000}, 7, []int{10003, -10003, 10003}},
	}
	for _, c := range cases {
		checkCarried(t, c.list, c.step, c.want)
		checkCarry(t, c.list, c.step)
	}
}

// TestCarriedLimits has lists of up to 30 numbers, and of more, and a number at and
// beyond its limits in each place.
func TestCarriedLimits(t *testing.T) {
	for _, list := range noInputs() {
		for _, step := range slices.Concat(someDisplaySteps, noDisplaySteps) {
			checkNotCarried(t, list, step)
		}
	}
	for _, step := range someDisplaySteps {
		for count := range 31 {
			for _, n := range []int{-10000, -1, 0, step/2 + 1, 10000} {
				checkCarry(t, sameInputs(count, n), step)
			}
		}
		for _, count := range []int{31, 32, 33, 60, 100, 1000} {
			for _, n := range []int{0, 1, step, 10000, 10001} {
				checkNotCarried(t, sameInputs(count, n), step)
			}
		}
		for _, count := range []int{1, 2, 3, 15, 30} {
			list := inputsBy(count, func(i int) int { return swing(i) * (3*i + step) })
			for _, place := range []int{0, count / 2, count - 1} {
				for _, n := range []int{-10000, -9999, 9999, 10000} {
					checkCarry(t, with(list, place, n), step)
				}
				for _, n := range noCarried {
					checkNotCarried(t, with(list, place, n), step)
				}
			}
			checkNotCarried(t, with(with(list, 0, 10001), count-1, math.MinInt), step)
			checkNotCarried(t, sameInputs(count, -10001), step)
		}
	}
	checkCarried(t, sameInputs(30, 1), 1, sameInputs(30, 1))
	checkNotCarried(t, sameInputs(31, 1), 1)
}

// TestCarriedStepNotInRange has steps that are not valid, alone and with lists that are
// not, either.
func TestCarriedStepNotInRange(t *testing.T) {
	lists := [][]int{nil, {}, {0}, {7}, {-10000, 10000}, {10001}, {0, -10001}, {math.MinInt, 1}, {5, math.MaxInt, 5}, sameInputs(30, 4), sameInputs(31, 4), sameInputs(31, 10001), with(sameInputs(30, 4), 29, math.MinInt), carriedLists(10)[7]}
	for _, step := range noDisplaySteps {
		for _, list := range lists {
			checkNotCarried(t, list, step)
		}
	}
	for step := -100; step <= 1100; step++ {
		if step >= 1 && step <= 1000 {
			checkCarried(t, []int{7, 700, -1300}, step, carriedBySums([]int{7, 700, -1300}, step))
		} else {
			checkNotCarried(t, []int{7, 700, -1300}, step)
		}
	}
}

// A rounding is a list and a step.
type rounding struct {
	list []int
	step int
}

// someRoundings are valid ones, and some that are not.
func someRoundings() []rounding {
	var all []rounding
	for _, step := range []int{1, 2, 3, 10, 999, 1000, 0, -1, 1001, math.MinInt, math.MaxInt} {
		for _, list := range slices.Concat(carriedLists(10)[20:60], carriedLists(999)[:15], noInputs()) {
			all = append(all, rounding{list, step})
		}
		for _, n := range []int{10001, 1000000, -1000001, math.MinInt, math.MaxInt} {
			all = append(all, rounding{[]int{4, n, 6}, step}, rounding{sameInputs(30, n), step}, rounding{sameInputs(31, n), step})
		}
		all = append(all, rounding{sameInputs(31, 4), step})
	}
	return all
}

func TestRoundingChangesNothing(t *testing.T) {
	for _, r := range someRoundings() {
		given, changed := guardedList(r.list, 77777)
		impl.SumOfRounded(given, r.step)
		impl.CarryRounding(given, r.step)
		if changed() {
			t.Errorf("with step %d, the list %v was changed to %v", r.step, r.list, given)
		}
	}
}

func TestCarriedIsNew(t *testing.T) {
	for _, r := range someRoundings() {
		checkNewMemory(t, "CarryRounding", r.list, 77777, func(given []int) []int { return impl.CarryRounding(given, r.step) })
	}
}

// A roundingAnswer is what the program said of a list, and of its number and its sum.
type roundingAnswer struct {
	sum, to, lost, twice int
	carried              []int
}

func roundingAnswerTo(r rounding) roundingAnswer {
	n := 137 * len(r.list)
	if len(r.list) > 0 {
		n = r.list[len(r.list)/2]
	}
	return roundingAnswer{
		sum:     impl.SumOfRounded(r.list, r.step),
		to:      impl.RoundTo(n, r.step),
		lost:    impl.RoundError(n, r.step),
		twice:   impl.RoundTwice(n, r.step, 100),
		carried: impl.CarryRounding(r.list, r.step),
	}
}

func TestRoundingsAnswerTheSame(t *testing.T) {
	checkSameAgain(t, someRoundings(), roundingAnswerTo)
}
