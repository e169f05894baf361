package tests

import (
	"math"
	"slices"
	"testing"

	"loop.example/g00992/impl"
)

// ternaryPowers are those of 3 that MaxDigits digits stand for.
var ternaryPowers = []int{1, 3, 9, 27, 81, 243, 729, 2187, 6561, 19683}

// noTernaries are numbers that have no digits, among them some that wrap around
// to small ones.
var noTernaries = []int{
	29525, -29525, 29526, -29526, 30000, -30000, 59048, -59048, 59049, -59049, 59050, 88573, 1 << 32, 1<<32 + 5, -1 << 32,
	math.MinInt, math.MinInt + 1, math.MinInt + 29524, math.MaxInt - 29524, math.MaxInt - 1, math.MaxInt,
}

// digitSum is the value of at most ten digits, computed without the program.
func digitSum(digits []int) int {
	sum := 0
	for i, digit := range digits {
		sum += digit * ternaryPowers[i]
	}
	return sum
}

// opposite is the list with opposite signs, made without the program.
func opposite(list []int) []int {
	signs := make([]int, 0, len(list))
	for _, n := range list {
		signs = append(signs, -n)
	}
	return signs
}

// shorterDigits are all lists of at most six digits, those that end in 0 too.
func shorterDigits() [][]int {
	var list [][]int
	for n := range 7 {
		list = append(list, allLoads(n)...)
	}
	return list
}

func TestTernaryLimit(t *testing.T) {
	if impl.MaxDigits != 10 {
		t.Error("greatest number of digits:", impl.MaxDigits)
	}
}

func TestDigitsOf(t *testing.T) {
	cases := []struct {
		n    int
		want []int
	}{
		{0, nil}, {1, []int{1}}, {-1, []int{-1}}, {2, []int{-1, 1}}, {-2, []int{1, -1}}, {3, []int{0, 1}}, {-3, []int{0, -1}},
		{4, []int{1, 1}}, {-4, []int{-1, -1}}, {5, []int{-1, -1, 1}}, {-5, []int{1, 1, -1}}, {6, []int{0, -1, 1}},
		{7, []int{1, -1, 1}}, {8, []int{-1, 0, 1}}, {9, []int{0, 0, 1}}, {13, []int{1, 1, 1}}, {14, []int{-1, -1, -1, 1}},
		{-14, []int{1, 1, 1, -1}}, {40, []int{1, 1, 1, 1}}, {100, []int{1, 0, -1, 1, 1}},
		{19683, []int{0, 0, 0, 0, 0, 0, 0, 0, 0, 1}}, {-19683, []int{0, 0, 0, 0, 0, 0, 0, 0, 0, -1}},
		// The greatest number of nine digits, and the least one of ten.
		{9841, slices.Repeat([]int{1}, 9)}, {9842, append(slices.Repeat([]int{-1}, 9), 1)},
		{-9841, slices.Repeat([]int{-1}, 9)}, {-9842, append(slices.Repeat([]int{1}, 9), -1)},
		{29523, append([]int{0}, slices.Repeat([]int{1}, 9)...)}, {-29523, append([]int{0}, slices.Repeat([]int{-1}, 9)...)},
		{29524, slices.Repeat([]int{1}, 10)}, {-29524, slices.Repeat([]int{-1}, 10)},
	}
	for _, c := range cases {
		if got := impl.DigitsOf(c.n); !slices.Equal(got, c.want) {
			t.Errorf("DigitsOf(%d) = %v; want %v", c.n, got, c.want)
		}
	}
}

func TestDigitsOfRejects(t *testing.T) {
	for _, n := range noTernaries {
		if got := impl.DigitsOf(n); len(got) != 0 {
			t.Errorf("DigitsOf(%d) = %v; want nil", n, got)
		}
	}
}

// checkDigits compares the digits of n with what they stand for.
func checkDigits(t *testing.T, n int) {
	t.Helper()
	digits := impl.DigitsOf(n)
	if len(digits) > 10 {
		t.Fatalf("DigitsOf(%d) = %v has more than 10 digits", n, digits)
	}
	used := 0
	for _, digit := range digits {
		if digit < -1 || digit > 1 {
			t.Errorf("DigitsOf(%d) = %v has a wrong digit", n, digits)
		}
		if digit != 0 {
			used++
		}
	}
	if len(digits) > 0 && digits[len(digits)-1] == 0 {
		t.Errorf("DigitsOf(%d) = %v ends in 0", n, digits)
	}
	if got := digitSum(digits); got != n {
		t.Errorf("DigitsOf(%d) = %v, which is %d", n, digits, got)
	}
	if got := impl.ValueOf(digits); got != n {
		t.Errorf("ValueOf(%v) = %d; want %d", digits, got, n)
	}
	if got := impl.CountWeights(n); got != used {
		t.Errorf("CountWeights(%d) = %d; want %d", n, got, used)
	}
	negated := impl.NegateDigits(digits)
	if !slices.Equal(negated, opposite(digits)) || !slices.Equal(negated, impl.DigitsOf(-n)) {
		t.Errorf("NegateDigits(%v) = %v, and DigitsOf(%d) = %v", digits, negated, -n, impl.DigitsOf(-n))
	}
}

func TestEveryNumberHasItsDigits(t *testing.T) {
	for n := -29524; n <= 29524; n++ {
		checkDigits(t, n)
	}
}

func TestValueOf(t *testing.T) {
	cases := []struct {
		digits []int
		want   int
	}{
		{nil, 0}, {[]int{}, 0}, {[]int{0}, 0}, {[]int{1}, 1}, {[]int{-1}, -1}, {[]int{0, 1}, 3}, {[]int{0, -1}, -3}, {[]int{-1, -1, 1}, 5},
		// Digits that end in 0 have the same value as without it.
		{[]int{1, 0}, 1}, {[]int{-1, 0, 0}, -1}, {[]int{0, 0, 0}, 0}, {[]int{-1, 1, 0, 0, 0}, 2}, {[]int{0, 1, 0}, 3},
		{[]int{1, 0, 0, 0, 0, 0, 0, 0, 0, 0}, 1}, {[]int{0, 0, 0, 0, 0, 0, 0, 0, -1, 0}, -6561}, {slices.Repeat([]int{0}, 10), 0},
		{[]int{0, 0, 0, 0, 0, 0, 0, 0, 0, 1}, 19683}, {[]int{0, 0, 0, 0, 0, 0, 0, 0, 0, -1}, -19683},
		{slices.Repeat([]int{1}, 9), 9841}, {slices.Repeat([]int{-1}, 9), -9841},
		{slices.Repeat([]int{1}, 10), 29524}, {slices.Repeat([]int{-1}, 10), -29524},
		{append(slices.Repeat([]int{-1}, 9), 1), 9842}, {slices.Repeat([]int{1, -1}, 5), -14762},
	}
	for _, c := range cases {
		if got := impl.ValueOf(c.digits); got != c.want {
			t.Errorf("ValueOf(%v) = %d; want %d", c.digits, got, c.want)
		}
	}
}

// TestValueOfEachList has all lists of ten digits, too, which have all values.
func TestValueOfEachList(t *testing.T) {
	for _, digits := range append(shorterDigits(), allLoads(10)...) {
		if got, want := impl.ValueOf(digits), digitSum(digits); got != want {
			t.Errorf("ValueOf(%v) = %d; want %d", digits, got, want)
		}
	}
}

func TestNegateDigits(t *testing.T) {
	cases := []struct{ digits, want []int }{
		{nil, nil}, {[]int{}, nil}, {[]int{0}, []int{0}}, {[]int{1}, []int{-1}}, {[]int{-1}, []int{1}},
		{[]int{-1, -1, 1}, []int{1, 1, -1}}, {[]int{0, 1}, []int{0, -1}}, {[]int{1, 0, -1, 1}, []int{-1, 0, 1, -1}},
		// No digit is left out at the end.
		{[]int{1, 0}, []int{-1, 0}}, {[]int{0, -1, 0, 0}, []int{0, 1, 0, 0}}, {[]int{0, 0, 0}, []int{0, 0, 0}},
		{slices.Repeat([]int{0}, 10), slices.Repeat([]int{0}, 10)}, {append(slices.Repeat([]int{1}, 9), 0), append(slices.Repeat([]int{-1}, 9), 0)},
		{slices.Repeat([]int{1}, 10), slices.Repeat([]int{-1}, 10)}, {slices.Repeat([]int{-1}, 10), slices.Repeat([]int{1}, 10)},
		{slices.Repeat([]int{1, -1}, 5), slices.Repeat([]int{-1, 1}, 5)},
	}
	for _, c := range cases {
		if got := impl.NegateDigits(c.digits); !slices.Equal(got, c.want) {
			t.Errorf("NegateDigits(%v) = %v; want %v", c.digits, got, c.want)
		}
	}
}

func TestNegateDigitsTwice(t *testing.T) {
	for _, digits := range append(shorterDigits(), allLoads(10)...) {
		negated := impl.NegateDigits(digits)
		if back := impl.NegateDigits(negated); !slices.Equal(negated, opposite(digits)) || !slices.Equal(back, digits) {
			t.Fatalf("%v negated is %v, and twice %v", digits, negated, back)
		}
		if got, want := impl.ValueOf(negated), -digitSum(digits); got != want {
			t.Errorf("%v, which is %v negated, has the value %d; want %d", negated, digits, got, want)
		}
	}
}

func checkNoDigits(t *testing.T, digits []int) {
	t.Helper()
	if got := impl.ValueOf(digits); got != 0 {
		t.Errorf("ValueOf(%v) = %d; want 0", digits, got)
	}
	if got := impl.NegateDigits(digits); len(got) != 0 {
		t.Errorf("NegateDigits(%v) = %v; want nil", digits, got)
	}
}

// TestTooManyDigits has longer lists that end in 0, too, whose value is that of
// ten digits.
func TestTooManyDigits(t *testing.T) {
	for _, n := range []int{11, 12, 13, 20, 41, 64, 65, 1000} {
		for _, digits := range [][]int{
			make([]int, n), slices.Repeat([]int{1}, n), slices.Repeat([]int{-1}, n), slices.Repeat([]int{1, 0, -1}, n)[:n],
			append([]int{1}, make([]int, n-1)...), append(make([]int, n-1), 1), append(slices.Repeat([]int{1}, 10), make([]int, n-10)...),
			slices.Repeat([]int{2}, n),
		} {
			checkNoDigits(t, digits)
		}
	}
}

// TestDigitsEachPlace has one number at each place that is no digit, the first
// one, those in the middle and the last one.
func TestDigitsEachPlace(t *testing.T) {
	for n := 1; n <= 11; n++ {
		for _, digits := range [][]int{make([]int, n), slices.Repeat([]int{1}, n), slices.Repeat([]int{-1}, n), slices.Repeat([]int{1, 0, -1}, n)[:n]} {
			for place := range n {
				for _, other := range noSides {
					checkNoDigits(t, with(digits, place, other))
				}
			}
		}
	}
}

func TestPansFor(t *testing.T) {
	cases := []struct {
		n           int
		left, right []int
	}{
		{1, nil, []int{1}}, {2, []int{1}, []int{3}}, {3, nil, []int{3}}, {4, nil, []int{1, 3}}, {5, []int{1, 3}, []int{9}},
		{6, []int{3}, []int{9}}, {7, []int{3}, []int{1, 9}}, {13, nil, []int{1, 3, 9}}, {14, []int{1, 3, 9}, []int{27}},
		{100, []int{9}, []int{1, 27, 81}}, {9841, nil, ternaryPowers[:9]}, {9842, ternaryPowers[:9], []int{19683}},
		{19683, nil, []int{19683}}, {19684, nil, []int{1, 19683}}, {19682, []int{1}, []int{19683}},
		{29523, nil, ternaryPowers[1:]}, {29524, nil, ternaryPowers},
	}
	for _, c := range cases {
		left, right, ok := impl.PansFor(c.n)
		if !ok || !slices.Equal(left, c.left) || !slices.Equal(right, c.right) {
			t.Errorf("PansFor(%d) = %v, %v, %v; want %v, %v, true", c.n, left, right, ok, c.left, c.right)
		}
	}
}

func TestPansForRejects(t *testing.T) {
	for _, n := range append([]int{0, -1, -2, -3, -5, -9841, -19683, -29523, -29524}, noTernaries...) {
		if left, right, ok := impl.PansFor(n); ok || len(left) != 0 || len(right) != 0 {
			t.Errorf("PansFor(%d) = %v, %v, %v; want nil, nil, false", n, left, right, ok)
		}
	}
}

// panSum is what the weights of a pan weigh together, if they are powers of 3
// in ascending order.
func panSum(weights []int) (int, bool) {
	sum, before := 0, 0
	for _, weight := range weights {
		if weight <= before || !slices.Contains(ternaryPowers, weight) {
			return 0, false
		}
		sum, before = sum+weight, weight
	}
	return sum, true
}

func TestObjectAndWeightsBalance(t *testing.T) {
	for n := 1; n <= 29524; n++ {
		left, right, ok := impl.PansFor(n)
		leftSum, leftOk := panSum(left)
		rightSum, rightOk := panSum(right)
		if !ok || !leftOk || !rightOk || leftSum+n != rightSum {
			t.Fatalf("PansFor(%d) = %v, %v, %v", n, left, right, ok)
		}
		for _, weight := range left {
			if slices.Contains(right, weight) {
				t.Errorf("PansFor(%d) has %d in both pans: %v, %v", n, weight, left, right)
			}
		}
		if got := impl.CountWeights(n); got != len(left)+len(right) {
			t.Errorf("CountWeights(%d) = %d, but the pans are %v, %v", n, got, left, right)
		}
		for i, digit := range impl.DigitsOf(n) {
			weight := ternaryPowers[i]
			if slices.Contains(left, weight) != (digit == -1) || slices.Contains(right, weight) != (digit == 1) {
				t.Errorf("PansFor(%d) = %v, %v, but the digit of %d is %d", n, left, right, weight, digit)
			}
		}
	}
}

func TestCountWeights(t *testing.T) {
	cases := []struct{ n, want int }{
		{0, 0}, {1, 1}, {-1, 1}, {2, 2}, {-2, 2}, {3, 1}, {4, 2}, {5, 3}, {-5, 3}, {6, 2}, {9, 1}, {14, 4}, {100, 4},
		{9841, 9}, {-9841, 9}, {9842, 10}, {-9842, 10}, {19682, 2}, {19683, 1}, {-19683, 1}, {19684, 2},
		{29523, 9}, {-29523, 9}, {29524, 10}, {-29524, 10},
	}
	for _, n := range noTernaries {
		cases = append(cases, struct{ n, want int }{n, 0})
	}
	for _, c := range cases {
		if got := impl.CountWeights(c.n); got != c.want {
			t.Errorf("CountWeights(%d) = %d; want %d", c.n, got, c.want)
		}
	}
}

// TestTernaryChangesNothing calls the functions with valid and invalid digits
// that have spare capacity.
func TestTernaryChangesNothing(t *testing.T) {
	list := append(shorterDigits(), nil, slices.Repeat([]int{1, -1}, 5), slices.Repeat([]int{1}, 10), slices.Repeat([]int{-1, 0}, 6), []int{1, 2, -1}, []int{-2}, []int{1, math.MinInt})
	for _, digits := range list {
		given, changed := guarded(digits)
		impl.ValueOf(given)
		overwrite(impl.NegateDigits(given))
		if changed() {
			t.Errorf("an argument of %v was changed", digits)
		}
	}
}

// overwrite writes to a list and to the spare capacity behind it.
func overwrite(list []int) {
	whole := list[:cap(list)]
	for i := range whole {
		whole[i] = 9
	}
}

// TestNegatedDigitsAreNew writes to a result, and then to the argument.
func TestNegatedDigitsAreNew(t *testing.T) {
	for _, digits := range append(shorterDigits(), slices.Repeat([]int{1, -1}, 5), make([]int, 10)) {
		given, changed := guarded(digits)
		first, second := impl.NegateDigits(given), impl.NegateDigits(given)
		overwrite(first)
		if changed() {
			t.Errorf("NegateDigits(%v) shares memory with its argument", digits)
		}
		overwrite(given)
		if !slices.Equal(second, opposite(digits)) {
			t.Errorf("NegateDigits(%v) shares memory: %v", digits, second)
		}
	}
}

// TestDigitsAreNew calls nothing between writing to a result and looking at the
// other one, so that no call can mend it.
func TestDigitsAreNew(t *testing.T) {
	for n := -400; n <= 400; n++ {
		for _, number := range []int{n, 29524 - 400 + n, -29524 + 400 + n} {
			first, second := impl.DigitsOf(number), impl.DigitsOf(number)
			overwrite(first)
			if digitSum(second) != number {
				t.Errorf("two results of DigitsOf(%d) share memory: %v", number, second)
			}
			if got := impl.DigitsOf(number); digitSum(got) != number {
				t.Errorf("DigitsOf(%d) keeps memory: %v", number, got)
			}
		}
	}
}

// TestPansAreNew writes to the pans one after the other, in either order.
func TestPansAreNew(t *testing.T) {
	for _, n := range []int{1, 2, 3, 4, 5, 7, 14, 100, 121, 122, 9841, 9842, 14762, 19682, 29523, 29524} {
		var pans [3][2][]int
		for i := range pans {
			pans[i][0], pans[i][1], _ = impl.PansFor(n)
		}
		want := [2][]int{slices.Clone(pans[2][0]), slices.Clone(pans[2][1])}
		for i, side := range []int{0, 1} {
			overwrite(pans[i][side])
			if !slices.Equal(pans[i][1-side], want[1-side]) {
				t.Errorf("the pans of %d share memory: %v; want %v", n, pans[i][1-side], want[1-side])
			}
			overwrite(pans[i][1-side])
			for _, other := range pans[i+1:] {
				if !slices.Equal(other[0], want[0]) || !slices.Equal(other[1], want[1]) {
					t.Errorf("two results of PansFor(%d) share memory: %v; want %v", n, other, want)
				}
			}
		}
		if left, right, _ := impl.PansFor(n); !slices.Equal(left, want[0]) || !slices.Equal(right, want[1]) {
			t.Errorf("PansFor(%d) keeps memory: %v, %v; want %v", n, left, right, want)
		}
	}
}
