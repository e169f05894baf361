package tests

import (
	"math"
	"math/big"
	"slices"
	"testing"

	"loop.example/g00992/impl"
)

// What follows is beyond a limit: of an arm, and of an object. There are objects
// whose products with an arm wrap around to small numbers.
var (
	noArms    = append([]int{0, 1001, -1, 1002, -2, -7, -100, -1000, -1001, 2000, 10000}, farInts...)
	noObjects = append([]int{-1, 1001, -2, 1002, -100, -1000, -1001, 2000, 10000, 1 << 61, 1 << 54, 1<<61 + 3, -1 << 58}, farInts...)
)

// A pair is a left and a right arm.
type pair struct{ a, b int }

func pairsOf(lefts []int, rights []int) []pair {
	var list []pair
	for _, a := range lefts {
		for _, b := range rights {
			list = append(list, pair{a, b})
		}
	}
	return list
}

// somePairs are equal ones, and others with and without a common divisor, each arm
// at its least and greatest value.
func somePairs() []pair {
	list := []int{1, 2, 3, 4, 5, 6, 7, 8, 9, 10, 12, 16, 25, 30, 49, 64, 97, 100, 125, 210, 256, 360, 499, 500, 501, 625, 720, 997, 998, 999, 1000}
	return pairsOf(list, list)
}

// fewPairs are for many objects.
func fewPairs() []pair {
	list := pairsOf([]int{1, 1000}, []int{1, 1000})
	return append(list, pair{2, 3}, pair{3, 2}, pair{6, 4}, pair{7, 7}, pair{1, 999}, pair{999, 1}, pair{999, 1000}, pair{1000, 999}, pair{1000, 3}, pair{3, 1000}, pair{500, 1000}, pair{720, 210}, pair{997, 991}, pair{64, 625})
}

// invalidPairs have one or two arms beyond a limit.
func invalidPairs() []pair {
	return slices.Concat(
		pairsOf(noArms, []int{1, 2, 3, 7, 500, 999, 1000}),
		pairsOf([]int{1, 2, 3, 7, 500, 999, 1000}, noArms),
		pairsOf(noArms, noArms),
	)
}

// someObjects are at the limits, and in between; one without weight is among them.
func someObjects() []int {
	return []int{0, 1, 2, 3, 4, 6, 7, 10, 12, 60, 64, 97, 100, 250, 499, 500, 501, 720, 997, 998, 999, 1000}
}

// someReadings are valid fractions, also negative ones, 0, and some with great
// terms.
func someReadings() []impl.Fraction {
	list := append(validFractions(), frac(4, 1), frac(9, 1), frac(9, 4), frac(4, 9), frac(-4, 9), frac(1000, 1), frac(1001, 1), frac(-1000, 1), frac(-1001, 1), frac(1, 1000), frac(-1, 1000), frac(1, 1001), frac(999, 1000), frac(707, 577), frac(-577, 707), frac(1000000, 997), frac(997, 1000000), frac(7, 500000), frac(500000, 7), frac(3, 333333), frac(15625, 64))
	next := mixer(16)
	for _, most := range []int{30, 1100, 65000} {
		for range 25 {
			if f, ok := fractionOf(big.NewRat(int64(next(2*most)-most), int64(next(most)+1))); ok {
				list = append(list, f)
			}
		}
	}
	return slices.DeleteFunc(list, func(f impl.Fraction) bool { return !isReading(f) })
}

// isReading is what the chapter of fractions says of a valid one.
func isReading(f impl.Fraction) bool {
	if f.Top < -1000000 || f.Top > 1000000 || f.Bottom < 1 || f.Bottom > 1000000 {
		return false
	}
	return exact(f).Denom().Int64() == int64(f.Bottom)
}

func isPair(p pair) bool {
	return p.a > 0 && p.a < 1001 && p.b > 0 && p.b < 1001
}

// reckonedLeft is what balances an object in the left pan of a valid pair, as a
// fraction if there is one, without the program.
func reckonedLeft(p pair, object int) (impl.Fraction, bool) {
	return fractionOf(new(big.Rat).Mul(big.NewRat(int64(object), 1), big.NewRat(int64(p.a), int64(p.b))))
}

func reckonedSquare(left impl.Fraction, right impl.Fraction) (impl.Fraction, bool) {
	return fractionOf(new(big.Rat).Mul(exact(left), exact(right)))
}

func reckonedRatio(left impl.Fraction, right impl.Fraction) (impl.Fraction, bool) {
	if right.Top == 0 {
		return none, false
	}
	return fractionOf(new(big.Rat).Quo(exact(left), exact(right)))
}

func checkReadLeft(t *testing.T, p pair, object int, want impl.Fraction, wantOk bool) {
	t.Helper()
	if got, ok := impl.ReadLeft(p.a, p.b, object); got != want || ok != wantOk {
		t.Errorf("ReadLeft(%d, %d, %d) = %v, %v; want %v, %v", p.a, p.b, object, got, ok, want, wantOk)
	}
}

func checkReadRight(t *testing.T, p pair, object int, want impl.Fraction, wantOk bool) {
	t.Helper()
	if got, ok := impl.ReadRight(p.a, p.b, object); got != want || ok != wantOk {
		t.Errorf("ReadRight(%d, %d, %d) = %v, %v; want %v, %v", p.a, p.b, object, got, ok, want, wantOk)
	}
}

func checkSquare(t *testing.T, left impl.Fraction, right impl.Fraction, want impl.Fraction, wantOk bool) {
	t.Helper()
	if got, ok := impl.SquareFrom(left, right); got != want || ok != wantOk {
		t.Errorf("SquareFrom(%v, %v) = %v, %v; want %v, %v", left, right, got, ok, want, wantOk)
	}
}

func checkRatio(t *testing.T, left impl.Fraction, right impl.Fraction, want impl.Fraction, wantOk bool) {
	t.Helper()
	if got, ok := impl.RatioFrom(left, right); got != want || ok != wantOk {
		t.Errorf("RatioFrom(%v, %v) = %v, %v; want %v, %v", left, right, got, ok, want, wantOk)
	}
}

func checkSubstitute(t *testing.T, p pair, object int, tare impl.Fraction, want impl.Fraction, wantOk bool) {
	t.Helper()
	if got, ok := impl.Substitute(p.a, p.b, object, tare); got != want || ok != wantOk {
		t.Errorf("Substitute(%d, %d, %d, %v) = %v, %v; want %v, %v", p.a, p.b, object, tare, got, ok, want, wantOk)
	}
}

// checkReadings compares both readings of a valid pair and an object in the range
// with the reckoning.
func checkReadings(t *testing.T, p pair, object int) (impl.Fraction, impl.Fraction) {
	t.Helper()
	turned := pair{p.b, p.a}
	left, leftOk := reckonedLeft(p, object)
	right, rightOk := reckonedLeft(turned, object)
	if !leftOk || !rightOk {
		t.Fatalf("of %v and %d, a reading is none", p, object)
	}
	checkReadLeft(t, p, object, left, true)
	checkReadRight(t, p, object, right, true)
	checkReadRight(t, turned, object, left, true)
	checkReadLeft(t, turned, object, right, true)
	return left, right
}

// checkArms is the promise for one object: what both readings lead to, and that
// the object can be replaced by the same weight.
func checkArms(t *testing.T, p pair, object int) (impl.Fraction, impl.Fraction) {
	t.Helper()
	left, right := checkReadings(t, p, object)
	checkSquare(t, left, right, frac(object*object, 1), true)
	checkSquare(t, right, left, frac(object*object, 1), true)
	checkSubstitute(t, p, object, left, frac(object, 1), true)
	checkSubstitute(t, pair{p.b, p.a}, object, right, frac(object, 1), true)
	if object == 0 {
		checkRatio(t, left, right, none, false)
		checkRatio(t, right, left, none, false)
		return left, right
	}
	ratio, ok := fractionOf(big.NewRat(int64(p.a*p.a), int64(p.b*p.b)))
	checkRatio(t, left, right, ratio, ok)
	ratio, ok = fractionOf(big.NewRat(int64(p.b*p.b), int64(p.a*p.a)))
	checkRatio(t, right, left, ratio, ok)
	return left, right
}

// wrongTares are near to a reading, have its value or one of its terms, or would be
// one if something were left out.
func wrongTares(p pair, object int, left impl.Fraction, right impl.Fraction) []impl.Fraction {
	list := []impl.Fraction{
		right, none, frac(0, 1), frac(1, 1), frac(object, 1), frac(object*p.a, p.b), frac(object*p.b, p.a), frac(p.a, p.b), frac(p.b, p.a),
		frac(-left.Top, left.Bottom), frac(left.Top, -left.Bottom), frac(-left.Top, -left.Bottom), frac(left.Bottom, left.Top), frac(left.Top, 0), frac(0, left.Bottom),
		frac(left.Top+1, left.Bottom), frac(left.Top-1, left.Bottom), frac(left.Top, left.Bottom+1), frac(left.Top, left.Bottom-1), frac(left.Top+1, left.Bottom+1),
		frac(left.Top+left.Bottom, left.Bottom), frac(left.Top+1<<32, left.Bottom), frac(left.Top, left.Bottom+1<<32),
	}
	for _, factor := range []int{2, 3, 5, 7, 1000, object, p.a, p.b} {
		list = append(list, frac(left.Top*factor, left.Bottom*factor))
	}
	for _, n := range []int{math.MinInt, math.MinInt + 1, math.MaxInt - 1, math.MaxInt} {
		list = append(list, frac(n, left.Bottom), frac(left.Top, n), frac(n, n), frac(n, 1), frac(0, n))
	}
	return slices.DeleteFunc(list, func(f impl.Fraction) bool { return f == left })
}

func checkWrongTares(t *testing.T, p pair, object int) int {
	t.Helper()
	left, right := checkReadings(t, p, object)
	list := wrongTares(p, object, left, right)
	for _, tare := range list {
		checkSubstitute(t, p, object, tare, none, false)
	}
	return len(list)
}

// checkNoReading is for an object or a pair beyond a limit. What would be the
// reading, without limits or with none but that of an int, is no tare.
func checkNoReading(t *testing.T, p pair, object int) {
	t.Helper()
	checkReadLeft(t, p, object, none, false)
	checkReadRight(t, p, object, none, false)
	tares := []impl.Fraction{none, frac(0, 1), frac(1, 1), frac(object, 1), frac(object*p.a, p.b), frac(object*p.b, p.a), frac(p.a, p.b), frac(0, p.b), frac(object*p.a, 1), frac(math.MinInt, 1), frac(1, math.MinInt), frac(math.MaxInt, math.MaxInt)}
	if p.b != 0 {
		would, _ := reckonedLeft(p, object)
		tares = append(tares, would, frac(object*p.a/p.b, 1))
		wrapped, _ := fractionOf(big.NewRat(int64(object*p.a), int64(p.b)))
		tares = append(tares, wrapped)
	}
	for _, tare := range tares {
		checkSubstitute(t, p, object, tare, none, false)
	}
}

func TestArmsOkLimits(t *testing.T) {
	cases := []struct {
		p    pair
		want bool
	}{
		{pair{0, 1}, false}, {pair{1, 1}, true}, {pair{1000, 1}, true}, {pair{1001, 1}, false}, {pair{-1, 1}, false}, {pair{-1000, 1}, false},
		{pair{1, 0}, false}, {pair{1, 1000}, true}, {pair{1, 1001}, false}, {pair{1, -1}, false}, {pair{1, -1000}, false},
		{pair{1000, 1000}, true}, {pair{1001, 1001}, false}, {pair{0, 0}, false}, {pair{-1, -1}, false}, {pair{0, 1001}, false}, {pair{1001, 0}, false}, {pair{1000, 1001}, false}, {pair{1001, 1000}, false},
		{pair{math.MinInt, 1}, false}, {pair{math.MaxInt, 1}, false}, {pair{1, math.MinInt}, false}, {pair{1, math.MaxInt}, false}, {pair{math.MinInt, math.MaxInt}, false}, {pair{math.MaxInt, math.MinInt}, false},
	}
	for _, c := range cases {
		if got := impl.ArmsOk(c.p.a, c.p.b); got != c.want {
			t.Errorf("ArmsOk(%d, %d) = %v", c.p.a, c.p.b, got)
		}
	}
	for n := -2000; n <= 2000; n++ {
		want := n >= 1 && n <= 1000
		for _, other := range []int{1, 5, 1000} {
			if impl.ArmsOk(n, other) != want || impl.ArmsOk(other, n) != want {
				t.Errorf("ArmsOk of %d and %d is not %v from both sides", n, other, want)
			}
		}
	}
}

// TestArmsOkTogether has arms around the limits on both sides, and far ones.
func TestArmsOkTogether(t *testing.T) {
	list := append([]int{-2, -1, 0, 1, 2, 3, 500, 998, 999, 1000, 1001, 1002}, noArms...)
	for _, p := range append(pairsOf(list, list), somePairs()...) {
		if got, want := impl.ArmsOk(p.a, p.b), isPair(p); got != want {
			t.Errorf("ArmsOk(%d, %d) = %v", p.a, p.b, got)
		}
	}
}

// A readingCase is an object in the left pan, and what balances it.
type readingCase struct {
	p      pair
	object int
	want   impl.Fraction
}

// TestReadingsByHand has readings that are shortened, and that have the greatest
// term.
func TestReadingsByHand(t *testing.T) {
	cases := []readingCase{
		{pair{2, 3}, 6, frac(4, 1)}, {pair{3, 2}, 6, frac(9, 1)}, {pair{2, 3}, 1, frac(2, 3)}, {pair{2, 3}, 5, frac(10, 3)}, {pair{2, 3}, 3, frac(2, 1)}, {pair{2, 4}, 1, frac(1, 2)}, {pair{4, 2}, 1, frac(2, 1)}, {pair{6, 4}, 6, frac(9, 1)}, {pair{6, 4}, 5, frac(15, 2)}, {pair{4, 6}, 5, frac(10, 3)},
		{pair{1, 1}, 0, frac(0, 1)}, {pair{1, 1000}, 0, frac(0, 1)}, {pair{1000, 1}, 0, frac(0, 1)}, {pair{7, 13}, 0, frac(0, 1)},
		{pair{1, 1}, 1, frac(1, 1)}, {pair{7, 7}, 1, frac(1, 1)}, {pair{1000, 1000}, 1, frac(1, 1)}, {pair{1, 1}, 1000, frac(1000, 1)}, {pair{1000, 1000}, 1000, frac(1000, 1)}, {pair{999, 999}, 17, frac(17, 1)},
		{pair{1000, 1}, 1000, frac(1000000, 1)}, {pair{1000, 1}, 999, frac(999000, 1)}, {pair{999, 1}, 1000, frac(999000, 1)}, {pair{1000, 1}, 1, frac(1000, 1)}, {pair{1000, 3}, 1000, frac(1000000, 3)}, {pair{1000, 999}, 1000, frac(1000000, 999)}, {pair{1000, 2}, 1000, frac(500000, 1)},
		{pair{1, 1000}, 1000, frac(1, 1)}, {pair{1, 1000}, 1, frac(1, 1000)}, {pair{1, 1000}, 999, frac(999, 1000)}, {pair{999, 1000}, 999, frac(998001, 1000)}, {pair{999, 1000}, 1000, frac(999, 1)}, {pair{1, 999}, 1000, frac(1000, 999)}, {pair{500, 1000}, 1, frac(1, 2)},
	}
	for _, c := range cases {
		checkReadLeft(t, c.p, c.object, c.want, true)
		checkReadRight(t, pair{c.p.b, c.p.a}, c.object, c.want, true)
		checkSubstitute(t, c.p, c.object, c.want, frac(c.object, 1), true)
		checkArms(t, c.p, c.object)
	}
}

// TestWrongBalanceGivesRightWeight has many pairs of arms, and an object without
// weight among the objects.
func TestWrongBalanceGivesRightWeight(t *testing.T) {
	shortened, whole, last := 0, 0, 0
	for _, p := range somePairs() {
		for _, object := range someObjects() {
			left, _ := checkArms(t, p, object)
			if left.Bottom < p.b {
				shortened++
			}
			if left.Bottom == 1 {
				whole++
			}
			if isLastFraction(left) {
				last++
			}
		}
	}
	if shortened < 5000 || whole < 3000 || last < 5 {
		t.Errorf("%d readings shortened, %d whole, %d with the greatest term", shortened, whole, last)
	}
}

// TestEveryObject has each object of the range.
func TestEveryObject(t *testing.T) {
	for _, p := range fewPairs() {
		for object := range 1001 {
			checkArms(t, p, object)
		}
	}
}

// TestEveryArm has each length of either arm.
func TestEveryArm(t *testing.T) {
	for arm := 1; arm <= 1000; arm++ {
		for _, other := range []int{1, 2, 360, 997, 1000, arm} {
			for _, object := range []int{0, 1, 12, 999, 1000} {
				checkArms(t, pair{arm, other}, object)
			}
		}
	}
}

// TestHeaviestObject has the greatest square and the greatest ratio: exactly the
// greatest term.
func TestHeaviestObject(t *testing.T) {
	for _, p := range somePairs() {
		left, leftOk := impl.ReadLeft(p.a, p.b, 1000)
		right, rightOk := impl.ReadRight(p.a, p.b, 1000)
		if !leftOk || !rightOk {
			t.Errorf("of %v, a reading is none", p)
		}
		checkSquare(t, left, right, frac(1000000, 1), true)
	}
	left, _ := impl.ReadLeft(1000, 1, 1)
	right, _ := impl.ReadRight(1000, 1, 1)
	checkRatio(t, left, right, frac(1000000, 1), true)
	checkRatio(t, right, left, frac(1, 1000000), true)
}

func TestSquareByHand(t *testing.T) {
	checkCases(t, "the square", impl.SquareFrom, []fractionCase{
		{frac(4, 1), frac(9, 1), frac(36, 1)}, {frac(2, 3), frac(3, 2), frac(1, 1)}, {frac(10, 3), frac(15, 2), frac(25, 1)}, {frac(1, 2), frac(1, 3), frac(1, 6)}, {frac(4, 9), frac(3, 2), frac(2, 3)},
		{frac(0, 1), frac(0, 1), frac(0, 1)}, {frac(0, 1), frac(-5, 7), frac(0, 1)}, {frac(0, 1), frac(1000000, 1), frac(0, 1)}, {frac(0, 1), frac(1, 1000000), frac(0, 1)},
		{frac(-2, 3), frac(3, 4), frac(-1, 2)}, {frac(-2, 3), frac(-3, 4), frac(1, 2)}, {frac(-1, 1), frac(1000000, 1), frac(-1000000, 1)}, {frac(-1, 1), frac(-1000000, 1), frac(1000000, 1)},
		{frac(1000, 1), frac(1000, 1), frac(1000000, 1)}, {frac(1000, 1), frac(-1000, 1), frac(-1000000, 1)}, {frac(1, 1000), frac(-1, 1000), frac(-1, 1000000)}, {frac(1000000, 1), frac(1, 1000000), frac(1, 1)}, {frac(-1000000, 999999), frac(999999, 1000000), frac(-1, 1)},
		{frac(1001, 1), frac(1000, 1), none}, {frac(1001, 1), frac(-1000, 1), none}, {frac(1, 1001), frac(1, 1000), none}, {frac(1000000, 1), frac(2, 1), none}, {frac(1000000, 1), frac(1000000, 1), none}, {frac(-1000000, 1), frac(-1000000, 1), none}, {frac(1, 1000000), frac(1, 2), none}, {frac(1, 1000000), frac(-1, 1000000), none}, {frac(1000000, 999999), frac(1000000, 999999), none},
	})
}

// TestRatioByHand has negative right readings: the bottom stays positive.
func TestRatioByHand(t *testing.T) {
	cases := []fractionCase{
		{frac(4, 1), frac(9, 1), frac(4, 9)}, {frac(9, 1), frac(4, 1), frac(9, 4)}, {frac(2, 3), frac(3, 2), frac(4, 9)}, {frac(10, 3), frac(15, 2), frac(4, 9)}, {frac(1, 2), frac(1, 4), frac(2, 1)}, {frac(5, 7), frac(5, 7), frac(1, 1)},
		{frac(4, 1), frac(-9, 1), frac(-4, 9)}, {frac(-4, 1), frac(9, 1), frac(-4, 9)}, {frac(-4, 1), frac(-9, 1), frac(4, 9)}, {frac(5, 7), frac(-5, 7), frac(-1, 1)}, {frac(-5, 7), frac(-5, 7), frac(1, 1)}, {frac(1, 1), frac(-1, 3), frac(-3, 1)}, {frac(1, 1), frac(-3, 1), frac(-1, 3)},
		{frac(0, 1), frac(1, 1), frac(0, 1)}, {frac(0, 1), frac(-1, 1), frac(0, 1)}, {frac(0, 1), frac(-3, 7), frac(0, 1)}, {frac(0, 1), frac(1000000, 1), frac(0, 1)}, {frac(0, 1), frac(-1, 1000000), frac(0, 1)},
		{frac(0, 1), frac(0, 1), none}, {frac(1, 1), frac(0, 1), none}, {frac(-5, 7), frac(0, 1), none}, {frac(1000000, 1), frac(0, 1), none}, {frac(-1, 1000000), frac(0, 1), none},
		{frac(1000000, 1), frac(1, 1), frac(1000000, 1)}, {frac(1000000, 1), frac(-1, 1), frac(-1000000, 1)}, {frac(-1000000, 1), frac(-1, 1), frac(1000000, 1)}, {frac(1, 1), frac(1000000, 1), frac(1, 1000000)}, {frac(1, 1), frac(-1000000, 1), frac(-1, 1000000)}, {frac(-1, 1), frac(-1000000, 1), frac(1, 1000000)}, {frac(1000, 1), frac(1, 1000), frac(1000000, 1)}, {frac(1, 1000), frac(-1000, 1), frac(-1, 1000000)}, {frac(1, 1), frac(1, 1000000), frac(1000000, 1)}, {frac(1, 1), frac(-1, 1000000), frac(-1000000, 1)},
		// Only before these are shortened, a term is too great.
		{frac(1000000, 1), frac(1000000, 1), frac(1, 1)}, {frac(1000000, 1), frac(-1000000, 1), frac(-1, 1)}, {frac(1, 1000000), frac(-1, 1000000), frac(-1, 1)}, {frac(1000000, 999999), frac(1000000, 999999), frac(1, 1)}, {frac(1000000, 999999), frac(999998, 999999), frac(500000, 499999)}, {frac(-999999, 1000000), frac(3, 1000000), frac(-333333, 1)},
		{frac(1000000, 1), frac(1, 2), none}, {frac(1000000, 1), frac(-1, 2), none}, {frac(-1000000, 1), frac(1, 1000000), none}, {frac(1, 2), frac(1000000, 1), none}, {frac(1, 2), frac(-1000000, 1), none}, {frac(1, 1000000), frac(1000000, 1), none}, {frac(1, 1000000), frac(2, 1), none}, {frac(1001, 1), frac(1, 1000), none}, {frac(-1001, 1), frac(1, 1000), none}, {frac(1, 1001), frac(1000, 1), none}, {frac(1000000, 999999), frac(999999, 1000000), none}, {frac(999999, 1000000), frac(1000000, 999999), none},
	}
	for _, c := range cases {
		checkRatio(t, c.a, c.b, c.want, c.want != none)
	}
}

// TestManyPairsOfReadings has squares and ratios of any two valid fractions, also
// of negative ones.
func TestManyPairsOfReadings(t *testing.T) {
	squares, noSquares, ratios, noRatios, lasts, negatives := 0, 0, 0, 0, 0, 0
	for _, left := range someReadings() {
		for _, right := range someReadings() {
			square, ok := reckonedSquare(left, right)
			checkSquare(t, left, right, square, ok)
			if ok {
				squares++
			} else {
				noSquares++
			}
			ratio, ok := reckonedRatio(left, right)
			checkRatio(t, left, right, ratio, ok)
			if ok {
				ratios++
			} else {
				noRatios++
			}
			if isLastFraction(square) || isLastFraction(ratio) {
				lasts++
			}
			if ok && right.Top < 0 {
				negatives++
			}
		}
	}
	if min(squares, noSquares, ratios, noRatios, negatives) < 2000 || lasts < 200 {
		t.Errorf("%d squares and %d none, %d ratios and %d none, %d with a negative right reading, %d with the greatest term", squares, noSquares, ratios, noRatios, negatives, lasts)
	}
}

// TestInvalidReadings has fractions that are not valid on either side and on both.
// Many have a value that is a valid fraction, or would lead to one.
func TestInvalidReadings(t *testing.T) {
	invalid := append(noPlaceFractions(), frac(1000002, 2), frac(2, 1000002), frac(-1000002, 1000001), frac(36, 6), frac(9, -4), frac(-9, -4), frac(0, 4), frac(0, -4))
	for _, f := range invalid {
		if isReading(f) {
			t.Fatalf("%v is valid", f)
		}
		for _, g := range append(someReadings(), invalid...) {
			checkSquare(t, f, g, none, false)
			checkSquare(t, g, f, none, false)
			checkRatio(t, f, g, none, false)
			checkRatio(t, g, f, none, false)
		}
	}
}

// TestSubstituteByHand has tares that are not the reading, but near to it.
func TestSubstituteByHand(t *testing.T) {
	cases := []struct {
		p          pair
		object     int
		tare, want impl.Fraction
	}{
		{pair{2, 3}, 6, frac(4, 1), frac(6, 1)}, {pair{2, 3}, 6, frac(9, 1), none}, {pair{2, 3}, 6, frac(8, 2), none}, {pair{2, 3}, 6, frac(12, 3), none}, {pair{2, 3}, 6, frac(5, 1), none}, {pair{2, 3}, 6, frac(4, 2), none}, {pair{2, 3}, 6, frac(4, 3), none}, {pair{2, 3}, 6, frac(6, 1), none}, {pair{2, 3}, 6, frac(-4, 1), none}, {pair{2, 3}, 6, frac(-4, -1), none}, {pair{2, 3}, 6, none, none},
		{pair{2, 3}, 1, frac(2, 3), frac(1, 1)}, {pair{2, 3}, 1, frac(3, 2), none}, {pair{2, 3}, 1, frac(4, 6), none}, {pair{4, 6}, 1, frac(2, 3), frac(1, 1)}, {pair{4, 6}, 1, frac(4, 6), none},
		{pair{5, 7}, 0, frac(0, 1), frac(0, 1)}, {pair{5, 7}, 0, frac(0, 7), none}, {pair{5, 7}, 0, none, none}, {pair{5, 7}, 0, frac(0, -1), none}, {pair{5, 7}, 0, frac(1, 1), none}, {pair{5, 7}, 0, frac(5, 7), none},
		{pair{9, 9}, 13, frac(13, 1), frac(13, 1)}, {pair{9, 9}, 13, frac(117, 9), none}, {pair{1000, 1}, 1000, frac(1000000, 1), frac(1000, 1)}, {pair{1000, 1}, 1000, frac(1000001, 1), none}, {pair{1000, 1}, 1000, frac(1, 1), none}, {pair{1, 1000}, 1000, frac(1, 1), frac(1000, 1)}, {pair{1, 1000}, 1000, frac(1000, 1000), none}, {pair{1, 1000}, 1, frac(1, 1000), frac(1, 1)}, {pair{1, 1000}, 999, frac(999, 1000), frac(999, 1)},
		// What would be the reading is none, so that not even the zero Fraction is a tare.
		{pair{1, 1}, -1, none, none}, {pair{1, 1}, -1, frac(-1, 1), none}, {pair{1, 1}, 1001, none, none}, {pair{1, 1}, 1001, frac(1001, 1), none}, {pair{0, 1}, 1, none, none}, {pair{0, 1}, 1, frac(0, 1), none}, {pair{1, 0}, 1, none, none}, {pair{1, 0}, 1, frac(1, 0), none}, {pair{1001, 1}, 2, none, none}, {pair{1001, 1}, 2, frac(2002, 1), none}, {pair{1, 1001}, 2, none, none}, {pair{1, 1001}, 2, frac(2, 1001), none}, {pair{-1, -1}, 2, none, none}, {pair{-1, -1}, 2, frac(2, 1), none},
	}
	for _, c := range cases {
		checkSubstitute(t, c.p, c.object, c.tare, c.want, c.want != none)
	}
}

func TestWrongTares(t *testing.T) {
	count := 0
	for _, p := range append(somePairs(), fewPairs()...) {
		for _, object := range someObjects() {
			count += checkWrongTares(t, p, object)
		}
	}
	if count < 500000 {
		t.Errorf("only %d wrong tares", count)
	}
}

// TestReadingOfAnotherObject has tares that are readings of another object, or of
// other arms.
func TestReadingOfAnotherObject(t *testing.T) {
	for _, p := range fewPairs() {
		for _, object := range someObjects() {
			tare, _ := checkReadings(t, p, object)
			for _, other := range append([]int{object - 1, object + 1}, someObjects()...) {
				if other != object {
					checkSubstitute(t, p, other, tare, none, false)
				}
			}
			for _, q := range fewPairs() {
				if object != 0 && q.a*p.b != p.a*q.b {
					checkSubstitute(t, q, object, tare, none, false)
				}
			}
		}
	}
}

// TestObjectLimits has objects beyond the limits, and those beside them that have
// readings.
func TestObjectLimits(t *testing.T) {
	for _, p := range append(fewPairs(), pair{8, 1}, pair{64, 2}, pair{512, 3}, pair{1, 8}) {
		for _, object := range noObjects {
			checkNoReading(t, p, object)
		}
		for _, object := range []int{0, 1, 999, 1000} {
			checkArms(t, p, object)
		}
	}
	for object := -1100; object <= 2100; object++ {
		if object < 0 || object > 1000 {
			checkNoReading(t, pair{1, 1}, object)
			checkNoReading(t, pair{3, 7}, object)
		}
	}
}

func TestInvalidArms(t *testing.T) {
	for _, p := range invalidPairs() {
		if isPair(p) {
			t.Fatalf("%v is valid", p)
		}
		if impl.ArmsOk(p.a, p.b) {
			t.Errorf("ArmsOk(%d, %d) is true", p.a, p.b)
		}
		for _, object := range append(someObjects(), -1, 1001, math.MinInt, math.MaxInt) {
			checkNoReading(t, p, object)
		}
	}
}

// An armsQuestion is what the functions of the chapter are asked.
type armsQuestion struct {
	p                 pair
	object            int
	tare, left, right impl.Fraction
}

// An armsAnswer is what the program says to it.
type armsAnswer struct {
	ok                                                      bool
	hasLeft, hasRight, hasSquare, hasRatio, hasSubstitute   bool
	readLeft, readRight, squareFrom, ratioFrom, substituted impl.Fraction
}

func armsAnswerTo(q armsQuestion) armsAnswer {
	var a armsAnswer
	a.ok = impl.ArmsOk(q.p.a, q.p.b)
	a.readLeft, a.hasLeft = impl.ReadLeft(q.p.a, q.p.b, q.object)
	a.readRight, a.hasRight = impl.ReadRight(q.p.a, q.p.b, q.object)
	a.squareFrom, a.hasSquare = impl.SquareFrom(q.left, q.right)
	a.ratioFrom, a.hasRatio = impl.RatioFrom(q.left, q.right)
	a.substituted, a.hasSubstitute = impl.Substitute(q.p.a, q.p.b, q.object, q.tare)
	return a
}

// armsQuestions are valid ones and some that are not.
func armsQuestions() []armsQuestion {
	readings := append(someReadings(), noPlaceFractions()...)
	objects := append(someObjects(), noObjects...)
	var list []armsQuestion
	for i, p := range append(somePairs(), invalidPairs()[:150]...) {
		for k := range 4 {
			object := objects[(5*i+k)%len(objects)]
			tare := readings[(3*i+k)%len(readings)]
			if isPair(p) && k%2 == 0 {
				tare, _ = reckonedLeft(p, object)
			}
			list = append(list, armsQuestion{p, object, tare, readings[(7*i+k)%len(readings)], readings[(11*i+3*k)%len(readings)]})
		}
	}
	return list
}

func TestArmsAnswerTheSame(t *testing.T) {
	checkSameAgain(t, armsQuestions(), armsAnswerTo)
}
