package tests

import (
	"math"
	"math/big"
	"testing"

	"loop.example/g00992/impl"
)

func frac(top int, bottom int) impl.Fraction {
	return impl.Fraction{Top: top, Bottom: bottom}
}

// exact is the value of f, computed without the program; f.Bottom is not 0.
func exact(f impl.Fraction) *big.Rat {
	return big.NewRat(int64(f.Top), int64(f.Bottom))
}

// fractionOf is the valid fraction with the value r, if there is one.
func fractionOf(r *big.Rat) (impl.Fraction, bool) {
	limit := big.NewInt(1000000)
	if r.Num().CmpAbs(limit) > 0 || r.Denom().Cmp(limit) > 0 {
		return impl.Fraction{}, false
	}
	return frac(int(r.Num().Int64()), int(r.Denom().Int64())), true
}

// validFractions are small ones and ones at and near the greatest terms.
func validFractions() []impl.Fraction {
	list := []impl.Fraction{
		frac(1000000, 1), frac(-1000000, 1), frac(999999, 1), frac(-999999, 1),
		frac(1, 1000000), frac(-1, 1000000), frac(1, 999999), frac(-1, 999999),
		frac(999999, 1000000), frac(-999999, 1000000), frac(1000000, 999999), frac(-1000000, 999999),
		frac(999998, 999999), frac(-999998, 999999), frac(1, 500000), frac(500001, 500000),
		frac(1000000, 3), frac(-1000000, 7), frac(3, 1000000), frac(500000, 1), frac(-500001, 1),
		frac(1000, 999), frac(-1000, 1001), frac(1, 1001), frac(1, 1000), frac(65536, 15625),
	}
	for bottom := 1; bottom <= 6; bottom++ {
		for top := -6; top <= 6; top++ {
			if f, _ := fractionOf(big.NewRat(int64(top), int64(bottom))); f == frac(top, bottom) {
				list = append(list, f)
			}
		}
	}
	return list
}

// invalidFractions contain the extreme numbers in either term, and numbers
// whose products wrap around to small ones.
func invalidFractions() []impl.Fraction {
	list := []impl.Fraction{
		{}, frac(1, 0), frac(-1, 0), frac(1000000, 0),
		frac(1, -1), frac(-1, -1), frac(1, -2), frac(0, -1), frac(3, -1000000),
		frac(0, 2), frac(0, 3), frac(0, 1000000),
		frac(2, 4), frac(-2, 4), frac(2, 2), frac(-3, 3), frac(6, 4), frac(4, 2), frac(-35, 49),
		frac(999999, 3), frac(1000000, 1000000), frac(-1000000, 1000000), frac(1000000, 2), frac(2, 1000000),
		frac(1000001, 1), frac(-1000001, 1), frac(1, 1000001), frac(-1, 1000001), frac(1000001, 1000000),
		frac(1000001, 1000001), frac(1000003, 1000001), frac(0, 1000001), frac(1000001, 0),
		frac(1<<32, 1), frac(1, 1<<32), frac(1<<32+1, 1<<32), frac(1<<62, 1), frac(1, 1<<62),
	}
	for _, n := range []int{math.MinInt, math.MinInt + 1, math.MaxInt - 1, math.MaxInt} {
		for _, m := range []int{-1, 0, 1, 2, 3, 1000000, math.MinInt, math.MaxInt} {
			list = append(list, frac(n, m), frac(m, n))
		}
	}
	return list
}

func TestFractionLimit(t *testing.T) {
	if impl.MaxTerm != 1000000 {
		t.Error("greatest term:", impl.MaxTerm)
	}
}

func TestFractionOk(t *testing.T) {
	for _, f := range validFractions() {
		if !impl.FractionOk(f) {
			t.Errorf("FractionOk(%v) is false", f)
		}
	}
	for _, f := range invalidFractions() {
		if impl.FractionOk(f) {
			t.Errorf("FractionOk(%v) is true", f)
		}
	}
}

// TestFractionOkDivisors looks for a common divisor by trying all numbers.
func TestFractionOkDivisors(t *testing.T) {
	for top := -40; top <= 40; top++ {
		for bottom := -3; bottom <= 40; bottom++ {
			want := bottom >= 1
			for d := 2; d <= 40; d++ {
				if top%d == 0 && bottom%d == 0 {
					want = false
				}
			}
			if got := impl.FractionOk(frac(top, bottom)); got != want {
				t.Errorf("FractionOk of %d and %d is %v", top, bottom, got)
			}
		}
	}
}

func TestMakeFraction(t *testing.T) {
	const billion = 1000000000
	cases := []struct {
		top, bottom int
		want        impl.Fraction
	}{
		{1, 2, frac(1, 2)}, {2, 4, frac(1, 2)}, {6, -4, frac(-3, 2)}, {-6, 4, frac(-3, 2)}, {-6, -4, frac(3, 2)},
		{0, 1, frac(0, 1)}, {0, 7, frac(0, 1)}, {0, -7, frac(0, 1)}, {0, 1000 * billion, frac(0, 1)}, {0, -1000 * billion, frac(0, 1)},
		{7, 1, frac(7, 1)}, {7, -1, frac(-7, 1)}, {7, 7, frac(1, 1)}, {7, -7, frac(-1, 1)}, {-7, -7, frac(1, 1)},
		{84, 36, frac(7, 3)}, {36, 84, frac(3, 7)}, {1071, 462, frac(51, 22)},
		{1000000, 1, frac(1000000, 1)}, {-1000000, 1, frac(-1000000, 1)}, {1, 1000000, frac(1, 1000000)},
		{1, -1000000, frac(-1, 1000000)}, {1000000, 999999, frac(1000000, 999999)}, {-999999, 1000000, frac(-999999, 1000000)},
		{2000000, 2, frac(1000000, 1)}, {2, 2000000, frac(1, 1000000)}, {3000000, -3, frac(-1000000, 1)},
		{1000 * billion, 1000 * billion, frac(1, 1)}, {-1000 * billion, 1000 * billion, frac(-1, 1)},
		{1000 * billion, -1000 * billion, frac(-1, 1)}, {-1000 * billion, -1000 * billion, frac(1, 1)},
		{1000 * billion, 1000000, frac(1000000, 1)}, {1000000, 1000 * billion, frac(1, 1000000)},
		{-1000 * billion, 1000000, frac(-1000000, 1)}, {-1000000, -1000 * billion, frac(1, 1000000)},
		{999999 * 999999, 999999, frac(999999, 1)}, {1000*billion - 1, 1000*billion - 1, frac(1, 1)},
	}
	for _, c := range cases {
		got, ok := impl.MakeFraction(c.top, c.bottom)
		if !ok || got != c.want {
			t.Errorf("MakeFraction(%d, %d) = %v, %v; want %v, true", c.top, c.bottom, got, ok, c.want)
		}
	}
}

func TestMakeFractionRejects(t *testing.T) {
	const trillion = 1000000000000
	cases := [][2]int{
		{0, 0}, {1, 0}, {-1, 0}, {trillion, 0}, {trillion + 1, 0}, {math.MinInt, 0}, {math.MaxInt, 0},
		// There is no such fraction.
		{1000001, 1}, {-1000001, 1}, {1000001, -1}, {1, 1000001}, {1, -1000001}, {2000002, 2}, {3, 3000003},
		{1000003, 1000001}, {trillion, 1}, {1, trillion}, {-trillion, 999999}, {999999, -trillion},
		{trillion, trillion - 1}, {trillion - 1, -trillion},
		// The value would be a valid fraction, but one term is too large.
		{trillion + 1, trillion + 1}, {-trillion - 1, -trillion - 1}, {trillion + 1, -trillion - 1}, {-trillion - 1, trillion + 1},
		{trillion + 1000000, 1000001}, {-trillion - 1000000, 1000001},
		{trillion + 1000000, -1000001}, {-trillion - 1000000, -1000001},
		{1000001, trillion + 1000000}, {1000001, -trillion - 1000000},
		{-1000001, trillion + 1000000}, {-1000001, -trillion - 1000000},
		{0, trillion + 1}, {0, -trillion - 1},
		{2 * trillion, 2 * trillion}, {1 << 62, 1 << 62}, {1 << 62, 1 << 50}, {-1 << 62, 1 << 62},
	}
	extremes := []int{math.MinInt, math.MinInt + 1, math.MaxInt - 1, math.MaxInt}
	for _, n := range extremes {
		for _, m := range append([]int{-trillion, -1, 0, 1, 2, trillion}, extremes...) {
			cases = append(cases, [2]int{n, m}, [2]int{m, n})
		}
	}
	for _, c := range cases {
		if got, ok := impl.MakeFraction(c[0], c[1]); ok || got != (impl.Fraction{}) {
			t.Errorf("MakeFraction(%d, %d) = %v, %v; want {0 0}, false", c[0], c[1], got, ok)
		}
	}
}

func TestMakeFractionIsExact(t *testing.T) {
	list := []int{
		999999, 1000000, 1000001, -1000000, -1000001, 2000000, 2000002, 720720, -720720,
		999999999999, 1000000000000, -999999999999, -1000000000000, 999998000001, 500000000000,
	}
	for n := -30; n <= 30; n++ {
		list = append(list, n)
	}
	for _, top := range list {
		for _, bottom := range list {
			if bottom == 0 {
				continue
			}
			want, wantOk := fractionOf(big.NewRat(int64(top), int64(bottom)))
			if got, ok := impl.MakeFraction(top, bottom); ok != wantOk || got != want {
				t.Errorf("MakeFraction(%d, %d) = %v, %v; want %v, %v", top, bottom, got, ok, want, wantOk)
			}
		}
	}
}

// fractionCase is an operation on a and b; the zero Fraction stands for a
// result that does not exist.
type fractionCase struct{ a, b, want impl.Fraction }

func checkCases(t *testing.T, name string, operate func(impl.Fraction, impl.Fraction) (impl.Fraction, bool), cases []fractionCase) {
	t.Helper()
	for _, c := range cases {
		got, ok := operate(c.a, c.b)
		if ok != (c.want != impl.Fraction{}) || got != c.want {
			t.Errorf("%s of %v and %v is %v, %v; want %v", name, c.a, c.b, got, ok, c.want)
		}
		got, ok = operate(c.b, c.a)
		if ok != (c.want != impl.Fraction{}) || got != c.want {
			t.Errorf("%s of %v and %v is %v, %v; want %v", name, c.b, c.a, got, ok, c.want)
		}
	}
}

func TestAddFractions(t *testing.T) {
	none := impl.Fraction{}
	checkCases(t, "the sum", impl.AddFractions, []fractionCase{
		{frac(1, 2), frac(1, 3), frac(5, 6)}, {frac(1, 6), frac(1, 3), frac(1, 2)},
		{frac(1, 2), frac(1, 2), frac(1, 1)}, {frac(1, 2), frac(-1, 2), frac(0, 1)},
		{frac(0, 1), frac(0, 1), frac(0, 1)}, {frac(0, 1), frac(-3, 7), frac(-3, 7)},
		{frac(-1, 2), frac(1, 3), frac(-1, 6)}, {frac(-1, 2), frac(-1, 3), frac(-5, 6)},
		{frac(2, 1), frac(3, 1), frac(5, 1)}, {frac(5, 12), frac(7, 12), frac(1, 1)},
		{frac(999999, 1), frac(1, 1), frac(1000000, 1)}, {frac(-999999, 1), frac(-1, 1), frac(-1000000, 1)},
		{frac(1000000, 1), frac(-1000000, 1), frac(0, 1)}, {frac(1000000, 1), frac(0, 1), frac(1000000, 1)},
		// The terms are too large before shortening, the sum is not.
		{frac(999999, 1000000), frac(1, 1000000), frac(1, 1)},
		{frac(1, 1000000), frac(1, 1000000), frac(1, 500000)},
		{frac(1000000, 999999), frac(999998, 999999), frac(2, 1)},
		{frac(-1000000, 999999), frac(-999998, 999999), frac(-2, 1)},
		{frac(1000000, 999999), frac(-1, 999999), frac(1, 1)},
		{frac(1, 1000000), frac(-1, 1000000), frac(0, 1)},
		// Such a sum of valid fractions is none.
		{frac(1000000, 1), frac(1, 1), none}, {frac(-1000000, 1), frac(-1, 1), none},
		{frac(1000000, 1), frac(1000000, 1), none}, {frac(1, 1000000), frac(1, 999999), none},
		{frac(1, 1001), frac(1, 1000), none}, {frac(500000, 1), frac(500001, 1), none},
		{frac(1000000, 1), frac(1, 1000000), none}, {frac(1, 2), frac(1000000, 1), none},
		{frac(-1000000, 999999), frac(999999, 1000000), none},
	})
}

func TestTimesFractions(t *testing.T) {
	none := impl.Fraction{}
	checkCases(t, "the product", impl.TimesFractions, []fractionCase{
		{frac(2, 3), frac(3, 4), frac(1, 2)}, {frac(1, 2), frac(1, 3), frac(1, 6)},
		{frac(-2, 3), frac(3, 4), frac(-1, 2)}, {frac(-2, 3), frac(-3, 4), frac(1, 2)},
		{frac(0, 1), frac(-5, 7), frac(0, 1)}, {frac(0, 1), frac(0, 1), frac(0, 1)},
		{frac(0, 1), frac(1, 1000000), frac(0, 1)}, {frac(0, 1), frac(-1000000, 1), frac(0, 1)},
		{frac(1, 1), frac(-5, 7), frac(-5, 7)}, {frac(-1, 1), frac(-5, 7), frac(5, 7)},
		{frac(5, 7), frac(7, 5), frac(1, 1)}, {frac(1000, 1), frac(1000, 1), frac(1000000, 1)},
		{frac(1, 1000), frac(-1, 1000), frac(-1, 1000000)}, {frac(1000000, 1), frac(-1, 1), frac(-1000000, 1)},
		// The terms are too large before shortening, the product is not.
		{frac(1000000, 1), frac(1, 1000000), frac(1, 1)}, {frac(-1000000, 1), frac(1, 1000000), frac(-1, 1)},
		{frac(1000000, 999999), frac(999999, 1000000), frac(1, 1)},
		{frac(1000000, 3), frac(3, 1000000), frac(1, 1)}, {frac(1000000, 3), frac(9, 1000000), frac(3, 1)},
		{frac(2, 999999), frac(1, 2), frac(1, 999999)}, {frac(999999, 1000000), frac(-999998, 999999), frac(-499999, 500000)},
		// Such a product of valid fractions is none.
		{frac(1000000, 1), frac(2, 1), none}, {frac(-1000000, 1), frac(1000000, 1), none},
		{frac(1, 1000000), frac(1, 2), none}, {frac(1, 1000000), frac(1, 1000000), none},
		{frac(1001, 1), frac(1000, 1), none}, {frac(1, 1001), frac(1, 1000), none},
		{frac(1000000, 999999), frac(1000000, 999999), none}, {frac(-1001, 1), frac(1000, 1), none},
	})
}

// TestOperationsAreExact compares sums, products and orders with exact numbers
// of another kind.
func TestOperationsAreExact(t *testing.T) {
	list := validFractions()
	for _, a := range list {
		for _, b := range list {
			want, wantOk := fractionOf(new(big.Rat).Add(exact(a), exact(b)))
			if got, ok := impl.AddFractions(a, b); ok != wantOk || got != want {
				t.Errorf("%v plus %v is %v, %v; want %v, %v", a, b, got, ok, want, wantOk)
			}
			want, wantOk = fractionOf(new(big.Rat).Mul(exact(a), exact(b)))
			if got, ok := impl.TimesFractions(a, b); ok != wantOk || got != want {
				t.Errorf("%v times %v is %v, %v; want %v, %v", a, b, got, ok, want, wantOk)
			}
			if got, want := impl.CompareFractions(a, b), exact(a).Cmp(exact(b)); got != want {
				t.Errorf("CompareFractions(%v, %v) = %d; want %d", a, b, got, want)
			}
		}
	}
}

func TestOperationsRejectInvalidFractions(t *testing.T) {
	check := func(a impl.Fraction, b impl.Fraction) {
		if got, ok := impl.AddFractions(a, b); ok || got != (impl.Fraction{}) {
			t.Errorf("AddFractions(%v, %v) = %v, %v; want {0 0}, false", a, b, got, ok)
		}
		if got, ok := impl.TimesFractions(a, b); ok || got != (impl.Fraction{}) {
			t.Errorf("TimesFractions(%v, %v) = %v, %v; want {0 0}, false", a, b, got, ok)
		}
		if got := impl.CompareFractions(a, b); got != -2 {
			t.Errorf("CompareFractions(%v, %v) = %d; want -2", a, b, got)
		}
	}
	invalid := invalidFractions()
	for _, f := range invalid {
		for _, g := range []impl.Fraction{frac(0, 1), frac(1, 1), frac(-2, 3), frac(1000000, 1), frac(1, 1000000)} {
			check(f, g)
			check(g, f)
		}
		for _, g := range invalid {
			check(f, g)
		}
	}
}

func TestCompareFractions(t *testing.T) {
	cases := []struct {
		a, b impl.Fraction
		want int
	}{
		{frac(1, 2), frac(1, 3), 1}, {frac(1, 3), frac(1, 2), -1}, {frac(1, 2), frac(1, 2), 0},
		{frac(-1, 2), frac(-1, 3), -1}, {frac(-1, 3), frac(-1, 2), 1}, {frac(-1, 2), frac(-1, 2), 0},
		{frac(-1, 2), frac(1, 3), -1}, {frac(1, 3), frac(-1, 2), 1},
		{frac(0, 1), frac(0, 1), 0}, {frac(0, 1), frac(1, 1000000), -1}, {frac(0, 1), frac(-1, 1000000), 1},
		{frac(999999, 1000000), frac(1000000, 999999), -1}, {frac(999998, 999999), frac(999999, 1000000), -1},
		{frac(1000000, 1), frac(999999, 1), 1}, {frac(-1000000, 1), frac(1000000, 1), -1},
		{frac(1000000, 1), frac(1000000, 1), 0}, {frac(-1000000, 1), frac(-999999, 1), -1},
		{frac(1, 999999), frac(1, 1000000), 1}, {frac(-1, 999999), frac(-1, 1000000), -1},
	}
	for _, c := range cases {
		if got := impl.CompareFractions(c.a, c.b); got != c.want {
			t.Errorf("CompareFractions(%v, %v) = %d; want %d", c.a, c.b, got, c.want)
		}
	}
}

func TestFractionText(t *testing.T) {
	cases := []struct {
		f    impl.Fraction
		want string
	}{
		{frac(-3, 2), "-3/2"}, {frac(3, 2), "3/2"}, {frac(5, 1), "5"}, {frac(-5, 1), "-5"},
		{frac(0, 1), "0"}, {frac(1, 1), "1"}, {frac(-1, 1), "-1"}, {frac(1, 10), "1/10"}, {frac(-1, 11), "-1/11"},
		{frac(1000000, 1), "1000000"}, {frac(-1000000, 1), "-1000000"},
		{frac(1, 1000000), "1/1000000"}, {frac(-999999, 1000000), "-999999/1000000"},
		{frac(1000000, 999999), "1000000/999999"},
	}
	for _, c := range cases {
		if got := impl.FractionText(c.f); got != c.want {
			t.Errorf("FractionText(%v) = %q; want %q", c.f, got, c.want)
		}
	}
	for _, f := range invalidFractions() {
		if got := impl.FractionText(f); got != "" {
			t.Errorf("FractionText(%v) = %q; want \"\"", f, got)
		}
	}
}

// TestFractionsAddInAnyOrder adds each three fractions in every order and with
// either two of them first. A sum on the way may not exist; the sum of all
// three, where it is reached, is always the same.
func TestFractionsAddInAnyOrder(t *testing.T) {
	list := []impl.Fraction{
		frac(0, 1), frac(1, 1), frac(-1, 1), frac(1, 2), frac(1, 3), frac(-5, 6), frac(3, 4), frac(-7, 10),
		frac(1000000, 1), frac(-1000000, 1), frac(999999, 1), frac(1, 1000000), frac(-999999, 1000000),
		frac(1000000, 999999), frac(999998, 999999), frac(1, 1000), frac(1, 1001), frac(-1, 1001),
	}
	for _, a := range list {
		for _, b := range list {
			for _, c := range list {
				checkOrders(t, a, b, c)
			}
		}
	}
}

func checkOrders(t *testing.T, a impl.Fraction, b impl.Fraction, c impl.Fraction) {
	t.Helper()
	sum := new(big.Rat).Add(exact(a), exact(b))
	want, wantOk := fractionOf(sum.Add(sum, exact(c)))
	orders := [][3]impl.Fraction{{a, b, c}, {a, c, b}, {b, a, c}, {b, c, a}, {c, a, b}, {c, b, a}}
	for _, o := range orders {
		_, wayOk := fractionOf(new(big.Rat).Add(exact(o[0]), exact(o[1])))
		first, _ := impl.AddFractions(o[0], o[1])
		left, leftOk := impl.AddFractions(first, o[2])
		right, rightOk := impl.AddFractions(o[2], first)
		if left != right || leftOk != rightOk {
			t.Errorf("the sum of %v is %v, %v or %v, %v", o, left, leftOk, right, rightOk)
		}
		if leftOk != (wayOk && wantOk) || leftOk && left != want {
			t.Errorf("the sum of %v is %v, %v; want %v, %v", o, left, leftOk, want, wayOk && wantOk)
		}
	}
}
