package tests

import (
	"math"
	"math/big"
	"reflect"
	"slices"
	"sync"
	"testing"

	"loop.example/g00992/impl"
)

// farInts are beyond every limit of a steelyard, among them some that wrap around
// to small ones.
var farInts = []int{
	1000000, -1000000, 1 << 32, 1<<32 + 1, 1<<32 + 100, -1 << 32, -1<<32 + 1, 1 << 62, -1 << 62, 1 << 63 / 100,
	math.MinInt, math.MinInt + 1, math.MinInt + 100, math.MaxInt - 100, math.MaxInt - 1, math.MaxInt,
}

// What follows is beyond a limit: of each field, of a load, of a whole place of the
// slider, and of the numbers for which there are marks.
var (
	noPans         = append([]int{0, 101, -1, 102, -2, -50, -100, 150, 1000}, farInts...)
	noSliders      = append([]int{0, 1001, -1, 1002, -2, -100, -1000, 2000, 10000}, farInts...)
	noEmpties      = append([]int{-101, 101, -102, 102, -200, 200, -1000, 1000}, farInts...)
	noLoads        = append([]int{-1, 10001, -2, 10002, -100, -10000, 20000}, farInts...)
	noSliderPlaces = append([]int{-10001, 10001, -10002, 10002, -20000, 20000}, farInts...)
	noMarkUnits    = append([]int{0, 101, -1, 102, -2, -100, 200, 1000}, farInts...)
	noLastMarks    = append([]int{-1, 21, -2, 22, -20, 40, 100}, farInts...)
)

// none is what stands beside false.
var none = impl.Fraction{}

func steelyard(pan int, slider int, empty int) impl.Steelyard {
	return impl.Steelyard{Pan: pan, Slider: slider, Empty: empty}
}

func steelyardsOf(pans []int, sliders []int, empties []int) []impl.Steelyard {
	var list []impl.Steelyard
	for _, pan := range pans {
		for _, slider := range sliders {
			for _, empty := range empties {
				list = append(list, steelyard(pan, slider, empty))
			}
		}
	}
	return list
}

// extremeSteelyards have the least and the greatest value of each field.
func extremeSteelyards() []impl.Steelyard {
	return steelyardsOf([]int{1, 100}, []int{1, 1000}, []int{-100, 0, 100})
}

// fewSteelyards have some other ones, too.
func fewSteelyards() []impl.Steelyard {
	return append(extremeSteelyards(), steelyard(2, 3, 1), steelyard(3, 2, -1), steelyard(7, 7, 5), steelyard(60, 999, -77), steelyard(17, 1, 2))
}

// someSteelyards are fractions of many kinds, long and short ones.
func someSteelyards() []impl.Steelyard {
	return steelyardsOf([]int{1, 2, 3, 7, 50, 99, 100}, []int{1, 2, 3, 7, 10, 64, 500, 999, 1000}, []int{-100, -99, -7, -1, 0, 1, 3, 99, 100})
}

// invalidSteelyards have one, two or three fields beyond a limit.
func invalidSteelyards() []impl.Steelyard {
	list := slices.Concat(
		steelyardsOf(noPans, []int{1, 3, 1000}, []int{-100, 0, 1, 100}),
		steelyardsOf([]int{1, 2, 100}, noSliders, []int{-100, 0, 1, 100}),
		steelyardsOf([]int{1, 2, 100}, []int{1, 3, 1000}, noEmpties),
		steelyardsOf([]int{0, 101, -1}, []int{0, 1001, -1}, []int{0, -101, 101}),
		steelyardsOf([]int{1, 0, 101}, []int{0, 1001, -1}, []int{-101, 101}),
	)
	for _, n := range farInts {
		list = append(list, steelyard(n, n, 0), steelyard(1, n, n), steelyard(n, 1, n), steelyard(n, n, n))
	}
	return append(list, impl.Steelyard{})
}

// someLoads are at the limits, and in between.
func someLoads() []int {
	return []int{0, 1, 2, 3, 5, 7, 10, 64, 99, 100, 101, 500, 999, 1000, 1001, 4999, 5000, 9001, 9990, 9998, 9999, 10000}
}

// somePlaces are valid fractions, short ones and some with great terms.
func somePlaces() []impl.Fraction {
	list := validFractions()
	next := mixer(15)
	for range 40 {
		f, ok := fractionOf(big.NewRat(int64(next(30000)-15000), int64(next(2000)+1)))
		if ok {
			list = append(list, f)
		}
	}
	return list
}

// noPlaceFractions are no valid fractions; many of them have the value of one, or
// would lead to a load that is one.
func noPlaceFractions() []impl.Fraction {
	list := append(invalidFractions(),
		frac(10, 2), frac(0, 7), frac(-4, 2), frac(100, 100), frac(6, 3), frac(500000, 1000000), frac(5, -1), frac(-5, -1), frac(0, 0), frac(100, 0), frac(-100, 0),
		frac(1000001, 1), frac(-1000001, 1), frac(1000100, 1), frac(-1000100, 1), frac(2000000, 1), frac(10000000, 1), frac(100000000, 1), frac(1000001, 2), frac(-1000001, 2),
		frac(1, 1000001), frac(-1, 1000001), frac(101, 1000001), frac(1, 2000000), frac(1, 1000000000), frac(3, 1000001), frac(1000001, 1000002))
	for _, n := range farInts[2:] {
		list = append(list, frac(n, 1), frac(n, 3), frac(1, n), frac(0, n), frac(n, n), frac(n, -n))
	}
	return list
}

// isSteelyard is what the chapter says of the fields.
func isSteelyard(s impl.Steelyard) bool {
	return s.Pan > 0 && s.Pan < 101 && s.Slider > 0 && s.Slider < 1001 && s.Empty > -101 && s.Empty < 101
}

// reckonedMark is where the slider of a valid steelyard balances a load, as a
// fraction if there is one, without the program.
func reckonedMark(s impl.Steelyard, load int) (impl.Fraction, bool) {
	return fractionOf(exactMark(s, load))
}

func exactMark(s impl.Steelyard, load int) *big.Rat {
	moved := new(big.Rat).Mul(big.NewRat(int64(load), 1), big.NewRat(int64(s.Pan), int64(s.Slider)))
	return moved.Add(moved, big.NewRat(int64(s.Empty), 1))
}

// reckonedLoad is the load that the slider balances at a place, without the program.
func reckonedLoad(s impl.Steelyard, place impl.Fraction) (impl.Fraction, bool) {
	moved := new(big.Rat).Sub(exact(place), big.NewRat(int64(s.Empty), 1))
	return fractionOf(moved.Mul(moved, big.NewRat(int64(s.Slider), int64(s.Pan))))
}

// isLastFraction tells whether a term has reached its limit.
func isLastFraction(f impl.Fraction) bool {
	return max(f.Top, -f.Top, f.Bottom) == 1000000
}

func checkMark(t *testing.T, s impl.Steelyard, load int, want impl.Fraction, wantOk bool) {
	t.Helper()
	if got, ok := impl.MarkFor(s, load); got != want || ok != wantOk {
		t.Errorf("MarkFor(%v, %d) = %v, %v; want %v, %v", s, load, got, ok, want, wantOk)
	}
}

func checkLoadAt(t *testing.T, s impl.Steelyard, place impl.Fraction, want impl.Fraction, wantOk bool) {
	t.Helper()
	if got, ok := impl.LoadAt(s, place); got != want || ok != wantOk {
		t.Errorf("LoadAt(%v, %v) = %v, %v; want %v, %v", s, place, got, ok, want, wantOk)
	}
}

func checkLevelWith(t *testing.T, s impl.Steelyard, load int, place int, want bool) {
	t.Helper()
	if got := impl.LevelWith(s, load, place); got != want {
		t.Errorf("LevelWith(%v, %d, %d) = %v", s, load, place, got)
	}
}

// checkMarks is also for arguments for which there are no marks.
func checkMarks(t *testing.T, s impl.Steelyard, unit int, n int, want []impl.Fraction) {
	t.Helper()
	if got := impl.MarksOf(s, unit, n); !slices.Equal(got, want) {
		t.Errorf("MarksOf(%v, %d, %d) = %v; want %v", s, unit, n, got, want)
	}
}

// checkFound is the promise for one load: its mark leads back to it, and if the
// mark is a whole place, the beam is level there, and nowhere beside it. It tells
// whether there is a mark.
func checkFound(t *testing.T, s impl.Steelyard, load int) (impl.Fraction, bool) {
	t.Helper()
	mark, ok := reckonedMark(s, load)
	checkMark(t, s, load, mark, ok)
	if !ok {
		return mark, false
	}
	checkLoadAt(t, s, mark, frac(load, 1), true)
	if mark.Bottom == 1 {
		checkNeighbours(t, s, load, mark.Top)
	}
	return mark, true
}

// checkNeighbours is for a load that is in the range, and the place of its mark.
func checkNeighbours(t *testing.T, s impl.Steelyard, load int, place int) {
	t.Helper()
	checkLevelWith(t, s, load, place, place <= 10000)
	for _, by := range []int{-2, -1, 1, 2} {
		checkLevelWith(t, s, load, place+by, false)
		checkLevelWith(t, s, load+by, place, false)
	}
}

// checkNoMark is for a load that is not in the range, or a steelyard that is not
// valid.
func checkNoMark(t *testing.T, s impl.Steelyard, load int) {
	t.Helper()
	checkMark(t, s, load, none, false)
	for place := -110; place <= 110; place++ {
		checkLevelWith(t, s, load, place, false)
	}
	for _, place := range append([]int{-10000, -9999, 9999, 10000}, noSliderPlaces...) {
		checkLevelWith(t, s, load, place, false)
	}
	// These would be level, if numbers had no limits or none but that of an int.
	checkLevelWith(t, s, load, load, false)
	checkLevelWith(t, s, load, s.Empty+load*s.Pan, false)
	if s.Slider != 0 {
		checkLevelWith(t, s, load, s.Empty+load*s.Pan/s.Slider, false)
	}
}

// checkNoSteelyard is for fields that are not valid.
func checkNoSteelyard(t *testing.T, s impl.Steelyard) {
	t.Helper()
	if impl.SteelyardOk(s) {
		t.Errorf("SteelyardOk(%v) is true", s)
	}
	for _, load := range append(someLoads(), -1, 10001) {
		checkNoMark(t, s, load)
	}
	for _, place := range []impl.Fraction{frac(0, 1), frac(1, 1), frac(-1, 1), frac(5, 3), frac(s.Empty, 1), frac(1000000, 1), frac(-1000000, 1), frac(1, 1000000), none, frac(2, 4)} {
		checkLoadAt(t, s, place, none, false)
	}
	for _, unit := range []int{1, 3, 100, 0, 101} {
		for _, n := range []int{0, 1, 20, -1, 21} {
			checkMarks(t, s, unit, n, nil)
		}
	}
}

// checkScale compares the marks with the reckoning, and the promise: they begin
// with the mark of no load, each leads back to its load, and all are equally far
// apart.
func checkScale(t *testing.T, s impl.Steelyard, unit int, n int) {
	t.Helper()
	marks := impl.MarksOf(s, unit, n)
	if len(marks) != n+1 || marks[0] != frac(s.Empty, 1) {
		t.Fatalf("MarksOf(%v, %d, %d) = %v", s, unit, n, marks)
	}
	apart := big.NewRat(int64(unit*s.Pan), int64(s.Slider))
	for k, mark := range marks {
		if want, ok := reckonedMark(s, k*unit); !ok || mark != want {
			t.Fatalf("MarksOf(%v, %d, %d) = %v; want %v at index %d", s, unit, n, marks, want, k)
		}
		checkMark(t, s, k*unit, mark, true)
		checkLoadAt(t, s, mark, frac(k*unit, 1), true)
		if k > 0 && new(big.Rat).Sub(exact(mark), exact(marks[k-1])).Cmp(apart) != 0 {
			t.Fatalf("MarksOf(%v, %d, %d) = %v: not %v apart at index %d", s, unit, n, marks, apart, k)
		}
	}
}

func TestSteelyardOkLimits(t *testing.T) {
	cases := []struct {
		s    impl.Steelyard
		want bool
	}{
		{steelyard(0, 1, 0), false}, {steelyard(1, 1, 0), true}, {steelyard(100, 1, 0), true}, {steelyard(101, 1, 0), false},
		{steelyard(1, 0, 0), false}, {steelyard(1, 1000, 0), true}, {steelyard(1, 1001, 0), false},
		{steelyard(1, 1, -101), false}, {steelyard(1, 1, -100), true}, {steelyard(1, 1, 100), true}, {steelyard(1, 1, 101), false},
		{steelyard(100, 1000, 100), true}, {steelyard(100, 1000, -100), true}, {steelyard(101, 1001, 101), false}, {steelyard(0, 0, 0), false}, {steelyard(-1, -1, -1), false},
		{steelyard(math.MinInt, 1, 0), false}, {steelyard(math.MaxInt, 1, 0), false}, {steelyard(1, math.MinInt, 0), false}, {steelyard(1, math.MaxInt, 0), false}, {steelyard(1, 1, math.MinInt), false}, {steelyard(1, 1, math.MaxInt), false},
	}
	for _, c := range cases {
		if got := impl.SteelyardOk(c.s); got != c.want {
			t.Errorf("SteelyardOk(%v) = %v", c.s, got)
		}
	}
	for n := -2000; n <= 2000; n++ {
		if got, want := impl.SteelyardOk(steelyard(n, 5, -3)), n >= 1 && n <= 100; got != want {
			t.Errorf("SteelyardOk with the Pan %d is %v", n, got)
		}
		if got, want := impl.SteelyardOk(steelyard(5, n, -3)), n >= 1 && n <= 1000; got != want {
			t.Errorf("SteelyardOk with the Slider %d is %v", n, got)
		}
		if got, want := impl.SteelyardOk(steelyard(5, 3, n)), n >= -100 && n <= 100; got != want {
			t.Errorf("SteelyardOk with the Empty %d is %v", n, got)
		}
	}
}

// TestSteelyardOkTogether has values around the limits of all fields, and far ones.
func TestSteelyardOkTogether(t *testing.T) {
	pans := append([]int{-1, 0, 1, 2, 50, 99, 100, 101}, farInts...)
	sliders := append([]int{-1, 0, 1, 2, 500, 999, 1000, 1001}, farInts...)
	empties := append([]int{-101, -100, -99, -1, 0, 1, 99, 100, 101}, farInts...)
	for _, s := range append(steelyardsOf(pans, sliders, empties), someSteelyards()...) {
		if got, want := impl.SteelyardOk(s), isSteelyard(s); got != want {
			t.Errorf("SteelyardOk(%v) = %v", s, got)
		}
	}
}

func TestInvalidSteelyards(t *testing.T) {
	for _, s := range invalidSteelyards() {
		if isSteelyard(s) {
			t.Fatalf("%v is valid", s)
		}
		checkNoSteelyard(t, s)
	}
}

// TestInvalidSteelyardsWouldBeLevel has loads and places that balance, but for a
// field that is beyond its limit.
func TestInvalidSteelyardsWouldBeLevel(t *testing.T) {
	cases := []struct {
		s           impl.Steelyard
		load, place int
	}{
		{steelyard(0, 1, 0), 5, 0}, {steelyard(0, 3, 7), 10000, 7}, {steelyard(101, 1, 0), 1, 101}, {steelyard(101, 1, 0), 0, 0}, {steelyard(-1, 1, 0), 4, -4}, {steelyard(-1, 2, 3), 4, 1},
		{steelyard(1, 0, 0), 0, 55}, {steelyard(2, 0, 1), 0, -10000}, {steelyard(1, 1001, 0), 1001, 1}, {steelyard(7, 1001, 100), 143, 101}, {steelyard(1, -1, 0), 4, -4}, {steelyard(1, -1, 10), 4, 6}, {steelyard(-1, -1, 0), 4, 4},
		{steelyard(1, 1, -101), 0, -101}, {steelyard(1, 1, -101), 101, 0}, {steelyard(1, 1, 101), 0, 101}, {steelyard(1, 1, 101), 1, 102}, {steelyard(3, 2, 1000), 2, 1003},
		{steelyard(0, 0, 0), 0, 0}, {steelyard(0, 0, 0), 10000, 10000}, {steelyard(math.MinInt, 1, 0), 0, 0}, {steelyard(math.MinInt, 1, 0), 2, 0}, {steelyard(1, math.MinInt, 0), 0, 2}, {steelyard(math.MinInt, math.MinInt, 0), 1, 1}, {steelyard(1, 1, math.MaxInt), 1, math.MinInt},
	}
	for _, c := range cases {
		if c.load*c.s.Pan != (c.place-c.s.Empty)*c.s.Slider {
			t.Fatalf("%v would not be level with %d at %d", c.s, c.load, c.place)
		}
		checkLevelWith(t, c.s, c.load, c.place, false)
		checkNoSteelyard(t, c.s)
	}
}

// A markCase is a load and its mark, and a loadCase a place and its load, or none.
type markCase struct {
	s    impl.Steelyard
	load int
	want impl.Fraction
}

type loadCase struct {
	s           impl.Steelyard
	place, want impl.Fraction
}

// TestMarksByHand has marks that are shortened, that have the greatest term, and
// that would have a greater one.
func TestMarksByHand(t *testing.T) {
	cases := []markCase{
		{steelyard(2, 3, 1), 6, frac(5, 1)}, {steelyard(2, 3, 1), 0, frac(1, 1)}, {steelyard(2, 3, 1), 1, frac(5, 3)}, {steelyard(2, 3, -1), 1, frac(-1, 3)}, {steelyard(2, 3, -2), 3, frac(0, 1)}, {steelyard(3, 2, 0), 1, frac(3, 2)}, {steelyard(1, 1, 0), 10000, frac(10000, 1)},
		{steelyard(1, 4, 0), 2, frac(1, 2)}, {steelyard(10, 1000, -1), 50, frac(-1, 2)}, {steelyard(1, 1000, 0), 1, frac(1, 1000)}, {steelyard(1, 1000, -100), 1, frac(-99999, 1000)}, {steelyard(6, 4, 0), 1, frac(3, 2)}, {steelyard(60, 60, 0), 7, frac(7, 1)},
		{steelyard(100, 1, 0), 10000, frac(1000000, 1)}, {steelyard(100, 1, -1), 10000, frac(999999, 1)}, {steelyard(100, 1, 1), 10000, none}, {steelyard(100, 1, 1), 9999, frac(999901, 1)}, {steelyard(100, 1, 100), 9999, frac(1000000, 1)}, {steelyard(100, 1, 100), 10000, none},
		{steelyard(100, 3, 0), 10000, frac(1000000, 3)}, {steelyard(100, 3, 1), 10000, none}, {steelyard(100, 3, -1), 10000, frac(999997, 3)}, {steelyard(100, 999, 100), 9001, frac(1000000, 999)}, {steelyard(100, 999, 100), 9002, none}, {steelyard(100, 999, 100), 9000, frac(111100, 111)}, {steelyard(100, 7, 100), 10000, none},
		// Only before these are shortened, a term is too great.
		{steelyard(100, 1000, 100), 10000, frac(1100, 1)}, {steelyard(100, 1000, 100), 9999, frac(10999, 10)}, {steelyard(100, 2, 100), 10000, frac(500100, 1)}, {steelyard(99, 999, 99), 10000, frac(120989, 111)},
	}
	for _, c := range cases {
		checkMark(t, c.s, c.load, c.want, c.want != none)
		checkFound(t, c.s, c.load)
	}
}

// TestLoadsByHand has negative loads, loads that are shortened, that have the
// greatest term, and that would have a greater one.
func TestLoadsByHand(t *testing.T) {
	cases := []loadCase{
		{steelyard(2, 3, 1), frac(5, 1), frac(6, 1)}, {steelyard(2, 3, 1), frac(5, 3), frac(1, 1)}, {steelyard(2, 3, 1), frac(4, 1), frac(9, 2)}, {steelyard(2, 3, 1), frac(1, 1), frac(0, 1)}, {steelyard(2, 3, 1), frac(0, 1), frac(-3, 2)}, {steelyard(2, 3, 1), frac(-1, 1), frac(-3, 1)}, {steelyard(2, 3, -1), frac(0, 1), frac(3, 2)}, {steelyard(2, 3, -1), frac(-3, 2), frac(-3, 4)},
		{steelyard(100, 1000, 100), frac(100, 1), frac(0, 1)}, {steelyard(100, 1000, -100), frac(-100, 1), frac(0, 1)}, {steelyard(100, 1000, 100), frac(99, 1), frac(-10, 1)}, {steelyard(1, 1000, 100), frac(-100, 1), frac(-200000, 1)}, {steelyard(100, 1, 0), frac(1, 2), frac(1, 200)}, {steelyard(100, 1, 0), frac(50, 1), frac(1, 2)},
		{steelyard(1, 1, 0), frac(1000000, 1), frac(1000000, 1)}, {steelyard(1, 1, 0), frac(-1000000, 1), frac(-1000000, 1)}, {steelyard(1, 1, 0), frac(-1, 1000000), frac(-1, 1000000)}, {steelyard(1, 1, 0), frac(1000000, 999999), frac(1000000, 999999)}, {steelyard(1, 1, 1), frac(1, 1000000), frac(-999999, 1000000)},
		{steelyard(1, 1, 1), frac(1000000, 1), frac(999999, 1)}, {steelyard(1, 1, 1), frac(-999999, 1), frac(-1000000, 1)}, {steelyard(1, 1, 1), frac(-1000000, 1), none}, {steelyard(1, 1, -1), frac(999999, 1), frac(1000000, 1)}, {steelyard(1, 1, -1), frac(1000000, 1), none}, {steelyard(1, 1, 2), frac(1, 1000000), none},
		{steelyard(1, 1000, 0), frac(1000, 1), frac(1000000, 1)}, {steelyard(1, 1000, 0), frac(-1000, 1), frac(-1000000, 1)}, {steelyard(1, 1000, 0), frac(1001, 1), none}, {steelyard(1, 1000, 0), frac(1000000, 1), none}, {steelyard(1, 1000, -100), frac(900, 1), frac(1000000, 1)}, {steelyard(1, 1000, 100), frac(999999, 1000), frac(899999, 1)}, {steelyard(1, 1000, 0), frac(1000000, 3), none}, {steelyard(1, 1000, 0), frac(1000, 3), frac(1000000, 3)},
		{steelyard(2, 1, 0), frac(1, 500000), frac(1, 1000000)}, {steelyard(2, 1, 0), frac(-1, 500000), frac(-1, 1000000)}, {steelyard(2, 1, 0), frac(1, 500001), none}, {steelyard(2, 1, 0), frac(1, 1000000), none}, {steelyard(100, 1, 0), frac(3, 10000), frac(3, 1000000)}, {steelyard(100, 1, 0), frac(3, 10001), none}, {steelyard(100, 1, 0), frac(1, 1000000), none},
		// Only before these are shortened, a term is too great: even that of the difference.
		{steelyard(100, 1000, 0), frac(100000, 1), frac(1000000, 1)}, {steelyard(100, 100, 0), frac(-1000000, 1), frac(-1000000, 1)}, {steelyard(1, 1000, 0), frac(1, 1000000), frac(1, 1000)}, {steelyard(100, 1, 0), frac(100, 999999), frac(1, 999999)}, {steelyard(50, 1, -100), frac(999950, 1), frac(20001, 1)},
		{steelyard(17, 1, 2), frac(1, 1000000), frac(-117647, 1000000)}, {steelyard(17, 1000, 2), frac(1, 1000000), frac(-117647, 1000)}, {steelyard(100, 1, -100), frac(1000000, 1), frac(10001, 1)}, {steelyard(100, 100, -100), frac(999900, 1), frac(1000000, 1)}, {steelyard(100, 100, -100), frac(999901, 1), none}, {steelyard(100, 1000, 100), frac(1000000, 1), none},
	}
	for _, c := range cases {
		checkLoadAt(t, c.s, c.place, c.want, c.want != none)
		want, ok := reckonedLoad(c.s, c.place)
		checkLoadAt(t, c.s, c.place, want, ok)
	}
}

// TestSliderFindsEveryLoad has each load of the range.
func TestSliderFindsEveryLoad(t *testing.T) {
	found, refused, last, whole := 0, 0, 0, 0
	for _, s := range fewSteelyards() {
		for load := range 10001 {
			mark, ok := checkFound(t, s, load)
			if !ok {
				refused++
				continue
			}
			found++
			if isLastFraction(mark) {
				last++
			}
			if mark.Bottom == 1 {
				whole++
			}
		}
	}
	if found < 100000 || refused < 1 || last < 2 || whole < 50000 {
		t.Errorf("%d loads found and %d not, %d with the greatest term, %d at whole places", found, refused, last, whole)
	}
}

// TestSliderFindsLoads has many steelyards, and no load among the loads.
func TestSliderFindsLoads(t *testing.T) {
	refused, shortened := 0, 0
	for _, s := range someSteelyards() {
		checkMark(t, s, 0, frac(s.Empty, 1), true)
		for _, load := range someLoads() {
			mark, ok := checkFound(t, s, load)
			if !ok {
				refused++
			} else if mark.Bottom < s.Slider {
				shortened++
			}
		}
	}
	if refused < 20 || shortened < 1000 {
		t.Errorf("%d loads not found, %d marks shortened", refused, shortened)
	}
}

// TestLoadAtManyPlaces has places left of Empty, at Empty and right of it.
func TestLoadAtManyPlaces(t *testing.T) {
	places := somePlaces()
	negative, refused, last := 0, 0, 0
	for _, s := range someSteelyards() {
		empty := frac(s.Empty, 1)
		checkLoadAt(t, s, empty, frac(0, 1), true)
		for _, place := range places {
			want, ok := reckonedLoad(s, place)
			checkLoadAt(t, s, place, want, ok)
			if !ok {
				refused++
				continue
			}
			if isLastFraction(want) {
				last++
			}
			if want.Top < 0 {
				negative++
			}
			if (want.Top < 0) != (exact(place).Cmp(exact(empty)) < 0) {
				t.Errorf("LoadAt(%v, %v) = %v: on the wrong side of Empty", s, place, want)
			}
		}
	}
	if negative < 1000 || refused < 1000 || last < 20 {
		t.Errorf("%d loads negative, %d refused, %d with the greatest term", negative, refused, last)
	}
}

// TestLoadAtWithoutPlace has steelyards for which a place that is no fraction would
// lead to a load that is one.
func TestLoadAtWithoutPlace(t *testing.T) {
	list := append(fewSteelyards(), steelyard(1, 101, 0), steelyard(100, 1, 0), steelyard(100, 1, -100), steelyard(50, 100, 100), steelyard(1, 2, 0))
	for _, s := range list {
		for _, place := range noPlaceFractions() {
			checkLoadAt(t, s, place, none, false)
		}
	}
}

// TestLoadLimits has loads beyond the limits, and those beside them that balance.
func TestLoadLimits(t *testing.T) {
	for _, s := range append(fewSteelyards(), steelyard(1, 73, 0), steelyard(2, 2, 0), steelyard(100, 64, 0)) {
		for _, load := range noLoads {
			checkNoMark(t, s, load)
		}
		for _, load := range []int{0, 1, 9999, 10000} {
			checkFound(t, s, load)
		}
	}
	checkLevelWith(t, steelyard(1, 1, 0), -1, -1, false)
	checkLevelWith(t, steelyard(1, 1, 0), 0, 0, true)
	// 73 times 137 is 10001.
	checkLevelWith(t, steelyard(1, 73, 0), 10001, 137, false)
	checkLevelWith(t, steelyard(1, 73, 1), 9928, 137, true)
	checkLevelWith(t, steelyard(1, 1, -1), 10001, 10000, false)
	checkLevelWith(t, steelyard(1, 1, -1), 10000, 9999, true)
}

// TestLevelAtEveryPlace slides the slider along the whole range, and beyond it.
func TestLevelAtEveryPlace(t *testing.T) {
	levels := 0
	for _, s := range fewSteelyards() {
		for _, load := range []int{0, 1, 2, 100, 999, 1000, 4998, 9900, 10000} {
			mark := exactMark(s, load)
			level := mark.IsInt() && mark.Num().CmpAbs(big.NewInt(10000)) <= 0
			if level {
				levels++
			}
			for place := -10100; place <= 10100; place++ {
				checkLevelWith(t, s, load, place, level && mark.Num().Int64() == int64(place))
			}
			for _, place := range noSliderPlaces {
				checkLevelWith(t, s, load, place, false)
			}
		}
	}
	if levels < 50 {
		t.Errorf("only %d loads are level at a place", levels)
	}
}

// TestLevelWithEveryLoad hangs each load, also beyond the range, while the slider
// stays where it is.
func TestLevelWithEveryLoad(t *testing.T) {
	levels := 0
	for _, s := range fewSteelyards() {
		for _, place := range []int{-10000, -101, -100, -77, -1, 0, 1, 5, 99, 100, 101, 110, 9900, 9999, 10000} {
			found, ok := reckonedLoad(s, frac(place, 1))
			level := ok && found.Bottom == 1 && found.Top >= 0 && found.Top <= 10000
			if level {
				levels++
			}
			for load := -100; load <= 10100; load++ {
				checkLevelWith(t, s, load, place, level && found.Top == load)
			}
		}
	}
	if levels < 50 {
		t.Errorf("only %d places are level with a load", levels)
	}
}

// TestLevelLimits has marks that are whole places at the limit and beyond it. The
// other limit cannot be reached: no load is balanced left of -100.
func TestLevelLimits(t *testing.T) {
	cases := []struct {
		s           impl.Steelyard
		load, place int
		want        bool
	}{
		{steelyard(1, 1, 0), 9999, 9999, true}, {steelyard(1, 1, 0), 10000, 10000, true}, {steelyard(1, 1, 1), 9999, 10000, true}, {steelyard(1, 1, 1), 10000, 10001, false}, {steelyard(100, 1, 0), 100, 10000, true}, {steelyard(100, 1, 0), 101, 10100, false}, {steelyard(100, 1, 0), 10000, 1000000, false}, {steelyard(100, 100, 1), 10000, 10001, false}, {steelyard(100, 100, 0), 10000, 10000, true},
		{steelyard(100, 1, -100), 0, -100, true}, {steelyard(1, 1000, -100), 1000, -99, true}, {steelyard(1, 1, 0), -10000, -10000, false}, {steelyard(1, 1, 0), -10001, -10001, false}, {steelyard(1, 1, -100), -9900, -10000, false},
	}
	for _, c := range cases {
		checkLevelWith(t, c.s, c.load, c.place, c.want)
	}
	// Far places whose products wrap around to small numbers.
	for _, pan := range []int{1, 2, 100} {
		for _, slider := range []int{2, 4, 64, 512, 1000} {
			for _, n := range []int{math.MinInt, 1 << 62, -1 << 62, 1 << 61, 1 << 57, 1 << 63 / 125} {
				checkLevelWith(t, steelyard(pan, slider, 0), 0, n, false)
				checkLevelWith(t, steelyard(slider/10+2, pan, 0), n, 0, false)
			}
		}
	}
}

// TestLevelTakesDifferenceFirst has loads that would be level, if Empty were taken
// from the product.
func TestLevelTakesDifferenceFirst(t *testing.T) {
	checkLevelWith(t, steelyard(1, 3, 1), 5, 2, false)
	checkLevelWith(t, steelyard(1, 3, 1), 3, 2, true)
	checkLevelWith(t, steelyard(2, 1000, -100), 550, 1, false)
	count := 0
	for _, s := range someSteelyards() {
		if s.Empty == 0 || s.Slider == 1 {
			continue
		}
		for place := -200; place <= 200; place++ {
			pull := place*s.Slider - s.Empty
			if pull >= 0 && pull%s.Pan == 0 && pull/s.Pan <= 10000 {
				checkLevelWith(t, s, pull/s.Pan, place, false)
				count++
			}
		}
	}
	if count < 10000 {
		t.Errorf("only %d loads would be level", count)
	}
}

func TestMarksOfByHand(t *testing.T) {
	cases := []struct {
		s       impl.Steelyard
		unit, n int
		want    []impl.Fraction
	}{
		{steelyard(2, 3, 1), 3, 2, []impl.Fraction{frac(1, 1), frac(3, 1), frac(5, 1)}}, {steelyard(2, 3, 1), 1, 3, []impl.Fraction{frac(1, 1), frac(5, 3), frac(7, 3), frac(3, 1)}}, {steelyard(1, 4, -1), 2, 4, []impl.Fraction{frac(-1, 1), frac(-1, 2), frac(0, 1), frac(1, 2), frac(1, 1)}}, {steelyard(1, 1000, 100), 1, 1, []impl.Fraction{frac(100, 1), frac(100001, 1000)}},
		{steelyard(5, 7, 9), 4, 0, []impl.Fraction{frac(9, 1)}}, {steelyard(100, 1000, -100), 100, 0, []impl.Fraction{frac(-100, 1)}}, {steelyard(1, 1, 0), 1, 0, []impl.Fraction{frac(0, 1)}}, {steelyard(100, 1, 100), 100, 1, []impl.Fraction{frac(100, 1), frac(10100, 1)}},
	}
	for _, c := range cases {
		checkMarks(t, c.s, c.unit, c.n, c.want)
	}
	last := impl.MarksOf(steelyard(100, 1, 100), 100, 20)
	if len(last) != 21 || last[20] != frac(200100, 1) {
		t.Errorf("the marks that are furthest apart are %v", last)
	}
}

func TestMarksAreEquallyFarApart(t *testing.T) {
	for _, s := range someSteelyards() {
		for _, unit := range []int{1, 2, 3, 7, 50, 99, 100} {
			for _, n := range []int{0, 1, 2, 7, 19, 20} {
				checkScale(t, s, unit, n)
			}
		}
	}
}

// TestMarksWithEveryUnit has all units and numbers of marks.
func TestMarksWithEveryUnit(t *testing.T) {
	for _, s := range []impl.Steelyard{steelyard(100, 1000, -100), steelyard(7, 64, 3), steelyard(99, 1, 0)} {
		for unit := 1; unit <= 100; unit++ {
			for n := range 21 {
				checkScale(t, s, unit, n)
			}
		}
	}
}

func TestNoMarks(t *testing.T) {
	for _, s := range fewSteelyards() {
		for _, unit := range noMarkUnits {
			for _, n := range append([]int{0, 1, 5, 20}, noLastMarks...) {
				checkMarks(t, s, unit, n, nil)
			}
		}
		for _, n := range noLastMarks {
			for _, unit := range []int{1, 2, 50, 100} {
				checkMarks(t, s, unit, n, nil)
			}
		}
	}
}

// TestMarksAreNew also looks at answers whose beginning is the same.
func TestMarksAreNew(t *testing.T) {
	other := frac(777, -99)
	for _, s := range append(fewSteelyards(), invalidSteelyards()[:20]...) {
		for _, unit := range []int{0, 1, 7, 100, 101} {
			for n := -1; n <= 21; n++ {
				checkNewMemory(t, "MarksOf", nil, other, func([]impl.Fraction) []impl.Fraction { return impl.MarksOf(s, unit, n) })
			}
		}
	}
	for _, s := range fewSteelyards() {
		var lists [][]impl.Fraction
		for n := range 21 {
			lists = append(lists, impl.MarksOf(s, 3, n))
		}
		for n := range lists {
			overwriteAll(append(lists[n], other), other)
			overwriteAll(lists[n], other)
			for after := n + 1; after < len(lists); after++ {
				checkMarks(t, s, 3, after, lists[after])
			}
			checkScale(t, s, 3, n)
		}
	}
}

// A steelyardQuestion is what the functions of the chapter are asked.
type steelyardQuestion struct {
	s           impl.Steelyard
	place       impl.Fraction
	load, whole int
}

// A steelyardAnswer is what the program says to it.
type steelyardAnswer struct {
	ok, hasMark, hasLoad, level bool
	mark, load                  impl.Fraction
	marks                       []impl.Fraction
}

func steelyardAnswerTo(q steelyardQuestion) steelyardAnswer {
	var a steelyardAnswer
	a.ok, a.level, a.marks = impl.SteelyardOk(q.s), impl.LevelWith(q.s, q.load, q.whole), impl.MarksOf(q.s, q.load, 4)
	a.mark, a.hasMark = impl.MarkFor(q.s, q.load)
	a.load, a.hasLoad = impl.LoadAt(q.s, q.place)
	return a
}

// steelyardQuestions are valid ones and some that are not.
func steelyardQuestions() []steelyardQuestion {
	places := append(somePlaces(), noPlaceFractions()...)
	loads := append(someLoads(), noLoads...)
	var list []steelyardQuestion
	for i, s := range append(someSteelyards(), invalidSteelyards()[:100]...) {
		for k := range 8 {
			load := loads[(3*i+k)%len(loads)]
			whole := s.Empty + load*s.Pan/max(s.Slider, 1)
			list = append(list, steelyardQuestion{s, places[(5*i+k)%len(places)], load, whole})
		}
	}
	return list
}

// checkSameAgain asks each question many times, in the other order and beside other
// callers with the same questions, so that something that was kept or is shared
// would show.
func checkSameAgain[Q any, A any](t *testing.T, questions []Q, answerTo func(Q) A) {
	t.Helper()
	var first []A
	for _, q := range questions {
		first = append(first, answerTo(q))
	}
	for range 2 {
		for i, q := range slices.Backward(questions) {
			checkSame(t, q, answerTo(q), first[i])
		}
	}
	var callers sync.WaitGroup
	for caller := range 16 {
		callers.Go(func() {
			for i := range questions {
				k := (i + caller*37) % len(questions)
				checkSame(t, questions[k], answerTo(questions[k]), first[k])
			}
		})
	}
	callers.Wait()
}

func checkSame(t *testing.T, question any, got any, want any) {
	if !reflect.DeepEqual(got, want) {
		t.Errorf("of %v, the answer is no more %v, but %v", question, want, got)
	}
}

func TestSteelyardsAnswerTheSame(t *testing.T) {
	checkSameAgain(t, steelyardQuestions(), steelyardAnswerTo)
}
