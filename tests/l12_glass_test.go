package tests

import (
	"math"
	"slices"
	"sync"
	"testing"

	"loop.example/g00992/impl"
)

// noGlasses are numbers that no glass runs, among them some that wrap around to
// small ones.
var noGlasses = []int{
	0, -1, 13, -2, 14, -7, -12, 24, 60, 100, 1 << 32, 1<<32 + 1, 1<<32 + 4, 1<<32 + 12, -1 << 32, -1<<32 + 1, -1<<32 + 7,
	math.MinInt, math.MinInt + 1, math.MinInt + 4, math.MinInt + 12, math.MaxInt - 1, math.MaxInt,
}

// noTimes are times up to which, or for which, nothing is found.
var noTimes = []int{
	0, -1, 61, -2, 62, -7, -60, 64, 84, 120, 1000, 1 << 32, 1<<32 + 1, 1<<32 + 12, 1<<32 + 60, -1 << 32, -1<<32 + 1, -1<<32 + 60,
	math.MinInt, math.MinInt + 1, math.MinInt + 12, math.MinInt + 60, math.MaxInt - 1, math.MaxInt,
}

// noFlips are numbers that stand for no glass.
var noFlips = []int{
	0, 4, -1, 5, -2, -3, 6, 7, 8, 12, 100, 1 << 32, 1<<32 + 1, 1<<32 + 2, 1<<32 + 3, -1 << 32, -1<<32 + 1, -1<<32 + 2, -1<<32 + 3,
	math.MinInt, math.MinInt + 1, math.MinInt + 2, math.MinInt + 3, math.MaxInt - 1, math.MaxInt,
}

// glasses names what the glasses run before what is above in them.
func glasses(first int, second int, upFirst int, upSecond int) impl.Glasses {
	return impl.Glasses{First: first, Second: second, UpFirst: upFirst, UpSecond: upSecond}
}

// glassStates are all that can be above in two glasses.
func glassStates(first int, second int) []impl.Glasses {
	var list []impl.Glasses
	for upFirst := range first + 1 {
		for upSecond := range second + 1 {
			list = append(list, glasses(first, second, upFirst, upSecond))
		}
	}
	return list
}

// eachGlasses calls test for all valid glasses.
func eachGlasses(test func(g impl.Glasses)) {
	eachPair(12, func(first int, second int) {
		for _, g := range glassStates(first, second) {
			test(g)
		}
	})
}

// invalidGlasses break one condition each, for one of the four numbers: by one,
// by more, or by very much; or several at once.
func invalidGlasses() []impl.Glasses {
	list := []impl.Glasses{{}, glasses(0, 7, 0, 0), glasses(4, 0, 0, 0), glasses(0, 0, 1, 1), glasses(13, 13, 0, 0), glasses(-1, -1, -1, -1), glasses(-4, -7, -1, -2)}
	for _, far := range []int{math.MinInt, math.MaxInt} {
		list = append(list, glasses(far, far, far, far), glasses(far, far, 0, 0), glasses(far, 7, far, 7), glasses(4, far, 4, far), glasses(4, 7, far, far))
	}
	for _, size := range noGlasses {
		list = append(list, glasses(size, 7, 0, 0), glasses(4, size, 0, 0), glasses(size, 12, 1, 3), glasses(12, size, 3, 1), glasses(size, 7, size, 0), glasses(4, size, 0, size))
	}
	for _, g := range []impl.Glasses{glasses(1, 1, 0, 0), glasses(4, 7, 1, 2), glasses(4, 7, 4, 0), glasses(12, 12, 12, 12), glasses(11, 12, 0, 5)} {
		for _, up := range []int{-1, -2, -12, 13, 14, 1 << 32, 1<<32 + 1, -1 << 32, math.MinInt, math.MinInt + 1, math.MaxInt - 1, math.MaxInt} {
			list = append(list, glasses(g.First, g.Second, up, g.UpSecond), glasses(g.First, g.Second, g.UpFirst, up))
		}
		for more := 1; more <= 3; more++ {
			list = append(list, glasses(g.First, g.Second, g.First+more, g.UpSecond), glasses(g.First, g.Second, g.UpFirst, g.Second+more))
		}
	}
	return list
}

// areGlasses is what the chapter says of the four numbers.
func areGlasses(g impl.Glasses) bool {
	sizes := g.First >= 1 && g.First <= 12 && g.Second >= 1 && g.Second <= 12
	return sizes && g.UpFirst >= 0 && g.UpFirst <= g.First && g.UpSecond >= 0 && g.UpSecond <= g.Second
}

// A sand is what is above and below in each of two valid glasses.
type sand struct {
	above, below [2]int
}

func sandIn(g impl.Glasses) sand {
	return sand{above: [2]int{g.UpFirst, g.UpSecond}, below: [2]int{g.First - g.UpFirst, g.Second - g.UpSecond}}
}

func (s sand) glasses() impl.Glasses {
	return glasses(s.above[0]+s.below[0], s.above[1]+s.below[1], s.above[0], s.above[1])
}

// turned exchanges above and below, without the program; which is one of 1 to 3.
func (s sand) turned(which int) sand {
	for glass, turns := range [2]bool{which != 2, which != 1} {
		if turns {
			s.above[glass], s.below[glass] = s.below[glass], s.above[glass]
		}
	}
	return s
}

// afterOne lets one unit of time pass, without the program, and tells whether the
// last sand of a glass fell in it.
func (s sand) afterOne() (sand, bool) {
	ranOut := false
	for glass := range 2 {
		if s.above[glass] > 0 {
			s.above[glass]--
			s.below[glass]++
			ranOut = ranOut || s.above[glass] == 0
		}
	}
	return s, ranOut
}

// runByUnits is RunOut without the program, for valid glasses.
func runByUnits(g impl.Glasses) (impl.Glasses, int) {
	s, passed := sandIn(g), 0
	for ranOut := s.above == [2]int{}; !ranOut; passed++ {
		s, ranOut = s.afterOne()
	}
	return s.glasses(), passed
}

// timesByUnits follows the sand of empty glasses unit by unit, without the
// program, and tells of each time up to most whether a glass can run out then.
func timesByUnits(first int, second int, most int) []bool {
	can := make([]bool, most+1)
	// Of each state that is possible now: whether a glass has just run out in it.
	now := map[sand]bool{sandIn(glasses(first, second, 0, 0)): true}
	for time := 1; time <= most; time++ {
		next := map[sand]bool{}
		let := func(s sand) {
			after, ranOut := s.afterOne()
			next[after] = next[after] || ranOut
			can[time] = can[time] || ranOut
		}
		for s, moment := range now {
			let(s)
			for which := 1; which <= 3 && moment; which++ {
				let(s.turned(which))
			}
		}
		now = next
	}
	return can
}

// timesOf are the times of which it is told that a glass can run out.
func timesOf(can []bool) []int {
	var times []int
	for time, can := range can {
		if can {
			times = append(times, time)
		}
	}
	return times
}

// upTo cuts a list in ascending order.
func upTo(times []int, most int) []int {
	var list []int
	for _, time := range times {
		if time <= most {
			list = append(list, time)
		}
	}
	return list
}

// multiplesOf are those from 1 to most.
func multiplesOf(n int, most int) []int {
	var list []int
	for multiple := n; multiple <= most; multiple += n {
		list = append(list, multiple)
	}
	return list
}

// allFrom are the numbers from least to most.
func allFrom(least int, most int) []int {
	var list []int
	for n := least; n <= most; n++ {
		list = append(list, n)
	}
	return list
}

func checkTimes(t *testing.T, first int, second int, most int, want []int) {
	t.Helper()
	if got := impl.TimesWith(first, second, most); !slices.Equal(got, want) {
		t.Errorf("TimesWith(%d, %d, %d) = %v; want %v", first, second, most, got, want)
	}
}

func checkCanTime(t *testing.T, first int, second int, time int, want bool) {
	t.Helper()
	if got := impl.CanTime(first, second, time); got != want {
		t.Errorf("CanTime(%d, %d, %d) = %v; want %v", first, second, time, got, want)
	}
}

// checkNoTime is for glasses and a time that are not asked for.
func checkNoTime(t *testing.T, first int, second int, time int) {
	t.Helper()
	if got := impl.TimesWith(first, second, time); len(got) != 0 {
		t.Errorf("TimesWith(%d, %d, %d) = %v; want nil", first, second, time, got)
	}
	checkCanTime(t, first, second, time, false)
}

// checkAllTimes compares every most and every time with the times up to 60.
func checkAllTimes(t *testing.T, first int, second int, want []int) {
	t.Helper()
	for time := 1; time <= 60; time++ {
		checkTimes(t, first, second, time, upTo(want, time))
		checkCanTime(t, first, second, time, slices.Contains(want, time))
	}
}

func checkFlipped(t *testing.T, g impl.Glasses, which int, want impl.Glasses) {
	t.Helper()
	if got := impl.Flip(g, which); got != want {
		t.Errorf("Flip(%v, %d) = %v; want %v", g, which, got, want)
	}
}

func checkRun(t *testing.T, g impl.Glasses, want impl.Glasses, passed int) {
	t.Helper()
	if got, time := impl.RunOut(g); got != want || time != passed {
		t.Errorf("RunOut(%v) = %v, %d; want %v, %d", g, got, time, want, passed)
	}
}

func TestGlassConstants(t *testing.T) {
	if impl.MaxGlass != 12 {
		t.Error("unexpected limit:", impl.MaxGlass)
	}
}

func TestGlassesOk(t *testing.T) {
	for _, g := range []impl.Glasses{
		glasses(1, 1, 0, 0), glasses(1, 1, 1, 0), glasses(1, 1, 0, 1), glasses(1, 1, 1, 1), glasses(12, 12, 0, 0), glasses(12, 12, 12, 12), glasses(12, 1, 12, 1), glasses(1, 12, 1, 12),
		glasses(4, 7, 0, 0), glasses(4, 7, 4, 0), glasses(4, 7, 0, 7), glasses(4, 7, 4, 7), glasses(4, 7, 3, 6), glasses(7, 4, 6, 3), glasses(7, 4, 7, 4), glasses(11, 12, 11, 11),
	} {
		if !impl.GlassesOk(g) {
			t.Errorf("GlassesOk(%v) is false", g)
		}
	}
	for _, g := range []impl.Glasses{
		{}, glasses(0, 1, 0, 0), glasses(1, 0, 0, 0), glasses(13, 12, 0, 0), glasses(12, 13, 0, 0), glasses(-1, 7, 0, 0), glasses(4, -1, 0, 0), glasses(1, 1, 2, 0), glasses(1, 1, 0, 2), glasses(1, 1, -1, 0), glasses(1, 1, 0, -1),
		glasses(4, 7, 5, 0), glasses(4, 7, 0, 8), glasses(4, 7, 7, 4), glasses(7, 4, 4, 7), glasses(4, 7, -1, 0), glasses(4, 7, 0, -1), glasses(4, 7, -1, 8), glasses(12, 12, 13, 0), glasses(12, 12, 0, 13), glasses(13, 13, 13, 13), glasses(-4, -7, -4, -7),
		glasses(math.MinInt, 7, 0, 0), glasses(4, math.MinInt, 0, 0), glasses(4, 7, math.MinInt, 0), glasses(4, 7, 0, math.MinInt), glasses(math.MaxInt, 7, 0, 0), glasses(4, math.MaxInt, 0, 0), glasses(4, 7, math.MaxInt, 0), glasses(4, 7, 0, math.MaxInt),
	} {
		if impl.GlassesOk(g) {
			t.Errorf("GlassesOk(%v) is true", g)
		}
	}
}

// TestGlassesOkEachState has all four numbers around their limits.
func TestGlassesOkEachState(t *testing.T) {
	for first := -1; first <= 14; first++ {
		for second := -1; second <= 14; second++ {
			for upFirst := -1; upFirst <= 14; upFirst++ {
				for upSecond := -1; upSecond <= 14; upSecond++ {
					g := glasses(first, second, upFirst, upSecond)
					if got, want := impl.GlassesOk(g), areGlasses(g); got != want {
						t.Fatalf("GlassesOk(%v) = %v; want %v", g, got, want)
					}
				}
			}
		}
	}
}

func TestInvalidGlasses(t *testing.T) {
	for _, g := range invalidGlasses() {
		if areGlasses(g) {
			t.Fatalf("%v is valid", g)
		}
		if impl.GlassesOk(g) {
			t.Errorf("GlassesOk(%v) is true", g)
		}
		for which := 1; which <= 3; which++ {
			checkFlipped(t, g, which, g)
		}
		for _, which := range noFlips {
			checkFlipped(t, g, which, g)
		}
		checkRun(t, g, g, 0)
	}
}

func TestFlip(t *testing.T) {
	checkFlipped(t, glasses(4, 7, 1, 2), 1, glasses(4, 7, 3, 2))
	checkFlipped(t, glasses(4, 7, 1, 2), 2, glasses(4, 7, 1, 5))
	checkFlipped(t, glasses(4, 7, 1, 2), 3, glasses(4, 7, 3, 5))
	checkFlipped(t, glasses(4, 7, 0, 0), 1, glasses(4, 7, 4, 0))
	checkFlipped(t, glasses(4, 7, 0, 0), 2, glasses(4, 7, 0, 7))
	checkFlipped(t, glasses(4, 7, 0, 0), 3, glasses(4, 7, 4, 7))
	checkFlipped(t, glasses(4, 7, 4, 7), 1, glasses(4, 7, 0, 7))
	checkFlipped(t, glasses(4, 7, 4, 7), 2, glasses(4, 7, 4, 0))
	checkFlipped(t, glasses(4, 7, 4, 7), 3, glasses(4, 7, 0, 0))
	checkFlipped(t, glasses(12, 12, 6, 5), 3, glasses(12, 12, 6, 7))
	checkFlipped(t, glasses(1, 1, 1, 0), 3, glasses(1, 1, 0, 1))
}

// TestFlipEachState flips everything that can be in any two glasses, once and
// twice.
func TestFlipEachState(t *testing.T) {
	eachGlasses(func(g impl.Glasses) {
		for which := 1; which <= 3; which++ {
			want := sandIn(g).turned(which).glasses()
			checkFlipped(t, g, which, want)
			checkFlipped(t, want, which, g)
			if got := impl.Flip(impl.Flip(g, which), which); got != g {
				t.Errorf("flipping %v twice by %d gives %v", g, which, got)
			}
		}
		both := impl.Flip(g, 3)
		if got, other := impl.Flip(impl.Flip(g, 1), 2), impl.Flip(impl.Flip(g, 2), 1); got != both || other != both {
			t.Errorf("flipping %v one after the other gives %v and %v; want %v", g, got, other, both)
		}
		for _, which := range noFlips {
			checkFlipped(t, g, which, g)
		}
	})
}

func TestRunOut(t *testing.T) {
	checkRun(t, glasses(4, 7, 0, 0), glasses(4, 7, 0, 0), 0)
	checkRun(t, glasses(4, 7, 4, 0), glasses(4, 7, 0, 0), 4)
	checkRun(t, glasses(4, 7, 0, 7), glasses(4, 7, 0, 0), 7)
	checkRun(t, glasses(4, 7, 1, 0), glasses(4, 7, 0, 0), 1)
	checkRun(t, glasses(4, 7, 0, 1), glasses(4, 7, 0, 0), 1)
	checkRun(t, glasses(4, 7, 3, 3), glasses(4, 7, 0, 0), 3)
	checkRun(t, glasses(4, 7, 4, 7), glasses(4, 7, 0, 3), 4)
	checkRun(t, glasses(4, 7, 3, 2), glasses(4, 7, 1, 0), 2)
	checkRun(t, glasses(7, 4, 7, 4), glasses(7, 4, 3, 0), 4)
	checkRun(t, glasses(12, 12, 12, 12), glasses(12, 12, 0, 0), 12)
	checkRun(t, glasses(11, 12, 11, 12), glasses(11, 12, 0, 1), 11)
	checkRun(t, glasses(1, 12, 1, 12), glasses(1, 12, 0, 11), 1)
	checkRun(t, glasses(1, 1, 1, 1), glasses(1, 1, 0, 0), 1)
}

func TestRunOutEachState(t *testing.T) {
	eachGlasses(func(g impl.Glasses) {
		want, passed := runByUnits(g)
		checkRun(t, g, want, passed)
	})
}

// TestRunOutKinds has what is said of no glass, one glass and two glasses that
// are running.
func TestRunOutKinds(t *testing.T) {
	eachGlasses(func(g impl.Glasses) {
		empty := glasses(g.First, g.Second, 0, 0)
		later := glasses(g.First, g.Second, max(0, g.UpFirst-g.UpSecond), max(0, g.UpSecond-g.UpFirst))
		switch {
		case g == empty:
			checkRun(t, g, g, 0)
		case g.UpFirst == 0 || g.UpSecond == 0:
			checkRun(t, g, empty, g.UpFirst+g.UpSecond)
		case g.UpFirst == g.UpSecond:
			checkRun(t, g, empty, g.UpFirst)
		default:
			checkRun(t, g, later, min(g.UpFirst, g.UpSecond))
			checkRun(t, later, empty, max(g.UpFirst, g.UpSecond)-min(g.UpFirst, g.UpSecond))
		}
	})
}

// TestGlassMultiples is promise 12.
func TestGlassMultiples(t *testing.T) {
	eachPair(12, func(first int, second int) {
		divisor := divisorOf([]int{first, second})
		for most := 1; most <= 60; most++ {
			times := impl.TimesWith(first, second, most)
			for _, own := range append(multiplesOf(first, most), multiplesOf(second, most)...) {
				if !slices.Contains(times, own) {
					t.Errorf("TimesWith(%d, %d, %d) = %v, without %d", first, second, most, times, own)
				}
				checkCanTime(t, first, second, own, true)
			}
			for _, time := range times {
				if time%divisor != 0 {
					t.Errorf("TimesWith(%d, %d, %d) = %v, with %d", first, second, most, times, time)
				}
			}
			if most%divisor != 0 {
				checkCanTime(t, first, second, most, false)
			}
		}
	})
}

// TestTimesByUnits has all glasses, every most and every time.
func TestTimesByUnits(t *testing.T) {
	eachPair(12, func(first int, second int) {
		want := timesOf(timesByUnits(first, second, 60))
		checkAllTimes(t, first, second, want)
		for _, most := range []int{1, 2, 7, 12, 13, 24, 31, 59} {
			checkTimes(t, first, second, most, timesOf(timesByUnits(first, second, most)))
		}
	})
}

// TestTimesAscend has every time once, and from a smaller most the beginning of
// the list.
func TestTimesAscend(t *testing.T) {
	eachPair(12, func(first int, second int) {
		all := impl.TimesWith(first, second, 60)
		for most := 1; most <= 60; most++ {
			times := impl.TimesWith(first, second, most)
			for i, time := range times {
				if time < 1 || time > most || i > 0 && time <= times[i-1] {
					t.Errorf("TimesWith(%d, %d, %d) = %v, with %d at %d", first, second, most, times, time, i)
				}
			}
			if !slices.Equal(times, upTo(all, most)) {
				t.Errorf("TimesWith(%d, %d, %d) = %v; with 60 it is %v", first, second, most, times, all)
			}
		}
	})
}

// TestTimesByAllFlips tries every way of flipping, without keeping states, for
// small glasses.
func TestTimesByAllFlips(t *testing.T) {
	const most = 11
	eachPair(6, func(first int, second int) {
		var can [most + 1]bool
		var tryAll func(g impl.Glasses, time int)
		tryAll = func(g impl.Glasses, time int) {
			can[time] = true
			for which := range 4 {
				if next, passed := impl.RunOut(impl.Flip(g, which)); passed > 0 && time+passed <= most {
					tryAll(next, time+passed)
				}
			}
		}
		tryAll(glasses(first, second, 0, 0), 0)
		for time := 1; time <= most; time++ {
			checkTimes(t, first, second, time, timesOf(can[:time+1])[1:])
			checkCanTime(t, first, second, time, can[time])
		}
	})
}

func TestTimesWith(t *testing.T) {
	checkTimes(t, 4, 7, 9, []int{4, 7, 8, 9})
	checkTimes(t, 4, 7, 3, nil)
	checkTimes(t, 4, 7, 4, []int{4})
	checkTimes(t, 5, 7, 20, append([]int{5, 7}, allFrom(9, 20)...))
	checkTimes(t, 3, 5, 10, []int{3, 5, 6, 7, 8, 9, 10})
	checkTimes(t, 4, 6, 20, []int{4, 6, 8, 10, 12, 14, 16, 18, 20})
	checkTimes(t, 6, 9, 25, []int{6, 9, 12, 15, 18, 21, 24})
	checkTimes(t, 5, 10, 60, multiplesOf(5, 60))
	checkTimes(t, 2, 3, 6, []int{2, 3, 4, 5, 6})
	checkTimes(t, 2, 12, 12, []int{2, 4, 6, 8, 10, 12})
	checkTimes(t, 7, 11, 20, []int{7, 11, 14, 15, 17, 18, 19, 20})
	checkCanTime(t, 4, 7, 9, true)
	checkCanTime(t, 4, 7, 5, false)
	checkCanTime(t, 4, 7, 1, false)
	checkCanTime(t, 7, 11, 15, true)
	checkCanTime(t, 4, 6, 9, false)
}

func TestEqualGlasses(t *testing.T) {
	for size := 1; size <= 12; size++ {
		checkAllTimes(t, size, size, multiplesOf(size, 60))
		for time := size + 1; time < 2*size; time++ {
			checkCanTime(t, size, size, time, false)
		}
	}
}

// TestGlassOfOne has every time.
func TestGlassOfOne(t *testing.T) {
	for size := 1; size <= 12; size++ {
		checkAllTimes(t, 1, size, allFrom(1, 60))
		checkAllTimes(t, size, 1, allFrom(1, 60))
	}
}

func TestGlassesExchanged(t *testing.T) {
	eachPair(12, func(first int, second int) {
		for most := 1; most <= 60; most++ {
			checkTimes(t, first, second, most, impl.TimesWith(second, first, most))
			checkCanTime(t, first, second, most, impl.CanTime(second, first, most))
		}
	})
}

// TestGreatestGlasses has every time with 11 and 12, because what one of them runs
// longer than the other is a unit of time, which each flip then measures again.
func TestGreatestGlasses(t *testing.T) {
	checkAllTimes(t, 12, 12, []int{12, 24, 36, 48, 60})
	checkAllTimes(t, 11, 12, allFrom(11, 60))
	checkAllTimes(t, 12, 11, allFrom(11, 60))
}

func TestLimitsOfTime(t *testing.T) {
	eachPair(12, func(first int, second int) {
		if first == 1 || second == 1 {
			checkTimes(t, first, second, 1, []int{1})
		} else {
			checkTimes(t, first, second, 1, nil)
		}
		checkCanTime(t, first, second, 1, first == 1 || second == 1)
		for time := 1; time < min(first, second); time++ {
			checkTimes(t, first, second, time, nil)
			checkCanTime(t, first, second, time, false)
		}
		if times := impl.TimesWith(first, second, 60); times[0] != min(first, second) || times[len(times)-1] > 60 {
			t.Errorf("TimesWith(%d, %d, 60) = %v", first, second, times)
		}
		for _, time := range noTimes {
			checkNoTime(t, first, second, time)
		}
	})
}

func TestNoGlasses(t *testing.T) {
	for _, size := range noGlasses {
		for other := -1; other <= 14; other++ {
			for time := -1; time <= 62; time++ {
				checkNoTime(t, size, other, time)
				checkNoTime(t, other, size, time)
			}
			for _, time := range noTimes {
				checkNoTime(t, size, other, time)
				checkNoTime(t, other, size, time)
			}
		}
		for _, other := range noGlasses {
			for _, time := range []int{1, 7, 12, 60, 0, 61, size, other} {
				checkNoTime(t, size, other, time)
			}
		}
	}
}

func TestTimesWithIsNew(t *testing.T) {
	eachPair(12, func(first int, second int) {
		for _, most := range []int{-1, 0, 1, 4, 7, 12, 30, 59, 60, 61} {
			checkNewList(t, "TimesWith", func() []int { return impl.TimesWith(first, second, most) })
		}
	})
	// A list is the beginning of another one.
	for most := 1; most <= 60; most++ {
		var lists, wanted [][]int
		for other := 1; other <= 60; other++ {
			times := impl.TimesWith(4, 7, other)
			lists, wanted = append(lists, times), append(wanted, slices.Clone(times))
		}
		overwrite(append(lists[most-1], 9, 9, 9))
		overwrite(lists[most-1])
		for other := 1; other <= 60; other++ {
			if other != most && !slices.Equal(lists[other-1], wanted[other-1]) {
				t.Errorf("TimesWith up to %d and %d share memory", most, other)
			}
		}
	}
}

// A timed is what the program said of some glasses and a time.
type timed struct {
	first, second, time int
	times               []int
	can                 bool
}

// timedOnce has glasses and times that are valid and some that are not.
func timedOnce() []timed {
	var list []timed
	for _, first := range []int{-1, 0, 1, 2, 4, 6, 9, 11, 12, 13} {
		for _, second := range []int{0, 1, 7, 10, 12} {
			for time := -1; time <= 61; time += 4 {
				list = append(list, timed{first, second, time, impl.TimesWith(first, second, time), impl.CanTime(first, second, time)})
			}
		}
	}
	return list
}

func (m timed) isAnsweredAgain() bool {
	return slices.Equal(impl.TimesWith(m.first, m.second, m.time), m.times) && impl.CanTime(m.first, m.second, m.time) == m.can
}

// TestGlassesOneAfterAnother asks again in the other order, so that something
// that was kept would show.
func TestGlassesOneAfterAnother(t *testing.T) {
	list := timedOnce()
	for range 3 {
		slices.Reverse(list)
		for _, m := range list {
			if !m.isAnsweredAgain() {
				t.Errorf("TimesWith(%d, %d, %d) is no more %v, %v", m.first, m.second, m.time, m.times, m.can)
			}
			checkFlipped(t, glasses(4, 7, 1, 2), 1, glasses(4, 7, 3, 2))
			checkFlipped(t, glasses(4, 7, 1, 8), 1, glasses(4, 7, 1, 8))
			checkRun(t, glasses(4, 7, 3, 2), glasses(4, 7, 1, 0), 2)
			checkRun(t, glasses(4, 7, 0, 0), glasses(4, 7, 0, 0), 0)
		}
	}
}

// TestGlassesBesideOneAnother has many callers at the same time.
func TestGlassesBesideOneAnother(t *testing.T) {
	list := timedOnce()
	var callers sync.WaitGroup
	for caller := range 16 {
		callers.Go(func() {
			for i := range list {
				m := list[(i+caller*31)%len(list)]
				if !m.isAnsweredAgain() {
					t.Errorf("beside others, TimesWith(%d, %d, %d) is not %v, %v", m.first, m.second, m.time, m.times, m.can)
				}
				if got, passed := impl.RunOut(impl.Flip(glasses(4, 7, 1, 2), 1)); got != glasses(4, 7, 1, 0) || passed != 2 {
					t.Errorf("beside others, RunOut returns %v, %d", got, passed)
				}
			}
		})
	}
	callers.Wait()
}
