package tests

import (
	"math"
	"math/big"
	"slices"
	"sync"
	"testing"

	"loop.example/g00992/impl"
)

// noPlaces are numbers at which nothing hangs, among them some that wrap around
// to small ones.
var noPlaces = []int{
	-101, 101, -102, 102, -200, 200, -1000, 1000, 1 << 32, 1<<32 + 1, 1<<32 + 100, -1 << 32, -1<<32 + 1, -1<<32 - 100,
	math.MinInt, math.MinInt + 1, math.MinInt + 100, math.MaxInt - 100, math.MaxInt - 1, math.MaxInt,
}

// noHangWeights are numbers that nothing on a beam weighs.
var noHangWeights = []int{
	-1, 1001, -2, 1002, -100, -1000, -1001, 2000, 12000, 1 << 32, 1<<32 + 1, 1<<32 + 1000, -1 << 32, -1<<32 + 1, -1<<32 + 1000,
	math.MinInt, math.MinInt + 1, math.MinInt + 1000, math.MaxInt - 1, math.MaxInt,
}

// noFurtherWeights are those that are not hung on a beam to make it level.
var noFurtherWeights = append([]int{0}, noHangWeights...)

// noShifts are numbers by which no beam is shifted, not even the empty one.
var noShifts = []int{
	-201, 201, -202, 202, -300, 300, 1000, -1000, 1 << 32, 1<<32 + 1, 1<<32 + 100, -1 << 32, -1<<32 + 1,
	math.MinInt, math.MinInt + 1, math.MinInt + 100, math.MaxInt - 100, math.MaxInt - 1, math.MaxInt,
}

// noHang is on none of the beams.
var noHang = impl.Hang{Place: 777, Weight: -99}

// A hangPair is a place and what hangs there.
type hangPair [2]int

func beamOf(pairs ...hangPair) []impl.Hang {
	var beam []impl.Hang
	for _, p := range pairs {
		beam = append(beam, impl.Hang{Place: p[0], Weight: p[1]})
	}
	return beam
}

// sameHangs is a beam with the same hang again and again.
func sameHangs(count int, place int, weight int) []impl.Hang {
	return slices.Repeat(beamOf(hangPair{place, weight}), count)
}

// withHang returns a copy of the beam that has another hang at the index.
func withHang(beam []impl.Hang, i int, place int, weight int) []impl.Hang {
	changed := slices.Clone(beam)
	changed[i] = impl.Hang{Place: place, Weight: weight}
	return changed
}

// emptyBeams are one value: a beam without hangs.
func emptyBeams() [][]impl.Hang {
	return [][]impl.Hang{nil, {}, make([]impl.Hang, 0, 12), beamOf(hangPair{200, -1})[:0]}
}

// weightlessBeams have hangs that weigh nothing.
func weightlessBeams() [][]impl.Hang {
	return [][]impl.Hang{
		sameHangs(1, 0, 0), sameHangs(1, 100, 0), sameHangs(1, -100, 0), sameHangs(3, 7, 0), sameHangs(12, 100, 0), sameHangs(12, -100, 0), sameHangs(12, 0, 0),
		beamOf(hangPair{-100, 0}, hangPair{100, 0}), beamOf(hangPair{5, 0}, hangPair{-3, 0}, hangPair{5, 0}, hangPair{0, 0}),
	}
}

// levelBeams are level, and not all of them because of equal weights.
func levelBeams() [][]impl.Hang {
	return [][]impl.Hang{
		sameHangs(1, 0, 1), sameHangs(1, 0, 1000), sameHangs(12, 0, 1000), sameHangs(5, 0, 3),
		beamOf(hangPair{1, 1}, hangPair{-1, 1}), beamOf(hangPair{2, 3}, hangPair{-3, 2}), beamOf(hangPair{100, 1}, hangPair{-1, 100}), beamOf(hangPair{-100, 1000}, hangPair{100, 1000}), beamOf(hangPair{-1, 1000}, hangPair{100, 10}),
		beamOf(hangPair{1, 1}, hangPair{2, 1}, hangPair{-3, 1}), beamOf(hangPair{4, 5}, hangPair{0, 77}, hangPair{-10, 2}), beamOf(hangPair{4, 5}, hangPair{4, 5}, hangPair{-8, 5}), beamOf(hangPair{60, 0}, hangPair{-5, 7}, hangPair{7, 5}),
		append(sameHangs(6, 100, 1000), sameHangs(6, -100, 1000)...), append(sameHangs(11, 1, 9), sameHangs(1, -99, 1)...), append(sameHangs(10, -10, 10), sameHangs(2, 50, 10)...),
	}
}

// tiltedBeams are not level.
func tiltedBeams() [][]impl.Hang {
	return [][]impl.Hang{
		sameHangs(1, 1, 1), sameHangs(1, -1, 1), sameHangs(1, 100, 1000), sameHangs(1, -100, 1000), sameHangs(1, 3, 7), sameHangs(1, -100, 1), sameHangs(12, 100, 1000), sameHangs(12, -100, 1000), sameHangs(12, 1, 1), sameHangs(12, -99, 999),
		beamOf(hangPair{2, 3}, hangPair{-1, 4}), beamOf(hangPair{-1, 4}, hangPair{2, 3}), beamOf(hangPair{2, 3}, hangPair{-1, 4}, hangPair{2, 1}), beamOf(hangPair{2, 3}, hangPair{3, 2}), beamOf(hangPair{1, 1}, hangPair{-1, 2}), beamOf(hangPair{1, 1}, hangPair{-2, 1}),
		beamOf(hangPair{100, 1000}, hangPair{-100, 999}), beamOf(hangPair{100, 1000}, hangPair{-99, 1000}), beamOf(hangPair{-50, 0}, hangPair{50, 1}), beamOf(hangPair{0, 500}, hangPair{-7, 11}, hangPair{0, 0}), beamOf(hangPair{9, 2}, hangPair{5, 1}, hangPair{9, 3}, hangPair{5, 4}, hangPair{-9, 1}),
		append(sameHangs(11, 100, 1000), sameHangs(1, 99, 999)...), append(sameHangs(11, -100, 1000), sameHangs(1, -99, 999)...), append(sameHangs(6, 100, 1000), sameHangs(5, -100, 1000)...),
		beamOf(hangPair{12, 1}, hangPair{11, 2}, hangPair{10, 3}, hangPair{9, 4}, hangPair{8, 5}, hangPair{7, 6}, hangPair{6, 7}, hangPair{5, 8}, hangPair{4, 9}, hangPair{3, 10}, hangPair{2, 11}, hangPair{1, 12}),
	}
}

// mixer returns a function that answers a number below count. Each step follows
// from the one before, so that it is the same in every run.
func mixer(step int) func(count int) int {
	return func(count int) int {
		step = (step*1103 + 12345) % 65537
		return step % count
	}
}

// mixedBeams are some of any kind: of each number of hangs, far apart and close
// together, heavy and light ones.
func mixedBeams() [][]impl.Hang {
	var list [][]impl.Hang
	next := mixer(7)
	for count := 1; count <= 12; count++ {
		for _, far := range []int{1, 4, 30, 100} {
			for _, most := range []int{3, 80, 1000} {
				var beam []impl.Hang
				for range count {
					beam = append(beam, beamOf(hangPair{next(2*far+1) - far, next(most + 1)})...)
				}
				list = append(list, beam)
			}
		}
	}
	return list
}

// someBeams have the empty beam, too.
func someBeams() [][]impl.Hang {
	return slices.Concat(emptyBeams(), weightlessBeams(), levelBeams(), tiltedBeams(), mixedBeams())
}

// invalidBeams break one condition each: the number of hangs, or the place or the
// weight of one of them, at the beginning, in the middle and at the end.
func invalidBeams() [][]impl.Hang {
	list := [][]impl.Hang{
		make([]impl.Hang, 13), make([]impl.Hang, 14), make([]impl.Hang, 100), sameHangs(13, 1, 1), sameHangs(13, 100, 1000), append(sameHangs(12, 1, 1), sameHangs(12, -1, 1)...), append(sameHangs(12, 1, 1), sameHangs(1, -12, 1)...),
		beamOf(hangPair{101, 1}, hangPair{-101, 1}), beamOf(hangPair{1, -1}, hangPair{-1, -1}), beamOf(hangPair{1001, 1001}), beamOf(hangPair{-101, -1}), beamOf(hangPair{101, 0}), beamOf(hangPair{0, 1001}), beamOf(hangPair{0, -1}), beamOf(hangPair{1 << 32, 1 << 32}),
	}
	for _, beam := range [][]impl.Hang{sameHangs(1, 0, 0), sameHangs(1, 100, 1000), levelBeams()[4], tiltedBeams()[12], sameHangs(12, 0, 0), sameHangs(12, -100, 1000), mixedBeams()[90]} {
		for _, i := range []int{0, len(beam) / 2, len(beam) - 1} {
			for _, place := range noPlaces {
				list = append(list, withHang(beam, i, place, beam[i].Weight), withHang(beam, i, place, 0))
			}
			for _, weight := range noHangWeights {
				list = append(list, withHang(beam, i, beam[i].Place, weight), withHang(beam, i, 0, weight))
			}
			for _, far := range []int{math.MinInt, math.MaxInt} {
				list = append(list, withHang(beam, i, far, far), withHang(beam, i, far, math.MaxInt), withHang(beam, i, math.MaxInt, far))
			}
		}
	}
	return list
}

// isBeam is what the chapter says of the hangs.
func isBeam(beam []impl.Hang) bool {
	ok := len(beam) <= 12
	for _, h := range beam {
		ok = ok && h.Place >= -100 && h.Place <= 100 && h.Weight >= 0 && h.Weight <= 1000
	}
	return ok
}

// turning goes from each hang to the middle, one place after the other, without
// the program.
func turning(beam []impl.Hang) int {
	right, left := 0, 0
	for _, h := range beam {
		for place := h.Place; place > 0; place-- {
			right += h.Weight
		}
		for place := h.Place; place < 0; place++ {
			left += h.Weight
		}
	}
	return right - left
}

// weightsOn is the sum of all weights of a beam.
func weightsOn(beam []impl.Hang) int {
	sum := 0
	for _, h := range beam {
		sum += h.Weight
	}
	return sum
}

// quotient is the valid fraction with this value, found without the program; none
// if bottom is 0.
func quotient(top int, bottom int) (impl.Fraction, bool) {
	if bottom == 0 {
		return impl.Fraction{}, false
	}
	return fractionOf(big.NewRat(int64(top), int64(bottom)))
}

// movedHangs is the beam after moving, whether it is valid or not.
func movedHangs(beam []impl.Hang, by int) []impl.Hang {
	var moved []impl.Hang
	for _, h := range beam {
		moved = append(moved, impl.Hang{Place: h.Place + by, Weight: h.Weight})
	}
	return moved
}

// gathered asks at each place of a valid beam what hangs there.
func gathered(beam []impl.Hang) []impl.Hang {
	var list []impl.Hang
	for place := -100; place <= 100; place++ {
		there := slices.DeleteFunc(slices.Clone(beam), func(h impl.Hang) bool { return h.Place != place })
		if len(there) == 0 {
			continue
		}
		sum := weightsOn(there)
		if sum > 1000 {
			return nil
		}
		list = append(list, impl.Hang{Place: place, Weight: sum})
	}
	return list
}

// guardedList returns a copy of the list with spare capacity behind it, and a test
// whether it or what is behind it has been changed. An other value and the zero
// value are behind it, so that writing any one value there would show.
func guardedList[T comparable](list []T, other T) ([]T, func() bool) {
	var zero T
	whole := append(slices.Clone(list), other, zero, other, zero)
	before := slices.Clone(whole)
	return whole[:len(list)], func() bool { return !slices.Equal(whole, before) }
}

// overwriteAll writes a value to the list and behind it.
func overwriteAll[T any](list []T, value T) {
	whole := list[:cap(list)]
	for i := range whole {
		whole[i] = value
	}
}

func checkFraction(t *testing.T, name string, beam []impl.Hang, got impl.Fraction, ok bool, want impl.Fraction, wantOk bool) {
	t.Helper()
	if got != want || ok != wantOk {
		t.Errorf("%s of %v = %v, %v; want %v, %v", name, beam, got, ok, want, wantOk)
	}
}

// checkTurning compares a valid beam with the reckoning.
func checkTurning(t *testing.T, beam []impl.Hang) {
	t.Helper()
	want := turning(beam)
	if !impl.BeamOk(beam) {
		t.Errorf("BeamOk(%v) is false", beam)
	}
	if got := impl.TorqueOf(beam); got != want {
		t.Errorf("TorqueOf(%v) = %d; want %d", beam, got, want)
	}
	if got := impl.IsLevel(beam); got != (want == 0) {
		t.Errorf("IsLevel(%v) = %v", beam, got)
	}
	center, ok := impl.CenterOf(beam)
	wantCenter, wantOk := quotient(want, weightsOn(beam))
	checkFraction(t, "CenterOf", beam, center, ok, wantCenter, wantOk)
}

// checkPlace compares the place for a further weight with the reckoning.
func checkPlace(t *testing.T, beam []impl.Hang, weight int) {
	t.Helper()
	got, ok := impl.PlaceFor(beam, weight)
	want, wantOk := quotient(-turning(beam), weight)
	checkFraction(t, "PlaceFor the weight "+impl.FormatInt(weight), beam, got, ok, want, wantOk)
}

func checkNoPlace(t *testing.T, beam []impl.Hang, weight int) {
	t.Helper()
	got, ok := impl.PlaceFor(beam, weight)
	checkFraction(t, "PlaceFor the weight "+impl.FormatInt(weight), beam, got, ok, impl.Fraction{}, false)
}

func checkShifted(t *testing.T, beam []impl.Hang, by int, want []impl.Hang) {
	t.Helper()
	if got, ok := impl.ShiftBeam(beam, by); !slices.Equal(got, want) || !ok {
		t.Errorf("ShiftBeam(%v, %d) = %v, %v; want %v, true", beam, by, got, ok, want)
	}
}

func checkNotShifted(t *testing.T, beam []impl.Hang, by int) {
	t.Helper()
	if got, ok := impl.ShiftBeam(beam, by); !slices.Equal(got, beam) || ok {
		t.Errorf("ShiftBeam(%v, %d) = %v, %v; want the beam, false", beam, by, got, ok)
	}
}

func checkMerged(t *testing.T, beam []impl.Hang, want []impl.Hang) {
	t.Helper()
	if got := impl.MergeHangs(beam); !slices.Equal(got, want) {
		t.Errorf("MergeHangs(%v) = %v; want %v", beam, got, want)
	}
}

// checkNoBeam is for hangs that are not valid.
func checkNoBeam(t *testing.T, beam []impl.Hang) {
	t.Helper()
	if impl.BeamOk(beam) {
		t.Errorf("BeamOk(%v) is true", beam)
	}
	if got := impl.TorqueOf(beam); got != 0 {
		t.Errorf("TorqueOf(%v) = %d; want 0", beam, got)
	}
	if impl.IsLevel(beam) {
		t.Errorf("IsLevel(%v) is true", beam)
	}
	center, ok := impl.CenterOf(beam)
	checkFraction(t, "CenterOf", beam, center, ok, impl.Fraction{}, false)
	for _, weight := range []int{1, 2, 7, 1000, 0, 1001} {
		checkNoPlace(t, beam, weight)
	}
	for _, by := range []int{0, 1, -1, 100, -100, 200, -200, 201, -201} {
		checkNotShifted(t, beam, by)
	}
	checkMerged(t, beam, nil)
}

// checkLevelPlaces hangs a weight at each place of the range.
func checkLevelPlaces(t *testing.T, beam []impl.Hang, weight int) {
	t.Helper()
	found, ok := impl.PlaceFor(beam, weight)
	longer := append(slices.Clone(beam), impl.Hang{})
	for place := -100; place <= 100; place++ {
		longer[len(beam)] = impl.Hang{Place: place, Weight: weight}
		want := ok && found == frac(place, 1)
		if got := impl.IsLevel(longer); got != want {
			t.Errorf("IsLevel(%v) = %v; the place for %d is %v", longer, got, weight, found)
		}
	}
}

func TestBeamOk(t *testing.T) {
	for _, beam := range someBeams() {
		if !isBeam(beam) {
			t.Fatalf("%v is not valid", beam)
		}
		if !impl.BeamOk(beam) {
			t.Errorf("BeamOk(%v) is false", beam)
		}
	}
	for count := range 20 {
		beam := sameHangs(count, 100, 1000)
		if got := impl.BeamOk(beam); got != (count <= 12) {
			t.Errorf("BeamOk with %d hangs is %v", count, got)
		}
		if got := impl.BeamOk(make([]impl.Hang, count)); got != (count <= 12) {
			t.Errorf("BeamOk with %d hangs that are zero is %v", count, got)
		}
	}
}

// TestBeamOkLimits has places and weights around their limits, at each index.
func TestBeamOkLimits(t *testing.T) {
	for _, count := range []int{1, 2, 3, 12} {
		beam := sameHangs(count, -3, 5)
		for i := range beam {
			for _, place := range append([]int{-101, -100, -99, -1, 0, 1, 99, 100, 101}, noPlaces...) {
				for _, weight := range append([]int{-1, 0, 1, 999, 1000, 1001}, noHangWeights...) {
					changed := withHang(beam, i, place, weight)
					if got, want := impl.BeamOk(changed), isBeam(changed); got != want {
						t.Errorf("BeamOk(%v) = %v; want %v", changed, got, want)
					}
				}
			}
		}
	}
	for place := -210; place <= 210; place++ {
		for _, weight := range []int{0, 1, 1000} {
			if got, want := impl.BeamOk(sameHangs(1, place, weight)), place >= -100 && place <= 100; got != want {
				t.Errorf("BeamOk with %d at %d is %v", weight, place, got)
			}
		}
	}
	for weight := -20; weight <= 1020; weight++ {
		for _, place := range []int{-100, 0, 100} {
			if got, want := impl.BeamOk(sameHangs(1, place, weight)), weight >= 0 && weight <= 1000; got != want {
				t.Errorf("BeamOk with %d at %d is %v", weight, place, got)
			}
		}
	}
}

func TestInvalidBeams(t *testing.T) {
	for _, beam := range invalidBeams() {
		if isBeam(beam) {
			t.Fatalf("%v is valid", beam)
		}
		checkNoBeam(t, beam)
	}
}

func TestTorqueOf(t *testing.T) {
	cases := []struct {
		beam []impl.Hang
		want int
	}{
		{nil, 0}, {sameHangs(1, 1, 1), 1}, {sameHangs(1, -1, 1), -1}, {sameHangs(1, 0, 1000), 0}, {sameHangs(1, 100, 0), 0}, {sameHangs(1, 3, 7), 21}, {sameHangs(2, -3, 7), -42}, {sameHangs(1, 100, 1000), 100000},
		{beamOf(hangPair{2, 3}, hangPair{-1, 4}), 2}, {beamOf(hangPair{-1, 4}, hangPair{2, 3}), 2}, {beamOf(hangPair{3, 3}, hangPair{0, 4}), 9}, {beamOf(hangPair{2, 3}, hangPair{-3, 2}), 0}, {beamOf(hangPair{100, 1000}, hangPair{-100, 999}), 100}, {beamOf(hangPair{1, 2}, hangPair{10, 3}, hangPair{-100, 4}), -368},
	}
	for _, c := range cases {
		if got := impl.TorqueOf(c.beam); got != c.want {
			t.Errorf("TorqueOf(%v) = %d; want %d", c.beam, got, c.want)
		}
		if got := impl.IsLevel(c.beam); got != (c.want == 0) {
			t.Errorf("IsLevel(%v) = %v", c.beam, got)
		}
	}
}

// TestBeamsTurn has each beam also in other orders and from the other side.
func TestBeamsTurn(t *testing.T) {
	for _, beam := range someBeams() {
		checkTurning(t, beam)
		backwards := slices.Clone(beam)
		slices.Reverse(backwards)
		checkTurning(t, backwards)
		mirrored := slices.Clone(beam)
		for i := range mirrored {
			mirrored[i].Place *= -1
		}
		checkTurning(t, mirrored)
		if got, want := impl.TorqueOf(mirrored), -impl.TorqueOf(beam); got != want || impl.TorqueOf(backwards) != -want {
			t.Errorf("TorqueOf(%v) = %d; want %d", mirrored, got, want)
		}
	}
}

// TestOneHang has every place and some weights, and some places and every weight.
func TestOneHang(t *testing.T) {
	for place := -100; place <= 100; place++ {
		for _, weight := range []int{0, 1, 2, 7, 100, 999, 1000} {
			checkTurning(t, sameHangs(1, place, weight))
		}
	}
	for weight := range 1001 {
		for _, place := range []int{-100, -99, -7, -1, 0, 1, 3, 100} {
			checkTurning(t, sameHangs(1, place, weight))
			if got := impl.TorqueOf(sameHangs(12, place, weight)); got != 12*place*weight {
				t.Errorf("TorqueOf with twelve times %d at %d is %d", weight, place, got)
			}
		}
	}
}

func TestLevelAndTilted(t *testing.T) {
	for _, beam := range slices.Concat(emptyBeams(), weightlessBeams(), levelBeams()) {
		if !impl.IsLevel(beam) || impl.TorqueOf(beam) != 0 {
			t.Errorf("%v is not level: %d", beam, impl.TorqueOf(beam))
		}
	}
	for _, beam := range tiltedBeams() {
		if impl.IsLevel(beam) || impl.TorqueOf(beam) == 0 {
			t.Errorf("%v is level: %d", beam, impl.TorqueOf(beam))
		}
	}
}

func TestEmptyBeam(t *testing.T) {
	for _, beam := range emptyBeams() {
		checkTurning(t, beam)
		if !impl.BeamOk(beam) || impl.TorqueOf(beam) != 0 || !impl.IsLevel(beam) {
			t.Errorf("the empty beam: %v, %d, %v", impl.BeamOk(beam), impl.TorqueOf(beam), impl.IsLevel(beam))
		}
		for weight := 1; weight <= 1000; weight++ {
			place, ok := impl.PlaceFor(beam, weight)
			checkFraction(t, "PlaceFor", beam, place, ok, frac(0, 1), true)
		}
		for _, weight := range noFurtherWeights {
			checkNoPlace(t, beam, weight)
		}
		center, ok := impl.CenterOf(beam)
		checkFraction(t, "CenterOf", beam, center, ok, impl.Fraction{}, false)
		for by := -200; by <= 200; by++ {
			checkShifted(t, beam, by, nil)
		}
		for _, by := range noShifts {
			checkNotShifted(t, beam, by)
		}
		checkMerged(t, beam, nil)
	}
}

func TestBeamsWithoutWeight(t *testing.T) {
	for _, beam := range weightlessBeams() {
		if impl.TorqueOf(beam) != 0 || !impl.IsLevel(beam) {
			t.Errorf("%v is not level", beam)
		}
		center, ok := impl.CenterOf(beam)
		checkFraction(t, "CenterOf", beam, center, ok, impl.Fraction{}, false)
		for weight := 1; weight <= 1000; weight++ {
			place, ok := impl.PlaceFor(beam, weight)
			checkFraction(t, "PlaceFor", beam, place, ok, frac(0, 1), true)
		}
	}
}

// TestFurtherWeights is the first half of promise 13, for every weight.
func TestFurtherWeights(t *testing.T) {
	for _, beam := range someBeams() {
		torque := turning(beam)
		for weight := 1; weight <= 1000; weight++ {
			checkPlace(t, beam, weight)
			place, ok := impl.PlaceFor(beam, weight)
			if !ok {
				continue
			}
			if !impl.FractionOk(place) {
				t.Errorf("PlaceFor(%v, %d) = %v is not valid", beam, weight, place)
			}
			if product := new(big.Rat).Mul(exact(place), big.NewRat(int64(weight), 1)); product.Cmp(big.NewRat(int64(-torque), 1)) != 0 {
				t.Errorf("%v times %d is not minus the torque %d of %v", place, weight, torque, beam)
			}
		}
		for _, weight := range noFurtherWeights {
			checkNoPlace(t, beam, weight)
		}
	}
}

// TestLevelWithFurtherWeight is the second half of promise 13: at every place and
// with many weights.
func TestLevelWithFurtherWeight(t *testing.T) {
	weights := []int{1, 2, 3, 4, 5, 6, 7, 8, 9, 10, 12, 15, 16, 20, 24, 25, 30, 50, 60, 64, 77, 80, 97, 99, 100, 101, 120, 250, 256, 500, 512, 720, 840, 998, 999, 1000}
	level := 0
	for _, beam := range someBeams() {
		if len(beam) == 12 {
			continue
		}
		for _, weight := range weights {
			checkLevelPlaces(t, beam, weight)
			if place, ok := impl.PlaceFor(beam, weight); ok && place.Bottom == 1 && place.Top >= -100 && place.Top <= 100 {
				level++
				longer := append(slices.Clone(beam), impl.Hang{Place: place.Top, Weight: weight})
				if !impl.IsLevel(longer) || impl.TorqueOf(longer) != 0 {
					t.Errorf("%v is not level", longer)
				}
			}
		}
	}
	if level < 1000 {
		t.Errorf("only %d beams became level", level)
	}
	for _, beam := range [][]impl.Hang{nil, sameHangs(1, 0, 3), sameHangs(1, 6, 10), sameHangs(1, -100, 1000), levelBeams()[9], tiltedBeams()[10], sameHangs(11, 10, 90)} {
		for weight := 1; weight <= 1000; weight++ {
			checkLevelPlaces(t, beam, weight)
		}
	}
}

// TestTwelveHangs have a place for a further weight, but no room for it.
func TestTwelveHangs(t *testing.T) {
	for _, beam := range [][]impl.Hang{sameHangs(12, 0, 5), sameHangs(12, 1, 1), append(sameHangs(11, 1, 9), sameHangs(1, -99, 1)...)} {
		for _, weight := range []int{1, 2, 3, 12} {
			checkPlace(t, beam, weight)
			place, ok := impl.PlaceFor(beam, weight)
			if !ok || place.Bottom != 1 {
				t.Errorf("PlaceFor(%v, %d) = %v, %v", beam, weight, place, ok)
			}
			checkNoBeam(t, append(slices.Clone(beam), impl.Hang{Place: place.Top, Weight: weight}))
		}
	}
}

func TestPlaceFor(t *testing.T) {
	cases := []struct {
		beam   []impl.Hang
		weight int
		want   impl.Fraction
	}{
		{beamOf(hangPair{2, 3}, hangPair{-1, 4}), 2, frac(-1, 1)}, {beamOf(hangPair{2, 3}, hangPair{-1, 4}), 1, frac(-2, 1)}, {beamOf(hangPair{2, 3}, hangPair{-1, 4}), 3, frac(-2, 3)}, {beamOf(hangPair{2, 3}, hangPair{-1, 4}), 4, frac(-1, 2)}, {beamOf(hangPair{2, 3}, hangPair{-1, 4}), 1000, frac(-1, 500)},
		{sameHangs(1, -1, 1), 1, frac(1, 1)}, {sameHangs(1, -1, 1), 1000, frac(1, 1000)}, {sameHangs(1, -100, 1000), 1, frac(100000, 1)}, {sameHangs(1, 100, 1000), 1000, frac(-100, 1)}, {sameHangs(1, 100, 1000), 999, frac(-100000, 999)}, {sameHangs(1, 0, 7), 13, frac(0, 1)}, {sameHangs(1, 100, 1), 99, frac(-100, 99)},
		{sameHangs(10, 100, 1000), 1, frac(-1000000, 1)}, {sameHangs(10, -100, 1000), 1, frac(1000000, 1)}, {sameHangs(10, 100, 1000), 3, frac(-1000000, 3)}, {sameHangs(12, 100, 1000), 2, frac(-600000, 1)}, {sameHangs(12, -100, 1000), 2, frac(600000, 1)}, {sameHangs(12, 100, 1000), 7, impl.Fraction{}}, {sameHangs(12, -100, 1000), 1000, frac(1200, 1)},
	}
	for _, c := range cases {
		got, ok := impl.PlaceFor(c.beam, c.weight)
		checkFraction(t, "PlaceFor the weight "+impl.FormatInt(c.weight), c.beam, got, ok, c.want, c.want != impl.Fraction{})
	}
}

// TestGreatestTorques has torques around the greatest term of a fraction, and the
// greatest ones of all.
func TestGreatestTorques(t *testing.T) {
	for _, side := range []int{1, -1} {
		beam := sameHangs(12, 100*side, 1000)
		if got := impl.TorqueOf(beam); got != 1200000*side {
			t.Errorf("TorqueOf(%v) = %d", beam, got)
		}
		checkNoPlace(t, beam, 1)
		place, ok := impl.PlaceFor(beam, 2)
		checkFraction(t, "PlaceFor the weight 2", beam, place, ok, frac(-600000*side, 1), true)
		center, ok := impl.CenterOf(beam)
		checkFraction(t, "CenterOf", beam, center, ok, frac(100*side, 1), true)

		full := sameHangs(10, 100*side, 1000)
		place, ok = impl.PlaceFor(full, 1)
		checkFraction(t, "PlaceFor the weight 1", full, place, ok, frac(-1000000*side, 1), true)
		above := append(full, impl.Hang{Place: side, Weight: 1})
		if got := impl.TorqueOf(above); got != 1000001*side {
			t.Errorf("TorqueOf(%v) = %d", above, got)
		}
		checkNoPlace(t, above, 1)
		checkNoPlace(t, above, 2)
		// 101 divides 1000001.
		place, ok = impl.PlaceFor(above, 101)
		checkFraction(t, "PlaceFor the weight 101", above, place, ok, frac(-9901*side, 1), true)
	}
}

func TestNoFurtherWeight(t *testing.T) {
	for _, beam := range slices.Concat(emptyBeams(), levelBeams(), tiltedBeams()) {
		for _, weight := range noFurtherWeights {
			checkNoPlace(t, beam, weight)
		}
		checkPlace(t, beam, 1)
		checkPlace(t, beam, 1000)
	}
}

func TestCenterOf(t *testing.T) {
	cases := []struct {
		beam []impl.Hang
		want impl.Fraction
	}{
		{beamOf(hangPair{2, 3}, hangPair{-1, 4}), frac(2, 7)}, {beamOf(hangPair{-2, 3}, hangPair{1, 4}), frac(-2, 7)}, {sameHangs(1, 5, 7), frac(5, 1)}, {sameHangs(12, -100, 1), frac(-100, 1)}, {sameHangs(3, 0, 9), frac(0, 1)}, {sameHangs(1, 0, 1), frac(0, 1)}, {beamOf(hangPair{2, 3}, hangPair{-3, 2}), frac(0, 1)},
		{beamOf(hangPair{1, 1}, hangPair{2, 1}), frac(3, 2)}, {beamOf(hangPair{1, 2}, hangPair{4, 4}), frac(3, 1)}, {beamOf(hangPair{100, 1000}, hangPair{-100, 999}), frac(100, 1999)}, {beamOf(hangPair{100, 0}, hangPair{6, 1}), frac(6, 1)}, {beamOf(hangPair{0, 1000}, hangPair{1, 1}), frac(1, 1001)}, {append(sameHangs(11, 0, 1000), sameHangs(1, 1, 999)...), frac(999, 11999)},
		{append(sameHangs(11, 100, 1000), sameHangs(1, 99, 1000)...), frac(1199, 12)}, {nil, impl.Fraction{}}, {sameHangs(2, 5, 0), impl.Fraction{}},
	}
	for _, c := range cases {
		got, ok := impl.CenterOf(c.beam)
		checkFraction(t, "CenterOf", c.beam, got, ok, c.want, c.want != impl.Fraction{})
	}
}

// TestCenterWithGreatTerm has centers that cannot be shortened enough.
func TestCenterWithGreatTerm(t *testing.T) {
	for _, side := range []int{1, -1} {
		for weight := 1; weight <= 1000; weight++ {
			beam := append(sameHangs(11, 100*side, 1000), impl.Hang{Place: 99 * side, Weight: weight})
			checkTurning(t, beam)
		}
		beam := append(sameHangs(11, 100*side, 1000), impl.Hang{Place: 99 * side, Weight: 999})
		if got := impl.TorqueOf(beam); got != 1198901*side {
			t.Errorf("TorqueOf(%v) = %d", beam, got)
		}
		center, ok := impl.CenterOf(beam)
		checkFraction(t, "CenterOf", beam, center, ok, impl.Fraction{}, false)
		if weightsOn(beam) != 11999 {
			t.Errorf("the weights of %v are %d", beam, weightsOn(beam))
		}
	}
}

// TestLevelAroundCenter shifts the beam so that its center comes to rest on the
// point, where it is a whole number.
func TestLevelAroundCenter(t *testing.T) {
	level := 0
	for _, beam := range someBeams() {
		center, ok := impl.CenterOf(beam)
		for by := -200; by <= 200; by++ {
			shifted, moved := impl.ShiftBeam(beam, by)
			if !moved || weightsOn(beam) == 0 {
				continue
			}
			want := ok && center == frac(-by, 1)
			if got := impl.IsLevel(shifted); got != want {
				t.Errorf("IsLevel(%v) = %v; the center was %v", shifted, got, center)
			}
			if want {
				level++
			}
		}
	}
	if level < 20 {
		t.Errorf("only %d beams became level", level)
	}
}

// TestShiftEachBeam has every shift of every beam.
func TestShiftEachBeam(t *testing.T) {
	for _, beam := range someBeams() {
		for by := -200; by <= 200; by++ {
			want := movedHangs(beam, by)
			if !isBeam(want) {
				checkNotShifted(t, beam, by)
				continue
			}
			checkShifted(t, beam, by, want)
			checkShifted(t, want, -by, beam)
			if got, torque := impl.TorqueOf(want), impl.TorqueOf(beam)+by*weightsOn(beam); got != torque {
				t.Errorf("TorqueOf(%v) = %d; want %d", want, got, torque)
			}
		}
		for _, by := range noShifts {
			checkNotShifted(t, beam, by)
		}
	}
}

func TestShiftBeam(t *testing.T) {
	beam := beamOf(hangPair{2, 3}, hangPair{-1, 4}, hangPair{2, 0})
	checkShifted(t, beam, 0, beam)
	checkShifted(t, beam, 1, beamOf(hangPair{3, 3}, hangPair{0, 4}, hangPair{3, 0}))
	checkShifted(t, beam, -1, beamOf(hangPair{1, 3}, hangPair{-2, 4}, hangPair{1, 0}))
	checkShifted(t, beam, 98, beamOf(hangPair{100, 3}, hangPair{97, 4}, hangPair{100, 0}))
	checkShifted(t, beam, -99, beamOf(hangPair{-97, 3}, hangPair{-100, 4}, hangPair{-97, 0}))
	for _, by := range []int{99, 100, 101, -100, -101, -102, 199, -199, 200, -200, 201, -201} {
		checkNotShifted(t, beam, by)
	}
	checkShifted(t, sameHangs(12, -100, 1000), 200, sameHangs(12, 100, 1000))
	checkShifted(t, sameHangs(12, 100, 1000), -200, sameHangs(12, -100, 1000))
	checkNotShifted(t, sameHangs(12, -100, 1000), 201)
	checkNotShifted(t, sameHangs(12, 100, 1000), -201)
	checkNotShifted(t, sameHangs(12, -99, 1000), 200)
	checkNotShifted(t, sameHangs(12, 99, 1000), -200)
	checkNotShifted(t, sameHangs(1, -100, 5), -1)
	checkNotShifted(t, sameHangs(1, 100, 5), 1)
}

// TestShiftOneTooFar has one hang that would be moved out of the range, at each
// index, heavy or without weight.
func TestShiftOneTooFar(t *testing.T) {
	for _, count := range []int{1, 2, 3, 12} {
		for i := range count {
			for _, weight := range []int{0, 1, 1000} {
				right, left := withHang(sameHangs(count, 0, 4), i, 60, weight), withHang(sameHangs(count, 0, 4), i, -60, weight)
				checkShifted(t, right, 40, movedHangs(right, 40))
				checkShifted(t, left, -40, movedHangs(left, -40))
				checkNotShifted(t, right, 41)
				checkNotShifted(t, left, -41)
			}
		}
	}
}

func TestMergeHangs(t *testing.T) {
	checkMerged(t, beamOf(hangPair{2, 3}, hangPair{-1, 4}, hangPair{2, 1}), beamOf(hangPair{-1, 4}, hangPair{2, 4}))
	checkMerged(t, beamOf(hangPair{9, 2}, hangPair{5, 1}, hangPair{9, 3}, hangPair{5, 4}, hangPair{-9, 1}), beamOf(hangPair{-9, 1}, hangPair{5, 5}, hangPair{9, 5}))
	checkMerged(t, beamOf(hangPair{1, 1}), beamOf(hangPair{1, 1}))
	checkMerged(t, beamOf(hangPair{-3, 1}, hangPair{0, 2}, hangPair{3, 1}), beamOf(hangPair{-3, 1}, hangPair{0, 2}, hangPair{3, 1}))
	checkMerged(t, beamOf(hangPair{3, 1}, hangPair{0, 2}, hangPair{-3, 1}), beamOf(hangPair{-3, 1}, hangPair{0, 2}, hangPair{3, 1}))
	checkMerged(t, beamOf(hangPair{-10, 1}, hangPair{-2, 2}, hangPair{-10, 3}), beamOf(hangPair{-10, 4}, hangPair{-2, 2}))
	checkMerged(t, beamOf(hangPair{100, 1}, hangPair{-100, 2}), beamOf(hangPair{-100, 2}, hangPair{100, 1}))
}

// TestMergeWithoutWeight keeps hangs of the weight 0, alone and beside others.
func TestMergeWithoutWeight(t *testing.T) {
	checkMerged(t, sameHangs(1, 0, 0), sameHangs(1, 0, 0))
	checkMerged(t, sameHangs(12, 100, 0), sameHangs(1, 100, 0))
	checkMerged(t, beamOf(hangPair{5, 0}, hangPair{-3, 0}, hangPair{5, 0}, hangPair{0, 0}), beamOf(hangPair{-3, 0}, hangPair{0, 0}, hangPair{5, 0}))
	checkMerged(t, beamOf(hangPair{5, 0}, hangPair{5, 7}, hangPair{4, 0}), beamOf(hangPair{4, 0}, hangPair{5, 7}))
	checkMerged(t, beamOf(hangPair{5, 7}, hangPair{4, 0}, hangPair{5, 0}), beamOf(hangPair{4, 0}, hangPair{5, 7}))
	checkMerged(t, beamOf(hangPair{1, 1000}, hangPair{1, 0}), beamOf(hangPair{1, 1000}))
}

// TestMergeLimit has sums of 1000 and 1001 at one place: of two hangs, of many,
// and beside others.
func TestMergeLimit(t *testing.T) {
	for _, place := range []int{-100, -1, 0, 1, 100} {
		for first := range 1001 {
			checkMerged(t, beamOf(hangPair{place, first}, hangPair{place, 1000 - first}), sameHangs(1, place, 1000))
			if first > 0 {
				checkMerged(t, beamOf(hangPair{place, first}, hangPair{place, 1001 - first}), nil)
			}
		}
		for count := 2; count <= 12; count++ {
			whole := append(sameHangs(count-1, place, 1), impl.Hang{Place: place, Weight: 1001 - count})
			checkMerged(t, whole, sameHangs(1, place, 1000))
			checkMerged(t, withHang(whole, count-1, place, 1002-count), nil)
			checkMerged(t, withHang(whole, 0, place, 2), nil)
		}
		checkMerged(t, sameHangs(12, place, 83), sameHangs(1, place, 996))
		checkMerged(t, sameHangs(12, place, 84), nil)
		checkMerged(t, sameHangs(12, place, 1000), nil)
	}
	checkMerged(t, beamOf(hangPair{-7, 600}, hangPair{8, 1000}, hangPair{-7, 400}, hangPair{9, 1000}), beamOf(hangPair{-7, 1000}, hangPair{8, 1000}, hangPair{9, 1000}))
	checkMerged(t, beamOf(hangPair{-7, 600}, hangPair{8, 1000}, hangPair{-7, 401}, hangPair{9, 1000}), nil)
	checkMerged(t, beamOf(hangPair{8, 600}, hangPair{-7, 10}, hangPair{8, 401}, hangPair{9, 1000}), nil)
	checkMerged(t, beamOf(hangPair{9, 600}, hangPair{-7, 10}, hangPair{8, 401}, hangPair{9, 401}), nil)
}

// TestMergeEachBeam also turns the list of hangs around, so that it begins at
// each of them.
func TestMergeEachBeam(t *testing.T) {
	merged, refused := 0, 0
	for _, beam := range someBeams() {
		want := gathered(beam)
		for i := range beam {
			checkMerged(t, append(slices.Clone(beam[i:]), beam[:i]...), want)
		}
		got := impl.MergeHangs(beam)
		if !slices.Equal(got, want) {
			t.Errorf("MergeHangs(%v) = %v; want %v", beam, got, want)
		}
		if len(want) == 0 {
			refused++
			continue
		}
		merged++
		checkTurning(t, got)
		if impl.TorqueOf(got) != impl.TorqueOf(beam) || weightsOn(got) != weightsOn(beam) {
			t.Errorf("MergeHangs(%v) = %v: the torque or the weight changed", beam, got)
		}
		for i := 1; i < len(got); i++ {
			if got[i].Place <= got[i-1].Place {
				t.Errorf("MergeHangs(%v) = %v: not in ascending order", beam, got)
			}
		}
		checkMerged(t, got, got)
	}
	if merged < 100 || refused < 20 {
		t.Errorf("%d beams merged and %d not", merged, refused)
	}
}

// TestMergeAllOrders has all orders of a few hangs.
func TestMergeAllOrders(t *testing.T) {
	want := beamOf(hangPair{-4, 3}, hangPair{0, 9}, hangPair{6, 0})
	var tryAll func(before []impl.Hang, rest []impl.Hang)
	tryAll = func(before []impl.Hang, rest []impl.Hang) {
		if len(rest) == 0 {
			checkMerged(t, before, want)
		}
		for i, h := range rest {
			tryAll(append(slices.Clone(before), h), slices.Concat(rest[:i], rest[i+1:]))
		}
	}
	tryAll(nil, beamOf(hangPair{-4, 1}, hangPair{-4, 2}, hangPair{0, 4}, hangPair{0, 5}, hangPair{6, 0}, hangPair{0, 0}))
}

// TestLeversChangeNothing calls the functions with valid and invalid beams that
// have spare capacity.
func TestLeversChangeNothing(t *testing.T) {
	for _, beam := range append(someBeams(), invalidBeams()...) {
		given, changed := guardedList(beam, noHang)
		impl.BeamOk(given)
		impl.TorqueOf(given)
		impl.IsLevel(given)
		impl.CenterOf(given)
		impl.MergeHangs(given)
		for _, n := range []int{-201, -200, -100, -1, 0, 1, 2, 100, 200, 201, 1000, 1001, math.MinInt, math.MaxInt} {
			impl.PlaceFor(given, n)
			impl.ShiftBeam(given, n)
		}
		if changed() {
			t.Errorf("the argument %v was changed to %v", beam, given)
		}
	}
}

// checkNewMemory writes to one answer, appends to another one and writes behind it,
// and looks at a third one, at the argument and at an answer that comes after;
// then it writes to the argument. It writes a value that is in none of them.
func checkNewMemory[T comparable](t *testing.T, name string, list []T, other T, answer func([]T) []T) {
	t.Helper()
	given, changed := guardedList(list, other)
	first, second, third := answer(given), answer(given), answer(given)
	want := slices.Clone(third)
	overwriteAll(first, other)
	if !slices.Equal(second, want) || !slices.Equal(third, want) || changed() {
		t.Fatalf("%s of %v shares memory: %v and %v; want %v", name, list, second, third, want)
	}
	overwriteAll(append(second, make([]T, 3)...)[len(want):], other)
	if got := answer(given); !slices.Equal(second, want) || !slices.Equal(third, want) || !slices.Equal(got, want) || changed() {
		t.Fatalf("%s of %v keeps memory: %v, %v and %v; want %v", name, list, second, third, got, want)
	}
	overwriteAll(given, other)
	if !slices.Equal(second, want) || !slices.Equal(third, want) {
		t.Fatalf("%s of %v shares memory with its argument: %v; want %v", name, list, third, want)
	}
}

// TestLeverAnswersAreNew has shifts that succeed, that move a hang too far, and
// that are not in the range.
func TestLeverAnswersAreNew(t *testing.T) {
	for _, beam := range append(someBeams(), invalidBeams()...) {
		checkNewMemory(t, "MergeHangs", beam, noHang, impl.MergeHangs)
		for _, by := range []int{0, 1, -1, 5, 100, -100, 200, -200, 201, -201, math.MinInt, math.MaxInt} {
			checkNewMemory(t, "ShiftBeam", beam, noHang, func(given []impl.Hang) []impl.Hang {
				shifted, _ := impl.ShiftBeam(given, by)
				return shifted
			})
		}
	}
}

// A leverAnswer is what the program said of a beam and a number.
type leverAnswer struct {
	ok, level, hasPlace, hasCenter, isShifted bool
	torque                                    int
	place, center                             impl.Fraction
	shifted, merged                           []impl.Hang
}

func leverAnswerTo(beam []impl.Hang, n int) leverAnswer {
	var a leverAnswer
	a.ok, a.level, a.torque, a.merged = impl.BeamOk(beam), impl.IsLevel(beam), impl.TorqueOf(beam), impl.MergeHangs(beam)
	a.place, a.hasPlace = impl.PlaceFor(beam, n)
	a.center, a.hasCenter = impl.CenterOf(beam)
	a.shifted, a.isShifted = impl.ShiftBeam(beam, n)
	return a
}

func (a leverAnswer) isSame(b leverAnswer) bool {
	flags := a.ok == b.ok && a.level == b.level && a.hasPlace == b.hasPlace && a.hasCenter == b.hasCenter && a.isShifted == b.isShifted
	numbers := a.torque == b.torque && a.place == b.place && a.center == b.center
	return flags && numbers && slices.Equal(a.shifted, b.shifted) && slices.Equal(a.merged, b.merged)
}

// A leverQuestion is a beam and a number, and what the program said of them.
type leverQuestion struct {
	beam []impl.Hang
	n    int
	want leverAnswer
}

// leverQuestions has beams that are valid and some that are not.
func leverQuestions() []leverQuestion {
	var list []leverQuestion
	for _, beam := range append(someBeams(), invalidBeams()[:60]...) {
		for _, n := range []int{-201, -20, 0, 1, 3, 60, 201, 1001} {
			list = append(list, leverQuestion{beam, n, leverAnswerTo(beam, n)})
		}
	}
	return list
}

// TestLeversOneAfterAnother asks again in the other order, so that something that
// was kept would show.
func TestLeversOneAfterAnother(t *testing.T) {
	list := leverQuestions()
	for range 3 {
		slices.Reverse(list)
		for _, q := range list {
			if got := leverAnswerTo(q.beam, q.n); !got.isSame(q.want) {
				t.Errorf("of %v and %d, the answer is no more %v, but %v", q.beam, q.n, q.want, got)
			}
		}
	}
}

// TestLeversBesideOneAnother has many callers at the same time, with the same
// beams.
func TestLeversBesideOneAnother(t *testing.T) {
	list := leverQuestions()
	var callers sync.WaitGroup
	for caller := range 16 {
		callers.Go(func() {
			for i := range list {
				q := list[(i+caller*31)%len(list)]
				if got := leverAnswerTo(q.beam, q.n); !got.isSame(q.want) {
					t.Errorf("beside others, of %v and %d, the answer is not %v, but %v", q.beam, q.n, q.want, got)
				}
			}
		})
	}
	callers.Wait()
}
