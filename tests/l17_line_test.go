package tests

import (
	"math/big"
	"slices"
	"testing"

	"loop.example/g00992/impl"
)

// noLine is what stands beside false.
var noLine = impl.Line{}

// sameLine shows every value as it is.
var sameLine = lineOf(frac(0, 1), frac(1, 1))

func lineOf(zero impl.Fraction, unit impl.Fraction) impl.Line {
	return impl.Line{Zero: zero, Unit: unit}
}

// A step is the first thing on the way to an answer that does not exist; allThere if
// everything does.
type step int

const (
	allThere step = iota
	productMissing
	sumMissing
	differenceMissing
	quotientMissing
	valuesEqual
	valuesMissing
	shownMissing
	unitMissing
	zeroMissing
	unitNotPositive
)

func someZeros() []impl.Fraction {
	return []impl.Fraction{
		frac(-1000000, 1), frac(-999999, 1), frac(-5, 2), frac(-1, 1), frac(-999999, 1000000), frac(-1, 3), frac(-1, 1000000),
		frac(0, 1),
		frac(1, 1000000), frac(1, 2), frac(2, 3), frac(1, 1), frac(1000000, 999999), frac(355, 113), frac(7, 1), frac(100, 1), frac(500000, 1), frac(999999, 1), frac(1000000, 1),
	}
}

// someUnits are less than 1, 1, and greater than 1.
func someUnits() []impl.Fraction {
	return []impl.Fraction{
		frac(1, 1000000), frac(1, 999999), frac(1, 1000), frac(1, 3), frac(1, 2), frac(2, 3), frac(99, 100), frac(999999, 1000000),
		frac(1, 1),
		frac(1000000, 999999), frac(101, 100), frac(3, 2), frac(2, 1), frac(7, 3), frac(10, 1), frac(1000, 1), frac(500000, 1), frac(999999, 1), frac(1000000, 1),
	}
}

func linesOf(zeros []impl.Fraction, units []impl.Fraction) []impl.Line {
	var list []impl.Line
	for _, zero := range zeros {
		for _, unit := range units {
			list = append(list, lineOf(zero, unit))
		}
	}
	return list
}

// someLines have each kind of zero with each kind of unit; some more have great
// terms in both.
func someLines() []impl.Line {
	list := linesOf(someZeros(), someUnits())
	next := mixer(17)
	for len(list) < 450 {
		zero, zeroOk := fractionOf(big.NewRat(int64(next(60000)-30000), int64(next(900)+1)))
		unit, unitOk := fractionOf(big.NewRat(int64(next(5000)+1), int64(next(5000)+1)))
		if zeroOk && unitOk {
			list = append(list, lineOf(zero, unit))
		}
	}
	return list
}

// fewLines are for many others beside each of them.
func fewLines() []impl.Line {
	list := linesOf(
		[]impl.Fraction{frac(-1000000, 1), frac(-7, 3), frac(0, 1), frac(1, 1000000), frac(5, 2), frac(1000000, 1)},
		[]impl.Fraction{frac(1, 1000000), frac(1, 2), frac(999999, 1000000), frac(1, 1), frac(3, 2), frac(1000, 1), frac(1000000, 1)})
	for i, l := range someLines() {
		if i%9 == 4 {
			list = append(list, l)
		}
	}
	return list
}

func someValues() []impl.Fraction {
	list := append(validFractions(), frac(4, 9), frac(-9, 4), frac(1000, 1), frac(-1000, 1), frac(999, 1000), frac(113, 355), frac(-500000, 1), frac(333333, 2), frac(3, 333333), frac(500000, 7), frac(-999999, 1000))
	next := mixer(71)
	for range 40 {
		if f, ok := fractionOf(big.NewRat(int64(next(4000)-2000), int64(next(60)+1))); ok {
			list = append(list, f)
		}
	}
	return slices.DeleteFunc(list, func(f impl.Fraction) bool { return !isReading(f) })
}

// fewValues are for many others beside each of them.
func fewValues() []impl.Fraction {
	return []impl.Fraction{
		frac(-1000000, 1), frac(-500001, 1), frac(-600000, 1), frac(-2, 1), frac(-1, 2), frac(-1, 1000000), frac(0, 1), frac(1, 1000000), frac(1, 999999), frac(1, 1001),
		frac(1, 2), frac(2, 3), frac(999999, 1000000), frac(1, 1), frac(3, 1), frac(1000, 1), frac(1001, 1), frac(500000, 1), frac(500001, 1), frac(600000, 1), frac(999999, 1), frac(1000000, 1),
	}
}

// noFractions are not valid; many have the value of one that is.
func noFractions() []impl.Fraction {
	return append(noPlaceFractions(), frac(8, 4), frac(-8, 4), frac(12, 18), frac(3, -2), frac(-3, -2), frac(0, -2), frac(1000002, 2), frac(2, 1000002), frac(-1000002, 1000001))
}

// notPositive are valid fractions that are no unit.
func notPositive() []impl.Fraction {
	return []impl.Fraction{frac(0, 1), frac(-1, 1), frac(-1, 2), frac(-3, 2), frac(-2, 1), frac(-1, 1000000), frac(-1000000, 1), frac(-999999, 1000000), frac(-1000000, 999999)}
}

// invalidLines have a Zero that is not valid, a Unit that is not valid or not
// positive, or both.
func invalidLines() []impl.Line {
	units := append(noFractions(), notPositive()...)
	return slices.Concat(
		[]impl.Line{noLine},
		linesOf(noFractions(), []impl.Fraction{frac(1, 1), frac(1, 2), frac(2, 1), frac(1000000, 1), frac(1, 1000000)}),
		linesOf([]impl.Fraction{frac(0, 1), frac(1, 1), frac(-5, 2), frac(1000000, 1), frac(-1, 1000000)}, units),
		linesOf(slices.Concat(noFractions()[:30], []impl.Fraction{none}), units[len(units)-40:]),
	)
}

func isLine(l impl.Line) bool {
	return isReading(l.Zero) && isReading(l.Unit) && l.Unit.Top > 0
}

// The reckonings below are for valid lines and fractions, and without the program.

func reckonedShown(l impl.Line, value impl.Fraction) (impl.Fraction, step) {
	product := new(big.Rat).Mul(exact(l.Unit), exact(value))
	if _, ok := fractionOf(product); !ok {
		return none, productMissing
	}
	sum, ok := fractionOf(product.Add(product, exact(l.Zero)))
	if !ok {
		return none, sumMissing
	}
	return sum, allThere
}

func reckonedCorrected(l impl.Line, shown impl.Fraction) (impl.Fraction, step) {
	difference := new(big.Rat).Sub(exact(shown), exact(l.Zero))
	if _, ok := fractionOf(difference); !ok {
		return none, differenceMissing
	}
	quotient, ok := fractionOf(difference.Quo(difference, exact(l.Unit)))
	if !ok {
		return none, quotientMissing
	}
	return quotient, allThere
}

// The points of a line are two values, and what it shows for each.
type points struct{ v1, s1, v2, s2 impl.Fraction }

func (p points) turned() points {
	return points{p.v2, p.s2, p.v1, p.s1}
}

func reckonedLine(p points) (impl.Line, step) {
	values := new(big.Rat).Sub(exact(p.v2), exact(p.v1))
	if values.Sign() == 0 {
		return noLine, valuesEqual
	}
	if _, ok := fractionOf(values); !ok {
		return noLine, valuesMissing
	}
	shown := new(big.Rat).Sub(exact(p.s2), exact(p.s1))
	if _, ok := fractionOf(shown); !ok {
		return noLine, shownMissing
	}
	ratio := new(big.Rat).Quo(shown, values)
	unit, ok := fractionOf(ratio)
	if !ok {
		return noLine, unitMissing
	}
	product := new(big.Rat).Mul(ratio, exact(p.v1))
	if _, ok := fractionOf(product); !ok {
		return noLine, productMissing
	}
	zero, ok := fractionOf(new(big.Rat).Sub(exact(p.s1), product))
	if !ok {
		return noLine, zeroMissing
	}
	if ratio.Sign() <= 0 {
		return noLine, unitNotPositive
	}
	return lineOf(zero, unit), allThere
}

// wouldBeLine tells whether the line through two points at different values is valid,
// whatever does not exist on the way.
func wouldBeLine(p points) bool {
	ratio := new(big.Rat).Quo(new(big.Rat).Sub(exact(p.s2), exact(p.s1)), new(big.Rat).Sub(exact(p.v2), exact(p.v1)))
	_, unitOk := fractionOf(ratio)
	zero := new(big.Rat).Sub(exact(p.s1), new(big.Rat).Mul(ratio, exact(p.v1)))
	_, zeroOk := fractionOf(zero)
	return unitOk && zeroOk && ratio.Sign() > 0
}

func reckonedChain(a impl.Line, b impl.Line) (impl.Line, step) {
	unit, ok := fractionOf(new(big.Rat).Mul(exact(a.Unit), exact(b.Unit)))
	if !ok {
		return noLine, unitMissing
	}
	zero, missing := reckonedShown(b, a.Zero)
	if missing != allThere {
		return noLine, missing
	}
	return lineOf(zero, unit), allThere
}

func checkLineOk(t *testing.T, l impl.Line, want bool) {
	t.Helper()
	if got := impl.LineOk(l); got != want {
		t.Errorf("LineOk(%v) = %v", l, got)
	}
}

func checkShown(t *testing.T, l impl.Line, value impl.Fraction, want impl.Fraction, wantOk bool) {
	t.Helper()
	if got, ok := impl.Shown(l, value); got != want || ok != wantOk {
		t.Errorf("Shown(%v, %v) = %v, %v; want %v, %v", l, value, got, ok, want, wantOk)
	}
}

func checkCorrected(t *testing.T, l impl.Line, shown impl.Fraction, want impl.Fraction, wantOk bool) {
	t.Helper()
	if got, ok := impl.Corrected(l, shown); got != want || ok != wantOk {
		t.Errorf("Corrected(%v, %v) = %v, %v; want %v, %v", l, shown, got, ok, want, wantOk)
	}
}

func checkThrough(t *testing.T, p points, want impl.Line, wantOk bool) {
	t.Helper()
	if got, ok := impl.LineThrough(p.v1, p.s1, p.v2, p.s2); got != want || ok != wantOk {
		t.Errorf("LineThrough(%v, %v, %v, %v) = %v, %v; want %v, %v", p.v1, p.s1, p.v2, p.s2, got, ok, want, wantOk)
	}
}

func checkChain(t *testing.T, a impl.Line, b impl.Line, want impl.Line, wantOk bool) {
	t.Helper()
	if got, ok := impl.ChainLines(a, b); got != want || ok != wantOk {
		t.Errorf("ChainLines(%v, %v) = %v, %v; want %v, %v", a, b, got, ok, want, wantOk)
	}
}

func TestLineOkByHand(t *testing.T) {
	cases := []struct {
		l    impl.Line
		want bool
	}{
		{noLine, false}, {sameLine, true}, {lineOf(frac(1, 2), frac(2, 1)), true}, {lineOf(frac(-1, 2), frac(1, 2)), true},
		{lineOf(frac(0, 1), frac(0, 1)), false}, {lineOf(frac(1, 1), frac(0, 1)), false}, {lineOf(frac(0, 1), frac(-1, 1)), false}, {lineOf(frac(-1, 1), frac(-1, 1)), false}, {lineOf(frac(0, 1), frac(-1, 1000000)), false}, {lineOf(frac(0, 1), frac(-1000000, 1)), false},
		{lineOf(frac(0, 1), frac(1, 1000000)), true}, {lineOf(frac(0, 1), frac(1000000, 1)), true}, {lineOf(frac(1000000, 1), frac(1000000, 1)), true}, {lineOf(frac(-1000000, 1), frac(1, 1000000)), true}, {lineOf(frac(-1, 1000000), frac(999999, 1000000)), true},
		{lineOf(frac(0, 1), frac(1000001, 1)), false}, {lineOf(frac(0, 1), frac(1, 1000001)), false}, {lineOf(frac(1000001, 1), frac(1, 1)), false}, {lineOf(frac(-1000001, 1), frac(1, 1)), false}, {lineOf(frac(1, 1000001), frac(1, 1)), false},
		{lineOf(frac(2, 4), frac(1, 1)), false}, {lineOf(frac(1, 1), frac(2, 4)), false}, {lineOf(frac(2, 4), frac(2, 4)), false}, {lineOf(frac(0, 2), frac(1, 1)), false}, {lineOf(frac(0, 1), frac(2, 2)), false},
		{lineOf(frac(0, 0), frac(1, 1)), false}, {lineOf(frac(0, 1), frac(1, 0)), false}, {lineOf(frac(0, -1), frac(1, 1)), false}, {lineOf(frac(0, 1), frac(1, -1)), false}, {lineOf(frac(0, 1), frac(-1, -1)), false},
	}
	for _, c := range cases {
		checkLineOk(t, c.l, c.want)
	}
}

func TestLineOkTogether(t *testing.T) {
	list := slices.Concat(validFractions(), noFractions())
	for _, l := range linesOf(list, list) {
		checkLineOk(t, l, isLine(l))
	}
	for _, l := range someLines() {
		if !isLine(l) {
			t.Fatalf("%v is not valid", l)
		}
		checkLineOk(t, l, true)
	}
}

// A shownCase is what a line shows for a value, or the step that is missing; would is
// for a sum that is a valid fraction, although the product is not.
type shownCase struct {
	l           impl.Line
	value, want impl.Fraction
	missing     step
	would       bool
}

func shownCases() []shownCase {
	twice := lineOf(frac(1, 2), frac(2, 1))
	return []shownCase{
		{twice, frac(3, 1), frac(13, 2), allThere, false}, {twice, frac(0, 1), frac(1, 2), allThere, false}, {twice, frac(-1, 4), frac(0, 1), allThere, false}, {twice, frac(-3, 1), frac(-11, 2), allThere, false},
		{sameLine, frac(0, 1), frac(0, 1), allThere, false}, {sameLine, frac(-7, 3), frac(-7, 3), allThere, false}, {sameLine, frac(1000000, 1), frac(1000000, 1), allThere, false}, {sameLine, frac(-1, 1000000), frac(-1, 1000000), allThere, false},
		{lineOf(frac(-1, 3), frac(1, 2)), frac(5, 3), frac(1, 2), allThere, false}, {lineOf(frac(-1, 3), frac(2, 3)), frac(1, 2), frac(0, 1), allThere, false}, {lineOf(frac(5, 6), frac(1, 3)), frac(1, 2), frac(1, 1), allThere, false},
		// A term is exactly the greatest.
		{lineOf(frac(0, 1), frac(1000, 1)), frac(1000, 1), frac(1000000, 1), allThere, false}, {lineOf(frac(0, 1), frac(1000, 1)), frac(-1000, 1), frac(-1000000, 1), allThere, false}, {lineOf(frac(1, 1), frac(1, 1)), frac(999999, 1), frac(1000000, 1), allThere, false}, {lineOf(frac(-1, 1), frac(3, 1)), frac(-333333, 1), frac(-1000000, 1), allThere, false},
		{lineOf(frac(0, 1), frac(1, 1000)), frac(1, 1000), frac(1, 1000000), allThere, false}, {lineOf(frac(1, 2), frac(1, 1000000)), frac(1, 1), frac(500001, 1000000), allThere, false}, {lineOf(frac(1000000, 1), frac(1000000, 1)), frac(0, 1), frac(1000000, 1), allThere, false}, {lineOf(frac(-1000000, 1), frac(1000000, 1)), frac(1, 1), frac(0, 1), allThere, false}, {lineOf(frac(1000000, 1), frac(1000000, 1)), frac(-1, 1), frac(0, 1), allThere, false}, {lineOf(frac(0, 1), frac(1, 1000000)), frac(1000000, 1), frac(1, 1), allThere, false}, {lineOf(frac(999999, 1), frac(1, 1000000)), frac(1000000, 1), frac(1000000, 1), allThere, false},
		// The product does not exist.
		{lineOf(frac(0, 1), frac(2, 1)), frac(500001, 1), none, productMissing, false}, {lineOf(frac(0, 1), frac(1001, 1)), frac(1000, 1), none, productMissing, false}, {lineOf(frac(0, 1), frac(1, 1001)), frac(1, 1000), none, productMissing, false}, {lineOf(frac(0, 1), frac(1, 2)), frac(1, 1000000), none, productMissing, false}, {lineOf(frac(1000000, 1), frac(1000000, 1)), frac(1000000, 1), none, productMissing, false}, {lineOf(frac(-1000000, 1), frac(1000000, 1)), frac(3, 1), none, productMissing, false},
		// The sum is a fraction all the same.
		{lineOf(frac(-1000000, 1), frac(2, 1)), frac(1000000, 1), none, productMissing, true}, {lineOf(frac(1000000, 1), frac(2, 1)), frac(-1000000, 1), none, productMissing, true}, {lineOf(frac(-2, 1), frac(2, 1)), frac(500001, 1), none, productMissing, true}, {lineOf(frac(2, 1), frac(2, 1)), frac(-500001, 1), none, productMissing, true}, {lineOf(frac(-1000000, 1), frac(1000000, 1)), frac(2, 1), none, productMissing, true}, {lineOf(frac(1, 143000), frac(1, 1001)), frac(1, 1000), none, productMissing, true}, {lineOf(frac(1, 143000), frac(1, 1000)), frac(1, 1001), none, productMissing, true},
		// Only the sum does not exist.
		{lineOf(frac(1, 1), frac(1, 1)), frac(1000000, 1), none, sumMissing, false}, {lineOf(frac(-1, 1), frac(1, 1)), frac(-1000000, 1), none, sumMissing, false}, {lineOf(frac(1000000, 1), frac(1, 1000000)), frac(1, 1), none, sumMissing, false}, {lineOf(frac(1, 1000), frac(1, 1)), frac(1, 1001), none, sumMissing, false}, {lineOf(frac(1000000, 1), frac(1000000, 1)), frac(1, 1), none, sumMissing, false}, {lineOf(frac(1, 2), frac(1, 1)), frac(1000000, 1), none, sumMissing, false}, {lineOf(frac(-1, 1000000), frac(1, 1)), frac(1, 999999), none, sumMissing, false}, {lineOf(frac(999999, 1000000), frac(2, 3)), frac(1, 2), none, sumMissing, false},
	}
}

func TestShownByHand(t *testing.T) {
	for _, c := range shownCases() {
		checkShown(t, c.l, c.value, c.want, c.want != none)
		if _, missing := reckonedShown(c.l, c.value); missing != c.missing {
			t.Errorf("of %v and %v, the step %d is missing, not %d", c.l, c.value, missing, c.missing)
		}
		if _, would := exactlyShown(c.l, c.value); would != (c.would || c.missing == allThere) {
			t.Errorf("of %v and %v, the sum alone is a fraction: %v", c.l, c.value, would)
		}
	}
}

// exactlyShown is what would be shown, whether or not the product exists.
func exactlyShown(l impl.Line, value impl.Fraction) (impl.Fraction, bool) {
	return fractionOf(new(big.Rat).Add(exact(l.Zero), new(big.Rat).Mul(exact(l.Unit), exact(value))))
}

// exactlyCorrected is what would be the value, whether or not the difference exists.
func exactlyCorrected(l impl.Line, shown impl.Fraction) (impl.Fraction, bool) {
	return fractionOf(new(big.Rat).Quo(new(big.Rat).Sub(exact(shown), exact(l.Zero)), exact(l.Unit)))
}

func correctedCases() []shownCase {
	twice := lineOf(frac(1, 2), frac(2, 1))
	return []shownCase{
		{twice, frac(13, 2), frac(3, 1), allThere, false}, {twice, frac(1, 2), frac(0, 1), allThere, false}, {twice, frac(0, 1), frac(-1, 4), allThere, false}, {twice, frac(-11, 2), frac(-3, 1), allThere, false},
		{sameLine, frac(0, 1), frac(0, 1), allThere, false}, {sameLine, frac(-7, 3), frac(-7, 3), allThere, false}, {sameLine, frac(1000000, 1), frac(1000000, 1), allThere, false}, {sameLine, frac(-1, 1000000), frac(-1, 1000000), allThere, false},
		{lineOf(frac(-1, 3), frac(1, 2)), frac(1, 2), frac(5, 3), allThere, false}, {lineOf(frac(-1, 3), frac(2, 3)), frac(0, 1), frac(1, 2), allThere, false}, {lineOf(frac(5, 6), frac(1, 3)), frac(1, 1), frac(1, 2), allThere, false},
		// A term is exactly the greatest.
		{lineOf(frac(0, 1), frac(1, 1000)), frac(1000, 1), frac(1000000, 1), allThere, false}, {lineOf(frac(0, 1), frac(1, 1000000)), frac(-1, 1), frac(-1000000, 1), allThere, false}, {lineOf(frac(0, 1), frac(1000, 1)), frac(1, 1000), frac(1, 1000000), allThere, false}, {lineOf(frac(0, 1), frac(1000000, 1)), frac(1000000, 1), frac(1, 1), allThere, false}, {lineOf(frac(-999999, 1), frac(1, 1)), frac(1, 1), frac(1000000, 1), allThere, false}, {lineOf(frac(1000000, 1), frac(1, 1000000)), frac(1000000, 1), frac(0, 1), allThere, false}, {lineOf(frac(1000000, 1), frac(1000000, 1)), frac(0, 1), frac(-1, 1), allThere, false}, {lineOf(frac(1, 2), frac(1, 1)), frac(500001, 1000000), frac(1, 1000000), allThere, false}, {lineOf(frac(-1, 1), frac(1000, 1)), frac(999999, 1), frac(1000, 1), allThere, false}, {lineOf(frac(0, 1), frac(1000000, 999999)), frac(999998, 999999), frac(499999, 500000), allThere, false},
		// The difference does not exist.
		{lineOf(frac(-1, 1), frac(1, 1)), frac(1000000, 1), none, differenceMissing, false}, {lineOf(frac(1, 1), frac(1, 1)), frac(-1000000, 1), none, differenceMissing, false}, {lineOf(frac(1, 1000), frac(1, 1)), frac(1, 1001), none, differenceMissing, false}, {lineOf(frac(1000000, 1), frac(1, 2)), frac(-1000000, 1), none, differenceMissing, false}, {lineOf(frac(1, 2), frac(1, 1)), frac(1000000, 1), none, differenceMissing, false},
		// The quotient is a fraction all the same.
		{lineOf(frac(-1000000, 1), frac(2, 1)), frac(1000000, 1), none, differenceMissing, true}, {lineOf(frac(1000000, 1), frac(2, 1)), frac(-1000000, 1), none, differenceMissing, true}, {lineOf(frac(-1000, 1), frac(1000, 1)), frac(1000000, 1), none, differenceMissing, true}, {lineOf(frac(-1, 1), frac(101, 1)), frac(1000000, 1), none, differenceMissing, true}, {lineOf(frac(1, 1001), frac(1, 1001)), frac(1, 1000), none, differenceMissing, true}, {lineOf(frac(-1000000, 1), frac(1000000, 1)), frac(1000000, 1), none, differenceMissing, true},
		// Only the quotient does not exist.
		{lineOf(frac(0, 1), frac(1, 2)), frac(500001, 1), none, quotientMissing, false}, {lineOf(frac(0, 1), frac(1, 2)), frac(-1000000, 1), none, quotientMissing, false}, {lineOf(frac(0, 1), frac(2, 1)), frac(1, 1000000), none, quotientMissing, false}, {lineOf(frac(0, 1), frac(1001, 1)), frac(1, 1000), none, quotientMissing, false}, {lineOf(frac(-1, 1), frac(1, 1000000)), frac(1, 1), none, quotientMissing, false}, {lineOf(frac(1, 2), frac(1000000, 1)), frac(1, 1), none, quotientMissing, false}, {lineOf(frac(0, 1), frac(1000000, 999999)), frac(999999, 1000000), none, quotientMissing, false},
	}
}

func TestCorrectedByHand(t *testing.T) {
	for _, c := range correctedCases() {
		checkCorrected(t, c.l, c.value, c.want, c.want != none)
		if _, missing := reckonedCorrected(c.l, c.value); missing != c.missing {
			t.Errorf("of %v and %v, the step %d is missing, not %d", c.l, c.value, missing, c.missing)
		}
		if _, would := exactlyCorrected(c.l, c.value); would != (c.would || c.missing == allThere) {
			t.Errorf("of %v and %v, the quotient alone is a fraction: %v", c.l, c.value, would)
		}
	}
}

// lineKind tells whether the Zero is negative, 0 or positive, and whether the Unit is
// less than 1, 1 or greater than 1.
func lineKind(l impl.Line) [2]int {
	return [2]int{exact(l.Zero).Sign(), exact(l.Unit).Cmp(big.NewRat(1, 1))}
}

// TestShownCanBeCorrected has many lines and values; what is shown leads back.
func TestShownCanBeCorrected(t *testing.T) {
	counts := map[step]int{}
	kinds := map[[2]int]int{}
	would, lasts := 0, 0
	for _, l := range someLines() {
		for _, value := range someValues() {
			shown, missing := reckonedShown(l, value)
			checkShown(t, l, value, shown, missing == allThere)
			counts[missing]++
			if missing == allThere {
				checkCorrected(t, l, shown, value, true)
				kinds[lineKind(l)]++
			}
			if _, ok := exactlyShown(l, value); ok && missing == productMissing {
				would++
			}
			if isLastFraction(shown) {
				lasts++
			}
		}
	}
	if len(kinds) != 9 {
		t.Errorf("only %d of 9 kinds of lines", len(kinds))
	}
	for kind, count := range kinds {
		if count < 100 {
			t.Errorf("only %d values for lines of the kind %v", count, kind)
		}
	}
	if min(counts[allThere], counts[productMissing], counts[sumMissing]) < 5000 || would < 50 || lasts < 300 {
		t.Errorf("missing steps %v; %d products missing where the sum is a fraction; %d with the greatest term", counts, would, lasts)
	}
}

// TestCorrectedIsExact has many numbers that are shown, also some that the line shows
// for no value.
func TestCorrectedIsExact(t *testing.T) {
	counts := map[step]int{}
	would, lasts := 0, 0
	for _, l := range someLines() {
		for _, shown := range someValues() {
			value, missing := reckonedCorrected(l, shown)
			checkCorrected(t, l, shown, value, missing == allThere)
			counts[missing]++
			if missing == allThere {
				checkShown(t, l, value, shown, true)
			}
			if _, ok := exactlyCorrected(l, shown); ok && missing == differenceMissing {
				would++
			}
			if isLastFraction(value) {
				lasts++
			}
		}
	}
	if min(counts[allThere], counts[differenceMissing], counts[quotientMissing]) < 5000 || would < 50 || lasts < 300 {
		t.Errorf("missing steps %v; %d differences missing where the quotient is a fraction; %d with the greatest term", counts, would, lasts)
	}
}

// pointsOn are points of a line at some of the values, the others at another start.
func pointsOn(l impl.Line, start int) []points {
	var values, shown []impl.Fraction
	for i, value := range someValues() {
		if s, missing := reckonedShown(l, value); missing == allThere && (i+start)%4 == 0 {
			values, shown = append(values, value), append(shown, s)
		}
	}
	var list []points
	for i := range values {
		for k := range values {
			list = append(list, points{values[i], shown[i], values[k], shown[k]})
		}
	}
	return list
}

// checkDetermined is for two points of a line. It returns what is missing.
func checkDetermined(t *testing.T, l impl.Line, p points) step {
	t.Helper()
	want, missing := reckonedLine(p)
	checkThrough(t, p, want, missing == allThere)
	switch missing {
	case allThere:
		if want != l {
			t.Errorf("%v are points of %v, not of %v", p, l, want)
		}
		checkThrough(t, p.turned(), l, true)
	case valuesEqual, valuesMissing, shownMissing:
		checkThrough(t, p.turned(), noLine, false)
	default:
		t.Errorf("of %v, the step %d is missing, although they are points of %v", p, missing, l)
	}
	return missing
}

// TestTwoPointsDetermine has any two points of many lines, in either order.
func TestTwoPointsDetermine(t *testing.T) {
	counts := map[step]int{}
	kinds := map[[2]int]int{}
	for i, l := range someLines() {
		for _, p := range pointsOn(l, i) {
			missing := checkDetermined(t, l, p)
			counts[missing]++
			if missing == allThere {
				kinds[lineKind(l)]++
			}
		}
	}
	if len(kinds) != 9 {
		t.Errorf("only %d of 9 kinds of lines", len(kinds))
	}
	for kind, count := range kinds {
		if count < 500 {
			t.Errorf("only %d points of lines of the kind %v", count, kind)
		}
	}
	if counts[allThere] < 50000 || min(counts[valuesEqual], counts[valuesMissing], counts[shownMissing]) < 1000 {
		t.Errorf("missing steps %v", counts)
	}
}

// A throughCase is the line through points, or what is missing; would is for points
// whose line is valid, although something on the way does not exist.
type throughCase struct {
	p       points
	want    impl.Line
	missing step
	would   bool
}

func whole(v1 int, s1 int, v2 int, s2 int) points {
	return points{frac(v1, 1), frac(s1, 1), frac(v2, 1), frac(s2, 1)}
}

func throughCases() []throughCase {
	return []throughCase{
		{points{frac(0, 1), frac(1, 2), frac(1, 1), frac(5, 2)}, lineOf(frac(1, 2), frac(2, 1)), allThere, false},
		{points{frac(1, 1), frac(5, 2), frac(0, 1), frac(1, 2)}, lineOf(frac(1, 2), frac(2, 1)), allThere, false},
		{points{frac(-1, 2), frac(-1, 3), frac(1, 2), frac(1, 3)}, lineOf(frac(0, 1), frac(2, 3)), allThere, false},
		{points{frac(1, 3), frac(1, 2), frac(5, 6), frac(1, 1)}, lineOf(frac(1, 6), frac(1, 1)), allThere, false},
		{whole(0, 0, 1, 1), sameLine, allThere, false}, {whole(-3, -3, 7, 7), sameLine, allThere, false}, {whole(0, 0, 1, 1000000), lineOf(frac(0, 1), frac(1000000, 1)), allThere, false}, {whole(0, 0, 1000000, 1), lineOf(frac(0, 1), frac(1, 1000000)), allThere, false}, {whole(1000000, 1000000, 999999, 999999), sameLine, allThere, false}, {whole(0, -1000000, 1, -999999), lineOf(frac(-1000000, 1), frac(1, 1)), allThere, false}, {whole(-500000, -500000, 500000, 500000), sameLine, allThere, false}, {whole(1, 1000000, 0, 999999), lineOf(frac(999999, 1), frac(1, 1)), allThere, false}, {whole(-1, 999999, 0, 1000000), lineOf(frac(1000000, 1), frac(1, 1)), allThere, false}, {whole(-1, 0, -2, -1000000), lineOf(frac(1000000, 1), frac(1000000, 1)), allThere, false}, {points{frac(1, 2), frac(1000000, 1), frac(0, 1), frac(999999, 1)}, lineOf(frac(999999, 1), frac(2, 1)), allThere, false},
		// The values are equal.
		{whole(0, 0, 0, 0), noLine, valuesEqual, false}, {whole(0, 0, 0, 1), noLine, valuesEqual, false}, {whole(0, 1, 0, 0), noLine, valuesEqual, false}, {whole(1, 1, 1, 1), noLine, valuesEqual, false}, {whole(-3, 5, -3, 7), noLine, valuesEqual, false}, {whole(1000000, 1000000, 1000000, 1000000), noLine, valuesEqual, false}, {whole(1000000, -1000000, 1000000, 1000000), noLine, valuesEqual, false}, {points{frac(1, 2), frac(1, 2), frac(1, 2), frac(1, 2)}, noLine, valuesEqual, false}, {points{frac(1, 2), frac(1, 3), frac(1, 2), frac(1, 4)}, noLine, valuesEqual, false},
		// The same is shown, or less.
		{whole(0, 0, 1, 0), noLine, unitNotPositive, false}, {whole(1, 0, 0, 0), noLine, unitNotPositive, false}, {whole(2, 7, 5, 7), noLine, unitNotPositive, false}, {whole(-2, -7, 5, -7), noLine, unitNotPositive, false}, {whole(0, 1000000, 1000000, 1000000), noLine, unitNotPositive, false},
		{whole(0, 1, 1, 0), noLine, unitNotPositive, false}, {whole(1, 0, 0, 1), noLine, unitNotPositive, false}, {whole(-1, 1, 1, -1), noLine, unitNotPositive, false}, {whole(2, 7, 3, 6), noLine, unitNotPositive, false}, {points{frac(1, 2), frac(1, 2), frac(1, 3), frac(2, 3)}, noLine, unitNotPositive, false}, {whole(0, 1000000, 1, 0), noLine, unitNotPositive, false}, {whole(0, 1, 1000000, 0), noLine, unitNotPositive, false},
		// The difference of the values is the first that does not exist.
		{whole(-600000, -1, 600000, 1), noLine, valuesMissing, true}, {whole(600000, 1, -600000, -1), noLine, valuesMissing, true}, {whole(-1, -1, 1000000, 1000000), noLine, valuesMissing, true}, {whole(-1000000, -1000000, 1000000, 1000000), noLine, valuesMissing, true}, {whole(-600000, 0, 600000, 1), noLine, valuesMissing, false}, {points{frac(1, 1000), frac(1, 1000), frac(1, 1001), frac(1, 1001)}, noLine, valuesMissing, true}, {points{frac(1, 2), frac(0, 1), frac(1000000, 1), frac(1, 1)}, noLine, valuesMissing, false}, {whole(-600000, 5, 600000, 5), noLine, valuesMissing, false},
		// The difference of what is shown is.
		{whole(0, -600000, 2, 600000), noLine, shownMissing, true}, {whole(2, 600000, 0, -600000), noLine, shownMissing, true}, {whole(0, -1, 1000000, 1000000), noLine, shownMissing, false}, {whole(0, -1000000, 1000000, 1000000), noLine, shownMissing, true}, {whole(0, -1000000, 4, 1000000), noLine, shownMissing, true}, {points{frac(0, 1), frac(1, 1001), frac(1, 1001), frac(1, 1000)}, noLine, shownMissing, true}, {whole(0, 600000, 2, -600000), noLine, shownMissing, false}, {points{frac(1, 1), frac(1, 2), frac(2, 1), frac(1000000, 1)}, noLine, shownMissing, false},
		// Unit is.
		{points{frac(0, 1), frac(0, 1), frac(1, 2), frac(1000000, 1)}, noLine, unitMissing, false}, {points{frac(0, 1), frac(0, 1), frac(1000000, 1), frac(1, 2)}, noLine, unitMissing, false}, {points{frac(0, 1), frac(0, 1), frac(1000, 1), frac(1, 1001)}, noLine, unitMissing, false}, {points{frac(1, 2), frac(1000000, 1), frac(0, 1), frac(0, 1)}, noLine, unitMissing, false}, {points{frac(0, 1), frac(0, 1), frac(-1, 2), frac(1000000, 1)}, noLine, unitMissing, false}, {points{frac(0, 1), frac(5, 1), frac(1, 1000000), frac(7, 1)}, noLine, unitMissing, false},
		// Unit times the first value is.
		{whole(1000000, 1000000, 999999, 999998), noLine, productMissing, true}, {whole(500001, 2, 500000, 0), noLine, productMissing, true}, {whole(-500001, -2, -500000, 0), noLine, productMissing, true}, {whole(2, 0, 3, 1000000), noLine, productMissing, false}, {whole(1001, 0, 1002, 1000), noLine, productMissing, false}, {whole(1001, 1000, 1002, 2000), noLine, productMissing, true}, {whole(500001, 0, 500000, 2), noLine, productMissing, false},
		// Zero is.
		{whole(-1, 1000000, -2, 999999), noLine, zeroMissing, false}, {whole(1, -1000000, 2, -999999), noLine, zeroMissing, false}, {points{frac(1, 1000), frac(1, 1001), frac(1001, 1000), frac(1002, 1001)}, noLine, zeroMissing, false}, {whole(1, 1000000, 2, 999999), noLine, zeroMissing, false}, {whole(-1, 1, -2, -999999), noLine, zeroMissing, false},
	}
}

func TestLineThroughByHand(t *testing.T) {
	for _, c := range throughCases() {
		checkThrough(t, c.p, c.want, c.want != noLine)
		if _, missing := reckonedLine(c.p); missing != c.missing {
			t.Errorf("of %v, the step %d is missing, not %d", c.p, missing, c.missing)
		}
		if c.missing != valuesEqual && wouldBeLine(c.p) != (c.would || c.missing == allThere) {
			t.Errorf("%v would be points of a line: %v", c.p, !c.would)
		}
	}
}

// TestOnlyOneOrder has points at whose second value the product does not exist, so
// that they determine the line in one order only.
func TestOnlyOneOrder(t *testing.T) {
	cases := []struct {
		p    points
		want impl.Line
	}{
		{whole(500000, 0, 500001, 2), lineOf(frac(-1000000, 1), frac(2, 1))},
		{whole(-500000, 0, -500001, -2), lineOf(frac(1000000, 1), frac(2, 1))},
		{whole(1000, 0, 1001, 1000), lineOf(frac(-1000000, 1), frac(1000, 1))},
		{whole(1, 0, 2, 1000000), lineOf(frac(-1000000, 1), frac(1000000, 1))},
	}
	for _, c := range cases {
		checkThrough(t, c.p, c.want, true)
		checkThrough(t, c.p.turned(), noLine, false)
	}
}

// TestAnyFourFractions has points that are mostly on no line; each step is the first
// that is missing of many of them.
func TestAnyFourFractions(t *testing.T) {
	counts := map[step]int{}
	would := map[step]int{}
	for _, v1 := range fewValues() {
		for _, s1 := range fewValues() {
			for _, v2 := range fewValues() {
				for _, s2 := range fewValues() {
					p := points{v1, s1, v2, s2}
					want, missing := reckonedLine(p)
					checkThrough(t, p, want, missing == allThere)
					counts[missing]++
					if missing != allThere && missing != valuesEqual && wouldBeLine(p) {
						would[missing]++
					}
				}
			}
		}
	}
	for _, missing := range []step{allThere, valuesEqual, valuesMissing, shownMissing, unitMissing, productMissing, zeroMissing, unitNotPositive} {
		if counts[missing] < 500 {
			t.Errorf("the step %d is missing of %d points only", missing, counts[missing])
		}
	}
	if min(would[valuesMissing], would[shownMissing], would[productMissing]) < 20 {
		t.Errorf("points that would be on a line: %v", would)
	}
}

// A chainCase is the line of b that reads a, or what is missing.
type chainCase struct {
	a, b, want impl.Line
	missing    step
}

func chainCases() []chainCase {
	twice := lineOf(frac(1, 2), frac(2, 1))
	thrice := lineOf(frac(-1, 1), frac(3, 1))
	thousand := lineOf(frac(0, 1), frac(1000, 1))
	return []chainCase{
		{twice, twice, lineOf(frac(3, 2), frac(4, 1)), allThere}, {twice, thrice, lineOf(frac(1, 2), frac(6, 1)), allThere}, {thrice, twice, lineOf(frac(-3, 2), frac(6, 1)), allThere}, {thrice, thrice, lineOf(frac(-4, 1), frac(9, 1)), allThere},
		{sameLine, sameLine, sameLine, allThere}, {sameLine, twice, twice, allThere}, {twice, sameLine, twice, allThere}, {lineOf(frac(0, 1), frac(2, 3)), lineOf(frac(0, 1), frac(3, 2)), sameLine, allThere}, {lineOf(frac(-1, 2), frac(1, 2)), lineOf(frac(1, 1), frac(2, 1)), sameLine, allThere},
		{thousand, thousand, lineOf(frac(0, 1), frac(1000000, 1)), allThere}, {lineOf(frac(1, 1), frac(1, 1000)), lineOf(frac(0, 1), frac(1, 1000)), lineOf(frac(1, 1000), frac(1, 1000000)), allThere}, {lineOf(frac(1000, 1), frac(1000000, 1)), lineOf(frac(-1000, 1), frac(1, 1000000)), lineOf(frac(-999999, 1000), frac(1, 1)), allThere}, {lineOf(frac(500000, 1), frac(1, 1)), lineOf(frac(500000, 1), frac(1, 1)), lineOf(frac(1000000, 1), frac(1, 1)), allThere},
		// The product of the Units does not exist.
		{lineOf(frac(0, 1), frac(1001, 1)), thousand, noLine, unitMissing}, {thousand, lineOf(frac(0, 1), frac(1001, 1)), noLine, unitMissing}, {lineOf(frac(0, 1), frac(1, 1001)), lineOf(frac(0, 1), frac(1, 1000)), noLine, unitMissing}, {lineOf(frac(0, 1), frac(1000000, 1)), lineOf(frac(0, 1), frac(1000000, 1)), noLine, unitMissing}, {lineOf(frac(5, 1), frac(500001, 1)), twice, noLine, unitMissing}, {lineOf(frac(0, 1), frac(1, 1000000)), lineOf(frac(7, 1), frac(1, 2)), noLine, unitMissing},
		// b does not show the Zero of a: the product does not exist, with or without a sum.
		{lineOf(frac(500001, 1), frac(1, 1)), lineOf(frac(0, 1), frac(2, 1)), noLine, productMissing}, {lineOf(frac(1000000, 1), frac(1, 1)), lineOf(frac(-1000000, 1), frac(2, 1)), noLine, productMissing}, {lineOf(frac(-500001, 1), frac(1, 2)), lineOf(frac(2, 1), frac(2, 1)), noLine, productMissing}, {lineOf(frac(1, 1001), frac(1, 1)), lineOf(frac(0, 1), frac(1, 1000)), noLine, productMissing},
		// The product exists, the sum does not.
		{lineOf(frac(1, 1), frac(1, 1)), lineOf(frac(1000000, 1), frac(1, 1)), noLine, sumMissing}, {lineOf(frac(1000000, 1), frac(1, 1)), lineOf(frac(1, 1), frac(1, 1)), noLine, sumMissing}, {lineOf(frac(500001, 1), frac(1, 2)), lineOf(frac(500001, 1), frac(1, 1)), noLine, sumMissing}, {lineOf(frac(1, 1000), frac(2, 1)), lineOf(frac(1, 1001), frac(1, 1)), noLine, sumMissing}, {lineOf(frac(-1000000, 1), frac(1, 1)), lineOf(frac(-1, 1000000), frac(1, 1000000)), noLine, sumMissing},
	}
}

func TestChainByHand(t *testing.T) {
	for _, c := range chainCases() {
		want, missing := reckonedChain(c.a, c.b)
		if missing != c.missing || want != c.want {
			t.Errorf("of %v and %v, the chain is %v, and the step %d is missing", c.a, c.b, want, missing)
		}
		checkChain(t, c.a, c.b, c.want, c.want != noLine)
	}
}

// TestSameLineChangesNothing chains with the line that shows every value as it is, on
// either side, and every line with itself.
func TestSameLineChangesNothing(t *testing.T) {
	own := 0
	for _, l := range someLines() {
		checkChain(t, l, sameLine, l, true)
		checkChain(t, sameLine, l, l, true)
		want, missing := reckonedChain(l, l)
		checkChain(t, l, l, want, missing == allThere)
		if missing == allThere {
			own++
		}
	}
	if own < 60 {
		t.Errorf("only %d lines can be chained with themselves", own)
	}
}

// checkReadThrough is for a chain of a and b: it shows what b shows for what a shows.
// It returns for how many values all of these exist.
func checkReadThrough(t *testing.T, a impl.Line, b impl.Line, chain impl.Line) int {
	t.Helper()
	count := 0
	for _, value := range fewValues() {
		first, firstOk := impl.Shown(a, value)
		second, secondOk := impl.Shown(b, first)
		once, onceOk := impl.Shown(chain, value)
		if !firstOk || !secondOk || !onceOk {
			continue
		}
		count++
		if once != second {
			t.Errorf("for %v, %v shows %v, not %v like %v after %v", value, chain, once, second, b, a)
		}
	}
	return count
}

// TestChainShowsTheSame has each two of many lines.
func TestChainShowsTheSame(t *testing.T) {
	counts := map[step]int{}
	shown := 0
	for _, a := range fewLines() {
		for _, b := range fewLines() {
			want, missing := reckonedChain(a, b)
			checkChain(t, a, b, want, missing == allThere)
			counts[missing]++
			if missing == allThere {
				checkLineOk(t, want, true)
				shown += checkReadThrough(t, a, b, want)
			}
		}
	}
	if min(counts[allThere], counts[unitMissing], counts[productMissing], counts[sumMissing]) < 200 || shown < 10000 {
		t.Errorf("missing steps %v; %d values shown", counts, shown)
	}
}

// TestInvalidLines has valid numbers beside lines that are not valid, and some that
// are not valid either.
func TestInvalidLines(t *testing.T) {
	numbers := slices.Concat([]impl.Fraction{none, frac(0, 1), frac(1, 1), frac(-5, 2), frac(2, 1), frac(1000000, 1), frac(1, 1000000), frac(2, 4)}, notPositive())
	others := slices.Concat([]impl.Line{sameLine, lineOf(frac(1, 2), frac(2, 1)), lineOf(frac(-1, 3), frac(1, 2))}, invalidLines()[:40], linesOf([]impl.Fraction{frac(0, 1), frac(5, 2)}, notPositive()))
	for _, l := range invalidLines() {
		if isLine(l) {
			t.Fatalf("%v is valid", l)
		}
		checkLineOk(t, l, false)
		for _, number := range append(numbers, l.Zero, l.Unit) {
			checkShown(t, l, number, none, false)
			checkCorrected(t, l, number, none, false)
		}
		for _, other := range append(others, l) {
			checkChain(t, l, other, noLine, false)
			checkChain(t, other, l, noLine, false)
		}
	}
}

// TestInvalidNumbers has valid lines, and numbers that are not valid.
func TestInvalidNumbers(t *testing.T) {
	for _, number := range noFractions() {
		if isReading(number) {
			t.Fatalf("%v is valid", number)
		}
		for _, l := range append(fewLines(), sameLine) {
			checkShown(t, l, number, none, false)
			checkCorrected(t, l, number, none, false)
		}
	}
}

// placedAt returns the points with a number in place of one of theirs.
func (p points) placedAt(place int, number impl.Fraction) points {
	*[]*impl.Fraction{&p.v1, &p.s1, &p.v2, &p.s2}[place] = number
	return p
}

// TestInvalidPoints has one number that is not valid, two, and four. Many have the
// value of one that would be valid.
func TestInvalidPoints(t *testing.T) {
	list := []points{whole(0, 0, 1, 1), whole(0, 1, 1, 3), {frac(-1, 2), frac(-1, 3), frac(1, 2), frac(1, 3)}, whole(3, 7, -2, -5), whole(7, 7, 7, 7), whole(0, 0, 0, 5)}
	for _, p := range list {
		for _, number := range noFractions() {
			for place := range 4 {
				checkThrough(t, p.placedAt(place, number), noLine, false)
				for other := range place {
					checkThrough(t, p.placedAt(place, number).placedAt(other, number), noLine, false)
					checkThrough(t, p.placedAt(place, number).placedAt(other, none), noLine, false)
					checkThrough(t, p.placedAt(place, frac(1000001, 1)).placedAt(other, number), noLine, false)
				}
			}
		}
	}
	for i, number := range noFractions() {
		others := noFractions()
		checkThrough(t, points{number, number, number, number}, noLine, false)
		checkThrough(t, points{number, others[(i+1)%len(others)], others[(i+2)%len(others)], others[(i+3)%len(others)]}, noLine, false)
	}
}

// TestNotShortenedPoints has points that would determine a line if their terms were
// shortened first.
func TestNotShortenedPoints(t *testing.T) {
	p := points{frac(1, 2), frac(1, 3), frac(3, 2), frac(4, 3)}
	checkThrough(t, p, lineOf(frac(-1, 6), frac(1, 1)), true)
	for place, number := range []impl.Fraction{frac(2, 4), frac(2, 6), frac(6, 4), frac(8, 6)} {
		checkThrough(t, p.placedAt(place, number), noLine, false)
	}
	for place, number := range []impl.Fraction{frac(-1, -2), frac(-1, -3), frac(-3, -2), frac(-4, -3)} {
		checkThrough(t, p.placedAt(place, number), noLine, false)
	}
}

// A lineQuestion is what the functions of the chapter are asked.
type lineQuestion struct {
	a, b   impl.Line
	number impl.Fraction
	p      points
}

// A lineAnswer is what the program says to it.
type lineAnswer struct {
	ok, hasShown, hasCorrected, hasLine, hasChain bool
	shown, corrected                              impl.Fraction
	line, chain                                   impl.Line
}

func lineAnswerTo(q lineQuestion) lineAnswer {
	var a lineAnswer
	a.ok = impl.LineOk(q.a)
	a.shown, a.hasShown = impl.Shown(q.a, q.number)
	a.corrected, a.hasCorrected = impl.Corrected(q.a, q.number)
	a.line, a.hasLine = impl.LineThrough(q.p.v1, q.p.s1, q.p.v2, q.p.s2)
	a.chain, a.hasChain = impl.ChainLines(q.a, q.b)
	return a
}

// lineQuestions are valid ones and some that are not.
func lineQuestions() []lineQuestion {
	lines := append(someLines(), invalidLines()[:120]...)
	numbers := append(someValues(), noFractions()[:40]...)
	var list []lineQuestion
	for i, a := range lines {
		for k := range 4 {
			var four [4]impl.Fraction
			for place := range four {
				four[place] = numbers[(7*i+11*k+13*place*place+place)%len(numbers)]
			}
			list = append(list, lineQuestion{a, lines[(5*i+k)%len(lines)], numbers[(3*i+17*k)%len(numbers)], points{four[0], four[1], four[2], four[3]}})
		}
	}
	return list
}

func TestLinesAnswerTheSame(t *testing.T) {
	checkSameAgain(t, lineQuestions(), lineAnswerTo)
}
