package tests

import (
	"math"
	"slices"
	"testing"

	"loop.example/g00992/impl"
)

// A circle is a length with the marks on it, valid or not.
type circle struct {
	n     int
	marks []int
}

// noCircles are lengths that no circle has, among them some that wrap around to
// small ones.
var noCircles = []int{
	0, -1, 61, -2, 62, 63, 100, 120, -3, -7, -60, -61, 1 << 32, 1<<32 + 1, 1<<32 + 7, 1<<32 + 60, -1 << 32, -1<<32 + 7,
	math.MinInt, math.MinInt + 1, math.MinInt + 7, math.MaxInt - 1, math.MaxInt,
}

// farPlaces are marks that no circle has, at whatever place.
var farPlaces = []int{
	-1, 60, -2, 61, 62, 100, -60, -61, 1 << 32, 1<<32 + 1, 1<<32 + 59, -1 << 32, -1<<32 + 1, 1<<63 - 60, -1<<63 + 60,
	math.MinInt, math.MinInt + 1, math.MinInt + 7, math.MaxInt - 1, math.MaxInt,
}

// noSetSizes are numbers of marks for which no difference set is asked.
var noSetSizes = []int{
	1, 7, 0, -1, 8, 9, 60, 61, -2, -3, -6, 1 << 32, 1<<32 + 2, 1<<32 + 3, 1<<32 + 6, -1 << 32, -1<<32 + 3,
	math.MinInt, math.MinInt + 1, math.MinInt + 3, math.MaxInt - 1, math.MaxInt,
}

// knownSets measure every arc once; those on 21 and 57 have a prime factor 3 in
// their length.
func knownSets() []circle {
	return []circle{
		{3, []int{0, 1}}, {3, []int{0, 2}}, {3, []int{1, 2}}, {7, []int{0, 1, 3}}, {7, []int{0, 1, 5}}, {7, []int{1, 2, 4}}, {7, []int{0, 4, 6}},
		{13, []int{0, 1, 3, 9}}, {13, []int{0, 1, 4, 6}}, {13, []int{0, 1, 5, 11}}, {13, []int{1, 5, 6, 8}},
		{21, []int{0, 1, 4, 14, 16}}, {21, []int{0, 1, 6, 8, 18}}, {21, []int{3, 6, 7, 12, 14}},
		{31, []int{0, 1, 3, 8, 12, 18}}, {31, []int{1, 5, 11, 24, 25, 27}}, {57, []int{0, 1, 3, 13, 32, 36, 43, 52}},
	}
}

// noSets are valid, but measure some arc twice or not at all. Many of them have
// as many marks as a set that measures each once, or arcs that occur at most once.
func noSets() []circle {
	list := []circle{
		{1, []int{0}}, {2, []int{0}}, {2, []int{1}}, {3, []int{0}}, {3, []int{2}}, {7, []int{0}}, {60, []int{59}}, {2, []int{0, 1}}, {3, []int{0, 1, 2}}, {4, []int{0, 1}}, {4, []int{0, 2}},
		{4, []int{0, 1, 2}}, {5, []int{0, 1, 2}}, {6, []int{0, 1, 3}}, {7, []int{0, 1, 2}}, {7, []int{0, 1, 6}}, {7, []int{0, 2, 4}}, {7, []int{0, 1, 2, 4}}, {7, []int{0, 1, 3, 4}}, {8, []int{0, 1, 3}}, {9, []int{0, 1, 3}},
		{6, []int{0, 2, 4}}, {12, []int{0, 1, 4, 6}}, {12, []int{0, 3, 6, 9}}, {13, []int{0, 1, 3, 8}}, {13, []int{0, 1, 2, 4}}, {13, []int{0, 1, 3}}, {13, []int{9, 10, 11, 12}}, {14, []int{0, 1, 3, 9}}, {11, []int{1, 3, 4, 5, 9}},
		{20, []int{0, 1, 4, 14, 16}}, {21, []int{0, 1, 4, 14, 17}}, {21, []int{0, 1, 3, 7, 12}}, {21, []int{0, 1, 4, 14}}, {21, []int{0, 1, 4, 14, 16, 20}}, {22, []int{0, 1, 4, 14, 16}}, {15, []int{0, 1, 2, 4, 5, 8, 10}},
		{30, []int{0, 1, 3, 8, 12, 18}}, {31, []int{0, 1, 3, 8, 12, 19}}, {31, []int{0, 1, 2, 3, 4, 5}}, {32, []int{0, 1, 3, 8, 12, 18}}, {43, []int{0, 1, 3, 13, 32, 36, 42}}, {43, []int{0, 1, 4, 10, 18, 23, 25}},
		{56, []int{0, 1, 3, 13, 32, 36, 43, 52}}, {57, []int{0, 1, 3, 13, 32, 36, 43, 53}}, {57, []int{0, 1, 3, 13, 32, 36, 43}}, {58, []int{0, 1, 3, 13, 32, 36, 43, 52}}, {60, []int{0, 1, 3, 13, 32, 36, 43, 52}},
		{8, []int{0, 1, 2, 3, 4, 5, 6, 7}}, {60, []int{0, 30}}, {60, []int{0, 59}}, {60, []int{0, 20, 40}}, {60, []int{0, 12, 24, 36, 48}}, {60, []int{52, 53, 54, 55, 56, 57, 58, 59}}, {60, []int{0, 1, 2, 3, 4, 5, 6, 59}},
	}
	for _, c := range knownSets() {
		last := len(c.marks) - 1
		list = append(list, circle{c.n, c.marks[:last]}, circle{c.n + 1, c.marks})
	}
	return list
}

// allCircles are all sets of at most eight marks.
func allCircles(n int) []circle {
	var list []circle
	for choice := 1; choice < 1<<n; choice++ {
		var marks []int
		for mark := range n {
			if choice>>mark&1 == 1 {
				marks = append(marks, mark)
			}
		}
		if len(marks) <= 8 {
			list = append(list, circle{n, marks})
		}
	}
	return list
}

// mixedCircles are some with the length n: one for each number of marks with the
// first and the last place, and some of any kind.
func mixedCircles(n int) []circle {
	var list []circle
	for count := 2; count <= min(n, 8); count++ {
		marks := []int{0}
		for mark := n - count + 1; mark < n; mark++ {
			marks = append(marks, mark)
		}
		list = append(list, circle{n, marks})
	}
	// Each step follows from the one before, so that it is the same in every run.
	step := n
	for range 60 {
		step = (step*1103 + 12345) % 65537
		places := make([]bool, n)
		for range 1 + step%8 {
			step = (step*1103 + 12345) % 65537
			places[step%n] = true
		}
		list = append(list, circle{n, marked(places)})
	}
	return list
}

// someCircles have all lengths up to 60.
func someCircles() []circle {
	list := append(knownSets(), noSets()...)
	for n := 1; n <= 60; n++ {
		list = append(list, mixedCircles(n)...)
	}
	return list
}

// fewCircles are for tests that call much for each of them.
func fewCircles() []circle {
	return slices.Concat(knownSets(), noSets(), allCircles(5), mixedCircles(24), mixedCircles(60))
}

// invalidCircles break one condition each: the length, the number of the marks,
// the first or the last mark, or the order, at the beginning, in the middle and
// at the end.
func invalidCircles() []circle {
	list := []circle{
		{1, nil}, {1, []int{}}, {7, nil}, {7, []int{}}, {60, nil}, {60, make([]int, 0, 8)}, {0, nil}, {-1, nil}, {61, nil}, {math.MinInt, nil}, {math.MaxInt, nil},
		{60, []int{0, 1, 2, 3, 4, 5, 6, 7, 8}}, {9, []int{0, 1, 2, 3, 4, 5, 6, 7, 8}}, {8, []int{0, 1, 2, 3, 4, 5, 6, 7, 8}}, {60, []int{51, 52, 53, 54, 55, 56, 57, 58, 59}}, {57, []int{0, 1, 3, 13, 32, 36, 43, 52, 56}},
		{1, make([]int, 2)}, {60, make([]int, 8)}, {60, make([]int, 9)}, {60, make([]int, 60)}, {1, []int{1}}, {1, []int{-1}}, {1, []int{0, 1}}, {1, []int{-1, 0}}, {2, []int{2}}, {2, []int{0, 2}}, {2, []int{0, 1, 2}},
		{3, []int{0, 3}}, {3, []int{-1, 0}}, {3, []int{-1, 1}}, {3, []int{3, 4}}, {3, []int{-2, -1}}, {7, []int{-1, 0, 2}}, {7, []int{1, 3, 7}}, {7, []int{0, 1, 10}}, {7, []int{-7, 1, 3}}, {3, []int{0, 1, 3}}, {60, []int{60}}, {60, []int{0, 60}}, {60, []int{-1}}, {60, []int{-1, 59}},
		{7, []int{0, 0}}, {7, []int{0, 0, 1, 3}}, {7, []int{0, 0, 3}}, {7, []int{0, 1, 1}}, {7, []int{0, 1, 1, 3}}, {7, []int{0, 1, 3, 3}}, {7, []int{6, 6}}, {60, []int{59, 59}}, {60, []int{0, 59, 59}}, {60, []int{0, 0, 59}}, {13, []int{0, 1, 3, 9, 9}},
		{7, []int{1, 0}}, {7, []int{1, 0, 3}}, {7, []int{0, 3, 1}}, {7, []int{3, 1, 0}}, {7, []int{3, 0, 1}}, {7, []int{1, 3, 0}}, {7, []int{6, 0}}, {60, []int{59, 0}}, {60, []int{0, 59, 58}}, {13, []int{0, 3, 1, 9}}, {13, []int{1, 0, 3, 9}}, {13, []int{0, 1, 9, 3}}, {57, []int{0, 1, 3, 13, 32, 36, 52, 43}}, {57, []int{1, 0, 3, 13, 32, 36, 43, 52}},
		{7, []int{math.MinInt}}, {7, []int{math.MaxInt}}, {7, []int{math.MinInt, math.MaxInt}}, {7, []int{math.MaxInt, math.MinInt}}, {7, []int{0, math.MinInt, 3}}, {7, []int{0, math.MaxInt, 3}}, {7, []int{math.MinInt, 0, 3}}, {7, []int{0, 1, math.MaxInt}}, {7, []int{0, math.MaxInt, math.MinInt}},
		{math.MaxInt, []int{math.MaxInt}}, {math.MinInt, []int{math.MinInt}}, {math.MaxInt, []int{math.MaxInt - 1}}, {math.MinInt, []int{math.MaxInt}},
	}
	for _, n := range noCircles {
		list = append(list, circle{n, []int{0}}, circle{n, []int{0, 1}}, circle{n, []int{0, 1, 3}}, circle{n, []int{1, 2}}, circle{n, []int{n}}, circle{n, []int{n - 1}}, circle{n, []int{0, 1, 3, 13, 32, 36, 43, 52}})
	}
	for n := 9; n <= 60; n++ {
		marks := make([]int, n)
		for i := range marks {
			marks[i] = i
		}
		list = append(list, circle{n, marks}, circle{n, marks[:9]}, circle{60, marks}, circle{n, []int{n}}, circle{n, []int{0, n}}, circle{n, []int{-1, n - 1}})
	}
	for _, c := range append(knownSets(), circle{1, []int{0}}, circle{60, []int{0, 59}}) {
		for place, mark := range c.marks {
			for _, far := range append([]int{c.n, c.n + 1, mark - c.n, mark + c.n}, farPlaces...) {
				list = append(list, circle{c.n, with(c.marks, place, far)})
			}
			if place > 0 {
				before := c.marks[place-1]
				list = append(list, circle{c.n, with(c.marks, place, before)}, circle{c.n, with(with(c.marks, place, before), place-1, mark)})
			}
		}
	}
	return list
}

// notTurns are steps by which a circle of the length n is not turned.
func notTurns(n int) []int {
	return []int{
		-1, n, n + 1, -2, n + 2, 2 * n, 2*n + 1, 3*n - 1, -n, -n - 1, -2*n + 1, -2*n - 1, 1 << 32, 1<<32 + 1, 1<<32 + n - 1, -1 << 32, -1<<32 + 1,
		math.MinInt, math.MinInt + 1, math.MinInt + n, math.MaxInt - n, math.MaxInt - 1, math.MaxInt,
	}
}

// notStretches are also those that have a common divisor with n.
func notStretches(n int) []int {
	list := append(notTurns(n), 0)
	for by := 1; by < n; by++ {
		if divisorOf([]int{by, n}) > 1 {
			list = append(list, by)
		}
	}
	return list
}

// stretches are all that have no common divisor with n.
func stretches(n int) []int {
	var list []int
	for by := 1; by < n; by++ {
		if divisorOf([]int{by, n}) == 1 {
			list = append(list, by)
		}
	}
	return list
}

// isCircle is what the chapter says of the marks, one after the other.
func isCircle(n int, marks []int) bool {
	for i, mark := range marks {
		if mark < 0 || mark >= n || i > 0 && marks[i-1] >= mark {
			return false
		}
	}
	return n >= 1 && n <= 60 && len(marks) >= 1 && len(marks) <= 8
}

// arcsBetween walks from each mark to each other one and counts the steps,
// without the program.
func arcsBetween(n int, marks []int) []int {
	counts := make([]int, n)
	for i, from := range marks {
		for k, to := range marks {
			if i == k {
				continue
			}
			steps := 0
			for place := from; place != to; steps++ {
				place++
				if place == n {
					place = 0
				}
			}
			counts[steps]++
		}
	}
	return counts
}

func isEachOnce(counts []int) bool {
	if len(counts) < 2 {
		return false
	}
	return !slices.ContainsFunc(counts[1:], func(count int) bool { return count != 1 })
}

// marked are the places that have a mark, in ascending order.
func marked(places []bool) []int {
	var marks []int
	for place, isMark := range places {
		if isMark {
			marks = append(marks, place)
		}
	}
	return marks
}

// turnedBy and stretchedBy set marks on an empty circle, without the program.
func turnedBy(n int, marks []int, by int) []int {
	places := make([]bool, n)
	for _, mark := range marks {
		place := mark + by
		for place >= n {
			place -= n
		}
		places[place] = true
	}
	return marked(places)
}

func stretchedBy(n int, marks []int, by int) []int {
	places := make([]bool, n)
	for _, mark := range marks {
		place := 0
		for range by {
			place += mark
			if place >= n {
				place -= n
			}
		}
		places[place] = true
	}
	return marked(places)
}

func inverseOf(n int, by int) int {
	for inverse := 1; inverse < n; inverse++ {
		if inverse*by%n == 1 {
			return inverse
		}
	}
	return 0
}

// setsFromZeroOne are all that begin with 0 and 1 and measure every arc once,
// found without the program: each further mark is tried unless an arc would
// occur again.
func setsFromZeroOne(n int, k int) [][]int {
	var sets [][]int
	var goOn func(marks []int)
	goOn = func(marks []int) {
		counts := arcsBetween(n, marks)
		if slices.Max(counts) > 1 {
			return
		}
		if len(marks) == k {
			if isEachOnce(counts) {
				sets = append(sets, marks)
			}
			return
		}
		for mark := marks[len(marks)-1] + 1; mark < n; mark++ {
			goOn(append(slices.Clone(marks), mark))
		}
	}
	goOn([]int{0, 1})
	return sets
}

// differenceSets are all with this length: as the arc 1 occurs once, each is one
// from 0 and 1, turned.
func differenceSets(n int) [][]int {
	var sets [][]int
	for k := 2; k <= 8; k++ {
		if k*(k-1) != n-1 {
			continue
		}
		for _, marks := range setsFromZeroOne(n, k) {
			for by := range n {
				sets = append(sets, turnedBy(n, marks, by))
			}
		}
	}
	return sets
}

// checkCircle compares what the program says of a valid circle with its arcs.
func checkCircle(t *testing.T, n int, marks []int) {
	t.Helper()
	if !impl.CircleOk(n, marks) {
		t.Fatalf("CircleOk(%d, %v) is false", n, marks)
	}
	want := arcsBetween(n, marks)
	got := impl.ArcsOf(n, marks)
	if !slices.Equal(got, want) {
		t.Fatalf("ArcsOf(%d, %v) = %v; want %v", n, marks, got, want)
	}
	if pairs := len(marks) * (len(marks) - 1); sumOf(got) != pairs || got[0] != 0 {
		t.Errorf("ArcsOf(%d, %v) = %v: %d pairs", n, marks, got, pairs)
	}
	for length := 1; length < n; length++ {
		if got[length] != got[n-length] {
			t.Errorf("ArcsOf(%d, %v) = %v: %d and %d are not alike", n, marks, got, length, n-length)
		}
	}
	checkSet(t, n, marks, isEachOnce(want))
}

func checkSet(t *testing.T, n int, marks []int, want bool) {
	t.Helper()
	if got := impl.IsDifferenceSet(n, marks); got != want {
		t.Errorf("IsDifferenceSet(%d, %v) = %v", n, marks, got)
	}
}

// checkMoved is for what the program returns for turned or stretched marks: it
// measures every arc once just if the marks do.
func checkMoved(t *testing.T, name string, c circle, by int, got []int, want []int) {
	t.Helper()
	if !slices.Equal(got, want) {
		t.Fatalf("%s(%d, %v, %d) = %v; want %v", name, c.n, c.marks, by, got, want)
	}
	if len(got) != len(c.marks) || !isCircle(c.n, got) || !impl.CircleOk(c.n, got) {
		t.Fatalf("%s(%d, %v, %d) = %v is not valid", name, c.n, c.marks, by, got)
	}
	isSet := isEachOnce(arcsBetween(c.n, c.marks))
	if isEachOnce(arcsBetween(c.n, got)) != isSet {
		t.Fatalf("%s(%d, %v, %d) = %v measures other arcs", name, c.n, c.marks, by, got)
	}
	checkSet(t, c.n, got, isSet)
}

// checkTurnedMarks also turns back; a turn by nothing is its own way back.
func checkTurnedMarks(t *testing.T, c circle, by int) {
	t.Helper()
	got := impl.TurnMarks(c.n, c.marks, by)
	checkMoved(t, "TurnMarks", c, by, got, turnedBy(c.n, c.marks, by))
	if back := impl.TurnMarks(c.n, got, (c.n-by)%c.n); !slices.Equal(back, c.marks) {
		t.Errorf("TurnMarks(%d, %v, %d) and back is %v", c.n, c.marks, by, back)
	}
	if !slices.Equal(impl.ArcsOf(c.n, got), impl.ArcsOf(c.n, c.marks)) {
		t.Errorf("TurnMarks(%d, %v, %d) = %v has other arcs", c.n, c.marks, by, got)
	}
}

// checkStretchedMarks also stretches by the inverse. Arcs become as long as the
// stretch says.
func checkStretchedMarks(t *testing.T, c circle, by int) {
	t.Helper()
	got := impl.StretchMarks(c.n, c.marks, by)
	checkMoved(t, "StretchMarks", c, by, got, stretchedBy(c.n, c.marks, by))
	if back := impl.StretchMarks(c.n, got, inverseOf(c.n, by)); !slices.Equal(back, c.marks) {
		t.Errorf("StretchMarks(%d, %v, %d) and back is %v", c.n, c.marks, by, back)
	}
	before, after := impl.ArcsOf(c.n, c.marks), impl.ArcsOf(c.n, got)
	for length, count := range before {
		if after[length*by%c.n] != count {
			t.Errorf("StretchMarks(%d, %v, %d) = %v has other arcs", c.n, c.marks, by, got)
		}
	}
}

func checkAllMoves(t *testing.T, c circle) {
	t.Helper()
	for by := range c.n {
		checkTurnedMarks(t, c, by)
	}
	for _, by := range stretches(c.n) {
		checkStretchedMarks(t, c, by)
	}
}

func checkNotTurned(t *testing.T, n int, marks []int, list []int) {
	t.Helper()
	for _, by := range list {
		if got := impl.TurnMarks(n, marks, by); len(got) != 0 {
			t.Errorf("TurnMarks(%d, %v, %d) = %v; want nil", n, marks, by, got)
		}
	}
}

func checkNotStretched(t *testing.T, n int, marks []int, list []int) {
	t.Helper()
	for _, by := range list {
		if got := impl.StretchMarks(n, marks, by); len(got) != 0 {
			t.Errorf("StretchMarks(%d, %v, %d) = %v; want nil", n, marks, by, got)
		}
	}
}

// checkNoCircle is for an invalid circle: whatever it is turned or stretched by,
// nothing is returned.
func checkNoCircle(t *testing.T, n int, marks []int) {
	t.Helper()
	if impl.CircleOk(n, marks) {
		t.Errorf("CircleOk(%d, %v) is true", n, marks)
	}
	if got := impl.ArcsOf(n, marks); len(got) != 0 {
		t.Errorf("ArcsOf(%d, %v) = %v; want nil", n, marks, got)
	}
	checkSet(t, n, marks, false)
	list := append(notTurns(n), 0, 1, 2, 3, 5, 7, 11, n-1, n-2)
	checkNotTurned(t, n, marks, list)
	checkNotStretched(t, n, marks, list)
}

func checkNotFound(t *testing.T, list []int) {
	t.Helper()
	for _, k := range list {
		if got := impl.FindDifferenceSet(k); len(got) != 0 {
			t.Errorf("FindDifferenceSet(%d) = %v; want nil", k, got)
		}
	}
}

func TestCircleOk(t *testing.T) {
	for _, c := range []circle{
		{1, []int{0}}, {2, []int{0}}, {2, []int{1}}, {2, []int{0, 1}}, {3, []int{0, 2}}, {7, []int{0, 1, 3}}, {7, []int{6}}, {8, []int{0, 1, 2, 3, 4, 5, 6, 7}}, {60, []int{0}}, {60, []int{59}},
		{60, []int{0, 59}}, {60, []int{58, 59}}, {60, []int{0, 1, 2, 3, 4, 5, 6, 7}}, {60, []int{52, 53, 54, 55, 56, 57, 58, 59}}, {60, []int{0, 1, 2, 3, 4, 5, 6, 59}}, {57, []int{0, 1, 3, 13, 32, 36, 43, 52}},
	} {
		if !impl.CircleOk(c.n, c.marks) {
			t.Errorf("CircleOk(%d, %v) is false", c.n, c.marks)
		}
	}
}

// TestCircleOkEachLength has each mark alone, and beside the first and the last
// place.
func TestCircleOkEachLength(t *testing.T) {
	for n := -3; n <= 70; n++ {
		for mark := -3; mark <= 73; mark++ {
			for _, marks := range [][]int{{mark}, {0, mark}, {mark, n - 1}, {0, mark, n - 1}} {
				if got, want := impl.CircleOk(n, marks), isCircle(n, marks); got != want {
					t.Errorf("CircleOk(%d, %v) = %v; want %v", n, marks, got, want)
				}
			}
		}
		if got := impl.CircleOk(n, []int{0}); got != (n >= 1 && n <= 60) {
			t.Errorf("CircleOk(%d, {0}) = %v", n, got)
		}
	}
}

// TestCircleOkEachList has all lists of a few small numbers.
func TestCircleOkEachList(t *testing.T) {
	var tryAll func(list []int)
	tryAll = func(list []int) {
		for n := -1; n <= 5; n++ {
			if got, want := impl.CircleOk(n, list), isCircle(n, list); got != want {
				t.Errorf("CircleOk(%d, %v) = %v; want %v", n, list, got, want)
			}
		}
		for mark := -1; mark <= 5 && len(list) < 5; mark++ {
			tryAll(append(slices.Clone(list), mark))
		}
	}
	tryAll(nil)
}

// TestCircleOkEachPlace moves one mark past the ones beside it.
func TestCircleOkEachPlace(t *testing.T) {
	for _, c := range fewCircles() {
		for place := range c.marks {
			for mark := -3; mark <= c.n+3; mark++ {
				marks := with(c.marks, place, mark)
				if got, want := impl.CircleOk(c.n, marks), isCircle(c.n, marks); got != want {
					t.Errorf("CircleOk(%d, %v) = %v; want %v", c.n, marks, got, want)
				}
			}
		}
	}
}

func TestInvalidCircles(t *testing.T) {
	for _, c := range invalidCircles() {
		if isCircle(c.n, c.marks) {
			t.Fatalf("%d with %v is a circle", c.n, c.marks)
		}
		checkNoCircle(t, c.n, c.marks)
	}
}

// TestOneMarkOnACircle has no pair, so that no length occurs; a circle of the
// length 1 has no length that could be missing, but is still refused.
func TestOneMarkOnACircle(t *testing.T) {
	for n := 1; n <= 60; n++ {
		for mark := range n {
			marks := []int{mark}
			checkCircle(t, n, marks)
			if got := impl.ArcsOf(n, marks); !slices.Equal(got, make([]int, n)) {
				t.Errorf("ArcsOf(%d, %v) = %v; want %d times 0", n, marks, got, n)
			}
			checkSet(t, n, marks, false)
			if got := impl.TurnMarks(n, marks, n-1); !slices.Equal(got, []int{(mark + n - 1) % n}) {
				t.Errorf("TurnMarks(%d, %v, %d) = %v", n, marks, n-1, got)
			}
		}
	}
	if got := impl.TurnMarks(1, []int{0}, 0); !slices.Equal(got, []int{0}) {
		t.Errorf("TurnMarks(1, {0}, 0) = %v; want {0}", got)
	}
	checkNotStretched(t, 1, []int{0}, notStretches(1))
}

func TestArcsOf(t *testing.T) {
	cases := []struct {
		n           int
		marks, want []int
	}{
		{1, []int{0}, []int{0}},
		{2, []int{1}, []int{0, 0}},
		{2, []int{0, 1}, []int{0, 2}},
		{3, []int{0, 1}, []int{0, 1, 1}},
		{3, []int{0, 1, 2}, []int{0, 3, 3}},
		{4, []int{0, 2}, []int{0, 0, 2, 0}},
		{5, []int{1, 4}, []int{0, 0, 1, 1, 0}},
		{6, []int{0, 2, 4}, []int{0, 0, 3, 0, 3, 0}},
		{7, []int{0, 1, 3}, []int{0, 1, 1, 1, 1, 1, 1}},
		{7, []int{0, 1, 2}, []int{0, 2, 1, 0, 0, 1, 2}},
		{8, []int{0, 1, 3}, []int{0, 1, 1, 1, 0, 1, 1, 1}},
		{8, []int{0, 1, 2, 3, 4, 5, 6, 7}, []int{0, 8, 8, 8, 8, 8, 8, 8}},
		{9, []int{0, 1, 2, 3, 4, 5, 6, 7}, []int{0, 7, 7, 7, 7, 7, 7, 7, 7}},
		{12, []int{0, 6, 11}, []int{0, 1, 0, 0, 0, 1, 2, 1, 0, 0, 0, 1}},
	}
	for _, c := range cases {
		if got := impl.ArcsOf(c.n, c.marks); !slices.Equal(got, c.want) {
			t.Errorf("ArcsOf(%d, %v) = %v; want %v", c.n, c.marks, got, c.want)
		}
		checkCircle(t, c.n, c.marks)
	}
}

// TestSmallCircles has all sets of marks.
func TestSmallCircles(t *testing.T) {
	for n := 1; n <= 13; n++ {
		for _, c := range allCircles(n) {
			checkCircle(t, c.n, c.marks)
		}
	}
}

func TestLargerCircles(t *testing.T) {
	eight := 0
	for _, c := range someCircles() {
		checkCircle(t, c.n, c.marks)
		if c.n == 60 && len(c.marks) == 8 {
			eight++
		}
	}
	if eight < 3 {
		t.Errorf("%d sets of eight marks with the length 60", eight)
	}
}

func TestIsDifferenceSet(t *testing.T) {
	for _, c := range knownSets() {
		checkSet(t, c.n, c.marks, true)
	}
	for _, c := range noSets() {
		checkSet(t, c.n, c.marks, false)
	}
}

// TestAllDifferenceSets asks for every set of marks on small circles, and for as
// many marks as there could be on larger ones.
func TestAllDifferenceSets(t *testing.T) {
	counts := map[int]int{3: 3, 7: 14, 13: 52, 21: 42, 31: 310, 57: 684}
	for n := 1; n <= 60; n++ {
		sets := differenceSets(n)
		if len(sets) != counts[n] {
			t.Errorf("%d sets were found with the length %d; want %d", len(sets), n, counts[n])
		}
		for _, marks := range sets {
			checkCircle(t, n, marks)
			checkSet(t, n, marks, true)
		}
	}
	for _, n := range []int{3, 7, 13} {
		found := 0
		for _, c := range allCircles(n) {
			if impl.IsDifferenceSet(n, c.marks) {
				found++
			}
		}
		if found != counts[n] {
			t.Errorf("%d sets with the length %d; want %d", found, n, counts[n])
		}
	}
}

// firstSet is the first one among all lists that begin with 0 and 1, found
// without the program.
func firstSet(k int) []int {
	n := k*(k-1) + 1
	lists := [][]int{{0, 1}}
	for range k - 2 {
		var longer [][]int
		for _, list := range lists {
			for mark := list[len(list)-1] + 1; mark < n; mark++ {
				longer = append(longer, append(slices.Clone(list), mark))
			}
		}
		lists = longer
	}
	lists = slices.DeleteFunc(lists, func(marks []int) bool { return !isEachOnce(arcsBetween(n, marks)) })
	return slices.MinFunc(lists, slices.Compare[[]int])
}

func TestFindDifferenceSet(t *testing.T) {
	want := [][]int{{0, 1}, {0, 1, 3}, {0, 1, 3, 9}, {0, 1, 4, 14, 16}, {0, 1, 3, 8, 12, 18}}
	for k := 2; k <= 6; k++ {
		got := impl.FindDifferenceSet(k)
		if !slices.Equal(got, want[k-2]) {
			t.Errorf("FindDifferenceSet(%d) = %v; want %v", k, got, want[k-2])
		}
		if found := firstSet(k); !slices.Equal(got, found) {
			t.Errorf("FindDifferenceSet(%d) = %v; %v was found among all lists", k, got, found)
		}
		checkCircle(t, k*(k-1)+1, got)
		checkSet(t, k*(k-1)+1, got, true)
	}
}

func TestFindDifferenceSetRejects(t *testing.T) {
	checkNotFound(t, noSetSizes)
}

// TestDifferenceSetsMoved is promise 10, for every set that measures each arc
// once.
func TestDifferenceSetsMoved(t *testing.T) {
	for k := 2; k <= 6; k++ {
		c := circle{k*(k-1) + 1, impl.FindDifferenceSet(k)}
		checkSet(t, c.n, c.marks, true)
		checkAllMoves(t, c)
	}
	for n := 2; n <= 60; n++ {
		for _, marks := range differenceSets(n) {
			checkAllMoves(t, circle{n, marks})
		}
	}
}

// TestNoSetsMoved has sets that do not measure each arc once, with even lengths,
// too, where none does.
func TestNoSetsMoved(t *testing.T) {
	for _, c := range noSets() {
		checkAllMoves(t, c)
	}
	for n := 1; n <= 9; n++ {
		for _, c := range allCircles(n) {
			checkAllMoves(t, c)
		}
	}
	for n := 10; n <= 60; n++ {
		for _, c := range mixedCircles(n)[:20] {
			checkAllMoves(t, c)
		}
	}
}

func TestTurnMarks(t *testing.T) {
	cases := []struct {
		n     int
		marks []int
		by    int
		want  []int
	}{
		{1, []int{0}, 0, []int{0}}, {2, []int{0}, 1, []int{1}}, {2, []int{1}, 1, []int{0}}, {3, []int{0, 1}, 2, []int{0, 2}}, {7, []int{0, 1, 3}, 0, []int{0, 1, 3}}, {7, []int{0, 1, 3}, 1, []int{1, 2, 4}},
		{7, []int{0, 1, 3}, 5, []int{1, 5, 6}}, {7, []int{0, 1, 3}, 6, []int{0, 2, 6}}, {13, []int{0, 1, 3, 9}, 4, []int{0, 4, 5, 7}}, {60, []int{0, 59}, 1, []int{0, 1}}, {60, []int{0, 59}, 59, []int{58, 59}},
		{60, []int{58, 59}, 59, []int{57, 58}}, {60, []int{52, 53, 54, 55, 56, 57, 58, 59}, 4, []int{0, 1, 2, 3, 56, 57, 58, 59}},
	}
	for _, c := range cases {
		if got := impl.TurnMarks(c.n, c.marks, c.by); !slices.Equal(got, c.want) {
			t.Errorf("TurnMarks(%d, %v, %d) = %v; want %v", c.n, c.marks, c.by, got, c.want)
		}
	}
}

func TestStretchMarks(t *testing.T) {
	cases := []struct {
		n     int
		marks []int
		by    int
		want  []int
	}{
		{2, []int{0}, 1, []int{0}}, {2, []int{0, 1}, 1, []int{0, 1}}, {3, []int{0, 1}, 2, []int{0, 2}}, {7, []int{0, 1, 3}, 1, []int{0, 1, 3}}, {7, []int{0, 1, 3}, 2, []int{0, 2, 6}}, {7, []int{0, 1, 3}, 3, []int{0, 2, 3}},
		{7, []int{0, 1, 3}, 6, []int{0, 4, 6}}, {7, []int{1, 2, 4}, 2, []int{1, 2, 4}}, {8, []int{1, 2, 4}, 3, []int{3, 4, 6}}, {9, []int{0, 3, 6}, 2, []int{0, 3, 6}}, {60, []int{0, 59}, 59, []int{0, 1}},
		{60, []int{0, 59}, 7, []int{0, 53}}, {60, []int{52, 53, 54, 55, 56, 57, 58, 59}, 59, []int{1, 2, 3, 4, 5, 6, 7, 8}},
	}
	for _, c := range cases {
		if got := impl.StretchMarks(c.n, c.marks, c.by); !slices.Equal(got, c.want) {
			t.Errorf("StretchMarks(%d, %v, %d) = %v; want %v", c.n, c.marks, c.by, got, c.want)
		}
	}
}

func TestNotMoved(t *testing.T) {
	for _, c := range someCircles() {
		checkNotTurned(t, c.n, c.marks, notTurns(c.n))
		checkNotStretched(t, c.n, c.marks, notStretches(c.n))
	}
}

// TestStretchWithCommonDivisor has, beside others, stretches by which no two
// marks would meet, so that only the divisor is a reason to refuse them.
func TestStretchWithCommonDivisor(t *testing.T) {
	for _, c := range []circle{{4, []int{0, 1}}, {6, []int{0, 1, 2}}, {9, []int{0, 1, 2}}, {21, []int{0, 1, 2, 3, 4, 5, 6}}, {60, []int{0, 1}}, {60, []int{59}}} {
		for by := 1; by < c.n; by++ {
			got := impl.StretchMarks(c.n, c.marks, by)
			if want := divisorOf([]int{by, c.n}) == 1; (len(got) > 0) != want {
				t.Errorf("StretchMarks(%d, %v, %d) = %v", c.n, c.marks, by, got)
			}
		}
	}
}

// TestCirclesChangeNothing calls the functions with valid and invalid circles
// that have spare capacity.
func TestCirclesChangeNothing(t *testing.T) {
	for _, c := range append(someCircles(), invalidCircles()...) {
		given, changed := guarded(c.marks)
		impl.CircleOk(c.n, given)
		impl.ArcsOf(c.n, given)
		impl.IsDifferenceSet(c.n, given)
		for _, by := range append(notTurns(c.n), 0, 1, 2, 5, 7, c.n-1) {
			impl.TurnMarks(c.n, given, by)
			impl.StretchMarks(c.n, given, by)
		}
		if changed() {
			t.Errorf("an argument of %d with %v was changed", c.n, c.marks)
		}
	}
}

func TestCircleAnswersAreNew(t *testing.T) {
	for _, c := range append(fewCircles(), invalidCircles()...) {
		checkNewAnswer(t, "ArcsOf", c.marks, func(given []int) []int { return impl.ArcsOf(c.n, given) })
		for _, by := range []int{0, 1, 2, c.n - 1, c.n, -1} {
			checkNewAnswer(t, "TurnMarks", c.marks, func(given []int) []int { return impl.TurnMarks(c.n, given, by) })
			checkNewAnswer(t, "StretchMarks", c.marks, func(given []int) []int { return impl.StretchMarks(c.n, given, by) })
		}
	}
}

func TestFoundSetsAreNew(t *testing.T) {
	for k := range 9 {
		checkNewList(t, "FindDifferenceSet", func() []int { return impl.FindDifferenceSet(k) })
	}
	// Each answer could be the beginning of another one.
	for k := 2; k <= 6; k++ {
		var others [][]int
		for other := 2; other <= 6; other++ {
			others = append(others, impl.FindDifferenceSet(other))
		}
		overwrite(others[k-2])
		for other := 2; other <= 6; other++ {
			if other != k && !slices.Equal(others[other-2], impl.FindDifferenceSet(other)) {
				t.Errorf("FindDifferenceSet(%d) and FindDifferenceSet(%d) share memory", k, other)
			}
		}
	}
}

// TestCirclesKeepNothing asks for one thing after another, so that something
// that was kept would show.
func TestCirclesKeepNothing(t *testing.T) {
	for range 3 {
		for _, c := range knownSets() {
			checkCircle(t, c.n, c.marks)
			checkNoCircle(t, c.n, append(slices.Clone(c.marks), c.n))
			checkTurnedMarks(t, c, c.n-1)
			checkNotTurned(t, c.n, c.marks, []int{c.n, -1})
			checkStretchedMarks(t, c, 2)
			checkNotStretched(t, c.n, c.marks, []int{c.n, 0})
			checkNoCircle(t, 61, c.marks)
			checkCircle(t, c.n+1, c.marks)
		}
		for _, k := range []int{6, 2, 5, 3, 4} {
			if got, want := impl.FindDifferenceSet(k), firstSet(k); !slices.Equal(got, want) {
				t.Errorf("FindDifferenceSet(%d) = %v; want %v", k, got, want)
			}
			checkNotFound(t, []int{k + 5, k - 6})
		}
	}
}
