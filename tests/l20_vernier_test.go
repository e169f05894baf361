package tests

import (
	"math"
	"slices"
	"testing"

	"loop.example/g00992/impl"
)

// What follows is beyond a limit: of n, and of a position.
var (
	noDivisions        = append([]int{1, 51, 0, -1, 52, -2, -10, -50, -51, 60, 100, 1000}, farInts...)
	noVernierPositions = append([]int{-1, 10001, -2, 10002, -50, -100, -10000, -10001, 10050, 20000}, farInts...)
)

var (
	someDivisions        = []int{2, 3, 4, 5, 7, 10, 12, 16, 25, 32, 48, 49, 50}
	someVernierPositions = []int{0, 1, 2, 3, 9, 10, 11, 37, 49, 50, 51, 99, 100, 101, 2450, 2499, 2500, 5000, 7919, 9950, 9998, 9999, 10000}
)

// A vernier has been moved to a position, beside a main scale with marks that are n
// apart.
type vernier struct{ n, position int }

func invalidVerniers() []vernier {
	var list []vernier
	for _, n := range noDivisions {
		for _, position := range slices.Concat(someVernierPositions, noVernierPositions) {
			list = append(list, vernier{n, position})
		}
	}
	for _, n := range someDivisions {
		for _, position := range noVernierPositions {
			list = append(list, vernier{n, position})
		}
	}
	return list
}

// noMarks are no marks of a vernier with n + 1 of them; for some, the place where they
// would stand wraps around.
func noMarks(n int) []int {
	list := []int{-1, n + 1, -2, n + 2, -n, -n - 1, 2 * n, 2*n + 1, 100, 1000, 10000}
	for _, far := range farInts {
		list = append(list, far, far/(n-1), -far/(n-1))
	}
	return append(list, math.MinInt+n, math.MaxInt-n, math.MaxInt/n+1, math.MinInt/n-1)
}

// The reckonings below are without the program, and for valid verniers.

// A mainScale has true at each place with a mark; it goes on beyond every mark of every
// vernier.
type mainScale []bool

func mainScaleOf(n int) mainScale {
	scale := make(mainScale, 10000+51*51)
	for place := 0; place < len(scale); place += n {
		scale[place] = true
	}
	return scale
}

// toLeft counts the steps to the next mark to the left; 0 at a mark.
func (s mainScale) toLeft(place int) int {
	steps := 0
	for !s[place-steps] {
		steps++
	}
	return steps
}

func (s mainScale) toRight(place int) int {
	steps := 0
	for !s[place+steps] {
		steps++
	}
	return steps
}

// places are where the marks of the vernier stand, each n - 1 behind the one before.
func (v vernier) places() []int {
	list := []int{v.position}
	for k := 1; k <= v.n; k++ {
		list = append(list, list[k-1]+v.n-1)
	}
	return list
}

// A look is what can be seen of a vernier.
type look struct {
	gaps                         []int
	coinciding, reading, nearest int
}

func (s mainScale) look(v vernier) look {
	var seen look
	var away []int
	for _, place := range v.places() {
		seen.gaps = append(seen.gaps, s.toLeft(place))
		away = append(away, min(s.toLeft(place), s.toRight(place)))
	}
	seen.coinciding = slices.Index(seen.gaps, 0)
	seen.nearest = slices.Index(away, slices.Min(away))
	seen.reading = v.position - s.toLeft(v.position) + seen.coinciding
	return seen
}

func checkVernierOk(t *testing.T, v vernier, want bool) {
	t.Helper()
	if got := impl.VernierOk(v.n, v.position); got != want {
		t.Errorf("VernierOk(%d, %d) = %v", v.n, v.position, got)
	}
}

func checkGap(t *testing.T, v vernier, k int, want int) {
	t.Helper()
	if got := impl.MarkGap(v.n, v.position, k); got != want {
		t.Errorf("MarkGap(%d, %d, %d) = %d; want %d", v.n, v.position, k, got, want)
	}
}

func checkCoinciding(t *testing.T, v vernier, want int) {
	t.Helper()
	if got := impl.CoincidingMark(v.n, v.position); got != want {
		t.Errorf("CoincidingMark(%d, %d) = %d; want %d", v.n, v.position, got, want)
	}
}

func checkVernierRead(t *testing.T, v vernier, want int) {
	t.Helper()
	if got := impl.ReadVernier(v.n, v.position); got != want {
		t.Errorf("ReadVernier(%d, %d) = %d; want %d", v.n, v.position, got, want)
	}
}

func checkNearestMark(t *testing.T, v vernier, want int) {
	t.Helper()
	if got := impl.NearestMark(v.n, v.position); got != want {
		t.Errorf("NearestMark(%d, %d) = %d; want %d", v.n, v.position, got, want)
	}
}

func checkLook(t *testing.T, v vernier, want look) {
	t.Helper()
	checkVernierOk(t, v, true)
	if len(want.gaps) != v.n+1 {
		t.Fatalf("of %v, %d gaps", v, len(want.gaps))
	}
	for k, gap := range want.gaps {
		checkGap(t, v, k, gap)
	}
	checkCoinciding(t, v, want.coinciding)
	checkVernierRead(t, v, want.reading)
	checkNearestMark(t, v, want.nearest)
}

func checkNoVernier(t *testing.T, v vernier, marks []int) {
	t.Helper()
	checkVernierOk(t, v, false)
	for _, k := range marks {
		checkGap(t, v, k, -1)
	}
	checkCoinciding(t, v, -1)
	checkVernierRead(t, v, -1)
	checkNearestMark(t, v, -1)
}

func TestVernierOkLimits(t *testing.T) {
	for _, n := range []int{2, 3, 10, 49, 50} {
		for position := -10200; position <= 20200; position++ {
			checkVernierOk(t, vernier{n, position}, position >= 0 && position <= 10000)
		}
	}
	for n := -200; n <= 200; n++ {
		for _, position := range []int{0, 1, 37, 9999, 10000} {
			checkVernierOk(t, vernier{n, position}, n >= 2 && n <= 50)
		}
		checkVernierOk(t, vernier{n, -1}, false)
		checkVernierOk(t, vernier{n, 10001}, false)
	}
	for _, v := range invalidVerniers() {
		checkVernierOk(t, v, false)
	}
}

func TestVernierOkByHand(t *testing.T) {
	cases := []struct {
		n, position int
		want        bool
	}{
		{2, 0, true}, {2, 10000, true}, {50, 0, true}, {50, 10000, true}, {10, 37, true}, {2, 1, true}, {50, 9999, true},
		{1, 0, false}, {1, 10000, false}, {51, 0, false}, {51, 10000, false}, {2, -1, false}, {2, 10001, false}, {50, -1, false}, {50, 10001, false},
		{1, -1, false}, {1, 10001, false}, {51, -1, false}, {51, 10001, false}, {0, 0, false}, {0, -1, false}, {-1, 0, false}, {-2, 4, false},
		// Exchanged, they would be valid.
		{0, 2, false}, {10000, 50, false}, {100, 10, false},
		{math.MinInt, 0, false}, {math.MaxInt, 0, false}, {2, math.MinInt, false}, {2, math.MaxInt, false}, {50, math.MinInt, false}, {50, math.MaxInt, false},
		{math.MinInt, math.MinInt, false}, {math.MinInt, math.MaxInt, false}, {math.MaxInt, math.MinInt, false}, {math.MaxInt, math.MaxInt, false}, {1, math.MinInt, false}, {51, math.MaxInt, false}, {math.MinInt, -1, false}, {math.MaxInt, 10001, false},
	}
	for _, c := range cases {
		checkVernierOk(t, vernier{c.n, c.position}, c.want)
	}
}

func TestVernierByHand(t *testing.T) {
	cases := []struct {
		n, position int
		want        look
	}{
		{10, 37, look{[]int{7, 6, 5, 4, 3, 2, 1, 0, 9, 8, 7}, 7, 37, 7}},
		{10, 40, look{[]int{0, 9, 8, 7, 6, 5, 4, 3, 2, 1, 0}, 0, 40, 0}}, {10, 39, look{[]int{9, 8, 7, 6, 5, 4, 3, 2, 1, 0, 9}, 9, 39, 9}}, {10, 41, look{[]int{1, 0, 9, 8, 7, 6, 5, 4, 3, 2, 1}, 1, 41, 1}}, {10, 0, look{[]int{0, 9, 8, 7, 6, 5, 4, 3, 2, 1, 0}, 0, 0, 0}}, {10, 10000, look{[]int{0, 9, 8, 7, 6, 5, 4, 3, 2, 1, 0}, 0, 10000, 0}}, {10, 9999, look{[]int{9, 8, 7, 6, 5, 4, 3, 2, 1, 0, 9}, 9, 9999, 9}}, {10, 5, look{[]int{5, 4, 3, 2, 1, 0, 9, 8, 7, 6, 5}, 5, 5, 5}},
		{2, 0, look{[]int{0, 1, 0}, 0, 0, 0}}, {2, 1, look{[]int{1, 0, 1}, 1, 1, 1}}, {2, 2, look{[]int{0, 1, 0}, 0, 2, 0}}, {2, 3, look{[]int{1, 0, 1}, 1, 3, 1}}, {2, 9999, look{[]int{1, 0, 1}, 1, 9999, 1}}, {2, 10000, look{[]int{0, 1, 0}, 0, 10000, 0}},
		{3, 0, look{[]int{0, 2, 1, 0}, 0, 0, 0}}, {3, 1, look{[]int{1, 0, 2, 1}, 1, 1, 1}}, {3, 2, look{[]int{2, 1, 0, 2}, 2, 2, 2}}, {3, 4, look{[]int{1, 0, 2, 1}, 1, 4, 1}}, {3, 9999, look{[]int{0, 2, 1, 0}, 0, 9999, 0}}, {3, 10000, look{[]int{1, 0, 2, 1}, 1, 10000, 1}},
		{4, 6, look{[]int{2, 1, 0, 3, 2}, 2, 6, 2}}, {4, 7, look{[]int{3, 2, 1, 0, 3}, 3, 7, 3}}, {5, 13, look{[]int{3, 2, 1, 0, 4, 3}, 3, 13, 3}}, {5, 14, look{[]int{4, 3, 2, 1, 0, 4}, 4, 14, 4}}, {7, 10000, look{[]int{4, 3, 2, 1, 0, 6, 5, 4}, 4, 10000, 4}},
	}
	for _, c := range cases {
		v := vernier{c.n, c.position}
		checkLook(t, v, c.want)
		checkLook(t, v, mainScaleOf(c.n).look(v))
	}
}

// TestFiftyDivisions has the greatest n, for which there are too many gaps to write
// them down.
func TestFiftyDivisions(t *testing.T) {
	cases := []struct{ position, k, gap, coinciding int }{
		{0, 0, 0, 0}, {0, 1, 49, 0}, {0, 2, 48, 0}, {0, 49, 1, 0}, {0, 50, 0, 0}, {1, 0, 1, 1}, {1, 1, 0, 1}, {1, 2, 49, 1}, {1, 50, 1, 1}, {49, 0, 49, 49}, {49, 48, 1, 49}, {49, 49, 0, 49}, {49, 50, 49, 49}, {50, 0, 0, 0}, {50, 50, 0, 0}, {51, 1, 0, 1}, {25, 0, 25, 25}, {25, 25, 0, 25}, {25, 50, 25, 25},
		{9999, 0, 49, 49}, {9999, 49, 0, 49}, {9999, 50, 49, 49}, {10000, 0, 0, 0}, {10000, 1, 49, 0}, {10000, 25, 25, 0}, {10000, 50, 0, 0}, {9951, 0, 1, 1}, {9951, 1, 0, 1}, {7919, 0, 19, 19}, {7919, 19, 0, 19}, {7919, 20, 49, 19},
	}
	for _, c := range cases {
		v := vernier{50, c.position}
		checkGap(t, v, c.k, c.gap)
		checkCoinciding(t, v, c.coinciding)
		checkNearestMark(t, v, c.coinciding)
		checkVernierRead(t, v, c.position)
	}
}

// checkRead looks only at what the program answers of a vernier; mark is the greatest
// mark of the main scale at or before its position.
func checkRead(t *testing.T, v vernier, mark int) {
	t.Helper()
	checkVernierRead(t, v, v.position)
	checkGap(t, v, 0, v.position-mark)
	k := impl.CoincidingMark(v.n, v.position)
	if k < 0 || k >= v.n {
		t.Fatalf("CoincidingMark(%d, %d) = %d", v.n, v.position, k)
	}
	checkGap(t, v, k, 0)
	checkNearestMark(t, v, k)
	for other := range k {
		if gap := impl.MarkGap(v.n, v.position, other); gap == 0 {
			t.Errorf("CoincidingMark(%d, %d) = %d, but mark %d coincides, too", v.n, v.position, k, other)
		}
	}
}

// TestEveryPositionIsRead has every valid vernier, as far as all is well: what is wrong
// with one is wrong with many.
func TestEveryPositionIsRead(t *testing.T) {
	for n := 2; n <= 50 && !t.Failed(); n++ {
		mark := 0
		for position := range 10001 {
			if position == mark+n {
				mark = position
			}
			checkRead(t, vernier{n, position}, mark)
		}
	}
}

// TestEveryGap has every mark of every valid vernier, laid out one by one, as far as
// all is well.
func TestEveryGap(t *testing.T) {
	coinciding := map[int]int{}
	for n := 2; n <= 50 && !t.Failed(); n++ {
		scale := mainScaleOf(n)
		for position := range 10001 {
			v := vernier{n, position}
			want := scale.look(v)
			checkLook(t, v, want)
			coinciding[want.coinciding]++
		}
	}
	for k := range 50 {
		if coinciding[k] < 200 {
			t.Errorf("mark %d coincides only %d times", k, coinciding[k])
		}
	}
	if len(coinciding) != 50 {
		t.Errorf("%d marks coincide", len(coinciding))
	}
}

// TestAtMarksOfMainScale has positions at each mark of the main scale, one before it
// and one behind it.
func TestAtMarksOfMainScale(t *testing.T) {
	for n := 2; n <= 50; n++ {
		for place := 0; place <= 10000; place += n {
			at := vernier{n, place}
			checkCoinciding(t, at, 0)
			checkNearestMark(t, at, 0)
			checkVernierRead(t, at, place)
			checkGap(t, at, 0, 0)
			checkGap(t, at, 1, n-1)
			checkGap(t, at, n-1, 1)
			checkGap(t, at, n, 0)
			if place > 0 {
				before := vernier{n, place - 1}
				checkCoinciding(t, before, n-1)
				checkNearestMark(t, before, n-1)
				checkVernierRead(t, before, place-1)
				checkGap(t, before, 0, n-1)
				checkGap(t, before, n-1, 0)
				checkGap(t, before, n, n-1)
			}
			if place < 10000 {
				behind := vernier{n, place + 1}
				checkCoinciding(t, behind, 1)
				checkNearestMark(t, behind, 1)
				checkVernierRead(t, behind, place+1)
				checkGap(t, behind, 0, 1)
				checkGap(t, behind, 1, 0)
				checkGap(t, behind, n, 1)
			}
		}
	}
}

// TestEndsOfPositions has every n at the least and the greatest position.
func TestEndsOfPositions(t *testing.T) {
	for n := 2; n <= 50; n++ {
		scale := mainScaleOf(n)
		for _, position := range []int{0, 1, n - 1, n, 9999, 10000} {
			v := vernier{n, position}
			checkLook(t, v, scale.look(v))
			checkVernierRead(t, v, position)
		}
		checkNoVernier(t, vernier{n, -1}, allFrom(-1, n+1))
		checkNoVernier(t, vernier{n, 10001}, allFrom(-1, n+1))
	}
}

// TestGapOfNoMark has valid verniers, and what is no mark of them.
func TestGapOfNoMark(t *testing.T) {
	for n := 2; n <= 50; n++ {
		list := noMarks(n)
		for _, position := range someVernierPositions {
			v := vernier{n, position}
			for _, k := range list {
				if k < 0 || k > n {
					checkGap(t, v, k, -1)
				}
			}
			for k := -200; k <= 200; k++ {
				if got := impl.MarkGap(n, position, k); (got == -1) != (k < 0 || k > n) || got < -1 || got >= n {
					t.Errorf("MarkGap(%d, %d, %d) = %d", n, position, k, got)
				}
			}
		}
	}
}

// TestGapOfMarkLimits changes a mark at its limit by 1, so that there is none.
func TestGapOfMarkLimits(t *testing.T) {
	cases := []struct{ n, position, k, want int }{
		{10, 37, 0, 7}, {10, 37, -1, -1}, {10, 37, 10, 7}, {10, 37, 11, -1}, {10, 40, 0, 0}, {10, 40, -1, -1}, {10, 40, 10, 0}, {10, 40, 11, -1}, {10, 0, -1, -1}, {10, 0, 11, -1}, {10, 10000, 10, 0}, {10, 10000, 11, -1},
		{2, 0, 0, 0}, {2, 0, -1, -1}, {2, 0, 2, 0}, {2, 0, 3, -1}, {2, 1, 2, 1}, {2, 1, 3, -1}, {2, 10000, 2, 0}, {2, 10000, 3, -1}, {2, 10000, -1, -1},
		{50, 0, 0, 0}, {50, 0, -1, -1}, {50, 0, 50, 0}, {50, 0, 51, -1}, {50, 10000, 50, 0}, {50, 10000, 51, -1}, {50, 10000, -1, -1}, {50, 7919, 50, 19}, {50, 7919, 51, -1},
		// A mark of a vernier with greater n.
		{2, 4, 10, -1}, {10, 4, 50, -1}, {49, 4, 50, -1},
		{10, 37, math.MinInt, -1}, {10, 37, math.MaxInt, -1}, {2, 0, math.MinInt, -1}, {2, 10000, math.MaxInt, -1}, {50, 0, math.MinInt, -1}, {50, 10000, math.MaxInt, -1}, {2, 0, math.MinInt + 1, -1}, {2, 0, math.MaxInt - 1, -1},
		// The vernier is not valid, either.
		{1, 0, 0, -1}, {1, 0, 1, -1}, {1, 0, 2, -1}, {51, 0, 51, -1}, {51, 0, 0, -1}, {10, -1, 0, -1}, {10, 10001, 10, -1}, {1, -1, -1, -1}, {51, 10001, 52, -1}, {0, 0, 0, -1}, {-1, 0, 0, -1},
		{math.MinInt, math.MinInt, math.MinInt, -1}, {math.MaxInt, math.MaxInt, math.MaxInt, -1}, {math.MinInt, 0, 0, -1}, {math.MaxInt, 0, 0, -1}, {10, math.MinInt, 0, -1}, {10, math.MaxInt, 0, -1}, {math.MaxInt, math.MinInt, math.MaxInt, -1},
	}
	for _, c := range cases {
		checkGap(t, vernier{c.n, c.position}, c.k, c.want)
	}
}

func TestVerniersNotInRange(t *testing.T) {
	marks := slices.Concat([]int{0, 1, 2, 7, 49, 50}, noMarks(50), noMarks(2))
	for _, v := range invalidVerniers() {
		checkNoVernier(t, v, marks)
	}
	for n := -100; n <= 1; n++ {
		for _, position := range someVernierPositions {
			checkNoVernier(t, vernier{n, position}, []int{-1, 0, 1, n, n + 1})
		}
	}
	for n := 51; n <= 200; n++ {
		for _, position := range someVernierPositions {
			checkNoVernier(t, vernier{n, position}, []int{-1, 0, 1, n, n + 1})
		}
	}
}

// TestVernierJustBeyond changes one number of a vernier by 1, so that it is not valid
// any more.
func TestVernierJustBeyond(t *testing.T) {
	all := allFrom(-2, 53)
	for _, position := range someVernierPositions {
		checkVernierRead(t, vernier{2, position}, position)
		checkNoVernier(t, vernier{1, position}, all)
		checkVernierRead(t, vernier{50, position}, position)
		checkNoVernier(t, vernier{51, position}, all)
	}
	for n := 2; n <= 50; n++ {
		checkVernierRead(t, vernier{n, 0}, 0)
		checkNoVernier(t, vernier{n, -1}, all)
		checkVernierRead(t, vernier{n, 10000}, 10000)
		checkNoVernier(t, vernier{n, 10001}, all)
	}
}

// A vernierAnswer is what the program said of a vernier and of all of its marks.
type vernierAnswer struct {
	ok                           bool
	gaps                         []int
	coinciding, reading, nearest int
}

func vernierAnswerTo(v vernier) vernierAnswer {
	answer := vernierAnswer{
		ok:         impl.VernierOk(v.n, v.position),
		coinciding: impl.CoincidingMark(v.n, v.position),
		reading:    impl.ReadVernier(v.n, v.position),
		nearest:    impl.NearestMark(v.n, v.position),
	}
	for k := -1; k <= 51; k++ {
		answer.gaps = append(answer.gaps, impl.MarkGap(v.n, v.position, k))
	}
	return answer
}

func TestVerniersAnswerTheSame(t *testing.T) {
	list := invalidVerniers()
	for n := 2; n <= 50; n++ {
		for _, position := range someVernierPositions {
			list = append(list, vernier{n, position})
		}
	}
	checkSameAgain(t, list, vernierAnswerTo)
}
