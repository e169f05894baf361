package tests

import (
	"math"
	"slices"
	"testing"

	"loop.example/g00992/impl"
)

// farMarks are marks that no ruler has, among them some that wrap around to
// small ones.
var farMarks = []int{
	-1, 61, -2, 62, 100, -60, -61, 1 << 32, 1<<32 + 1, 1<<32 + 60, -1 << 32, -1<<32 + 1, 1<<63 - 60, -1<<63 + 60,
	math.MinInt, math.MinInt + 1, math.MaxInt - 1, math.MaxInt,
}

// noMarkCounts are numbers of marks for which no shortest ruler is asked.
var noMarkCounts = []int{
	0, 6, -1, 7, 8, 9, 60, 61, -5, 1 << 32, 1<<32 + 1, 1<<32 + 5, -1 << 32, -1<<32 + 4,
	math.MinInt, math.MinInt + 1, math.MinInt + 5, math.MaxInt - 1, math.MaxInt,
}

// noFullLengths are last marks for which no fewest marks are asked.
var noFullLengths = []int{
	0, 14, -1, 15, 23, 60, 61, -13, 1 << 32, 1<<32 + 1, 1<<32 + 13, -1 << 32, -1<<32 + 6,
	math.MinInt, math.MinInt + 1, math.MinInt + 13, math.MaxInt - 1, math.MaxInt,
}

// rulersWith are all rulers with this number of marks and this last mark.
func rulersWith(count int, last int) [][]int {
	if count == 1 && last == 0 {
		return [][]int{{0}}
	}
	var rulers [][]int
	for before := count - 2; count > 1 && before < last; before++ {
		for _, ruler := range rulersWith(count-1, before) {
			rulers = append(rulers, append(ruler, last))
		}
	}
	return rulers
}

// rulersUpTo are all rulers of at most eight marks whose last mark is at most
// most.
func rulersUpTo(most int) [][]int {
	var rulers [][]int
	for count := 1; count <= 8; count++ {
		for last := range most + 1 {
			rulers = append(rulers, rulersWith(count, last)...)
		}
	}
	return rulers
}

// eightMarks are rulers of eight marks up to 60: with each length at most once,
// with all lengths, with many equal ones, and with some of any kind.
func eightMarks() [][]int {
	rulers := [][]int{
		{0, 1, 4, 9, 15, 22, 32, 34}, {0, 2, 12, 19, 25, 30, 33, 34}, {0, 1, 4, 9, 15, 22, 34, 60}, {0, 1, 4, 9, 15, 22, 32, 60}, {0, 1, 3, 7, 12, 20, 30, 44},
		{0, 1, 4, 10, 16, 18, 21, 23}, {0, 1, 2, 11, 15, 18, 21, 23}, {0, 1, 4, 10, 16, 18, 21, 24}, {0, 1, 2, 3, 4, 5, 6, 7}, {0, 1, 2, 3, 8, 13, 18, 19},
		{0, 53, 54, 55, 56, 57, 58, 59}, {0, 54, 55, 56, 57, 58, 59, 60}, {0, 1, 2, 3, 4, 5, 6, 60}, {0, 8, 16, 24, 32, 40, 48, 56},
		{0, 4, 12, 20, 28, 36, 52, 60}, {0, 1, 2, 4, 8, 16, 32, 60}, {0, 1, 3, 6, 10, 15, 21, 28}, {0, 1, 4, 9, 16, 25, 36, 49},
	}
	// Each step follows from the one before, so that it is the same in every run.
	step := 1
	for len(rulers) < 3000 {
		ruler := []int{0}
		for range 7 {
			step = (step*1103 + 12345) % 65537
			ruler = append(ruler, ruler[len(ruler)-1]+1+step%13)
		}
		if ruler[7] <= 60 {
			rulers = append(rulers, ruler)
		}
	}
	return rulers
}

// someRulers have few marks and small lengths, or eight marks.
func someRulers() [][]int {
	return slices.Concat(rulersUpTo(9), rulersWith(2, 60), rulersWith(3, 60), eightMarks()[:200])
}

// invalidRulers break one condition each: the number of the marks, the first or
// the last mark, or the order, at the beginning, in the middle and at the end.
func invalidRulers() [][]int {
	list := [][]int{
		nil, {}, make([]int, 0, 8), {0, 1, 2, 3, 4, 5, 6, 7, 8}, {0, 1, 4, 9, 15, 22, 32, 34, 60}, make([]int, 9), make([]int, 60),
		{1}, {-1}, {1, 2}, {-1, 0}, {-1, 1}, {1, 2, 5, 7}, {-1, 0, 3, 5}, {-6, -5, -2, 0}, {60}, {61}, {2, 3}, {1, 1}, {1, 0}, {-1, 0, 1, 4, 6},
		{0, 0}, {0, 0, 1}, {0, 1, 1}, {0, 1, 1, 3}, {0, 3, 3}, {0, 0, 1, 4, 6}, {0, 1, 4, 6, 6}, {0, 0, 60}, {0, 60, 60}, {0, 0, 0}, make([]int, 8),
		{0, -1}, {0, -1, 5, 6}, {0, 2, 1}, {0, 2, 1, 6}, {0, 1, 6, 4}, {0, 4, 1, 6}, {4, 0, 6}, {1, 0, 4, 6}, {0, 6, 4, 1}, {6, 4, 1, 0}, {0, 60, 1}, {0, 60, 59},
		{0, 61}, {0, 1, 61}, {0, 60, 61}, {0, 1, 3, 61}, {0, 1, 4, 9, 15, 22, 32, 61}, {0, 55, 56, 57, 58, 59, 60, 61}, {0, 100}, {0, 61, 60}, {0, 61, 1},
		{0, math.MaxInt, math.MinInt}, {0, math.MinInt, math.MaxInt}, {math.MinInt, math.MaxInt}, {math.MinInt, 0, math.MaxInt}, {math.MaxInt, math.MinInt},
	}
	for n := 9; n <= 61; n++ {
		ruler := make([]int, n)
		for i := range ruler {
			ruler[i] = i
		}
		list = append(list, ruler)
	}
	for n := 1; n <= 8; n++ {
		ruler := []int{0, 1, 4, 9, 15, 22, 32, 34}[:n]
		for place := range n {
			for _, mark := range farMarks {
				list = append(list, with(ruler, place, mark))
			}
			if place > 0 {
				list = append(list, with(ruler, place, ruler[place-1]), with(ruler, place, ruler[place-1]-1), with(with(ruler, place, ruler[place-1]), place-1, ruler[place]))
			}
		}
	}
	return list
}

// isRuler is what the chapter says of the marks, one pair after the other.
func isRuler(marks []int) bool {
	for i := 1; i < len(marks); i++ {
		if marks[i-1] >= marks[i] {
			return false
		}
	}
	return len(marks) >= 1 && len(marks) <= 8 && marks[0] == 0 && slices.Max(marks) <= 60
}

// lengthsBetween are the lengths of all pairs of marks, in ascending order,
// computed without the program.
func lengthsBetween(marks []int) []int {
	var lengths []int
	for i := range marks {
		for k := i + 1; k < len(marks); k++ {
			lengths = append(lengths, marks[k]-marks[i])
		}
	}
	slices.Sort(lengths)
	return lengths
}

func hasTwice(lengths []int) bool {
	for i := 1; i < len(lengths); i++ {
		if lengths[i-1] == lengths[i] {
			return true
		}
	}
	return false
}

func hasAll(lengths []int, last int) bool {
	for length := 1; length <= last; length++ {
		if _, found := slices.BinarySearch(lengths, length); !found {
			return false
		}
	}
	return true
}

// checkRuler compares what the program says of a valid ruler with its lengths.
func checkRuler(t *testing.T, marks []int) {
	t.Helper()
	if !impl.RulerOk(marks) {
		t.Fatalf("RulerOk(%v) is false", marks)
	}
	want := lengthsBetween(marks)
	if got := impl.LengthsOf(marks); !slices.Equal(got, want) {
		t.Errorf("LengthsOf(%v) = %v; want %v", marks, got, want)
	}
	checkMeasures(t, marks, !hasTwice(want), hasAll(want, marks[len(marks)-1]))
}

func checkMeasures(t *testing.T, marks []int, golomb bool, all bool) {
	t.Helper()
	if got := impl.IsGolomb(marks); got != golomb {
		t.Errorf("IsGolomb(%v) = %v", marks, got)
	}
	if got := impl.MeasuresAll(marks); got != all {
		t.Errorf("MeasuresAll(%v) = %v", marks, got)
	}
}

func checkNoRuler(t *testing.T, marks []int) {
	t.Helper()
	if impl.RulerOk(marks) {
		t.Errorf("RulerOk(%v) is true", marks)
	}
	if got := impl.LengthsOf(marks); len(got) != 0 {
		t.Errorf("LengthsOf(%v) = %v; want nil", marks, got)
	}
	if got := impl.MirrorRuler(marks); len(got) != 0 {
		t.Errorf("MirrorRuler(%v) = %v; want nil", marks, got)
	}
	checkMeasures(t, marks, false, false)
}

func TestRulerLimit(t *testing.T) {
	if impl.MaxLength != 60 {
		t.Error("greatest last mark:", impl.MaxLength)
	}
}

func TestRulerOk(t *testing.T) {
	for _, marks := range [][]int{
		{0}, {0, 1}, {0, 59}, {0, 60}, {0, 1, 60}, {0, 59, 60}, {0, 1, 4, 6}, {0, 1, 2, 3, 4, 5, 6}, {0, 1, 2, 3, 4, 5, 6, 7},
		{0, 1, 4, 9, 15, 22, 32, 34}, {0, 1, 4, 9, 15, 22, 32, 60}, {0, 54, 55, 56, 57, 58, 59, 60},
	} {
		if !impl.RulerOk(marks) {
			t.Errorf("RulerOk(%v) is false", marks)
		}
	}
	for last := range 61 {
		if got := impl.RulerOk([]int{0, last}); got != (last > 0) {
			t.Errorf("RulerOk({0, %d}) = %v", last, got)
		}
	}
}

// TestRulerOkEachList has all lists of a few small numbers.
func TestRulerOkEachList(t *testing.T) {
	var tryAll func(list []int)
	tryAll = func(list []int) {
		if got, want := impl.RulerOk(list), isRuler(list); got != want {
			t.Errorf("RulerOk(%v) = %v; want %v", list, got, want)
		}
		for mark := -1; mark <= 3 && len(list) < 5; mark++ {
			tryAll(append(slices.Clone(list), mark))
		}
	}
	tryAll(nil)
}

// TestRulerOkEachPlace moves one mark of a ruler past the ones beside it.
func TestRulerOkEachPlace(t *testing.T) {
	for _, ruler := range [][]int{{0}, {0, 60}, {0, 30, 60}, {0, 1, 4, 6}, {0, 1, 4, 9, 15, 22, 32, 34}, {0, 1, 4, 9, 15, 22, 32, 60}} {
		for place := range ruler {
			for mark := -3; mark <= 64; mark++ {
				marks := with(ruler, place, mark)
				if got, want := impl.RulerOk(marks), isRuler(marks); got != want {
					t.Errorf("RulerOk(%v) = %v; want %v", marks, got, want)
				}
			}
		}
	}
}

func TestInvalidRulers(t *testing.T) {
	for _, marks := range invalidRulers() {
		checkNoRuler(t, marks)
	}
}

// TestOneMark has no length, so that none occurs twice, and every one from 1 to
// the last mark, 0, occurs.
func TestOneMark(t *testing.T) {
	if got := impl.LengthsOf([]int{0}); len(got) != 0 {
		t.Errorf("LengthsOf({0}) = %v; want none", got)
	}
	checkRuler(t, []int{0})
	checkMeasures(t, []int{0}, true, true)
	if got := impl.MirrorRuler([]int{0}); !slices.Equal(got, []int{0}) {
		t.Errorf("MirrorRuler({0}) = %v; want {0}", got)
	}
	if got := impl.ShortestGolomb(1); !slices.Equal(got, []int{0}) {
		t.Errorf("ShortestGolomb(1) = %v; want {0}", got)
	}
}

func TestLengthsOf(t *testing.T) {
	cases := []struct{ marks, want []int }{
		{[]int{0}, nil},
		{[]int{0, 1}, []int{1}},
		{[]int{0, 60}, []int{60}},
		{[]int{0, 1, 2}, []int{1, 1, 2}},
		{[]int{0, 1, 3}, []int{1, 2, 3}},
		{[]int{0, 30, 60}, []int{30, 30, 60}},
		{[]int{0, 1, 60}, []int{1, 59, 60}},
		{[]int{0, 1, 4, 6}, []int{1, 2, 3, 4, 5, 6}},
		{[]int{0, 2, 4, 6}, []int{2, 2, 2, 4, 4, 6}},
		{[]int{0, 1, 10, 11}, []int{1, 1, 9, 10, 10, 11}},
		{[]int{0, 1, 4, 9, 11}, []int{1, 2, 3, 4, 5, 7, 8, 9, 10, 11}},
		{[]int{0, 1, 2, 3, 4, 5, 6, 7}, []int{1, 1, 1, 1, 1, 1, 1, 2, 2, 2, 2, 2, 2, 3, 3, 3, 3, 3, 4, 4, 4, 4, 5, 5, 5, 6, 6, 7}},
	}
	for _, c := range cases {
		if got := impl.LengthsOf(c.marks); !slices.Equal(got, c.want) {
			t.Errorf("LengthsOf(%v) = %v; want %v", c.marks, got, c.want)
		}
		if n := len(c.marks); len(impl.LengthsOf(c.marks)) != n*(n-1)/2 {
			t.Errorf("LengthsOf(%v) does not have a length for each pair of marks", c.marks)
		}
		checkRuler(t, c.marks)
	}
}

// TestMeasures has rulers on which a length occurs twice, rulers on which one is
// missing, and both and neither of it.
func TestMeasures(t *testing.T) {
	for _, marks := range [][]int{{0}, {0, 1}, {0, 1, 3}, {0, 2, 3}, {0, 1, 4, 6}, {0, 2, 5, 6}} {
		checkMeasures(t, marks, true, true)
	}
	for _, marks := range [][]int{
		{0, 2}, {0, 3}, {0, 60}, {0, 1, 4}, {0, 2, 6}, {0, 1, 60}, {0, 1, 4, 9}, {0, 2, 5, 9}, {0, 1, 4, 9, 11}, {0, 2, 7, 8, 11},
		{0, 1, 4, 10, 12, 17}, {0, 1, 4, 10, 18, 23, 25}, {0, 1, 4, 9, 15, 22, 32, 34}, {0, 1, 4, 9, 15, 22, 34, 60},
	} {
		checkMeasures(t, marks, true, false)
	}
	for _, marks := range [][]int{
		{0, 1, 2}, {0, 1, 2, 3}, {0, 1, 2, 4}, {0, 1, 3, 5}, {0, 1, 2, 6, 9}, {0, 1, 4, 7, 9}, {0, 1, 2, 6, 10, 13}, {0, 1, 2, 3, 4, 5, 6, 7},
		{0, 1, 4, 10, 16, 18, 21, 23}, {0, 1, 2, 11, 15, 18, 21, 23},
	} {
		checkMeasures(t, marks, false, true)
	}
	for _, marks := range [][]int{
		{0, 2, 4}, {0, 30, 60}, {0, 1, 10, 11}, {0, 2, 4, 6}, {0, 1, 2, 7}, {0, 5, 6, 7}, {0, 2, 4, 5, 20}, {0, 1, 2, 3, 4, 5, 6, 60},
		{0, 54, 55, 56, 57, 58, 59, 60}, {0, 1, 4, 10, 16, 18, 21, 24}, {0, 8, 16, 24, 32, 40, 48, 56},
	} {
		checkMeasures(t, marks, false, false)
	}
}

// TestSmallRulers has all rulers up to a last mark, and all of few marks.
func TestSmallRulers(t *testing.T) {
	for _, marks := range rulersUpTo(13) {
		checkRuler(t, marks)
	}
	for count := 1; count <= 3; count++ {
		for last := range 61 {
			for _, marks := range rulersWith(count, last) {
				checkRuler(t, marks)
			}
		}
	}
}

func TestRulersOfEightMarks(t *testing.T) {
	for _, marks := range eightMarks() {
		checkRuler(t, marks)
	}
}

// checkExactlyOnce reports a ruler that measures every length exactly once and
// has more than four marks, or not one length for each pair of marks.
func checkExactlyOnce(t *testing.T, marks []int) bool {
	t.Helper()
	if !impl.IsGolomb(marks) || !impl.MeasuresAll(marks) {
		return false
	}
	n := len(marks)
	if n > 4 || marks[n-1] != n*(n-1)/2 {
		t.Errorf("%v measures every length exactly once", marks)
	}
	return true
}

func TestEveryLengthExactlyOnce(t *testing.T) {
	var found [][]int
	for _, marks := range rulersUpTo(14) {
		if checkExactlyOnce(t, marks) {
			found = append(found, marks)
		}
	}
	want := [][]int{{0}, {0, 1}, {0, 2, 3}, {0, 1, 3}, {0, 2, 5, 6}, {0, 1, 4, 6}}
	slices.SortFunc(found, slices.Compare[[]int])
	slices.SortFunc(want, slices.Compare[[]int])
	if !sameLists(found, want) {
		t.Errorf("%v measure every length exactly once; want %v", found, want)
	}
}

// TestAsLongAsPairs has the only last mark with which a ruler of more than four
// marks could have one length for each pair of marks.
func TestAsLongAsPairs(t *testing.T) {
	for count := 5; count <= 8; count++ {
		for _, marks := range rulersWith(count, count*(count-1)/2) {
			checkExactlyOnce(t, marks)
		}
	}
}

// TestFewMarksExactlyOnce has all rulers of at most four marks, up to the
// greatest last mark.
func TestFewMarksExactlyOnce(t *testing.T) {
	for count := 1; count <= 4; count++ {
		for last := range 61 {
			for _, marks := range rulersWith(count, last) {
				checkExactlyOnce(t, marks)
			}
		}
	}
}

// shortestWithoutTwice is the first of the shortest rulers on which no length
// occurs twice, found without the program.
func shortestWithoutTwice(n int) []int {
	for last := range 61 {
		var found [][]int
		for _, marks := range rulersWith(n, last) {
			if !hasTwice(lengthsBetween(marks)) {
				found = append(found, marks)
			}
		}
		if len(found) > 0 {
			return slices.MinFunc(found, slices.Compare[[]int])
		}
	}
	return nil
}

func TestShortestGolomb(t *testing.T) {
	want := [][]int{{0}, {0, 1}, {0, 1, 3}, {0, 1, 4, 6}, {0, 1, 4, 9, 11}}
	for n := 1; n <= 5; n++ {
		got := impl.ShortestGolomb(n)
		if !slices.Equal(got, want[n-1]) {
			t.Errorf("ShortestGolomb(%d) = %v; want %v", n, got, want[n-1])
		}
		if found := shortestWithoutTwice(n); !slices.Equal(got, found) {
			t.Errorf("ShortestGolomb(%d) = %v; %v was found among all rulers", n, got, found)
		}
		if !impl.IsGolomb(got) || impl.MeasuresAll(got) != (n <= 4) {
			t.Errorf("ShortestGolomb(%d) = %v does not measure as it should", n, got)
		}
	}
}

func TestShortestGolombRejects(t *testing.T) {
	for _, n := range noMarkCounts {
		if got := impl.ShortestGolomb(n); len(got) != 0 {
			t.Errorf("ShortestGolomb(%d) = %v; want nil", n, got)
		}
	}
}

// fewestWithAll is the least number of marks, found without the program.
func fewestWithAll(length int) int {
	for count := 1; count <= 8; count++ {
		for _, marks := range rulersWith(count, length) {
			if hasAll(lengthsBetween(marks), length) {
				return count
			}
		}
	}
	return 0
}

func TestFewestMarks(t *testing.T) {
	want := []int{2, 3, 3, 4, 4, 4, 5, 5, 5, 6, 6, 6, 6}
	for length := 1; length <= 13; length++ {
		got := impl.FewestMarks(length)
		if got != want[length-1] {
			t.Errorf("FewestMarks(%d) = %d; want %d", length, got, want[length-1])
		}
		if found := fewestWithAll(length); got != found {
			t.Errorf("FewestMarks(%d) = %d; %d was found among all rulers", length, got, found)
		}
	}
}

func TestFewestMarksRejects(t *testing.T) {
	for _, length := range noFullLengths {
		if got := impl.FewestMarks(length); got != 0 {
			t.Errorf("FewestMarks(%d) = %d; want 0", length, got)
		}
	}
}

func TestMirrorRuler(t *testing.T) {
	cases := []struct{ marks, want []int }{
		{[]int{0}, []int{0}},
		{[]int{0, 1}, []int{0, 1}},
		{[]int{0, 60}, []int{0, 60}},
		{[]int{0, 1, 3}, []int{0, 2, 3}},
		{[]int{0, 1, 2}, []int{0, 1, 2}},
		{[]int{0, 1, 4, 6}, []int{0, 2, 5, 6}},
		{[]int{0, 1, 60}, []int{0, 59, 60}},
		{[]int{0, 1, 4, 9, 11}, []int{0, 2, 7, 10, 11}},
		{[]int{0, 1, 4, 9, 15, 22, 32, 60}, []int{0, 28, 38, 45, 51, 56, 59, 60}},
	}
	for _, c := range cases {
		if got := impl.MirrorRuler(c.marks); !slices.Equal(got, c.want) {
			t.Errorf("MirrorRuler(%v) = %v; want %v", c.marks, got, c.want)
		}
		if got := impl.MirrorRuler(c.want); !slices.Equal(got, c.marks) {
			t.Errorf("MirrorRuler(%v) = %v; want %v", c.want, got, c.marks)
		}
	}
}

// checkMirrored compares a ruler with what is read from its other end.
func checkMirrored(t *testing.T, marks []int) {
	t.Helper()
	last := marks[len(marks)-1]
	got := impl.MirrorRuler(marks)
	if len(got) != len(marks) || got[0] != 0 || got[len(got)-1] != last || !impl.RulerOk(got) {
		t.Fatalf("MirrorRuler(%v) = %v", marks, got)
	}
	for _, mark := range marks {
		if !slices.Contains(got, last-mark) {
			t.Errorf("MirrorRuler(%v) = %v, without %d", marks, got, last-mark)
		}
	}
	if !slices.Equal(lengthsBetween(got), lengthsBetween(marks)) || !slices.Equal(impl.LengthsOf(got), impl.LengthsOf(marks)) {
		t.Errorf("MirrorRuler(%v) = %v has other lengths", marks, got)
	}
	if impl.IsGolomb(got) != impl.IsGolomb(marks) || impl.MeasuresAll(got) != impl.MeasuresAll(marks) {
		t.Errorf("MirrorRuler(%v) = %v measures other lengths", marks, got)
	}
	if twice := impl.MirrorRuler(got); !slices.Equal(twice, marks) {
		t.Errorf("MirrorRuler(%v) twice is %v", marks, twice)
	}
}

func TestMirroredRulers(t *testing.T) {
	for _, marks := range slices.Concat(rulersUpTo(11), eightMarks()) {
		checkMirrored(t, marks)
	}
}

// TestRulersChangeNothing calls the functions with valid and invalid rulers that
// have spare capacity.
func TestRulersChangeNothing(t *testing.T) {
	for _, marks := range append(someRulers(), invalidRulers()...) {
		given, changed := guarded(marks)
		impl.RulerOk(given)
		impl.LengthsOf(given)
		impl.IsGolomb(given)
		impl.MeasuresAll(given)
		impl.MirrorRuler(given)
		if changed() {
			t.Errorf("an argument of %v was changed", marks)
		}
	}
}

// checkNewList writes to one answer, appends to another one and writes behind
// it, and looks at a third one and at a fourth one that comes after.
func checkNewList(t *testing.T, name string, answer func() []int) {
	t.Helper()
	first, second, third := answer(), answer(), answer()
	want := slices.Clone(third)
	overwrite(first)
	if !slices.Equal(second, want) || !slices.Equal(third, want) {
		t.Fatalf("%s shares memory: %v and %v; want %v", name, second, third, want)
	}
	overwrite(append(second, 9, 9, 9)[len(want):])
	if got := answer(); !slices.Equal(second, want) || !slices.Equal(third, want) || !slices.Equal(got, want) {
		t.Fatalf("%s keeps memory: %v, %v and %v; want %v", name, second, third, got, want)
	}
}

// checkNewAnswer also writes to an answer and looks at the argument, and the
// other way around.
func checkNewAnswer(t *testing.T, name string, marks []int, answer func([]int) []int) {
	t.Helper()
	given, changed := guarded(marks)
	checkNewList(t, name, func() []int { return answer(given) })
	first, second := answer(given), answer(given)
	want := slices.Clone(second)
	overwrite(append(first, 9, 9, 9))
	overwrite(first)
	if changed() {
		t.Fatalf("%s of %v shares memory with its argument", name, marks)
	}
	overwrite(given)
	if !slices.Equal(second, want) {
		t.Fatalf("%s of %v shares memory with its argument: %v; want %v", name, marks, second, want)
	}
}

func TestRulerAnswersAreNew(t *testing.T) {
	for _, marks := range append(someRulers(), invalidRulers()...) {
		checkNewAnswer(t, "LengthsOf", marks, impl.LengthsOf)
		checkNewAnswer(t, "MirrorRuler", marks, impl.MirrorRuler)
	}
}

func TestShortestGolombIsNew(t *testing.T) {
	for n := 0; n <= 6; n++ {
		checkNewList(t, "ShortestGolomb", func() []int { return impl.ShortestGolomb(n) })
	}
	// Each answer could be the beginning of another one.
	for n := 1; n <= 5; n++ {
		var others [][]int
		for k := 1; k <= 5; k++ {
			others = append(others, impl.ShortestGolomb(k))
		}
		overwrite(others[n-1])
		for k := 1; k <= 5; k++ {
			if k != n && !slices.Equal(others[k-1], impl.ShortestGolomb(k)) {
				t.Errorf("ShortestGolomb(%d) and ShortestGolomb(%d) share memory", n, k)
			}
		}
	}
}

// TestRulersKeepNothing asks for one thing after another, so that something that
// was kept would show.
func TestRulersKeepNothing(t *testing.T) {
	for range 3 {
		checkRuler(t, []int{0, 1, 4, 6})
		checkNoRuler(t, []int{0, 1, 4, 61})
		checkRuler(t, []int{0, 2, 4, 6})
		checkNoRuler(t, nil)
		checkRuler(t, []int{0})
		checkMirrored(t, []int{0, 1, 4, 9, 15, 22, 32, 60})
		for _, n := range []int{5, 1, 4, 2, 3} {
			if got, want := impl.ShortestGolomb(n), shortestWithoutTwice(n); !slices.Equal(got, want) {
				t.Errorf("ShortestGolomb(%d) = %v; want %v", n, got, want)
			}
			if got, want := impl.FewestMarks(2*n), fewestWithAll(2*n); got != want {
				t.Errorf("FewestMarks(%d) = %d; want %d", 2*n, got, want)
			}
			if got, other := impl.ShortestGolomb(n+5), impl.FewestMarks(n+13); len(got) != 0 || other != 0 {
				t.Errorf("ShortestGolomb(%d) = %v, and FewestMarks(%d) = %d", n+5, got, n+13, other)
			}
		}
	}
}
