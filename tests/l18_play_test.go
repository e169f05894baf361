package tests

import (
	"math"
	"slices"
	"testing"

	"loop.example/g00992/impl"
)

// What follows is beyond a limit: of half of the play, of a start or an input of
// PlayAll, and of what is shown or an input of PlayStep.
var (
	noHalves  = append([]int{-1, 101, -2, 102, -50, -100, 150, 200, 1000}, farInts...)
	noPlayed  = append([]int{-10001, 10001, -10002, 10002, -10100, 10100, -20000, 20000}, farInts...)
	noStepped = append([]int{-20001, 20001, -20002, 20002, -20100, 20100, -40000, 40000}, farInts...)
)

var (
	someHalves = []int{0, 1, 2, 3, 5, 10, 25, 50, 75, 98, 99, 100}
	someStarts = []int{-10000, -9999, -9900, -5000, -101, -100, -7, -1, 0, 1, 2, 50, 99, 100, 201, 5000, 9899, 9900, 9901, 9999, 10000}
)

// A play is an instrument and what it has to follow.
type play struct {
	half, start int
	inputs      []int
}

func playOf(half int, start int, inputs ...int) play {
	return play{half, start, inputs}
}

// sameInputs is an input again and again.
func sameInputs(count int, input int) []int {
	return slices.Repeat([]int{input}, count)
}

// inputsBy answers the inputs of a rule, those beyond the range at its end.
func inputsBy(count int, rule func(i int) int) []int {
	var list []int
	for i := range count {
		list = append(list, max(-10000, min(10000, rule(i))))
	}
	return list
}

// swing is 1 and -1 in turn.
func swing(i int) int {
	return 1 - i%2*2
}

// swingingInputs rise, fall, and go back and forth: equally far, further each time,
// and less far each time.
func swingingInputs(start int, by int) [][]int {
	return [][]int{
		inputsBy(20, func(i int) int { return start + (i+1)*by }),
		inputsBy(20, func(i int) int { return start - (i+1)*by }),
		inputsBy(20, func(i int) int { return start + swing(i)*by }),
		inputsBy(20, func(i int) int { return start + swing(i)*i*by }),
		inputsBy(20, func(i int) int { return start - swing(i)*(20-i)*by }),
	}
}

// aroundEdges are differences of an input and what was shown before: within the play,
// at its edges, one beyond them, and further.
func aroundEdges(half int) []int {
	return []int{0, 1, -1, half - 1, 1 - half, half, -half, half + 1, -half - 1, half + 2, -half - 2, 2*half + 1, -2*half - 1, 20000, -20000}
}

// inputListsFor are lists of each kind for an instrument; none of them is empty.
func inputListsFor(half int, start int) [][]int {
	var list [][]int
	for _, by := range []int{1, half, half + 1, 2 * half, 2*half + 1, 37, 700} {
		list = append(list, swingingInputs(start, by)...)
	}
	for _, d := range aroundEdges(half) {
		for _, count := range []int{1, 2, 60} {
			list = append(list, inputsBy(count, func(int) int { return start + d }))
		}
		for _, e := range []int{half, -half, half + 1, -half - 1} {
			list = append(list, inputsBy(3, func(i int) int { return start + d + i*e }))
		}
	}
	next := mixer(18 + half)
	for _, wide := range []int{half, 2*half + 2, 4*half + 30, 20000} {
		list = append(list, inputsBy(60, func(int) int { return start + next(2*wide+1) - wide }))
	}
	return list
}

// The reckonings below are for valid plays, and without the program.

// dragged moves one unit after the other, as long as the input is too far away.
func dragged(half int, shown int, input int) int {
	for input-shown > half {
		shown++
	}
	for shown-input > half {
		shown--
	}
	return shown
}

// middle is the middle one of what was shown and the two edges of the play.
func middle(half int, shown int, input int) int {
	three := []int{input + half, shown, input - half}
	slices.Sort(three)
	return three[1]
}

func apart(a int, b int) int {
	return max(a-b, b-a)
}

func (p play) path() []int {
	list := []int{p.start}
	for i, input := range p.inputs {
		list = append(list, middle(p.half, list[i], input))
	}
	return list
}

// moves counts the inputs that are too far away for the instrument to stay.
func (p play) moves() int {
	path, count := p.path(), 0
	for i, input := range p.inputs {
		if apart(input, path[i]) > p.half {
			count++
		}
	}
	return count
}

// lags are the differences after each input.
func (p play) lags() []int {
	var list []int
	for i, shown := range p.path()[1:] {
		list = append(list, apart(p.inputs[i], shown))
	}
	return list
}

func (p play) lag() int {
	list := append(p.lags(), 0)
	slices.Sort(list)
	return list[len(list)-1]
}

func checkPlayOk(t *testing.T, half int, start int, want bool) {
	t.Helper()
	if got := impl.PlayOk(half, start); got != want {
		t.Errorf("PlayOk(%d, %d) = %v", half, start, got)
	}
}

func checkStep(t *testing.T, half int, shown int, input int, want int) {
	t.Helper()
	if got := impl.PlayStep(half, shown, input); got != want {
		t.Errorf("PlayStep(%d, %d, %d) = %d; want %d", half, shown, input, got, want)
	}
}

// checkAnswers compares with numbers; the path nil is for what cannot be followed.
func checkAnswers(t *testing.T, p play, path []int, moves int, lag int) {
	t.Helper()
	if got := impl.PlayAll(p.half, p.start, p.inputs); !slices.Equal(got, path) {
		t.Errorf("PlayAll(%d, %d, %v) = %v; want %v", p.half, p.start, p.inputs, got, path)
	}
	if got := impl.CountMoves(p.half, p.start, p.inputs); got != moves {
		t.Errorf("CountMoves(%d, %d, %v) = %d; want %d", p.half, p.start, p.inputs, got, moves)
	}
	if got := impl.GreatestLag(p.half, p.start, p.inputs); got != lag {
		t.Errorf("GreatestLag(%d, %d, %v) = %d; want %d", p.half, p.start, p.inputs, got, lag)
	}
}

func checkRefused(t *testing.T, p play) {
	t.Helper()
	checkAnswers(t, p, nil, -1, -1)
}

func checkReckoned(t *testing.T, p play) {
	t.Helper()
	checkAnswers(t, p, p.path(), p.moves(), p.lag())
}

// checkFollowed looks only at what the program answers: nothing that is shown is
// further away than half, and it stays there.
func checkFollowed(t *testing.T, p play) {
	t.Helper()
	path := impl.PlayAll(p.half, p.start, p.inputs)
	if len(path) != len(p.inputs)+1 || path[0] != p.start {
		t.Fatalf("PlayAll(%d, %d, %v) = %v", p.half, p.start, p.inputs, path)
	}
	for i, input := range p.inputs {
		shown := path[i+1]
		if apart(shown, input) > p.half {
			t.Errorf("PlayAll(%d, %d, %v)[%d] = %d, too far from %d", p.half, p.start, p.inputs, i+1, shown, input)
		}
		checkStep(t, p.half, path[i], input, shown)
		checkStep(t, p.half, shown, input, shown)
	}
	if got := impl.GreatestLag(p.half, p.start, p.inputs); got < 0 || got > p.half {
		t.Errorf("GreatestLag(%d, %d, %v) = %d", p.half, p.start, p.inputs, got)
	}
	if got := impl.CountMoves(p.half, p.start, p.inputs); got < 0 || got > len(p.inputs) {
		t.Errorf("CountMoves(%d, %d, %v) = %d", p.half, p.start, p.inputs, got)
	}
}

func TestPlayOkLimits(t *testing.T) {
	for _, half := range []int{0, 1, 2, 50, 99, 100} {
		for _, start := range []int{-10000, -9999, -101, -1, 0, 1, 100, 9999, 10000} {
			checkPlayOk(t, half, start, true)
		}
		for _, start := range noPlayed {
			checkPlayOk(t, half, start, false)
		}
	}
	for _, half := range noHalves {
		for _, start := range slices.Concat(someStarts, noPlayed) {
			checkPlayOk(t, half, start, false)
		}
	}
	for half := -300; half <= 300; half++ {
		checkPlayOk(t, half, 0, half >= 0 && half <= 100)
		checkPlayOk(t, half, 10000, half >= 0 && half <= 100)
		checkPlayOk(t, half, -10001, false)
	}
	for start := -10200; start <= 10200; start++ {
		checkPlayOk(t, 7, start, start >= -10000 && start <= 10000)
	}
}

func TestPlayStepByHand(t *testing.T) {
	cases := []struct{ half, shown, input, want int }{
		{2, 0, -9, -7}, {2, 0, 9, 7}, {2, 0, 2, 0}, {2, 0, -2, 0}, {2, 0, 3, 1}, {2, 0, -3, -1}, {2, 0, 0, 0}, {2, 0, 1, 0}, {2, 0, -1, 0},
		{5, 10, 20, 15}, {5, 15, 20, 15}, {5, 14, 20, 15}, {5, 16, 20, 16}, {5, 20, 20, 20}, {5, 24, 20, 24}, {5, 25, 20, 25}, {5, 26, 20, 25}, {5, 100, 20, 25},
		{5, -100, -20, -25}, {5, -26, -20, -25}, {5, -25, -20, -25}, {5, -24, -20, -24}, {5, -16, -20, -16}, {5, -15, -20, -15}, {5, -14, -20, -15}, {5, 20, -20, -15},
		{0, 0, 0, 0}, {0, 4, 4, 4}, {0, 4, 5, 5}, {0, 4, 3, 3}, {0, -4, 4, 4}, {0, 4, -4, -4}, {0, 4, 20000, 20000}, {0, 4, -20000, -20000},
		{1, 4, 4, 4}, {1, 4, 5, 4}, {1, 4, 3, 4}, {1, 4, 6, 5}, {1, 4, 2, 3}, {1, 1, -1, 0}, {1, -1, 1, 0},
		{100, 0, 100, 0}, {100, 0, 101, 1}, {100, 0, -100, 0}, {100, 0, -101, -1}, {100, 12000, -12000, -11900}, {100, -12000, 12000, 11900}, {100, 10001, 10002, 10001},
	}
	for _, c := range cases {
		checkStep(t, c.half, c.shown, c.input, c.want)
	}
}

// TestPlayStepAtLimits has what is shown and inputs at the ends of their range.
func TestPlayStepAtLimits(t *testing.T) {
	cases := []struct{ half, shown, input, want int }{
		{0, 20000, 20000, 20000}, {0, 20000, -20000, -20000}, {0, -20000, 20000, 20000}, {0, -20000, -20000, -20000}, {0, 20000, 0, 0}, {0, -20000, 0, 0}, {0, 0, 20000, 20000}, {0, 0, -20000, -20000},
		{100, 20000, 20000, 20000}, {100, 20000, -20000, -19900}, {100, -20000, 20000, 19900}, {100, -20000, -20000, -20000}, {100, 20000, 0, 100}, {100, -20000, 0, -100}, {100, 0, 20000, 19900}, {100, 0, -20000, -19900},
		{0, 20000, 19999, 19999}, {0, 19999, 20000, 20000}, {100, 20000, 19900, 20000}, {100, 20000, 19899, 19999}, {100, 19900, 20000, 19900}, {100, 19899, 20000, 19900}, {100, -20000, -19900, -20000}, {100, -20000, -19899, -19999}, {100, -19900, -20000, -19900}, {100, -19899, -20000, -19900},
	}
	for _, c := range cases {
		checkStep(t, c.half, c.shown, c.input, c.want)
		if got := dragged(c.half, c.shown, c.input); got != c.want {
			t.Errorf("with half %d, %d is dragged to %d by %d, not to %d", c.half, c.shown, got, c.input, c.want)
		}
	}
}

// checkDragged compares with both reckonings, and asks again at what is shown then.
func checkDragged(t *testing.T, half int, shown int, input int) int {
	t.Helper()
	want := dragged(half, shown, input)
	if other := middle(half, shown, input); other != want {
		t.Fatalf("with half %d, %d is dragged to %d or %d by %d", half, shown, want, other, input)
	}
	checkStep(t, half, shown, input, want)
	checkStep(t, half, want, input, want)
	if got := impl.PlayStep(half, shown, input); apart(got, input) > half {
		t.Errorf("PlayStep(%d, %d, %d) = %d, too far away", half, shown, input, got)
	}
	return want
}

// TestPlayStepAroundEdges has every half, and what is shown below, at and above both
// edges.
func TestPlayStepAroundEdges(t *testing.T) {
	raised, lowered, stayed := 0, 0, 0
	for half := range 101 {
		for _, input := range []int{-20000, -19999, -19900, -10001, -10000, -101, -100, -1, 0, 1, 55, 100, 10000, 10001, 19900, 19999, 20000} {
			for _, edge := range []int{input - half, input, input + half} {
				for shown := edge - 3; shown <= edge+3; shown++ {
					if shown < -20000 || shown > 20000 {
						continue
					}
					got := checkDragged(t, half, shown, input)
					switch {
					case shown < input-half:
						checkStep(t, half, shown, input, input-half)
						raised++
					case shown > input+half:
						checkStep(t, half, shown, input, input+half)
						lowered++
					default:
						checkStep(t, half, shown, input, shown)
						stayed++
					}
					// The sides are alike.
					checkStep(t, half, -shown, -input, -got)
				}
			}
		}
	}
	if raised < 4000 || lowered < 4000 || stayed < 4000 {
		t.Errorf("%d raised, %d lowered, and %d stayed", raised, lowered, stayed)
	}
}

// TestPlayStepAnywhere has every input, and everything that can be shown.
func TestPlayStepAnywhere(t *testing.T) {
	for _, half := range []int{0, 1, 17, 100} {
		for n := -20000; n <= 20000; n++ {
			checkStep(t, half, 33, n, middle(half, 33, n))
			checkStep(t, half, n, 33, middle(half, n, 33))
		}
	}
	for half := range 101 {
		for shown := -150; shown <= 150; shown += 7 {
			for input := -300; input <= 300; input += 11 {
				checkDragged(t, half, shown, input)
			}
		}
	}
}

// TestPlayStepNotInRange has one or more numbers beyond a limit; for most, what is
// shown would have to move otherwise.
func TestPlayStepNotInRange(t *testing.T) {
	ends := []int{-20000, -19999, -5000, -1, 0, 1, 77, 5000, 19999, 20000}
	for _, half := range noHalves {
		for _, shown := range slices.Concat(ends, noStepped) {
			for _, input := range slices.Concat(ends, noStepped) {
				checkStep(t, half, shown, input, shown)
			}
		}
	}
	for _, half := range someHalves {
		for _, far := range noStepped {
			for _, other := range slices.Concat(ends, noStepped) {
				checkStep(t, half, far, other, far)
				checkStep(t, half, other, far, other)
			}
		}
	}
}

// TestPlayStepJustBeyond changes one number of a step by 1, so that it is in the range
// no more.
func TestPlayStepJustBeyond(t *testing.T) {
	cases := []struct{ half, shown, input, want int }{
		{0, 500, 0, 0}, {-1, 500, 0, 500}, {0, -500, 0, 0}, {-1, -500, 0, -500}, {-1, 0, 0, 0}, {-1, 1, 0, 1}, {-1, 0, 1, 0},
		{100, 500, 0, 100}, {101, 500, 0, 500}, {100, -500, 0, -100}, {101, -500, 0, -500}, {101, 0, 500, 0}, {101, 102, 0, 102},
		{3, 20000, 0, 3}, {3, 20001, 0, 20001}, {3, -20000, 0, -3}, {3, -20001, 0, -20001}, {0, 20001, 20000, 20001}, {0, -20001, -20000, -20001},
		{3, 0, 20000, 19997}, {3, 0, 20001, 0}, {3, 0, -20000, -19997}, {3, 0, -20001, 0}, {0, 20000, 20001, 20000}, {0, -20000, -20001, -20000},
		{3, 20001, 20001, 20001}, {3, -20001, -20001, -20001}, {3, 20001, -20001, 20001}, {3, -20001, 20001, -20001}, {-1, 20001, 20001, 20001}, {101, -20001, 0, -20001}, {101, 0, -20001, 0},
		{100, math.MinInt, math.MinInt, math.MinInt}, {100, math.MaxInt, math.MaxInt, math.MaxInt}, {100, math.MinInt, math.MaxInt, math.MinInt}, {100, math.MaxInt, math.MinInt, math.MaxInt},
		{math.MinInt, 4, 500, 4}, {math.MaxInt, 4, 500, 4}, {math.MinInt, math.MinInt, math.MinInt, math.MinInt}, {math.MaxInt, math.MaxInt, math.MaxInt, math.MaxInt}, {math.MaxInt, math.MinInt, 0, math.MinInt}, {math.MinInt, math.MaxInt, 0, math.MaxInt},
		{100, 4, math.MaxInt, 4}, {100, 4, math.MinInt, 4}, {0, math.MaxInt, 4, math.MaxInt}, {0, math.MinInt, 4, math.MinInt},
	}
	for _, c := range cases {
		checkStep(t, c.half, c.shown, c.input, c.want)
	}
}

func TestPlayByHand(t *testing.T) {
	cases := []struct {
		p          play
		path       []int
		moves, lag int
	}{
		{playOf(2, 0, 5, 4, 0), []int{0, 3, 3, 2}, 2, 2},
		{playOf(2, 0, 1, 2, 3, 4, 5), []int{0, 0, 0, 1, 2, 3}, 3, 2}, {playOf(2, 0, -1, -2, -3, -4, -5), []int{0, 0, 0, -1, -2, -3}, 3, 2}, {playOf(2, 0, 4, -4, 4, -4), []int{0, 2, -2, 2, -2}, 4, 2},
		// The inputs stay within the play, so that the lag can be less than half.
		{playOf(2, 0, 1, -1, 2, -2, 0), []int{0, 0, 0, 0, 0, 0}, 0, 2}, {playOf(10, 0, 3, -4, 2), []int{0, 0, 0, 0}, 0, 4}, {playOf(10, 0, -3, 4, 2), []int{0, 0, 0, 0}, 0, 4}, {playOf(10, 7, 8), []int{7, 7}, 0, 1}, {playOf(10, 7, 6), []int{7, 7}, 0, 1}, {playOf(10, 7, 7), []int{7, 7}, 0, 0}, {playOf(10, 7, 12, 7, 7), []int{7, 7, 7, 7}, 0, 5}, {playOf(10, 7, 7, 7, 0), []int{7, 7, 7, 7}, 0, 7},
		// At an edge, and one beyond it.
		{playOf(10, 7, 17), []int{7, 7}, 0, 10}, {playOf(10, 7, -3), []int{7, 7}, 0, 10}, {playOf(10, 7, 18), []int{7, 8}, 1, 10}, {playOf(10, 7, -4), []int{7, 6}, 1, 10}, {playOf(10, 7, 18, -2), []int{7, 8, 8}, 1, 10}, {playOf(10, 7, 18, -3), []int{7, 8, 7}, 2, 10},
		// The same input again does not move the instrument again.
		{playOf(3, 0, 9, 9, 9), []int{0, 6, 6, 6}, 1, 3}, {playOf(3, 0, -9, -9, -9), []int{0, -6, -6, -6}, 1, 3}, {playOf(3, 0, 9, 0, 9, 0), []int{0, 6, 3, 6, 3}, 4, 3}, {playOf(3, 0, 9, 3, 9, 3), []int{0, 6, 6, 6, 6}, 1, 3},
		// The start is no input: what it is away from the first one does not count.
		{playOf(5, 100, 0), []int{100, 5}, 1, 5}, {playOf(0, 100, 0), []int{100, 0}, 1, 0}, {playOf(1, -100, 0, 0), []int{-100, -1, -1}, 1, 1},
		{playOf(100, 10000, -10000, 10000), []int{10000, -9900, 9900}, 2, 100}, {playOf(100, -10000, 10000, 10000), []int{-10000, 9900, 9900}, 1, 100}, {playOf(0, 10000, -10000, 10000), []int{10000, -10000, 10000}, 2, 0}, {playOf(100, 10000, 10000, 9900, 9899), []int{10000, 10000, 10000, 9999}, 1, 100}, {playOf(100, -10000, -9999), []int{-10000, -10000}, 0, 1},
	}
	for _, c := range cases {
		checkAnswers(t, c.p, c.path, c.moves, c.lag)
		checkReckoned(t, c.p)
		checkFollowed(t, c.p)
	}
}

// countKinds counts the inputs of a play by how far they are from what was shown
// before.
func countKinds(p play, kinds map[string]int) {
	path := p.path()
	for i, input := range p.inputs {
		d := input - path[i]
		switch {
		case d == p.half+1:
			kinds["one above the play"]++
		case d == -p.half-1:
			kinds["one below the play"]++
		case d > p.half:
			kinds["above the play"]++
		case d < -p.half:
			kinds["below the play"]++
		case d == 0:
			kinds["as shown"]++
		case d == p.half:
			kinds["at the upper edge"]++
		case d == -p.half:
			kinds["at the lower edge"]++
		case d > 0:
			kinds["above, within the play"]++
		default:
			kinds["below, within the play"]++
		}
		if i > 0 && input == p.inputs[i-1] {
			kinds["the same again"]++
		}
	}
}

// TestNeverFurtherThanHalf has many instruments and lists of each kind.
func TestNeverFurtherThanHalf(t *testing.T) {
	kinds := map[string]int{}
	for _, half := range someHalves {
		for _, start := range someStarts {
			for _, inputs := range inputListsFor(half, start) {
				p := play{half, start, inputs}
				countKinds(p, kinds)
				checkReckoned(t, p)
				checkFollowed(t, p)
			}
		}
	}
	for kind, count := range kinds {
		if count < 1000 {
			t.Errorf("only %d inputs: %s", count, kind)
		}
	}
	if len(kinds) != 10 {
		t.Errorf("not all kinds of inputs: %v", kinds)
	}
}

// TestEveryHalf has each half of the range, with inputs at the ends of theirs, too.
func TestEveryHalf(t *testing.T) {
	for half := range 101 {
		for _, start := range []int{-10000, -3, 0, 10000} {
			for _, by := range []int{half, half + 1, 2*half + 1, 3000} {
				for _, inputs := range swingingInputs(start, by) {
					p := play{half, start, inputs}
					checkReckoned(t, p)
					checkFollowed(t, p)
				}
			}
		}
	}
}

// TestAllShortLists has all lists of three inputs close to the start. It counts the
// lists with only one greatest lag, by its place and its side.
func TestAllShortLists(t *testing.T) {
	var above, below [3]int
	for half := range 5 {
		for start := -2; start <= 2; start++ {
			for n := range 13 * 13 * 13 {
				p := playOf(half, start, n%13-6, n/13%13-6, n/169-6)
				checkReckoned(t, p)
				checkFollowed(t, p)
				lags, lag := p.lags(), p.lag()
				place := slices.Index(lags, lag)
				if slices.Contains(lags[place+1:], lag) {
					continue
				}
				if p.inputs[place] > p.path()[place+1] {
					above[place]++
				} else {
					below[place]++
				}
			}
		}
	}
	for place := range 3 {
		if above[place] < 100 || below[place] < 100 {
			t.Errorf("at %d, only %d and %d lists have their greatest lag", place, above[place], below[place])
		}
	}
}

// TestLongWays drags unit by unit, far along the range and back.
func TestLongWays(t *testing.T) {
	for _, half := range []int{0, 1, 60, 100} {
		p := playOf(half, 10000, -10000, 10000, -9999, -9950, -9800, 0, 99, 0, -100, 10000, 9990, 9900, 9899, 9700)
		want := []int{p.start}
		for i, input := range p.inputs {
			want = append(want, dragged(half, want[i], input))
		}
		if !slices.Equal(p.path(), want) {
			t.Fatalf("the ways %v and %v differ", p.path(), want)
		}
		checkReckoned(t, p)
		checkFollowed(t, p)
	}
}

// A meeting counts how often two instruments came closer, met, and stayed as far apart
// as before, without having met.
type meeting struct{ closer, met, stayed int }

// checkSides has two instruments, the first one to start at the smaller place.
func (m *meeting) checkSides(t *testing.T, half int, low int, high int, inputs []int) {
	t.Helper()
	lows, highs := impl.PlayAll(half, low, inputs), impl.PlayAll(half, high, inputs)
	if len(lows) != len(inputs)+1 || len(highs) != len(lows) {
		t.Fatalf("with half %d, from %d and %d, there are %d and %d for %v", half, low, high, len(lows), len(highs), inputs)
	}
	for i := range inputs {
		before, after := highs[i]-lows[i], highs[i+1]-lows[i+1]
		if after < 0 || after > before {
			t.Errorf("with half %d, from %d and %d, %d and %d are shown after %v", half, low, high, lows[i+1], highs[i+1], inputs[:i+1])
		}
		switch {
		case before > 0 && after == 0:
			m.met++
		case after < before:
			m.closer++
		case after > 0:
			m.stayed++
		}
	}
}

// TestTwoStarts has two instruments with the same play and the same inputs.
func TestTwoStarts(t *testing.T) {
	var m meeting
	for _, half := range []int{0, 1, 3, 50, 100} {
		starts := append([]int{half, half + 1, 2 * half, 2*half + 1, -half, -2*half - 2, 13}, someStarts...)
		slices.Sort(starts)
		for _, place := range []int{-10000, 0, 60} {
			for _, inputs := range inputListsFor(half, place) {
				for i, high := range starts {
					for _, low := range starts[:i] {
						m.checkSides(t, half, low, high, inputs)
					}
				}
			}
		}
	}
	if m.closer < 10000 || m.met < 10000 || m.stayed < 10000 {
		t.Errorf("instruments came closer, met, and stayed apart: %v", m)
	}
}

// TestWithoutPlay has instruments that show each input.
func TestWithoutPlay(t *testing.T) {
	checkAnswers(t, playOf(0, 3, 3, 4, 4, 5, -5, -5, 3, 3), []int{3, 3, 4, 4, 5, -5, -5, 3, 3}, 4, 0)
	checkAnswers(t, playOf(0, 3, 4, 3, 4, 3), []int{3, 4, 3, 4, 3}, 4, 0)
	checkAnswers(t, playOf(0, 3, 3, 3, 3), []int{3, 3, 3, 3}, 0, 0)
	checkAnswers(t, playOf(0, -10000, 10000, -10000), []int{-10000, 10000, -10000}, 2, 0)
	changed, same := 0, 0
	for _, start := range someStarts {
		for _, inputs := range slices.Concat(inputListsFor(0, start), inputListsFor(1, start), inputListsFor(100, start), [][]int{nil}) {
			want := append([]int{start}, inputs...)
			moves := len(slices.Compact(slices.Clone(want))) - 1
			checkAnswers(t, play{0, start, inputs}, want, moves, 0)
			checkFollowed(t, play{0, start, inputs})
			changed += moves
			same += len(inputs) - moves
			for i, input := range inputs {
				checkStep(t, 0, want[i], input, input)
			}
		}
	}
	if changed < 10000 || same < 10000 {
		t.Errorf("%d inputs moved an instrument without play, and %d did not", changed, same)
	}
}

// noInputs are one value: no input at all.
func noInputs() [][]int {
	return [][]int{nil, {}, make([]int, 0, 80), []int{3, 20000, -5}[:0]}
}

func TestNoInputs(t *testing.T) {
	for _, inputs := range noInputs() {
		for half := range 101 {
			for _, start := range someStarts {
				checkAnswers(t, play{half, start, inputs}, []int{start}, 0, 0)
				checkFollowed(t, play{half, start, inputs})
			}
		}
	}
}

func TestNumberOfInputs(t *testing.T) {
	for _, half := range someHalves {
		for count := range 61 {
			for _, input := range []int{-10000, -half - 1, -half, 0, half, half + 1, 10000} {
				p := play{half, 0, sameInputs(count, input)}
				checkReckoned(t, p)
				checkFollowed(t, p)
			}
		}
		for _, count := range []int{61, 62, 63, 100, 120, 256, 1000} {
			for _, input := range []int{0, 1, half + 1, 10000, 10001} {
				checkRefused(t, play{half, 0, sameInputs(count, input)})
			}
			checkRefused(t, play{half, 0, inputsBy(count, func(i int) int { return swing(i) * 300 * i })})
		}
	}
	// Without play, each of the inputs moves the instrument.
	all := inputsBy(60, func(i int) int { return i + 1 })
	checkAnswers(t, play{0, 0, all}, append([]int{0}, all...), 60, 0)
	checkRefused(t, play{0, 0, append(all, 61)})
}

// TestInputLimits puts an input at and beyond the limits in each place of lists, and
// in several places.
func TestInputLimits(t *testing.T) {
	for _, half := range someHalves {
		for _, count := range []int{1, 2, 3, 7, 59, 60} {
			list := inputsBy(count, func(i int) int { return swing(i) * (i + 90) })
			for _, place := range []int{0, count / 2, count - 1} {
				for _, input := range []int{-10000, -9999, 9999, 10000} {
					p := play{half, 5, with(list, place, input)}
					checkReckoned(t, p)
					checkFollowed(t, p)
				}
				for _, input := range noPlayed {
					checkRefused(t, play{half, 5, with(list, place, input)})
				}
			}
			checkRefused(t, play{half, 5, with(with(list, 0, 10001), count-1, -10001)})
			checkRefused(t, play{half, 5, with(with(list, 0, math.MinInt), count-1, math.MaxInt)})
			checkRefused(t, play{half, 5, sameInputs(count, 10001)})
			checkRefused(t, play{half, 5, sameInputs(count, math.MinInt)})
		}
	}
}

// TestInvalidPlays has halves, starts and lists that are not valid, each alone and
// with others.
func TestInvalidPlays(t *testing.T) {
	good := [][]int{nil, {}, {0}, {10000, -10000}, {7, 7, 8}, sameInputs(60, -3)}
	bad := [][]int{{10001}, {0, -10001, 0}, {0, 0, math.MaxInt}, {math.MinInt, 5}, sameInputs(61, 0), with(sameInputs(61, 0), 60, 10001), with(sameInputs(60, 1), 30, -10001), sameInputs(200, math.MinInt)}
	for _, half := range noHalves {
		for _, start := range slices.Concat(someStarts, noPlayed) {
			for _, inputs := range slices.Concat(good, bad) {
				checkRefused(t, play{half, start, inputs})
			}
		}
	}
	for _, half := range someHalves {
		for _, start := range noPlayed {
			for _, inputs := range slices.Concat(good, bad) {
				checkRefused(t, play{half, start, inputs})
			}
		}
		for _, start := range someStarts {
			for _, inputs := range good {
				checkReckoned(t, play{half, start, inputs})
			}
			for _, inputs := range bad {
				checkRefused(t, play{half, start, inputs})
			}
		}
	}
}

// somePlays have instruments and lists that are valid, and some that are not.
func somePlays() []play {
	var list []play
	for _, half := range []int{0, 2, 50, 100, 101, -1, math.MaxInt} {
		for _, start := range []int{-10000, -20, 0, 7, 9999, 10001, math.MinInt} {
			for _, inputs := range slices.Concat(inputListsFor(2, 0)[30:], inputListsFor(50, 7)[:12], noInputs()) {
				list = append(list, play{half, start, inputs})
			}
			list = append(list, play{half, start, sameInputs(61, 3)}, playOf(half, start, 10001), playOf(half, start, 5, math.MinInt, 6))
		}
	}
	return list
}

func TestPlayChangesNothing(t *testing.T) {
	for _, p := range somePlays() {
		given, changed := guardedList(p.inputs, 77777)
		impl.PlayAll(p.half, p.start, given)
		impl.CountMoves(p.half, p.start, given)
		impl.GreatestLag(p.half, p.start, given)
		if changed() {
			t.Errorf("with half %d and start %d, the inputs %v were changed to %v", p.half, p.start, p.inputs, given)
		}
	}
}

func TestPlayAnswersAreNew(t *testing.T) {
	for _, p := range somePlays() {
		checkNewMemory(t, "PlayAll", p.inputs, 77777, func(given []int) []int { return impl.PlayAll(p.half, p.start, given) })
	}
}

// A playAnswer is what the program said of a play, and of a step with its numbers.
type playAnswer struct {
	ok               bool
	path             []int
	moves, lag, step int
}

func playAnswerTo(p play) playAnswer {
	return playAnswer{
		ok:    impl.PlayOk(p.half, p.start),
		path:  impl.PlayAll(p.half, p.start, p.inputs),
		moves: impl.CountMoves(p.half, p.start, p.inputs),
		lag:   impl.GreatestLag(p.half, p.start, p.inputs),
		step:  impl.PlayStep(p.half, p.start, 3*len(p.inputs)),
	}
}

func TestPlaysAnswerTheSame(t *testing.T) {
	checkSameAgain(t, somePlays(), playAnswerTo)
}
