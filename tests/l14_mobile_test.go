package tests

import (
	"math"
	"math/big"
	"slices"
	"sync"
	"testing"

	"loop.example/g00992/impl"
)

// farIndexes are those of no part of any mobile, among them some that wrap around
// to small ones.
var farIndexes = []int{
	-2, -3, -15, -16, 15, 16, 17, 100, 1 << 32, 1<<32 + 1, 1<<32 + 2, -1 << 32, -1<<32 + 1, 1<<32 - 1, -1<<32 - 1,
	math.MinInt, math.MinInt + 1, math.MinInt + 2, math.MaxInt - 1, math.MaxInt,
}

// fieldValues are at and around the limits of every field, and far beyond them.
var fieldValues = append([]int{
	-1001, -21, -1, 0, 1, 2, 3, 4, 5, 6, 7, 8, 9, 10, 11, 12, 13, 14, 18, 19, 20, 21, 22, 40, 999, 1000, 1001, 1002, 2000, 1<<32 + 1000,
}, farIndexes...)

// noPart is on none of the mobiles.
var noPart = impl.Part{Left: 777, Right: -99, ArmLeft: 88, ArmRight: -7, Weight: -5}

// partFields is how many fields a part has.
const partFields = 5

// fieldOf reaches a field of a part by its number.
func fieldOf(p *impl.Part, field int) *int {
	return [partFields]*int{&p.Left, &p.Right, &p.ArmLeft, &p.ArmRight, &p.Weight}[field]
}

// weigher is a part that is a weight.
func weigher(weight int) impl.Part {
	return impl.Part{Left: -1, Right: -1, Weight: weight}
}

// crossbar is a part that is a beam.
func crossbar(left int, right int, armLeft int, armRight int) impl.Part {
	return impl.Part{Left: left, Right: right, ArmLeft: armLeft, ArmRight: armRight}
}

// oneBeam has two weights that hang from one beam.
func oneBeam(armLeft int, armRight int, left int, right int) []impl.Part {
	return []impl.Part{crossbar(1, 2, armLeft, armRight), weigher(left), weigher(right)}
}

// withField returns a copy of the mobile in which one number is another one.
func withField(parts []impl.Part, k int, field int, n int) []impl.Part {
	changed := slices.Clone(parts)
	*fieldOf(&changed[k], field) = n
	return changed
}

// withWeights returns a copy of the mobile with these weights, in the order of the
// indexes.
func withWeights(parts []impl.Part, weights ...int) []impl.Part {
	changed := slices.Clone(parts)
	for i, k := range weightsOf(parts) {
		changed[k].Weight = weights[i]
	}
	return changed
}

// A twig is how a mobile hangs, before its parts are in an order; nil is a weight.
type twig struct {
	left, right *twig
}

// twigsWith are all ways in which this many beams can hang.
func twigsWith(beams int) []*twig {
	if beams == 0 {
		return []*twig{nil}
	}
	var list []*twig
	for above := range beams {
		for _, left := range twigsWith(above) {
			for _, right := range twigsWith(beams - 1 - above) {
				list = append(list, &twig{left, right})
			}
		}
	}
	return list
}

// chainTwig is a chain of beams, each of which hangs from the left side of the one
// above it or from the right one.
func chainTwig(beams int, toLeft func(i int) bool) *twig {
	var top *twig
	for i := beams - 1; i >= 0; i-- {
		if toLeft(i) {
			top = &twig{left: top}
		} else {
			top = &twig{right: top}
		}
	}
	return top
}

// fullTwig has beams only, down to a depth.
func fullTwig(depth int) *twig {
	if depth == 0 {
		return nil
	}
	return &twig{fullTwig(depth - 1), fullTwig(depth - 1)}
}

// A loose part has no index yet; it will hang from a place of a part that has one.
type loosePart struct {
	twig *twig
	from int
	left bool
}

// laidOut gives the parts indexes, the next one always to a loose part that pick
// chooses, so that each part hangs from one with a smaller index. All arms and
// weights are 1.
func laidOut(top *twig, pick func(count int) int) []impl.Part {
	var parts []impl.Part
	for loose := []loosePart{{twig: top, from: -1}}; len(loose) > 0; {
		chosen := pick(len(loose))
		next, k := loose[chosen], len(parts)
		loose = slices.Delete(loose, chosen, chosen+1)
		if next.from >= 0 && next.left {
			parts[next.from].Left = k
		} else if next.from >= 0 {
			parts[next.from].Right = k
		}
		if next.twig == nil {
			parts = append(parts, weigher(1))
			continue
		}
		parts = append(parts, crossbar(0, 0, 1, 1))
		loose = append(loose, loosePart{next.twig.left, k, true}, loosePart{next.twig.right, k, false})
	}
	return parts
}

func firstLoose(count int) int { return 0 }

func lastLoose(count int) int { return count - 1 }

// inEveryOrder returns the parts in all orders of the indexes that are allowed.
func inEveryOrder(top *twig) [][]impl.Part {
	var list [][]impl.Part
	var choices, counts []int
	for {
		step := 0
		list = append(list, laidOut(top, func(count int) int {
			if step == len(choices) {
				choices, counts = append(choices, 0), append(counts, 0)
			}
			counts[step] = count
			step++
			return choices[step-1]
		}))
		// The next list of choices is the same up to one that can still be greater.
		for len(choices) > 0 && choices[len(choices)-1] == counts[len(choices)-1]-1 {
			choices, counts = choices[:len(choices)-1], counts[:len(counts)-1]
		}
		if len(choices) == 0 {
			return list
		}
		choices[len(choices)-1]++
	}
}

// dressed returns a copy of the mobile with other arms and weights.
func dressed(parts []impl.Part, arm func() int, weight func() int) []impl.Part {
	changed := slices.Clone(parts)
	for i := range changed {
		if p := &changed[i]; p.Left == -1 {
			p.Weight = weight()
		} else {
			p.ArmLeft, p.ArmRight = arm(), arm()
		}
	}
	return changed
}

// dressings are a mobile with arms and weights of many kinds: equal ones, small
// ones, any, and those at the limits.
func dressings(parts []impl.Part, next func(count int) int) [][]impl.Part {
	always := func(n int) func() int { return func() int { return n } }
	upTo := func(most int) func() int { return func() int { return next(most) + 1 } }
	return [][]impl.Part{
		parts, dressed(parts, always(20), always(1000)), dressed(parts, upTo(2), upTo(2)), dressed(parts, upTo(3), always(7)),
		dressed(parts, upTo(5), upTo(12)), dressed(parts, upTo(20), upTo(1000)), dressed(parts, func() int { return 1 + 19*next(2) }, upTo(1000)),
	}
}

// everyMobile has all ways in which up to 7 beams can hang, in several orders, with
// arms and weights of many kinds.
func everyMobile() [][]impl.Part {
	var list [][]impl.Part
	next := mixer(14)
	for beams := range 8 {
		for _, top := range twigsWith(beams) {
			for _, pick := range []func(int) int{firstLoose, lastLoose, next} {
				list = append(list, dressings(laidOut(top, pick), next)...)
			}
		}
	}
	return list
}

// someTwigs are a single weight, one beam, chains and full ones.
func someTwigs() []*twig {
	list := []*twig{nil, {}, fullTwig(2), fullTwig(3)}
	for _, beams := range []int{2, 3, 6, 7} {
		list = append(list,
			chainTwig(beams, func(int) bool { return true }), chainTwig(beams, func(int) bool { return false }),
			chainTwig(beams, func(i int) bool { return i%2 == 0 }), chainTwig(beams, func(i int) bool { return i%3 == 1 }))
	}
	return list
}

// someMobiles are fewer than all, tilted ones and balanced ones.
func someMobiles() [][]impl.Part {
	var list [][]impl.Part
	next := mixer(41)
	for _, top := range someTwigs() {
		for _, parts := range [][]impl.Part{laidOut(top, firstLoose), laidOut(top, lastLoose), laidOut(top, next)} {
			for _, m := range dressings(parts, next) {
				list = append(list, m)
				if least, ok := sharedOut(m); ok {
					list = append(list, least)
				}
			}
		}
	}
	return list
}

// isMobile is what the chapter says of the parts.
func isMobile(parts []impl.Part) bool {
	if len(parts) == 0 || len(parts) >= 16 {
		return false
	}
	held := map[int]int{}
	for k, p := range parts {
		if p.Left == -1 {
			if p.Weight <= 0 || p.Weight > 1000 || p != weigher(p.Weight) {
				return false
			}
			continue
		}
		if p.Weight != 0 {
			return false
		}
		for _, side := range [][2]int{{p.Left, p.ArmLeft}, {p.Right, p.ArmRight}} {
			if side[0] <= k || side[0] >= len(parts) || side[1] <= 0 || side[1] > 20 {
				return false
			}
			held[side[0]]++
		}
	}
	for k := 1; k < len(parts); k++ {
		if held[k] != 1 {
			return false
		}
	}
	return true
}

// weightsOf are the indexes of the weights.
func weightsOf(parts []impl.Part) []int {
	var list []int
	for k, p := range parts {
		if p.Left == -1 {
			list = append(list, k)
		}
	}
	return list
}

// isBelow climbs from part k of a valid mobile up to the part above, if it hangs
// from it or is that part itself.
func isBelow(parts []impl.Part, k int, above int) bool {
	for k != above {
		k = slices.IndexFunc(parts, func(p impl.Part) bool { return p.Left == k || p.Right == k })
		if k < 0 {
			return false
		}
	}
	return true
}

// hanging is WeightOf without the program, for a part of a valid mobile.
func hanging(parts []impl.Part, above int) int {
	sum := 0
	for _, k := range weightsOf(parts) {
		if isBelow(parts, k, above) {
			sum += parts[k].Weight
		}
	}
	return sum
}

// tilts are the indexes of all beams of a valid mobile that are tilted, without the
// program: each weight turns each beam that it hangs from.
func tilts(parts []impl.Part) []int {
	var list []int
	for b, p := range parts {
		turn := 0
		for _, k := range weightsOf(parts) {
			if p.Left != -1 && isBelow(parts, k, p.Left) {
				turn -= parts[k].Weight * p.ArmLeft
			} else if p.Left != -1 && isBelow(parts, k, p.Right) {
				turn += parts[k].Weight * p.ArmRight
			}
		}
		if turn != 0 {
			list = append(list, b)
		}
	}
	return list
}

// sharedOut is LeastWeights without the program: the top holds 1, each beam shares
// what it holds between its sides, and the shares are made whole at the end. It
// returns the mobile and whether the weights are not too great.
func sharedOut(parts []impl.Part) ([]impl.Part, bool) {
	shares := make([]*big.Rat, len(parts))
	shares[0] = big.NewRat(1, 1)
	bottom, divisor := big.NewInt(1), new(big.Int)
	for k, p := range parts {
		if p.Left == -1 {
			common := new(big.Int).GCD(nil, nil, bottom, shares[k].Denom())
			bottom.Mul(bottom, new(big.Int).Div(shares[k].Denom(), common))
			continue
		}
		both := int64(p.ArmLeft + p.ArmRight)
		shares[p.Left] = new(big.Rat).Mul(shares[k], big.NewRat(int64(p.ArmRight), both))
		shares[p.Right] = new(big.Rat).Mul(shares[k], big.NewRat(int64(p.ArmLeft), both))
	}
	weights := make([]*big.Int, len(parts))
	for _, k := range weightsOf(parts) {
		weights[k] = new(big.Rat).Mul(shares[k], new(big.Rat).SetInt(bottom)).Num()
		divisor.GCD(nil, nil, divisor, weights[k])
	}
	least := slices.Clone(parts)
	for _, k := range weightsOf(parts) {
		weight := new(big.Int).Div(weights[k], divisor)
		if weight.Cmp(big.NewInt(1000)) > 0 {
			return parts, false
		}
		least[k].Weight = int(weight.Int64())
	}
	return least, true
}

// times returns a copy of the mobile with each weight multiplied.
func times(parts []impl.Part, factor int) []impl.Part {
	changed := slices.Clone(parts)
	for i := range changed {
		changed[i].Weight *= factor
	}
	return changed
}

// greatestWeight is that of a single weight.
func greatestWeight(parts []impl.Part) int {
	most := 0
	for _, p := range parts {
		most = max(most, p.Weight)
	}
	return most
}

// isMultiple reports whether a mobile is another one with each weight multiplied
// by the same whole number.
func isMultiple(parts []impl.Part, of []impl.Part) bool {
	k := weightsOf(of)[0]
	return slices.Equal(parts, times(of, parts[k].Weight/of[k].Weight))
}

// eachWeights calls test for a mobile with all weights from 1 to most.
func eachWeights(parts []impl.Part, most int, test func(parts []impl.Part)) {
	changed := slices.Clone(parts)
	var fill func(rest []int)
	fill = func(rest []int) {
		if len(rest) == 0 {
			test(changed)
			return
		}
		for weight := 1; weight <= most; weight++ {
			changed[rest[0]].Weight = weight
			fill(rest[1:])
		}
	}
	fill(weightsOf(parts))
}

// invalidMobiles have one number that is not valid at the first part, in the middle
// or at the last one, and are balanced apart from that, or tilted; or too many parts.
func invalidMobiles() [][]impl.Part {
	list := [][]impl.Part{nil, make([]impl.Part, 1), make([]impl.Part, 15), make([]impl.Part, 16), slices.Repeat([]impl.Part{weigher(1)}, 15), chainOf(true, slices.Repeat([]chainArms{{1, 1}}, 8)...)}
	for i, parts := range someMobiles() {
		if i%7 != 0 {
			continue
		}
		for _, k := range []int{0, len(parts) / 2, len(parts) - 1} {
			for field := range partFields {
				for _, n := range []int{-2, -1, 0, 1, 21, 1001, math.MinInt, math.MaxInt} {
					if changed := withField(parts, k, field, n); !isMobile(changed) {
						list = append(list, changed)
					}
				}
			}
			for _, far := range []int{0, 1, math.MinInt, math.MaxInt} {
				changed := slices.Clone(parts)
				changed[k] = impl.Part{Left: far, Right: far, ArmLeft: far, ArmRight: far, Weight: far}
				list = append(list, changed)
			}
		}
	}
	return list
}

func checkLeast(t *testing.T, parts []impl.Part, want []impl.Part) {
	t.Helper()
	if got, ok := impl.LeastWeights(parts); !slices.Equal(got, want) || !ok {
		t.Errorf("LeastWeights(%v) = %v, %v; want %v, true", parts, got, ok, want)
	}
}

func checkNotLeast(t *testing.T, parts []impl.Part) {
	t.Helper()
	if got, ok := impl.LeastWeights(parts); !slices.Equal(got, parts) || ok {
		t.Errorf("LeastWeights(%v) = %v, %v; want the parts, false", parts, got, ok)
	}
}

// checkTilts tells a valid mobile which of its beams are tilted.
func checkTilts(t *testing.T, parts []impl.Part, want []int) {
	t.Helper()
	first := -1
	if len(want) > 0 {
		first = want[0]
	}
	if got := impl.FirstTilted(parts); got != first {
		t.Errorf("FirstTilted(%v) = %d; want %d", parts, got, first)
	}
	if got := impl.IsBalanced(parts); got != (first == -1) {
		t.Errorf("IsBalanced(%v) = %v", parts, got)
	}
}

// checkMobile compares a valid mobile with the reckoning.
func checkMobile(t *testing.T, parts []impl.Part) {
	t.Helper()
	if !impl.MobileOk(parts) {
		t.Errorf("MobileOk(%v) is false", parts)
	}
	for k := range parts {
		if got, want := impl.WeightOf(parts, k), hanging(parts, k); got != want {
			t.Errorf("WeightOf(%v, %d) = %d; want %d", parts, k, got, want)
		}
	}
	checkNoPart(t, parts)
	checkTilts(t, parts, tilts(parts))
	weights := len(weightsOf(parts))
	if got, beams := impl.CountParts(parts); got != weights || beams != weights-1 || got+beams != len(parts) {
		t.Errorf("CountParts(%v) = %d, %d; want %d, %d", parts, got, beams, weights, weights-1)
	}
	if least, ok := sharedOut(parts); ok {
		checkLeast(t, parts, least)
	} else {
		checkNotLeast(t, parts)
	}
}

// checkNoPart has indexes of no part.
func checkNoPart(t *testing.T, parts []impl.Part) {
	t.Helper()
	for _, k := range append([]int{-1, len(parts), len(parts) + 1}, farIndexes...) {
		if got := impl.WeightOf(parts, k); got != 0 {
			t.Errorf("WeightOf(%v, %d) = %d; want 0", parts, k, got)
		}
	}
}

// checkNoMobile is for parts that are not valid.
func checkNoMobile(t *testing.T, parts []impl.Part) {
	t.Helper()
	if impl.MobileOk(parts) {
		t.Errorf("MobileOk(%v) is true", parts)
	}
	for k := range parts {
		if got := impl.WeightOf(parts, k); got != 0 {
			t.Errorf("WeightOf(%v, %d) = %d; want 0", parts, k, got)
		}
	}
	checkNoPart(t, parts)
	if impl.IsBalanced(parts) {
		t.Errorf("IsBalanced(%v) is true", parts)
	}
	if got := impl.FirstTilted(parts); got != -1 {
		t.Errorf("FirstTilted(%v) = %d; want -1", parts, got)
	}
	checkNotLeast(t, parts)
	if weights, beams := impl.CountParts(parts); weights != 0 || beams != 0 {
		t.Errorf("CountParts(%v) = %d, %d; want 0, 0", parts, weights, beams)
	}
}

// checkEither lets the reckoning tell whether the parts are valid.
func checkEither(t *testing.T, parts []impl.Part) bool {
	t.Helper()
	ok := isMobile(parts)
	if ok {
		checkMobile(t, parts)
	} else {
		checkNoMobile(t, parts)
	}
	return ok
}

// checkPromise is promise 14 for what LeastWeights answers with true: it has the
// same beams, no common divisor, and as many multiples as the limit allows.
func checkPromise(t *testing.T, parts []impl.Part) bool {
	t.Helper()
	least, ok := impl.LeastWeights(parts)
	if !ok {
		return false
	}
	if !impl.MobileOk(least) || !impl.IsBalanced(least) || impl.FirstTilted(least) != -1 || len(tilts(least)) > 0 {
		t.Errorf("LeastWeights(%v) = %v is not balanced", parts, least)
	}
	divisor := int64(0)
	for _, k := range weightsOf(least) {
		divisor = new(big.Int).GCD(nil, nil, big.NewInt(divisor), big.NewInt(int64(least[k].Weight))).Int64()
	}
	if divisor != 1 {
		t.Errorf("LeastWeights(%v) = %v has the common divisor %d", parts, least, divisor)
	}
	weightless := func(p impl.Part) impl.Part { p.Weight = min(p.Weight, 1); return p }
	if !slices.EqualFunc(least, parts, func(a impl.Part, b impl.Part) bool { return weightless(a) == weightless(b) }) {
		t.Errorf("LeastWeights(%v) = %v has other beams", parts, least)
	}
	for factor := 1; factor*greatestWeight(least) <= 1000; factor++ {
		multiple := times(least, factor)
		checkTilts(t, multiple, nil)
		checkLeast(t, multiple, least)
	}
	return true
}

func TestEveryMobile(t *testing.T) {
	found, refused, balanced := 0, 0, 0
	for _, parts := range everyMobile() {
		if !isMobile(parts) {
			t.Fatalf("%v is not valid", parts)
		}
		checkMobile(t, parts)
		if _, ok := impl.LeastWeights(parts); ok {
			found++
		} else {
			refused++
		}
		if impl.IsBalanced(parts) {
			balanced++
		}
	}
	if found < 1000 || refused < 1000 || balanced < 20 {
		t.Errorf("%d mobiles have least weights, %d have none, %d are balanced", found, refused, balanced)
	}
}

// TestSomeMobiles has chains and full ones, and the balanced ones with their beams.
func TestSomeMobiles(t *testing.T) {
	balanced := 0
	for _, parts := range someMobiles() {
		checkMobile(t, parts)
		if impl.IsBalanced(parts) {
			balanced++
		}
	}
	if balanced < 100 {
		t.Errorf("only %d mobiles are balanced", balanced)
	}
}

// TestEveryOrder has the parts in all orders in which each hangs from one with a
// smaller index, up to 4 beams.
func TestEveryOrder(t *testing.T) {
	next := mixer(3)
	for beams := range 5 {
		for _, top := range twigsWith(beams) {
			for _, parts := range inEveryOrder(top) {
				checkMobile(t, dressed(parts, func() int { return next(3) + 1 }, func() int { return next(4) + 1 }))
			}
		}
	}
	if got := len(inEveryOrder(fullTwig(2))); got != 80 {
		t.Errorf("two beams that hang from one are in %d orders; want 80", got)
	}
}

func TestSingleWeight(t *testing.T) {
	for weight := -3; weight <= 1010; weight++ {
		parts := []impl.Part{weigher(weight)}
		if weight < 1 || weight > 1000 {
			checkNoMobile(t, parts)
			continue
		}
		if !impl.MobileOk(parts) || impl.WeightOf(parts, 0) != weight || !impl.IsBalanced(parts) || impl.FirstTilted(parts) != -1 {
			t.Errorf("a single weight %d: %v, %d, %v, %d", weight, impl.MobileOk(parts), impl.WeightOf(parts, 0), impl.IsBalanced(parts), impl.FirstTilted(parts))
		}
		checkNoPart(t, parts)
		checkLeast(t, parts, []impl.Part{weigher(1)})
		if weights, beams := impl.CountParts(parts); weights != 1 || beams != 0 {
			t.Errorf("CountParts(%v) = %d, %d; want 1, 0", parts, weights, beams)
		}
	}
}

// TestOneBeam has all arms, and for each weight on the left every one on the right
// that balances it.
func TestOneBeam(t *testing.T) {
	for armLeft := 1; armLeft <= 20; armLeft++ {
		for armRight := 1; armRight <= 20; armRight++ {
			least, ok := impl.LeastWeights(oneBeam(armLeft, armRight, 1000, 999))
			if !ok || least[1].Weight*armLeft != least[2].Weight*armRight {
				t.Errorf("least weights for the arms %d and %d: %v, %v", armLeft, armRight, least, ok)
			}
			for left := 1; left <= 1000; left++ {
				right := left * armLeft / armRight
				isWhole := left*armLeft%armRight == 0
				for near := max(right-1, 1); near <= min(right+1, 1000); near++ {
					parts := oneBeam(armLeft, armRight, left, near)
					if isWhole && near == right {
						checkTilts(t, parts, nil)
						if !isMultiple(parts, least) {
							t.Errorf("%v is no multiple of %v", parts, least)
						}
					} else {
						checkTilts(t, parts, []int{0})
					}
				}
			}
		}
	}
}

// TestBeamLimits has arms at each limit, with the least weights written out.
func TestBeamLimits(t *testing.T) {
	cases := [][4]int{
		{1, 1, 1, 1}, {20, 20, 1, 1}, {1, 20, 20, 1}, {20, 1, 1, 20}, {1, 2, 2, 1}, {2, 1, 1, 2}, {4, 6, 3, 2}, {6, 4, 2, 3}, {19, 20, 20, 19}, {20, 19, 19, 20}, {15, 20, 4, 3}, {20, 10, 1, 2}, {1, 19, 19, 1}, {7, 7, 1, 1},
	}
	for _, c := range cases {
		for _, given := range [][2]int{{1, 1}, {1000, 1000}, {5, 7}, {c[2], c[3]}, {c[2] + 1, c[3]}, {c[2], c[3] + 1}} {
			checkLeast(t, oneBeam(c[0], c[1], given[0], given[1]), oneBeam(c[0], c[1], c[2], c[3]))
		}
		checkTilts(t, oneBeam(c[0], c[1], c[2], c[3]), nil)
		checkTilts(t, oneBeam(c[0], c[1], 50*c[2], 50*c[3]), nil)
		checkTilts(t, oneBeam(c[0], c[1], c[2]+1, c[3]), []int{0})
		checkTilts(t, oneBeam(c[0], c[1], c[2], c[3]+1), []int{0})
	}
}

// TestPromise14 has the multiples of the least weights of many mobiles.
func TestPromise14(t *testing.T) {
	kept := 0
	for _, parts := range slices.Concat(everyMobile(), someMobiles()) {
		if checkPromise(t, parts) {
			kept++
		}
	}
	if kept < 1000 {
		t.Errorf("only %d mobiles have least weights", kept)
	}
}

// checkOnlyMultiples tries all weights up to most and counts those that balance.
func checkOnlyMultiples(t *testing.T, parts []impl.Part, most int) {
	t.Helper()
	least, ok := impl.LeastWeights(parts)
	count := 0
	eachWeights(parts, most, func(tried []impl.Part) {
		isBalanced := len(tilts(tried)) == 0
		if got := impl.IsBalanced(tried); got != isBalanced {
			t.Errorf("IsBalanced(%v) = %v", tried, got)
		}
		if isBalanced {
			count++
			if !ok || !isMultiple(tried, least) {
				t.Errorf("%v is balanced, but no multiple of %v, %v", tried, least, ok)
			}
		}
	})
	// The first of them is the least one, so that no smaller weights balance.
	if want := most / max(greatestWeight(least), 1); ok && count != want {
		t.Errorf("%v is balanced with %d weights up to %d; want %d", parts, count, most, want)
	}
}

// TestOnlyMultiplesBalance finds all balanced mobiles, with one beam up to 60, with
// two up to 18 and with three up to 8, without the program.
func TestOnlyMultiplesBalance(t *testing.T) {
	next := mixer(5)
	for armLeft := 1; armLeft <= 20; armLeft += 3 {
		for armRight := 1; armRight <= 20; armRight++ {
			checkOnlyMultiples(t, oneBeam(armLeft, armRight, 1, 1), 60)
		}
	}
	for _, c := range []struct{ beams, most int }{{2, 18}, {3, 8}} {
		for _, top := range twigsWith(c.beams) {
			for _, pick := range []func(int) int{firstLoose, lastLoose} {
				parts := laidOut(top, pick)
				checkOnlyMultiples(t, parts, c.most)
				for range 4 {
					checkOnlyMultiples(t, dressed(parts, func() int { return next(3) + 1 }, func() int { return next(9) + 1 }), c.most)
				}
			}
		}
	}
}

// TestLeastWeightsOfAnyWeights asks for the same beams with other weights.
func TestLeastWeightsOfAnyWeights(t *testing.T) {
	for _, parts := range someMobiles() {
		want, ok := impl.LeastWeights(parts)
		next := mixer(8)
		for range 3 {
			other := dressed(parts, func() int { return 1 }, func() int { return next(1000) + 1 })
			for i := range other {
				other[i].ArmLeft, other[i].ArmRight = parts[i].ArmLeft, parts[i].ArmRight
			}
			if ok {
				checkLeast(t, other, want)
			} else {
				checkNotLeast(t, other)
			}
		}
	}
}

// A chainArms is one beam of a chain: the arm from which the next one hangs, and
// the one from which a weight hangs.
type chainArms [2]int

// chainOf is a chain whose weights hang to the left or to the right of the beams,
// from the top on; the last one has a weight in the place of the next beam, too.
// All weights are 1.
func chainOf(toLeft bool, arms ...chainArms) []impl.Part {
	var parts []impl.Part
	for i, a := range arms {
		if toLeft {
			parts = append(parts, crossbar(2*i+1, 2*i+2, a[1], a[0]), weigher(1))
		} else {
			parts = append(parts, crossbar(2*i+2, 2*i+1, a[0], a[1]), weigher(1))
		}
	}
	return append(parts, weigher(1))
}

func TestLeastWeightsOfChains(t *testing.T) {
	cases := []struct {
		arms []chainArms
		want []int
	}{
		{[]chainArms{{1, 1}}, []int{1, 1}}, {[]chainArms{{9, 1}}, []int{9, 1}}, {[]chainArms{{1, 1}, {1, 1}}, []int{2, 1, 1}}, {[]chainArms{{1, 1}, {1, 1}, {1, 1}}, []int{4, 2, 1, 1}}, {[]chainArms{{1, 2}, {1, 1}}, []int{1, 1, 1}}, {[]chainArms{{1, 3}, {1, 2}, {1, 1}}, []int{1, 1, 1, 1}},
		{[]chainArms{{1, 20}, {1, 1}}, []int{1, 10, 10}}, {[]chainArms{{2, 3}, {3, 5}, {1, 7}}, []int{128, 72, 15, 105}},
		{[]chainArms{{1, 1}, {1, 1}, {1, 1}, {1, 1}, {1, 1}, {1, 1}, {1, 1}}, []int{64, 32, 16, 8, 4, 2, 1, 1}}, {[]chainArms{{1, 7}, {1, 6}, {1, 5}, {1, 4}, {1, 3}, {1, 2}, {1, 1}}, []int{1, 1, 1, 1, 1, 1, 1, 1}},
		{[]chainArms{{2, 1}, {2, 1}, {2, 1}, {2, 1}, {2, 1}, {2, 1}}, []int{486, 162, 54, 18, 6, 2, 1}}, {[]chainArms{{10, 1}, {9, 1}, {9, 1}}, []int{1000, 90, 9, 1}}, {[]chainArms{{10, 1}, {12, 1}, {6, 1}}, []int{910, 84, 6, 1}},
	}
	for _, c := range cases {
		for _, toLeft := range []bool{true, false} {
			parts := chainOf(toLeft, c.arms...)
			checkMobile(t, parts)
			checkLeast(t, parts, withWeights(parts, c.want...))
			checkTilts(t, withWeights(parts, c.want...), nil)
		}
	}
}

// beside hangs two mobiles from a beam with these arms.
func beside(armLeft int, armRight int, left []impl.Part, right []impl.Part) []impl.Part {
	parts := []impl.Part{crossbar(1, 1+len(left), armLeft, armRight)}
	for _, side := range [][]impl.Part{left, right} {
		first := len(parts)
		for _, p := range side {
			if p.Left != -1 {
				p.Left, p.Right = p.Left+first, p.Right+first
			}
			parts = append(parts, p)
		}
	}
	return parts
}

// TestLeastWeightsLimit has least weights of 1000 and a little more, of one weight
// or of several, on either side, whatever the given weights are.
func TestLeastWeightsLimit(t *testing.T) {
	hundred, eleven, thirteen := []chainArms{{9, 1}, {9, 1}}, []chainArms{{10, 1}}, []chainArms{{12, 1}}
	for _, toLeft := range []bool{true, false} {
		atLimit := chainOf(toLeft, chainArms{10, 1}, chainArms{9, 1}, chainArms{9, 1})
		checkLeast(t, atLimit, withWeights(atLimit, 1000, 90, 9, 1))
		checkLeast(t, withWeights(atLimit, 1000, 1000, 1000, 1000), withWeights(atLimit, 1000, 90, 9, 1))
		// 1001 is 11 times 7 times 13.
		checkNotLeast(t, chainOf(toLeft, chainArms{11, 1}, chainArms{12, 1}, chainArms{6, 1}))
		checkNotLeast(t, withWeights(chainOf(toLeft, chainArms{11, 1}, chainArms{12, 1}, chainArms{6, 1}), 3, 1000, 1, 7))
		checkNotLeast(t, chainOf(toLeft, chainArms{11, 1}, chainArms{9, 1}, chainArms{9, 1}))
		checkNotLeast(t, chainOf(toLeft, chainArms{20, 1}, chainArms{9, 1}, chainArms{9, 1}))

		// The top multiplies both sides, and none of its own weights is great.
		parts := beside(1, 1, chainOf(toLeft, hundred...), chainOf(toLeft, eleven...))
		checkLeast(t, parts, withWeights(parts, 990, 99, 11, 1000, 100))
		if got := impl.WeightOf(withWeights(parts, 990, 99, 11, 1000, 100), 0); got != 2200 {
			t.Errorf("the weights at the limit are %d in all; want 2200", got)
		}
		parts = beside(1, 1, chainOf(toLeft, eleven...), chainOf(toLeft, hundred...))
		checkLeast(t, parts, withWeights(parts, 1000, 100, 990, 99, 11))
		checkNotLeast(t, beside(1, 1, chainOf(toLeft, hundred...), chainOf(toLeft, thirteen...)))
		checkNotLeast(t, beside(1, 1, chainOf(toLeft, thirteen...), chainOf(toLeft, hundred...)))
		checkNotLeast(t, beside(1, 2, chainOf(toLeft, hundred...), chainOf(toLeft, thirteen...)))

		// A weight alone on its side is too great, or makes the others too great.
		parts = beside(10, 1, chainOf(toLeft, hundred...), []impl.Part{weigher(1)})
		checkLeast(t, parts, withWeights(parts, 90, 9, 1, 1000))
		checkNotLeast(t, beside(11, 1, chainOf(toLeft, hundred...), []impl.Part{weigher(1)}))
		checkNotLeast(t, beside(1, 11, []impl.Part{weigher(1)}, chainOf(toLeft, hundred...)))
		parts = beside(3, 11, chainOf(toLeft, hundred...), []impl.Part{weigher(1)})
		checkLeast(t, parts, withWeights(parts, 990, 99, 11, 300))
		checkNotLeast(t, beside(3, 13, chainOf(toLeft, hundred...), []impl.Part{weigher(1)}))
	}
}

// TestTooGreatBelow has a weight that is too great already at a lower beam, and the
// greatest numbers that 7 beams lead to.
func TestTooGreatBelow(t *testing.T) {
	low := chainOf(true, chainArms{11, 1}, chainArms{12, 1}, chainArms{6, 1})
	mobiles := [][]impl.Part{
		beside(1, 1, low, []impl.Part{weigher(1)}), beside(1, 20, []impl.Part{weigher(1)}, low), beside(20, 1, low, low),
		chainOf(true, chainArms{1, 20}, chainArms{1, 20}, chainArms{11, 1}, chainArms{12, 1}, chainArms{6, 1}),
	}
	for _, parts := range mobiles {
		if !isMobile(parts) {
			t.Fatalf("%v is not valid", parts)
		}
		checkNotLeast(t, parts)
		checkMobile(t, parts)
	}
	for _, a := range []chainArms{{20, 1}, {1, 20}, {20, 19}, {19, 20}, {20, 17}, {17, 19}, {13, 11}} {
		for _, toLeft := range []bool{true, false} {
			parts := chainOf(toLeft, a, a, a, a, a, a, a)
			checkNotLeast(t, parts)
			checkMobile(t, parts)
		}
		parts := laidOut(fullTwig(3), firstLoose)
		for i := range 7 {
			parts[i].ArmLeft, parts[i].ArmRight = a[i%2], a[(i+1)%2]
		}
		checkMobile(t, parts)
	}
}

// TestFirstTilted has beams that are tilted alone or beside others, the top among
// them or not.
func TestFirstTilted(t *testing.T) {
	// Beams 1 and 2 hang from the top, and two weights from each of them.
	full := laidOut(fullTwig(2), firstLoose)
	cases := []struct {
		weights []int
		want    []int
	}{
		{[]int{1, 1, 1, 1}, nil}, {[]int{500, 500, 500, 500}, nil}, {[]int{1, 1, 2, 2}, []int{0}}, {[]int{2, 2, 1, 1}, []int{0}}, {[]int{1, 3, 2, 2}, []int{1}}, {[]int{3, 1, 2, 2}, []int{1}}, {[]int{2, 2, 1, 3}, []int{2}}, {[]int{2, 2, 3, 1}, []int{2}},
		{[]int{1, 3, 3, 1}, []int{1, 2}}, {[]int{1, 2, 2, 2}, []int{0, 1}}, {[]int{2, 2, 2, 1}, []int{0, 2}}, {[]int{1, 2, 3, 4}, []int{0, 1, 2}}, {[]int{1000, 999, 1000, 999}, []int{1, 2}}, {[]int{1000, 1000, 1000, 999}, []int{0, 2}},
	}
	for _, c := range cases {
		parts := withWeights(full, c.weights...)
		checkTilts(t, parts, c.want)
		checkMobile(t, parts)
	}
}

// TestFirstTiltedIsLeastIndex has a beam deep on the left, with a greater index than
// one on the right, and the other way round.
func TestFirstTiltedIsLeastIndex(t *testing.T) {
	top := &twig{&twig{left: &twig{}}, &twig{}}
	for _, pick := range []func(int) int{firstLoose, lastLoose} {
		parts := laidOut(top, pick)
		for i := range 4096 {
			changed := withWeights(parts, i%8+1, i/8%8+1, i/64%8+1, i/512+1, 1)
			checkTilts(t, changed, tilts(changed))
		}
	}
	// The beams 0, 2 and 4 hang in a chain.
	chain := chainOf(true, chainArms{1, 1}, chainArms{1, 1}, chainArms{1, 1})
	for _, c := range []struct {
		weights []int
		want    int
	}{{[]int{4, 2, 1, 1}, -1}, {[]int{5, 2, 1, 1}, 0}, {[]int{4, 3, 1, 1}, 0}, {[]int{4, 1, 1, 2}, 2}, {[]int{5, 3, 1, 1}, 2}, {[]int{4, 1, 1, 1}, 0}, {[]int{6, 3, 1, 2}, 4}, {[]int{6, 4, 1, 1}, 2}, {[]int{7, 4, 1, 2}, 2}} {
		if got := impl.FirstTilted(withWeights(chain, c.weights...)); got != c.want {
			t.Errorf("FirstTilted with the weights %v is %d; want %d", c.weights, got, c.want)
		}
	}
}

func TestWeightOf(t *testing.T) {
	parts := []impl.Part{crossbar(3, 1, 2, 1), crossbar(2, 4, 1, 5), weigher(7), weigher(1000), crossbar(6, 5, 1, 1), weigher(20), weigher(300)}
	for k, want := range []int{1327, 327, 7, 1000, 320, 20, 300} {
		if got := impl.WeightOf(parts, k); got != want {
			t.Errorf("WeightOf(%v, %d) = %d; want %d", parts, k, got, want)
		}
	}
	checkNoPart(t, parts)
	for depth := range 4 {
		parts := dressed(laidOut(fullTwig(depth), firstLoose), func() int { return 20 }, func() int { return 1000 })
		if got, want := impl.WeightOf(parts, 0), 1000<<depth; got != want {
			t.Errorf("WeightOf the top of %v is %d; want %d", parts, got, want)
		}
	}
}

func TestCountParts(t *testing.T) {
	for beams := range 8 {
		for _, top := range twigsWith(beams) {
			weights, got := impl.CountParts(laidOut(top, lastLoose))
			if weights != beams+1 || got != beams {
				t.Errorf("CountParts with %d beams: %d, %d", beams, weights, got)
			}
		}
	}
}

// TestNumberOfParts has up to 20 parts of which each beam and each weight would be
// right: chains, and weights that hang from nowhere.
func TestNumberOfParts(t *testing.T) {
	for _, parts := range [][]impl.Part{nil, {}, make([]impl.Part, 0, 15), oneBeam(1, 1, 1, 1)[:0]} {
		checkNoMobile(t, parts)
	}
	for beams := range 10 {
		for _, toLeft := range []bool{true, false} {
			parts := chainOf(toLeft, slices.Repeat([]chainArms{{1, 1}}, beams)...)
			if got, want := checkEither(t, parts), beams <= 7; got != want || len(parts) != 2*beams+1 {
				t.Errorf("MobileOk with %d parts is %v", len(parts), got)
			}
			checkNoMobile(t, append(parts, weigher(1)))
			checkNoMobile(t, append(parts, weigher(1), weigher(1)))
		}
	}
	for count := 2; count <= 20; count++ {
		checkNoMobile(t, slices.Repeat([]impl.Part{weigher(1)}, count))
		checkNoMobile(t, make([]impl.Part, count))
		checkNoMobile(t, slices.Repeat([]impl.Part{crossbar(1, 2, 1, 1)}, count))
	}
}

// TestMobileOkByHand has parts of which the document says whether they are valid.
func TestMobileOkByHand(t *testing.T) {
	valid := [][]impl.Part{
		{weigher(1)}, {weigher(1000)}, oneBeam(1, 1, 1, 1), oneBeam(20, 20, 1000, 1000), oneBeam(1, 20, 1, 1000), {crossbar(2, 1, 3, 4), weigher(5), weigher(6)},
		{crossbar(1, 4, 1, 1), crossbar(2, 3, 1, 1), weigher(1), weigher(1), weigher(1)}, {crossbar(4, 1, 1, 1), crossbar(3, 2, 1, 1), weigher(1), weigher(1), weigher(1)}, {crossbar(2, 1, 1, 1), weigher(1), crossbar(4, 3, 1, 1), weigher(1), weigher(1)},
		{crossbar(1, 2, 1, 1), crossbar(3, 5, 1, 1), crossbar(4, 6, 1, 1), weigher(1), weigher(1), weigher(1), weigher(1)},
	}
	for _, parts := range valid {
		if !isMobile(parts) {
			t.Fatalf("the reckoning refuses %v", parts)
		}
		checkMobile(t, parts)
	}
	w := weigher(1)
	invalid := [][]impl.Part{
		// A part that hangs twice, from one beam or from two, also in place of another.
		{crossbar(1, 1, 1, 1), w}, {crossbar(1, 1, 1, 1), w, w}, {crossbar(2, 2, 1, 1), w, w}, {crossbar(1, 2, 1, 1), crossbar(2, 3, 1, 1), w, w}, {crossbar(1, 2, 1, 1), crossbar(3, 2, 1, 1), w, w}, {crossbar(1, 4, 1, 1), crossbar(3, 4, 1, 1), w, w, w}, {crossbar(1, 2, 1, 1), crossbar(3, 4, 1, 1), crossbar(3, 4, 1, 1), w, w}, {crossbar(1, 2, 1, 1), crossbar(3, 3, 1, 1), crossbar(4, 4, 1, 1), w, w},
		// A part that hangs from nowhere: a weight, or a beam.
		{w, w}, {w, w, w}, {crossbar(1, 2, 1, 1), w, w, w}, {crossbar(1, 3, 1, 1), w, w, w}, {crossbar(2, 3, 1, 1), w, w, w}, {w, crossbar(2, 3, 1, 1), w, w}, {crossbar(1, 2, 1, 1), w, w, crossbar(4, 5, 1, 1), w, w}, {crossbar(2, 3, 1, 1), crossbar(4, 5, 1, 1), w, w, w, w},
		// A beam that would hang from itself or from what is below it.
		{crossbar(0, 1, 1, 1), w}, {crossbar(0, 0, 1, 1)}, {crossbar(0, 1, 1, 1), w, w}, {crossbar(1, 2, 1, 1), crossbar(1, 2, 1, 1), w}, {crossbar(1, 2, 1, 1), crossbar(0, 3, 1, 1), w, w}, {crossbar(1, 2, 1, 1), w, crossbar(1, 2, 1, 1)}, {crossbar(2, 3, 1, 1), w, crossbar(1, 4, 1, 1), w, w},
		// A part that there is not, on one side or on both.
		{crossbar(1, 3, 1, 1), w, w}, {crossbar(3, 1, 1, 1), w, w}, {crossbar(1, 2, 1, 1), w}, {crossbar(1, 2, 1, 1)}, {crossbar(1, -1, 1, 1), w}, {crossbar(-1, 1, 1, 1), w}, {crossbar(-2, 1, 1, 1), w}, {crossbar(1, -2, 1, 1), w}, {crossbar(-2, -2, 1, 1)}, {crossbar(-1, -1, 1, 1)}, {{}}, {{Left: -1, Right: -1}}, {{Left: -1, Weight: 1}}, {{Right: -1, Weight: 1}}, {{Weight: 1}},
	}
	for _, parts := range invalid {
		if isMobile(parts) {
			t.Fatalf("the reckoning takes %v", parts)
		}
		checkNoMobile(t, parts)
	}
}

// TestEveryField changes each number of each part of some mobiles to those around
// the limits and to far ones.
func TestEveryField(t *testing.T) {
	valid, invalid := 0, 0
	for _, top := range someTwigs()[:10] {
		for _, pick := range []func(int) int{firstLoose, lastLoose} {
			parts := laidOut(top, pick)
			for k := range parts {
				for field := range partFields {
					for _, n := range fieldValues {
						if checkEither(t, withField(parts, k, field, n)) {
							valid++
						} else {
							invalid++
						}
					}
				}
			}
		}
	}
	if valid < 1000 || invalid < 10000 {
		t.Errorf("%d mobiles were valid and %d not", valid, invalid)
	}
}

// TestEveryHanging has all ways in which three parts can name one another, and all
// in which the first three of five can.
func TestEveryHanging(t *testing.T) {
	valid := 0
	for i := range 6 * 6 * 6 * 6 * 6 * 6 {
		parts := make([]impl.Part, 3)
		for k, rest := range []int{i % 36, i / 36 % 36, i / 36 / 36} {
			parts[k] = namingPart(rest/6-2, rest%6-2)
		}
		if checkEither(t, parts) {
			valid++
		}
	}
	if valid != 2 {
		t.Errorf("%d ways are valid with 3 parts; want 2", valid)
	}
	valid = 0
	for i := range 49 * 49 * 49 {
		parts := []impl.Part{{}, {}, {}, weigher(2), weigher(3)}
		for k, rest := range []int{i % 49, i / 49 % 49, i / 49 / 49} {
			parts[k] = namingPart(rest/7-1, rest%7-1)
		}
		if ok := isMobile(parts); ok != impl.MobileOk(parts) {
			t.Errorf("MobileOk(%v) = %v", parts, !ok)
		} else if ok {
			valid++
		}
	}
	// Beside beam 1, one of three weights hangs from the top; beside beam 2, only
	// part 1 can. Both beams can be turned.
	if valid != 2*2*3+2*2 {
		t.Errorf("%d ways are valid with 5 parts; want 16", valid)
	}
}

// namingPart is a weight if its left side is -1, otherwise a beam with these sides.
func namingPart(left int, right int) impl.Part {
	if left == -1 {
		return impl.Part{Left: left, Right: right, Weight: 1}
	}
	return crossbar(left, right, 1, 1)
}

func TestInvalidMobiles(t *testing.T) {
	for _, parts := range invalidMobiles() {
		if isMobile(parts) {
			t.Fatalf("%v is valid", parts)
		}
		checkNoMobile(t, parts)
	}
}

// TestMobilesChangeNothing calls the functions with valid and invalid parts that
// have spare capacity.
func TestMobilesChangeNothing(t *testing.T) {
	for _, parts := range append(someMobiles(), invalidMobiles()...) {
		given, changed := guardedList(parts, noPart)
		impl.MobileOk(given)
		impl.IsBalanced(given)
		impl.FirstTilted(given)
		impl.LeastWeights(given)
		impl.CountParts(given)
		for k := -1; k <= len(given)+4; k++ {
			impl.WeightOf(given, k)
		}
		if changed() {
			t.Errorf("the argument %v was changed to %v", parts, given)
		}
	}
}

// TestLeastWeightsAreNew has parts that stay as they are, too: those that are not
// valid, and those whose weights would be too great.
func TestLeastWeightsAreNew(t *testing.T) {
	for _, parts := range append(someMobiles(), invalidMobiles()...) {
		checkNewMemory(t, "LeastWeights", parts, noPart, func(given []impl.Part) []impl.Part {
			least, _ := impl.LeastWeights(given)
			return least
		})
	}
}

// A mobileAnswer is what the program said of a mobile.
type mobileAnswer struct {
	ok, balanced, hasLeast bool
	tilted, weights, beams int
	// hanging has the weight of each part, and of indexes before and after them.
	hanging []int
	least   []impl.Part
}

func mobileAnswerTo(parts []impl.Part) mobileAnswer {
	var a mobileAnswer
	a.ok, a.balanced, a.tilted = impl.MobileOk(parts), impl.IsBalanced(parts), impl.FirstTilted(parts)
	a.weights, a.beams = impl.CountParts(parts)
	a.least, a.hasLeast = impl.LeastWeights(parts)
	for k := -1; k <= len(parts); k++ {
		a.hanging = append(a.hanging, impl.WeightOf(parts, k))
	}
	return a
}

func (a mobileAnswer) isSame(b mobileAnswer) bool {
	flags := a.ok == b.ok && a.balanced == b.balanced && a.hasLeast == b.hasLeast
	numbers := a.tilted == b.tilted && a.weights == b.weights && a.beams == b.beams
	return flags && numbers && slices.Equal(a.hanging, b.hanging) && slices.Equal(a.least, b.least)
}

// A mobileQuestion is a mobile, valid or not, and what the program said of it.
type mobileQuestion struct {
	parts []impl.Part
	want  mobileAnswer
}

func mobileQuestions() []mobileQuestion {
	var list []mobileQuestion
	for _, parts := range append(someMobiles(), invalidMobiles()[:400]...) {
		list = append(list, mobileQuestion{parts, mobileAnswerTo(parts)})
	}
	return list
}

// TestMobilesOneAfterAnother asks again in the other order, so that something that
// was kept would show.
func TestMobilesOneAfterAnother(t *testing.T) {
	list := mobileQuestions()
	for range 4 {
		slices.Reverse(list)
		for _, q := range list {
			if got := mobileAnswerTo(q.parts); !got.isSame(q.want) {
				t.Errorf("of %v, the answer is no more %v, but %v", q.parts, q.want, got)
			}
		}
	}
}

// TestMobilesBesideOneAnother has many callers at the same time, with the same
// mobiles.
func TestMobilesBesideOneAnother(t *testing.T) {
	list := mobileQuestions()
	var callers sync.WaitGroup
	for caller := range 16 {
		callers.Go(func() {
			for i := range list {
				q := list[(i+caller*37)%len(list)]
				if got := mobileAnswerTo(q.parts); !got.isSame(q.want) {
					t.Errorf("beside others, of %v, the answer is not %v, but %v", q.parts, q.want, got)
				}
			}
		})
	}
	callers.Wait()
}
