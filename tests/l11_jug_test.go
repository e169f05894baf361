package tests

import (
	"math"
	"runtime"
	"slices"
	"sync"
	"testing"
	"time"

	"loop.example/g00992/impl"
)

// noJugs are numbers that no jug holds, among them some that wrap around to
// small ones.
var noJugs = []int{
	0, -1, 21, -2, 22, 40, 100, -20, -21, 1 << 32, 1<<32 + 1, 1<<32 + 5, 1<<32 + 20, -1 << 32, -1<<32 + 1, -1<<32 + 5,
	math.MinInt, math.MinInt + 1, math.MinInt + 5, math.MaxInt - 1, math.MaxInt,
}

// noGoals are amounts that are not asked for.
var noGoals = []int{
	-1, 21, -2, 22, 40, 100, -20, -21, 1 << 32, 1<<32 + 1, 1<<32 + 5, 1<<32 + 20, -1 << 32, -1<<32 + 1, -1<<32 + 5,
	math.MinInt, math.MinInt + 1, math.MinInt + 5, math.MaxInt - 1, math.MaxInt,
}

// noPours are numbers that no act has.
var noPours = []int{
	0, 7, -1, 8, -2, -5, -6, 100, 1 << 32, 1<<32 + 1, 1<<32 + 2, 1<<32 + 5, 1<<32 + 6, -1 << 32, -1<<32 + 1, -1<<32 + 6,
	math.MinInt, math.MinInt + 1, math.MinInt + 6, math.MaxInt - 1, math.MaxInt,
}

// jugs names what the jugs hold before what is in them.
func jugs(first int, second int, inFirst int, inSecond int) impl.Jugs {
	return impl.Jugs{First: first, Second: second, InFirst: inFirst, InSecond: inSecond}
}

func emptyJugs(first int, second int) impl.Jugs {
	return jugs(first, second, 0, 0)
}

// eachPair calls test for all jugs up to most.
func eachPair(most int, test func(first int, second int)) {
	for first := 1; first <= most; first++ {
		for second := 1; second <= most; second++ {
			test(first, second)
		}
	}
}

// jugStates are all that can be in two jugs.
func jugStates(first int, second int) []impl.Jugs {
	var list []impl.Jugs
	for inFirst := range first + 1 {
		for inSecond := range second + 1 {
			list = append(list, jugs(first, second, inFirst, inSecond))
		}
	}
	return list
}

// someJugs are states of jugs of some sizes.
func someJugs() []impl.Jugs {
	return slices.Concat(jugStates(1, 1), jugStates(1, 3), jugStates(2, 2), jugStates(3, 5), jugStates(5, 3), jugStates(4, 6), jugStates(19, 20), jugStates(20, 20), jugStates(20, 1))
}

// invalidJugs break one condition each, for one of the four numbers: by one, by
// more, or by very much.
func invalidJugs() []impl.Jugs {
	list := []impl.Jugs{{}, jugs(0, 5, 0, 0), jugs(5, 0, 0, 0), jugs(0, 0, 1, 1), jugs(21, 21, 0, 0), jugs(-1, -1, -1, -1), jugs(-3, -5, -1, -2)}
	for _, far := range []int{math.MinInt, math.MaxInt} {
		list = append(list, jugs(far, far, far, far), jugs(far, far, 0, 0), jugs(far, 5, far, 5), jugs(3, far, 3, far), jugs(3, 5, far, far))
	}
	for _, size := range noJugs {
		list = append(list, jugs(size, 5, 0, 0), jugs(3, size, 0, 0), jugs(size, 20, 1, 3), jugs(20, size, 3, 1), jugs(size, 5, size, 0), jugs(3, size, 0, size))
	}
	for _, j := range []impl.Jugs{jugs(1, 1, 0, 0), jugs(3, 5, 2, 4), jugs(3, 5, 3, 0), jugs(20, 20, 20, 20), jugs(19, 20, 0, 7)} {
		for _, content := range []int{-1, -2, -20, 21, 22, 1 << 32, 1<<32 + 1, -1 << 32, math.MinInt, math.MinInt + 1, math.MaxInt - 1, math.MaxInt} {
			list = append(list, jugs(j.First, j.Second, content, j.InSecond), jugs(j.First, j.Second, j.InFirst, content))
		}
		for more := 1; more <= 3; more++ {
			list = append(list, jugs(j.First, j.Second, j.First+more, j.InSecond), jugs(j.First, j.Second, j.InFirst, j.Second+more))
		}
	}
	return list
}

// areJugs is what the chapter says of the four numbers.
func areJugs(j impl.Jugs) bool {
	sizes := j.First >= 1 && j.First <= 20 && j.Second >= 1 && j.Second <= 20
	return sizes && j.InFirst >= 0 && j.InFirst <= j.First && j.InSecond >= 0 && j.InSecond <= j.Second
}

// cupwise moves the water of valid jugs one unit after the other, without the
// program; act is one of 1 to 6.
func cupwise(j impl.Jugs, act int) impl.Jugs {
	water := map[int]int{1: j.InFirst, 2: j.InSecond}
	room := map[int]int{1: j.First - j.InFirst, 2: j.Second - j.InSecond}
	fill := func(jug int) {
		for ; room[jug] > 0; room[jug]-- {
			water[jug]++
		}
	}
	empty := func(jug int) {
		for ; water[jug] > 0; water[jug]-- {
			room[jug]++
		}
	}
	over := func(from int, to int) {
		for water[from] > 0 && room[to] > 0 {
			water[from]--
			room[from]++
			water[to]++
			room[to]--
		}
	}
	switch act {
	case 1, 2:
		fill(act)
	case 3, 4:
		empty(act - 2)
	case 5:
		over(1, 2)
	case 6:
		over(2, 1)
	}
	return jugs(j.First, j.Second, water[1], water[2])
}

// cupwiseAll performs all acts without the program, and tells whether each one
// had an effect.
func cupwiseAll(j impl.Jugs, acts []int) (impl.Jugs, bool) {
	for _, act := range acts {
		next := cupwise(j, act)
		if next == j {
			return j, false
		}
		j = next
	}
	return j, true
}

func holds(j impl.Jugs, goal int) bool {
	return j.InFirst == goal || j.InSecond == goal
}

// A pourMap has, for each state of two jugs, what the six acts lead to.
type pourMap map[impl.Jugs][7]impl.Jugs

func pourMapOf(first int, second int) pourMap {
	leads := pourMap{}
	for _, j := range jugStates(first, second) {
		var next [7]impl.Jugs
		for act := 1; act <= 6; act++ {
			next[act] = cupwise(j, act)
		}
		leads[j] = next
	}
	return leads
}

// actsLeft goes backwards from the goal: it tells of each state from which the
// goal can be reached how many acts are left, at least.
func (leads pourMap) actsLeft(goal int) map[impl.Jugs]int {
	left := map[impl.Jugs]int{}
	for j := range leads {
		if holds(j, goal) {
			left[j] = 0
		}
	}
	for round, found := 1, true; found; round++ {
		found = false
		for j, next := range leads {
			if _, known := left[j]; known {
				continue
			}
			for act := 1; act <= 6; act++ {
				if n, known := left[next[act]]; known && n == round-1 {
					left[j] = round
					found = true
				}
			}
		}
	}
	return left
}

// shortestFirst is the first one in lexicographic order among the shortest lists
// from two empty jugs, found without the program: each act is the least one after
// which there is less left.
func (leads pourMap) shortestFirst(empty impl.Jugs, goal int) ([]int, bool) {
	left := leads.actsLeft(goal)
	n, ok := left[empty]
	if !ok {
		return nil, false
	}
	acts := []int{}
	for j := empty; n > 0; n-- {
		for act := 1; act <= 6; act++ {
			next := leads[j][act]
			if m, known := left[next]; known && m == n-1 {
				acts, j = append(acts, act), next
				break
			}
		}
	}
	return acts, true
}

// firstOfLength tries all lists with a number of acts, in lexicographic order;
// only acts without an effect are left out, because the list without them would
// be shorter.
func firstOfLength(j impl.Jugs, goal int, count int, before []int) ([]int, bool) {
	if count == 0 {
		return before, holds(j, goal)
	}
	for act := 1; act <= 6; act++ {
		next := cupwise(j, act)
		if next == j {
			continue
		}
		if acts, ok := firstOfLength(next, goal, count-1, append(slices.Clone(before), act)); ok {
			return acts, true
		}
	}
	return nil, false
}

// checkPour compares one act on valid jugs with the reckoning.
func checkPour(t *testing.T, j impl.Jugs, act int) {
	t.Helper()
	want := cupwise(j, act)
	if got, ok := impl.Pour(j, act); got != want || ok != (want != j) {
		t.Errorf("Pour(%v, %d) = %v, %v; want %v, %v", j, act, got, ok, want, want != j)
	}
}

func checkNotPoured(t *testing.T, j impl.Jugs, act int) {
	t.Helper()
	if got, ok := impl.Pour(j, act); got != j || ok {
		t.Errorf("Pour(%v, %d) = %v, %v; want %v, false", j, act, got, ok, j)
	}
}

func checkAllPoured(t *testing.T, j impl.Jugs, acts []int, want impl.Jugs) {
	t.Helper()
	if got, ok := impl.PourAll(j, acts); got != want || !ok {
		t.Errorf("PourAll(%v, %v) = %v, %v; want %v, true", j, acts, got, ok, want)
	}
}

func checkNotAllPoured(t *testing.T, j impl.Jugs, acts []int) {
	t.Helper()
	if got, ok := impl.PourAll(j, acts); got != j || ok {
		t.Errorf("PourAll(%v, %v) = %v, %v; want %v, false", j, acts, got, ok, j)
	}
}

// checkNoPours is for jugs and a goal without a list.
func checkNoPours(t *testing.T, first int, second int, goal int) {
	t.Helper()
	if acts, ok := impl.FewestPours(first, second, goal); len(acts) != 0 || ok {
		t.Errorf("FewestPours(%d, %d, %d) = %v, %v; want nil, false", first, second, goal, acts, ok)
	}
	if impl.CanMeasure(first, second, goal) {
		t.Errorf("CanMeasure(%d, %d, %d) is true", first, second, goal)
	}
}

func checkFewestPours(t *testing.T, first int, second int, goal int, want []int) {
	t.Helper()
	if acts, ok := impl.FewestPours(first, second, goal); !slices.Equal(acts, want) || !ok {
		t.Errorf("FewestPours(%d, %d, %d) = %v, %v; want %v, true", first, second, goal, acts, ok, want)
	}
	if !impl.CanMeasure(first, second, goal) {
		t.Errorf("CanMeasure(%d, %d, %d) is false", first, second, goal)
	}
}

// checkReaches pours a list: the goal is in one of the jugs at the end, and in
// none of them before.
func checkReaches(t *testing.T, first int, second int, goal int, acts []int) {
	t.Helper()
	empty := emptyJugs(first, second)
	for count := range len(acts) + 1 {
		j, ok := impl.PourAll(empty, acts[:count])
		want, _ := cupwiseAll(empty, acts[:count])
		if !ok || j != want || holds(j, goal) != (count == len(acts)) {
			t.Errorf("after %v of %v, which measures %d, the jugs are %v, %v; want %v", acts[:count], acts, goal, j, ok, want)
		}
	}
}

// goroutinesLeft waits a little for goroutines of the tests that are about to
// end.
func goroutinesLeft(before int) int {
	for range 200 {
		if runtime.NumGoroutine() <= before {
			return 0
		}
		time.Sleep(5 * time.Millisecond)
	}
	return runtime.NumGoroutine() - before
}

func TestJugConstants(t *testing.T) {
	if impl.MaxJug != 20 {
		t.Error("unexpected limit:", impl.MaxJug)
	}
	acts := []int{impl.PoFillFirst, impl.PoFillSecond, impl.PoEmptyFirst, impl.PoEmptySecond, impl.PoFirstToSecond, impl.PoSecondToFirst}
	if !slices.Equal(acts, []int{1, 2, 3, 4, 5, 6}) {
		t.Error("unexpected acts:", acts)
	}
}

func TestJugsOk(t *testing.T) {
	for _, j := range []impl.Jugs{
		jugs(1, 1, 0, 0), jugs(1, 1, 1, 0), jugs(1, 1, 0, 1), jugs(1, 1, 1, 1), jugs(20, 20, 0, 0), jugs(20, 20, 20, 20), jugs(20, 1, 20, 1), jugs(1, 20, 1, 20),
		jugs(3, 5, 0, 0), jugs(3, 5, 3, 0), jugs(3, 5, 0, 5), jugs(3, 5, 3, 5), jugs(3, 5, 2, 4), jugs(5, 3, 4, 2), jugs(5, 3, 5, 3), jugs(19, 20, 19, 19),
	} {
		if !impl.JugsOk(j) {
			t.Errorf("JugsOk(%v) is false", j)
		}
	}
	for _, j := range []impl.Jugs{
		{}, jugs(0, 1, 0, 0), jugs(1, 0, 0, 0), jugs(21, 20, 0, 0), jugs(20, 21, 0, 0), jugs(-1, 5, 0, 0), jugs(3, -1, 0, 0), jugs(1, 1, 2, 0), jugs(1, 1, 0, 2), jugs(1, 1, -1, 0), jugs(1, 1, 0, -1),
		jugs(3, 5, 4, 0), jugs(3, 5, 0, 6), jugs(3, 5, 5, 3), jugs(5, 3, 3, 5), jugs(3, 5, -1, 0), jugs(3, 5, 0, -1), jugs(3, 5, -1, 6), jugs(20, 20, 21, 0), jugs(20, 20, 0, 21), jugs(21, 21, 21, 21), jugs(-3, -5, -3, -5),
	} {
		if impl.JugsOk(j) {
			t.Errorf("JugsOk(%v) is true", j)
		}
	}
}

// TestJugsOkEachState has all four numbers around their limits.
func TestJugsOkEachState(t *testing.T) {
	for first := -1; first <= 22; first++ {
		for second := -1; second <= 22; second++ {
			for inFirst := -1; inFirst <= 22; inFirst++ {
				for inSecond := -1; inSecond <= 22; inSecond++ {
					j := jugs(first, second, inFirst, inSecond)
					if got, want := impl.JugsOk(j), areJugs(j); got != want {
						t.Fatalf("JugsOk(%v) = %v; want %v", j, got, want)
					}
				}
			}
		}
	}
}

func TestInvalidJugs(t *testing.T) {
	for _, j := range invalidJugs() {
		if areJugs(j) {
			t.Fatalf("%v is valid", j)
		}
		if impl.JugsOk(j) {
			t.Errorf("JugsOk(%v) is true", j)
		}
		for act := 1; act <= 6; act++ {
			checkNotPoured(t, j, act)
			checkNotAllPoured(t, j, []int{act})
			checkNotAllPoured(t, j, []int{act, act%6 + 1})
		}
		for _, act := range noPours {
			checkNotPoured(t, j, act)
			checkNotAllPoured(t, j, []int{act})
		}
		for _, acts := range [][]int{nil, {}, slices.Repeat([]int{1, 3}, 50), slices.Repeat([]int{1, 3}, 51)} {
			checkNotAllPoured(t, j, acts)
		}
	}
}

func TestPour(t *testing.T) {
	cases := []struct {
		j    impl.Jugs
		act  int
		want impl.Jugs
	}{
		{jugs(3, 5, 0, 0), impl.PoFillFirst, jugs(3, 5, 3, 0)}, {jugs(3, 5, 2, 4), impl.PoFillFirst, jugs(3, 5, 3, 4)}, {jugs(3, 5, 0, 0), impl.PoFillSecond, jugs(3, 5, 0, 5)}, {jugs(3, 5, 2, 4), impl.PoFillSecond, jugs(3, 5, 2, 5)},
		{jugs(3, 5, 3, 5), impl.PoEmptyFirst, jugs(3, 5, 0, 5)}, {jugs(3, 5, 1, 2), impl.PoEmptyFirst, jugs(3, 5, 0, 2)}, {jugs(3, 5, 3, 5), impl.PoEmptySecond, jugs(3, 5, 3, 0)}, {jugs(3, 5, 1, 2), impl.PoEmptySecond, jugs(3, 5, 1, 0)},
		{jugs(3, 5, 3, 0), impl.PoFirstToSecond, jugs(3, 5, 0, 3)}, {jugs(3, 5, 3, 2), impl.PoFirstToSecond, jugs(3, 5, 0, 5)}, {jugs(3, 5, 3, 3), impl.PoFirstToSecond, jugs(3, 5, 1, 5)}, {jugs(3, 5, 1, 4), impl.PoFirstToSecond, jugs(3, 5, 0, 5)},
		{jugs(3, 5, 0, 5), impl.PoSecondToFirst, jugs(3, 5, 3, 2)}, {jugs(3, 5, 0, 3), impl.PoSecondToFirst, jugs(3, 5, 3, 0)}, {jugs(3, 5, 0, 2), impl.PoSecondToFirst, jugs(3, 5, 2, 0)}, {jugs(3, 5, 2, 5), impl.PoSecondToFirst, jugs(3, 5, 3, 4)},
		{jugs(1, 20, 1, 19), impl.PoFirstToSecond, jugs(1, 20, 0, 20)}, {jugs(1, 20, 0, 20), impl.PoSecondToFirst, jugs(1, 20, 1, 19)}, {jugs(20, 1, 20, 0), impl.PoFirstToSecond, jugs(20, 1, 19, 1)}, {jugs(20, 20, 20, 0), impl.PoFirstToSecond, jugs(20, 20, 0, 20)},
		{jugs(4, 4, 1, 2), impl.PoFirstToSecond, jugs(4, 4, 0, 3)}, {jugs(4, 4, 3, 2), impl.PoSecondToFirst, jugs(4, 4, 4, 1)}, {jugs(1, 1, 0, 1), impl.PoSecondToFirst, jugs(1, 1, 1, 0)},
	}
	for _, c := range cases {
		if got, ok := impl.Pour(c.j, c.act); got != c.want || !ok {
			t.Errorf("Pour(%v, %d) = %v, %v; want %v, true", c.j, c.act, got, ok, c.want)
		}
		checkPour(t, c.j, c.act)
	}
}

// TestPourEachState has each act on everything that can be in any two jugs.
func TestPourEachState(t *testing.T) {
	eachPair(20, func(first int, second int) {
		for _, j := range jugStates(first, second) {
			for act := 1; act <= 6; act++ {
				checkPour(t, j, act)
			}
		}
	})
}

func TestPourWithoutEffect(t *testing.T) {
	eachPair(20, func(first int, second int) {
		for in := range second + 1 {
			checkNotPoured(t, jugs(first, second, first, in), impl.PoFillFirst)
			checkNotPoured(t, jugs(first, second, 0, in), impl.PoEmptyFirst)
			checkNotPoured(t, jugs(first, second, 0, in), impl.PoFirstToSecond)
			checkNotPoured(t, jugs(first, second, first, in), impl.PoSecondToFirst)
		}
		for in := range first + 1 {
			checkNotPoured(t, jugs(first, second, in, second), impl.PoFillSecond)
			checkNotPoured(t, jugs(first, second, in, 0), impl.PoEmptySecond)
			checkNotPoured(t, jugs(first, second, in, 0), impl.PoSecondToFirst)
			checkNotPoured(t, jugs(first, second, in, second), impl.PoFirstToSecond)
		}
	})
}

func TestNoPours(t *testing.T) {
	for _, j := range someJugs() {
		for _, act := range noPours {
			checkNotPoured(t, j, act)
			checkNotAllPoured(t, j, []int{act})
		}
	}
}

func TestPourAll(t *testing.T) {
	checkAllPoured(t, jugs(3, 5, 0, 0), []int{2, 6, 3, 6, 2, 6}, jugs(3, 5, 3, 4))
	checkAllPoured(t, jugs(3, 5, 0, 0), []int{1, 5, 1, 5}, jugs(3, 5, 1, 5))
	checkAllPoured(t, jugs(3, 5, 2, 4), []int{1, 2, 3, 4}, jugs(3, 5, 0, 0))
	checkAllPoured(t, jugs(3, 5, 2, 4), []int{5, 4, 5}, jugs(3, 5, 0, 1))
	checkAllPoured(t, jugs(4, 4, 0, 0), []int{1, 5, 6, 5, 1}, jugs(4, 4, 4, 4))
	checkAllPoured(t, jugs(1, 20, 0, 0), []int{1, 5, 1, 5, 1}, jugs(1, 20, 1, 2))
	checkAllPoured(t, jugs(20, 1, 20, 1), []int{4, 5, 4, 5}, jugs(20, 1, 18, 1))
}

// TestPourAllEachList has all lists of up to four numbers from 0 to 7.
func TestPourAllEachList(t *testing.T) {
	isPour := func(act int) bool { return act >= 1 && act <= 6 }
	var tryAll func(j impl.Jugs, acts []int)
	tryAll = func(j impl.Jugs, acts []int) {
		real := !slices.ContainsFunc(acts, func(act int) bool { return !isPour(act) })
		if want, ok := cupwiseAll(j, acts); ok && real {
			checkAllPoured(t, j, acts, want)
		} else {
			checkNotAllPoured(t, j, acts)
		}
		for act := 0; act <= 7 && len(acts) < 4; act++ {
			tryAll(j, append(slices.Clone(acts), act))
		}
	}
	for _, j := range []impl.Jugs{jugs(3, 5, 0, 0), jugs(3, 5, 2, 4), jugs(1, 1, 1, 0), jugs(4, 4, 4, 4)} {
		tryAll(j, nil)
	}
}

func TestPourAllWithoutActs(t *testing.T) {
	for _, j := range someJugs() {
		checkAllPoured(t, j, nil, j)
		checkAllPoured(t, j, []int{}, j)
		checkAllPoured(t, j, make([]int, 0, 101), j)
	}
}

// effects are acts that each have an effect; which ones follows from by.
func effects(j impl.Jugs, count int, by int) []int {
	var acts []int
	for len(acts) < count {
		by = (by*1103 + 12345) % 65537
		act := 1 + by%6
		if next := cupwise(j, act); next != j {
			acts, j = append(acts, act), next
		}
	}
	return acts
}

// TestPourAllLimit has lists of which every act would succeed.
func TestPourAllLimit(t *testing.T) {
	for _, j := range []impl.Jugs{jugs(3, 5, 0, 0), jugs(3, 5, 2, 4), jugs(1, 1, 0, 1), jugs(4, 4, 2, 1), jugs(19, 20, 0, 0), jugs(20, 20, 20, 20), jugs(1, 20, 0, 0)} {
		for by := range 20 {
			acts := effects(j, 250, by)
			for _, count := range []int{1, 2, 50, 98, 99, 100} {
				want, ok := cupwiseAll(j, acts[:count])
				if !ok {
					t.Fatalf("an act of %v has no effect on %v", acts[:count], j)
				}
				checkAllPoured(t, j, acts[:count], want)
			}
			for _, count := range []int{101, 102, 128, 200, 250} {
				checkNotAllPoured(t, j, acts[:count])
			}
		}
	}
	checkAllPoured(t, jugs(3, 5, 0, 2), slices.Repeat([]int{1, 3}, 50), jugs(3, 5, 0, 2))
	checkNotAllPoured(t, jugs(3, 5, 0, 2), append(slices.Repeat([]int{1, 3}, 50), 1))
	checkNotAllPoured(t, jugs(3, 5, 0, 2), slices.Repeat([]int{1, 3}, 70000))
}

// TestPourAllFails puts an act that fails at each place of a list: one without
// an effect, or a number that no act has.
func TestPourAllFails(t *testing.T) {
	for _, j := range []impl.Jugs{jugs(3, 5, 0, 0), jugs(3, 5, 2, 4), jugs(4, 4, 2, 1), jugs(1, 1, 1, 0), jugs(19, 20, 7, 20)} {
		for _, count := range []int{1, 2, 3, 7, 99} {
			acts := effects(j, count, count)
			for place := range count + 1 {
				by, _ := cupwiseAll(j, acts[:place])
				for act := 1; act <= 6; act++ {
					if cupwise(by, act) == by {
						checkNotAllPoured(t, j, slices.Insert(slices.Clone(acts), place, act))
					}
				}
				for _, act := range noPours {
					checkNotAllPoured(t, j, slices.Insert(slices.Clone(acts), place, act))
				}
			}
		}
	}
}

// TestEachAmount is promise 11.
func TestEachAmount(t *testing.T) {
	eachPair(20, func(first int, second int) {
		divisor := divisorOf([]int{first, second})
		for goal := range 21 {
			want := goal%divisor == 0 && goal <= max(first, second)
			if got := impl.CanMeasure(first, second, goal); got != want {
				t.Errorf("CanMeasure(%d, %d, %d) = %v; want %v", first, second, goal, got, want)
			}
			acts, ok := impl.FewestPours(first, second, goal)
			if ok != want {
				t.Errorf("FewestPours(%d, %d, %d) = %v, %v; want %v", first, second, goal, acts, ok, want)
			}
			if !want {
				checkNoPours(t, first, second, goal)
				continue
			}
			checkReaches(t, first, second, goal, acts)
		}
	})
}

// TestShortestFirst has all jugs, 19 and 20 among them.
func TestShortestFirst(t *testing.T) {
	eachPair(20, func(first int, second int) {
		leads := pourMapOf(first, second)
		for goal := range 21 {
			if want, ok := leads.shortestFirst(emptyJugs(first, second), goal); ok {
				checkFewestPours(t, first, second, goal, want)
			} else {
				checkNoPours(t, first, second, goal)
			}
		}
	})
}

// TestAmongAllLists tries all lists of acts for small jugs.
func TestAmongAllLists(t *testing.T) {
	eachPair(6, func(first int, second int) {
		for goal := range 9 {
			var want []int
			found := false
			for count := 0; count <= 8 && !found; count++ {
				want, found = firstOfLength(emptyJugs(first, second), goal, count, nil)
			}
			if found {
				checkFewestPours(t, first, second, goal, want)
			} else {
				checkNoPours(t, first, second, goal)
			}
		}
	})
}

func TestFewestPours(t *testing.T) {
	checkFewestPours(t, 3, 5, 4, []int{2, 6, 3, 6, 2, 6})
	checkFewestPours(t, 5, 3, 4, []int{1, 5, 4, 5, 1, 5})
	checkFewestPours(t, 3, 5, 1, []int{1, 5, 1, 5})
	checkFewestPours(t, 3, 5, 2, []int{2, 6})
	checkFewestPours(t, 4, 6, 2, []int{2, 6})
	checkFewestPours(t, 10, 15, 5, []int{2, 6})
	checkFewestPours(t, 7, 11, 6, []int{1, 5, 1, 5, 4, 5, 1, 5, 1, 5})
	checkFewestPours(t, 19, 20, 10, slices.Concat([]int{1, 5}, slices.Repeat([]int{1, 5, 4, 5}, 8), []int{1, 5}))
	checkFewestPours(t, 20, 19, 10, slices.Concat([]int{2, 6}, slices.Repeat([]int{2, 6, 3, 6}, 8), []int{2, 6}))
	checkNoPours(t, 2, 4, 3)
	checkNoPours(t, 4, 6, 3)
	checkNoPours(t, 10, 15, 1)
	checkNoPours(t, 10, 15, 20)
	checkNoPours(t, 3, 5, 6)
	checkNoPours(t, 3, 5, 8)
}

func TestEqualJugs(t *testing.T) {
	for size := 1; size <= 20; size++ {
		checkFewestPours(t, size, size, 0, nil)
		checkFewestPours(t, size, size, size, []int{1})
		for goal := 1; goal <= 20; goal++ {
			if goal != size {
				checkNoPours(t, size, size, goal)
			}
		}
	}
}

// TestJugOfOne has every amount, because the other jug can be filled or emptied
// by ones.
func TestJugOfOne(t *testing.T) {
	for size := 2; size <= 20; size++ {
		for goal := 2; goal < size; goal++ {
			intoSecond := slices.Repeat([]int{1, 5}, goal)
			outOfSecond := append([]int{2, 6}, slices.Repeat([]int{3, 6}, size-goal-1)...)
			if len(outOfSecond) < len(intoSecond) {
				checkFewestPours(t, 1, size, goal, outOfSecond)
			} else {
				checkFewestPours(t, 1, size, goal, intoSecond)
			}
		}
		checkFewestPours(t, 1, size, 1, []int{1})
		checkFewestPours(t, size, 1, 1, []int{2})
	}
	checkFewestPours(t, 1, 1, 1, []int{1})
	checkNoPours(t, 1, 1, 2)
}

// TestJugsExchanged exchanges the numbers of the acts, too.
func TestJugsExchanged(t *testing.T) {
	exchanged := [7]int{0, 2, 1, 4, 3, 6, 5}
	eachPair(20, func(first int, second int) {
		for goal := range 21 {
			acts, ok := impl.FewestPours(first, second, goal)
			others, fine := impl.FewestPours(second, first, goal)
			if len(acts) != len(others) || ok != fine || impl.CanMeasure(first, second, goal) != impl.CanMeasure(second, first, goal) {
				t.Errorf("with %d, %d and %d, %v, %v; exchanged %v, %v", first, second, goal, acts, ok, others, fine)
			}
			var turned []int
			for _, act := range others {
				turned = append(turned, exchanged[act])
			}
			if ok {
				checkReaches(t, first, second, goal, turned)
			}
		}
	})
}

func TestPlainGoals(t *testing.T) {
	eachPair(20, func(first int, second int) {
		checkFewestPours(t, first, second, 0, nil)
		checkFewestPours(t, first, second, first, []int{impl.PoFillFirst})
		if second != first {
			checkFewestPours(t, first, second, second, []int{impl.PoFillSecond})
		}
		for goal := max(first, second) + 1; goal <= 21; goal++ {
			checkNoPours(t, first, second, goal)
		}
		checkNoPours(t, first, second, first+second)
	})
}

func TestNoFewestPours(t *testing.T) {
	for _, size := range noJugs {
		for goal := -1; goal <= 21; goal++ {
			for other := -1; other <= 21; other++ {
				checkNoPours(t, size, other, goal)
				checkNoPours(t, other, size, goal)
			}
		}
		for _, other := range noJugs {
			checkNoPours(t, size, other, 0)
			checkNoPours(t, size, other, size)
			checkNoPours(t, size, other, other)
		}
		checkNoPours(t, size, 5, size)
		checkNoPours(t, 5, size, size)
	}
	for _, goal := range noGoals {
		eachPair(20, func(first int, second int) { checkNoPours(t, first, second, goal) })
		for _, size := range noJugs {
			checkNoPours(t, size, 5, goal)
			checkNoPours(t, 5, size, goal)
			checkNoPours(t, size, size, goal)
		}
	}
}

// TestPourAllChangesNothing has lists with spare capacity behind them: some that
// succeed, some that fail, and some that are too long.
func TestPourAllChangesNothing(t *testing.T) {
	for _, j := range append(someJugs(), invalidJugs()...) {
		lists := [][]int{nil, {}, {1}, {3, 1}, {1, 2, 3, 4, 5, 6}, {2, 6, 3, 6, 2, 6}, {0}, {7, 1}, slices.Repeat([]int{1, 3}, 50), slices.Repeat([]int{1, 3}, 51)}
		if areJugs(j) {
			lists = append(lists, effects(j, 6, 3), effects(j, 100, 4), effects(j, 101, 5))
		}
		for _, acts := range lists {
			given, changed := guarded(acts)
			impl.PourAll(j, given)
			if changed() {
				t.Errorf("an argument of PourAll(%v, %v) was changed", j, acts)
			}
		}
	}
}

func TestFewestPoursAreNew(t *testing.T) {
	eachPair(7, func(first int, second int) {
		for goal := -1; goal <= 8; goal++ {
			checkNewList(t, "FewestPours", func() []int {
				acts, _ := impl.FewestPours(first, second, goal)
				return acts
			})
		}
	})
	// A list could be the beginning of another one.
	for goal := range 21 {
		var lists, wanted [][]int
		for other := range 21 {
			acts, _ := impl.FewestPours(19, 20, other)
			lists, wanted = append(lists, acts), append(wanted, slices.Clone(acts))
		}
		overwrite(append(lists[goal], 9, 9, 9))
		overwrite(lists[goal])
		for other := range 21 {
			if other != goal && !slices.Equal(lists[other], wanted[other]) {
				t.Errorf("FewestPours of %d and %d share memory", goal, other)
			}
		}
	}
}

// A measured is what the program said of some jugs and a goal.
type measured struct {
	first, second, goal int
	acts                []int
	can                 bool
}

// measuredOnce has goals that can be measured and goals that cannot.
func measuredOnce() []measured {
	var list []measured
	for _, size := range []int{-1, 0, 1, 2, 4, 5, 9, 19, 20, 21} {
		for _, other := range []int{0, 1, 6, 13, 20} {
			for goal := -1; goal <= 21; goal += 2 {
				acts, can := impl.FewestPours(size, other, goal)
				list = append(list, measured{size, other, goal, acts, can})
			}
		}
	}
	return list
}

func (m measured) isAnsweredAgain() bool {
	acts, can := impl.FewestPours(m.first, m.second, m.goal)
	return slices.Equal(acts, m.acts) && can == m.can && impl.CanMeasure(m.first, m.second, m.goal) == m.can
}

// TestJugsOneAfterAnother asks again in the other order, so that something that
// was kept would show.
func TestJugsOneAfterAnother(t *testing.T) {
	before := runtime.NumGoroutine()
	list := measuredOnce()
	for range 3 {
		slices.Reverse(list)
		for _, m := range list {
			if !m.isAnsweredAgain() {
				t.Errorf("FewestPours(%d, %d, %d) is no more %v, %v", m.first, m.second, m.goal, m.acts, m.can)
			}
			checkNotPoured(t, jugs(3, 5, 0, 0), impl.PoEmptyFirst)
			checkPour(t, jugs(3, 5, 3, 0), impl.PoFirstToSecond)
			checkAllPoured(t, jugs(3, 5, 0, 0), []int{1, 5}, jugs(3, 5, 0, 3))
		}
	}
	if left := goroutinesLeft(before); left != 0 {
		t.Errorf("%d goroutines were left behind", left)
	}
}

// TestJugsBesideOneAnother has many callers at the same time.
func TestJugsBesideOneAnother(t *testing.T) {
	before := runtime.NumGoroutine()
	list := measuredOnce()
	var callers sync.WaitGroup
	for caller := range 16 {
		callers.Go(func() {
			for i := range list {
				m := list[(i+caller*31)%len(list)]
				if !m.isAnsweredAgain() {
					t.Errorf("beside others, FewestPours(%d, %d, %d) is not %v, %v", m.first, m.second, m.goal, m.acts, m.can)
				}
				if got, ok := impl.PourAll(jugs(3, 5, 0, 0), []int{2, 6, 3, 6, 2, 6}); got != jugs(3, 5, 3, 4) || !ok {
					t.Errorf("beside others, PourAll returns %v, %v", got, ok)
				}
			}
		})
	}
	callers.Wait()
	if left := goroutinesLeft(before); left != 0 {
		t.Errorf("%d goroutines were left behind", left)
	}
}
