package tests

import (
	"math"
	"math/big"
	"slices"
	"testing"

	"loop.example/shopsthatmake/impl"
)

// costPair is what it costs to set, and to hold.
type costPair struct {
	set, hold int
}

// somePairs returns costs of 0, of their limits, and between.
func somePairs() []costPair {
	var pairs []costPair
	for _, set := range []int{0, 1, 5, 17, impl.MaxCost} {
		for _, hold := range []int{0, 1, 2, impl.MaxCost} {
			pairs = append(pairs, costPair{set, hold})
		}
	}
	return pairs
}

// badPairs returns costs one of which, or both, is out of range.
func badPairs() []costPair {
	var pairs []costPair
	for _, bad := range outOf(0, impl.MaxCost) {
		for _, good := range []int{0, 1, impl.MaxCost} {
			pairs = append(pairs, costPair{bad, good}, costPair{good, bad})
		}
		pairs = append(pairs, costPair{bad, bad})
	}
	return pairs
}

// someWants returns days for lots: those of someDays, and days without wants
// at the beginning, between and at the end.
func someWants() [][]int {
	lists := someDays(impl.MaxWant)
	for _, list := range [][]int{{4}, {1, 2}, {3, 0, 5}, {1, 1, 1, 1}, {20, 0, 0, 20}} {
		for ahead := range 3 {
			for behind := range 3 {
				lists = append(lists, slices.Concat(repeated(ahead, 0), list, repeated(behind, 0)))
			}
		}
	}
	return lists
}

// costOf returns LotCost, each thing held on its own, and whether nothing is
// made too late.
func costOf(made, list []int, set, hold int) (int, bool) {
	cost, there := 0, 0
	for day, came := range made {
		if came > 0 {
			cost += set
		}
		there += came
		there -= list[day]
		if there < 0 {
			return -1, false
		}
		for range there {
			cost += hold
		}
	}
	return cost, true
}

// allLotLengths returns all ways to cut n days into lots, by their lengths,
// those with the longer lot at the first place where two differ first.
func allLotLengths(n int) [][]int {
	if n == 0 {
		return [][]int{{}}
	}
	var all [][]int
	for first := n; first > 0; first-- {
		for _, rest := range allLotLengths(n - first) {
			all = append(all, append([]int{first}, rest...))
		}
	}
	return all
}

// madeInLots returns what is made each day with lots of these lengths.
func madeInLots(list, lengths []int) []int {
	var made []int
	for _, n := range lengths {
		first := len(made)
		made = append(made, sum(list[first:first+n]))
		made = append(made, repeated(n-1, 0)...)
	}
	return made
}

// bestByLengths returns the least cost of all lots, and the first lots that
// cost it, longer ones first.
func bestByLengths(list []int, set, hold int) (int, []int) {
	least, best := math.MaxInt, []int(nil)
	for _, lengths := range allLotLengths(len(list)) {
		made := madeInLots(list, lengths)
		if cost, _ := costOf(made, list, set, hold); cost < least {
			least, best = cost, made
		}
	}
	return least, best
}

// meanOf returns the mean cost of the first so many days, made on the first
// one of them.
func meanOf(list []int, days, set, hold int) *big.Rat {
	cost := set
	for day, want := range list[:days] {
		cost += day * want * hold
	}
	return big.NewRat(int64(cost), int64(days))
}

// meanByRats returns what is made each day by the mean cost.
func meanByRats(list []int, set, hold int) []int {
	var lengths []int
	for rest := list; len(rest) > 0; {
		n := 1
		for n < len(rest) && meanOf(rest, n+1, set, hold).Cmp(meanOf(rest, n, set, hold)) <= 0 {
			n++
		}
		lengths = append(lengths, n)
		rest = rest[n:]
	}
	return madeInLots(list, lengths)
}

// expectCost fails the test if LotCost is not what is wanted, and true.
func expectCost(t *testing.T, made, list []int, set, hold, want int) {
	t.Helper()
	if got, ok := impl.LotCost(made, list, set, hold); !ok || got != want {
		t.Errorf("LotCost(%v, %v, %d, %d) = %d, %t, want %d", made, list, set, hold, got, ok, want)
	}
}

// expectNoCost fails the test if LotCost is not -1 and false.
func expectNoCost(t *testing.T, what string, made, list []int, set, hold int) {
	t.Helper()
	if got, ok := impl.LotCost(made, list, set, hold); ok || got != -1 {
		t.Errorf("%s: LotCost(%v, %v, %d, %d) = %d, %t", what, made, list, set, hold, got, ok)
	}
}

// expectLeast fails the test if LeastLots or LotsTried is not what is wanted.
func expectLeast(t *testing.T, list []int, set, hold, want int) {
	t.Helper()
	if got := impl.LeastLots(list, set, hold); got != want {
		t.Errorf("LeastLots(%v, %d, %d) = %d, want %d", list, set, hold, got, want)
	}
	if got := impl.LotsTried(list, set, hold); got != want {
		t.Errorf("LotsTried(%v, %d, %d) = %d, want %d", list, set, hold, got, want)
	}
}

// expectBest fails the test if the least cost or BestLots is not what is
// wanted.
func expectBest(t *testing.T, list []int, set, hold, least int, best ...int) {
	t.Helper()
	expectLeast(t, list, set, hold, least)
	if got := impl.BestLots(list, set, hold); !same(got, best) {
		t.Errorf("BestLots(%v, %d, %d) = %v, want %v", list, set, hold, got, best)
	}
}

// expectMean fails the test if MeanLots is not what is wanted.
func expectMean(t *testing.T, list []int, set, hold int, want ...int) {
	t.Helper()
	if got := impl.MeanLots(list, set, hold); !same(got, want) {
		t.Errorf("MeanLots(%v, %d, %d) = %v, want %v", list, set, hold, got, want)
	}
}

// expectNoLots fails the test if a function of lots takes days or costs that
// are not valid.
func expectNoLots(t *testing.T, what string, list []int, set, hold int) {
	t.Helper()
	expectNoCost(t, what, list, list, set, hold)
	expectNoCost(t, what, repeated(len(list), impl.MaxWant+1), list, set, hold)
	expectLeast(t, list, set, hold, -1)
	if best, mean := impl.BestLots(list, set, hold), impl.MeanLots(list, set, hold); best != nil || mean != nil {
		t.Errorf("%s: BestLots(%v, %d, %d) = %v, MeanLots = %v", what, list, set, hold, best, mean)
	}
}

func TestLimitOfCosts(t *testing.T) {
	if impl.MaxCost != 30 {
		t.Errorf("MaxCost = %d", impl.MaxCost)
	}
}

func TestLotCostOfDays(t *testing.T) {
	list := []int{3, 0, 4, 2}
	expectCost(t, list, list, 5, 1, 15)
	expectCost(t, []int{3, 0, 6, 0}, list, 5, 1, 12)
	expectCost(t, []int{9, 0, 0, 0}, list, 5, 1, 19)
	expectCost(t, []int{7, 0, 0, 2}, list, 5, 3, 34)
	expectCost(t, []int{3, 4, 0, 2}, list, 5, 3, 27)
	// What is made for nothing is held to the end of the last day.
	expectCost(t, []int{3, 0, 4, 3}, list, 5, 1, 16)
	expectCost(t, []int{4, 0, 4, 2}, list, 5, 1, 19)
	expectCost(t, []int{1, 1}, []int{0, 0}, 5, 2, 16)
	expectCost(t, repeated(3, 0), repeated(3, 0), 5, 2, 0)
	expectCost(t, []int{impl.MaxWant}, []int{impl.MaxWant}, impl.MaxCost, impl.MaxCost, 30)
	most := repeated(impl.MaxDays, impl.MaxWant)
	expectCost(t, most, most, impl.MaxCost, impl.MaxCost, 240)
	all := append([]int{mostMade}, repeated(impl.MaxDays-1, 0)...)
	expectCost(t, all, most, impl.MaxCost, impl.MaxCost, 30+30*560)
	expectCost(t, repeated(impl.MaxDays, mostMade), repeated(impl.MaxDays, 0), impl.MaxCost, impl.MaxCost, 240+30*5760)
}

func TestLotsOfDays(t *testing.T) {
	list := []int{3, 0, 4, 2}
	expectBest(t, list, 5, 1, 12, 3, 0, 6, 0)
	expectBest(t, list, 30, 1, 44, 9, 0, 0, 0)
	expectBest(t, list, 1, 1, 3, 3, 0, 4, 2)
	expectBest(t, []int{5, 5, 5, 5, 5, 5, 5, 5}, 10, 1, 60, 10, 0, 10, 0, 10, 0, 10, 0)
	expectBest(t, []int{1, 2, 3, 4, 5, 6, 7, 8}, 12, 1, 68, 6, 0, 0, 9, 0, 13, 0, 8)
	expectMean(t, list, 5, 1, 3, 0, 6, 0)
	expectMean(t, list, 30, 1, 9, 0, 0, 0)
	expectMean(t, list, 1, 1, 3, 0, 4, 2)
	// A mean that goes up ends a lot, also if it would go down behind it.
	expectMean(t, []int{1, 6, 0, 0, 0, 0}, 5, 1, 1, 6, 0, 0, 0, 0)
	expectMean(t, []int{1, 4, 1, 1, 3}, 6, 1, 7, 0, 0, 0, 3)
	most := repeated(impl.MaxDays, impl.MaxWant)
	expectBest(t, most, impl.MaxCost, impl.MaxCost, 240, most...)
	expectMean(t, most, impl.MaxCost, impl.MaxCost, most...)
	// To set costs as much as to hold one day more: together or not.
	expectBest(t, most, 20, 1, 160, 40, 0, 40, 0, 40, 0, 40, 0)
	expectMean(t, most, 20, 1, 40, 0, 40, 0, 40, 0, 40, 0)
}

// Of several lots that cost least those are made that are longer from the
// first day on.
func TestBestLotsOfSeveral(t *testing.T) {
	expectBest(t, []int{1, 1}, 1, 1, 2, 2, 0)
	expectBest(t, []int{1, 1, 1}, 1, 1, 3, 2, 0, 1)
	expectBest(t, []int{1, 1, 1}, 2, 1, 5, 3, 0, 0)
	expectBest(t, []int{1, 1, 1, 1}, 3, 1, 8, 2, 0, 2, 0)
	expectBest(t, []int{2, 0, 1, 0}, 2, 1, 4, 3, 0, 0, 0)
	expectBest(t, []int{1, 2, 2, 1}, 2, 1, 7, 3, 0, 3, 0)
}

func TestMeansThatAreTheSame(t *testing.T) {
	// 6 and 12 in two days, then 12 in two days and 18 in three.
	expectMean(t, []int{1, 6}, 6, 1, 7, 0)
	expectMean(t, []int{1, 6, 3}, 6, 1, 10, 0, 0)
	expectMean(t, []int{1, 7}, 6, 1, 1, 7)
	expectMean(t, []int{1, 6, 4}, 6, 1, 7, 0, 4)
	// 7 in two days is less than 11 in three, as a half less than two thirds.
	expectMean(t, []int{1, 2, 2}, 5, 1, 3, 0, 2)
}

func TestSetsThatCostNothing(t *testing.T) {
	for _, list := range [][]int{{3, 0, 4, 2}, {0, 0, 5, 0}, repeated(impl.MaxDays, impl.MaxWant), repeated(3, 0)} {
		for _, hold := range []int{1, impl.MaxCost} {
			expectBest(t, list, 0, hold, 0, list...)
			expectMean(t, list, 0, hold, list...)
		}
	}
}

func TestNothingToHold(t *testing.T) {
	for _, set := range []int{0, 1, impl.MaxCost} {
		expectBest(t, []int{3, 0, 4, 2}, set, 0, set, 9, 0, 0, 0)
		expectMean(t, []int{3, 0, 4, 2}, set, 0, 9, 0, 0, 0)
		expectBest(t, []int{0, 3, 0, 1}, set, 0, set, 4, 0, 0, 0)
		expectMean(t, []int{0, 3, 0, 1}, set, 0, 4, 0, 0, 0)
		expectBest(t, repeated(impl.MaxDays, impl.MaxWant), set, 0, set, mostMade, 0, 0, 0, 0, 0, 0, 0)
		expectMean(t, repeated(impl.MaxDays, impl.MaxWant), set, 0, mostMade, 0, 0, 0, 0, 0, 0, 0)
	}
}

func TestDaysWithoutWants(t *testing.T) {
	// At the beginning: nothing is made there if it costs to hold.
	expectBest(t, []int{0, 0, 3, 2}, 5, 1, 7, 0, 0, 5, 0)
	expectMean(t, []int{0, 0, 3, 2}, 5, 1, 0, 0, 5, 0)
	// To set is part of the mean of days without wants, too.
	expectMean(t, []int{0, 5}, 5, 1, 5, 0)
	expectMean(t, []int{0, 6}, 5, 1, 0, 6)
	expectBest(t, []int{0, 5}, 5, 1, 5, 0, 5)
	// Between.
	expectBest(t, []int{3, 0, 0, 2}, 5, 1, 10, 3, 0, 0, 2)
	expectBest(t, []int{3, 0, 0, 1}, 5, 1, 8, 4, 0, 0, 0)
	expectMean(t, []int{3, 0, 0, 2}, 5, 1, 3, 0, 0, 2)
	expectMean(t, []int{3, 0, 0, 1}, 9, 1, 4, 0, 0, 0)
	// At the end.
	expectBest(t, []int{3, 4, 0, 0}, 5, 1, 9, 7, 0, 0, 0)
	expectMean(t, []int{3, 4, 0, 0}, 5, 1, 7, 0, 0, 0)
	// On all.
	for n := range impl.MaxDays + 1 {
		for _, c := range somePairs() {
			expectCost(t, repeated(n, 0), repeated(n, 0), c.set, c.hold, 0)
			expectBest(t, repeated(n, 0), c.set, c.hold, 0, repeated(n, 0)...)
			expectMean(t, repeated(n, 0), c.set, c.hold, repeated(n, 0)...)
		}
	}
}

func TestLotsOfNoDays(t *testing.T) {
	for _, none := range [][]int{nil, {}} {
		for _, c := range somePairs() {
			expectCost(t, none, none, c.set, c.hold, 0)
			expectCost(t, nil, none, c.set, c.hold, 0)
			expectCost(t, none, nil, c.set, c.hold, 0)
			expectBest(t, none, c.set, c.hold, 0)
			expectMean(t, none, c.set, c.hold)
		}
		for _, c := range badPairs() {
			expectNoLots(t, "no days", none, c.set, c.hold)
		}
	}
}

func TestLotsOfOneDay(t *testing.T) {
	for _, c := range somePairs() {
		for _, n := range []int{1, impl.MaxWant} {
			expectCost(t, []int{n}, []int{n}, c.set, c.hold, c.set)
			expectCost(t, []int{n + 1}, []int{n}, c.set, c.hold, c.set+c.hold)
			expectBest(t, []int{n}, c.set, c.hold, c.set, n)
			expectMean(t, []int{n}, c.set, c.hold, n)
		}
	}
}

func TestLotsOfBadDays(t *testing.T) {
	for name, list := range badDays(impl.MaxWant) {
		for _, c := range somePairs() {
			expectNoLots(t, name, list, c.set, c.hold)
		}
	}
	for name, made := range badDays(mostMade) {
		expectNoCost(t, name, made, repeated(len(made), 0), 0, 0)
		expectNoCost(t, name, made, repeated(len(made), 0), 5, 1)
		expectNoCost(t, name, made, repeated(len(made), 1), 5, 1)
	}
}

func TestLotsOfBadCosts(t *testing.T) {
	for _, c := range badPairs() {
		for _, list := range [][]int{{0}, {3, 0, 4, 2}, repeated(impl.MaxDays, impl.MaxWant)} {
			expectNoLots(t, "costs out of range", list, c.set, c.hold)
		}
	}
}

func TestLotsOfAnotherLength(t *testing.T) {
	for n := range impl.MaxDays + 1 {
		for other := range impl.MaxDays + 1 {
			if n != other {
				expectNoCost(t, "another length", repeated(n, 2), repeated(other, 1), 5, 1)
				expectNoCost(t, "another length", repeated(n, 0), repeated(other, 0), 0, 0)
			}
		}
	}
	expectNoCost(t, "nothing made", nil, []int{1}, 5, 1)
	expectNoCost(t, "nothing wanted", []int{1}, nil, 5, 1)
}

func TestLotsThatAreTooLittle(t *testing.T) {
	for _, c := range somePairs() {
		expectNoCost(t, "the only day", []int{0}, []int{1}, c.set, c.hold)
		expectNoCost(t, "the first day", []int{2, 9, 9}, []int{3, 0, 0}, c.set, c.hold)
		expectNoCost(t, "a day between", []int{1, 1, 9}, []int{1, 2, 0}, c.set, c.hold)
		expectNoCost(t, "the last day", []int{1, 1, 1}, []int{1, 1, 2}, c.set, c.hold)
		expectNoCost(t, "a day too late", []int{0, 0, 9, 0}, []int{3, 0, 4, 2}, c.set, c.hold)
		expectNoCost(t, "nothing at all", repeated(impl.MaxDays, 0), repeated(impl.MaxDays, 1), c.set, c.hold)
	}
}

// What is made may be none of the lots that are cut from the days.
func TestNothingMadeCostsLess(t *testing.T) {
	for n := range 4 {
		for _, list := range allLists(n, 0, 1, 2) {
			for _, c := range []costPair{{0, 0}, {0, 1}, {1, 0}, {1, 1}, {3, 1}, {2, 3}, {5, 2}} {
				least := math.MaxInt
				for _, made := range allLists(n, 0, 1, 2, 3, 4, 5, 6) {
					want, ok := costOf(made, list, c.set, c.hold)
					if !ok {
						expectNoCost(t, "too little", made, list, c.set, c.hold)
						continue
					}
					expectCost(t, made, list, c.set, c.hold, want)
					least = min(least, want)
				}
				expectLeast(t, list, c.set, c.hold, least)
			}
		}
	}
}

func TestP12CostsAreForSetsAndHolds(t *testing.T) {
	r := fixedRandom()
	for _, list := range someWants() {
		more := added(list, randomList(r, len(list), impl.MaxWant))
		for _, c := range somePairs() {
			for _, made := range [][]int{list, more, impl.LotsFor(list, 3)} {
				want, _ := costOf(made, list, c.set, c.hold)
				expectCost(t, made, list, c.set, c.hold, want)
				expectCost(t, made, list, 0, 0, 0)
				sets, _ := impl.LotCost(made, list, c.set, 0)
				holds, _ := impl.LotCost(made, list, 0, c.hold)
				expectCost(t, made, list, c.set, c.hold, sets+holds)
			}
		}
	}
}

func TestP13TheLeastCostByDaysIsTheLeastBySets(t *testing.T) {
	for _, list := range someWants() {
		for _, c := range somePairs() {
			want, _ := bestByLengths(list, c.set, c.hold)
			expectLeast(t, list, c.set, c.hold, want)
			// Days on their own, all of them at once, and others between.
			for days := 1; days <= impl.MaxDays; days++ {
				if cost, ok := impl.LotCost(impl.LotsFor(list, days), list, c.set, c.hold); !ok || cost < want {
					t.Fatalf("LotsFor(%v, %d) cost %d, less than %d", list, days, cost, want)
				}
			}
		}
	}
}

func TestP14MoreToHoldCostsNoLess(t *testing.T) {
	for _, list := range someWants() {
		for _, c := range somePairs() {
			least := impl.LotsTried(list, c.set, c.hold)
			if c.set < impl.MaxCost && impl.LotsTried(list, c.set+1, c.hold) < least {
				t.Fatalf("LotsTried(%v, %d, %d) is less with more set", list, c.set, c.hold)
			}
			if c.hold < impl.MaxCost && impl.LotsTried(list, c.set, c.hold+1) < least {
				t.Fatalf("LotsTried(%v, %d, %d) is less with more hold", list, c.set, c.hold)
			}
		}
	}
}

func TestP15TheBestLotsCostLeast(t *testing.T) {
	for _, list := range someWants() {
		for _, c := range somePairs() {
			least, best := bestByLengths(list, c.set, c.hold)
			made := impl.BestLots(list, c.set, c.hold)
			expectBest(t, list, c.set, c.hold, least, best...)
			expectCost(t, made, list, c.set, c.hold, least)
			stocks, _ := impl.StocksOf(0, made, list)
			for day, lot := range made {
				if lot > 0 && day > 0 && stocks[day-1] > 0 {
					t.Fatalf("BestLots(%v, %d, %d) = %v: day %d", list, c.set, c.hold, made, day)
				}
			}
		}
	}
}

func TestP16LotsByMeansAreNeverTooLate(t *testing.T) {
	for _, list := range someWants() {
		for _, c := range somePairs() {
			made := impl.MeanLots(list, c.set, c.hold)
			expectMean(t, list, c.set, c.hold, meanByRats(list, c.set, c.hold)...)
			if cost, ok := impl.LotCost(made, list, c.set, c.hold); !ok || cost < impl.LeastLots(list, c.set, c.hold) {
				t.Fatalf("MeanLots(%v, %d, %d) = %v, for %d, %t", list, c.set, c.hold, made, cost, ok)
			}
		}
	}
}

func TestP66MoreDaysCostMore(t *testing.T) {
	for _, list := range someWants() {
		if len(list) == 0 {
			continue
		}
		for _, c := range somePairs() {
			least := impl.LeastLots(list, c.set, c.hold)
			if impl.LeastLots(list[:len(list)-1], c.set, c.hold) > least || impl.LeastLots(list[1:], c.set, c.hold) > least {
				t.Fatalf("LeastLots(%v, %d, %d) = %d, and fewer days cost more", list, c.set, c.hold, least)
			}
		}
	}
}

func TestP67DearSetsAreFew(t *testing.T) {
	for _, list := range someWants() {
		for cost := range impl.MaxCost + 1 {
			expectLeast(t, list, 0, cost, 0)
			if cost == 0 || len(list) == 0 {
				continue
			}
			once := append([]int{sum(list)}, repeated(len(list)-1, 0)...)
			expectBest(t, list, cost, 0, min(sum(list), 1)*cost, once...)
		}
	}
}

// lotCalls returns calls of all functions of lots, with what is made and what
// is wanted.
func lotCalls() map[string]func(lists [][]int) []int {
	return map[string]func(lists [][]int) []int{
		"LotCost": func(lists [][]int) []int {
			cost, _ := impl.LotCost(lists[0], lists[1], 5, 2)
			return []int{cost}
		},
		"LeastLots":     func(lists [][]int) []int { return []int{impl.LeastLots(lists[1], 5, 2)} },
		"LotsTried":     func(lists [][]int) []int { return []int{impl.LotsTried(lists[1], 5, 2)} },
		"BestLots":      func(lists [][]int) []int { return impl.BestLots(lists[1], 5, 2) },
		"BestLots at 0": func(lists [][]int) []int { return impl.BestLots(lists[1], 0, 0) },
		"BestLots set":  func(lists [][]int) []int { return impl.BestLots(lists[1], 0, 1) },
		"MeanLots":      func(lists [][]int) []int { return impl.MeanLots(lists[1], 5, 2) },
		"MeanLots at 0": func(lists [][]int) []int { return impl.MeanLots(lists[1], 0, 0) },
		"MeanLots set":  func(lists [][]int) []int { return impl.MeanLots(lists[1], 0, 1) },
	}
}

func TestLotsShareNoMemory(t *testing.T) {
	bad := [][]int{repeated(impl.MaxDays+1, 1), {-1, 2}, {impl.MaxWant + 1, 1}, {mostMade + 1}}
	for name, call := range lotCalls() {
		for _, wants := range append(someWants(), bad...) {
			checkMemory(t, name, [][]int{wants, wants}, call)
			checkMemory(t, name, [][]int{repeated(len(wants), impl.MaxWant), wants}, call)
		}
	}
}
