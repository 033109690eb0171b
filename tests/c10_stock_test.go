package tests

import (
	"math"
	"math/big"
	"slices"
	"testing"

	"loop.example/shopsthatmake/impl"
)

// stockCosts are the costs of 0, of their limit, and some between.
var stockCosts = []int{0, 1, 2, 5, 17, impl.MaxCost}

// badChances returns lists that are not chances.
func badChances() map[string][]int {
	return map[string][]int{
		"no weights":               nil,
		"an empty list":            {},
		"one weight of 0":          {0},
		"all weights are 0":        repeated(impl.MaxValues, 0),
		"one weight too many":      repeated(impl.MaxValues+1, 1),
		"one of 0 too many":        append(repeated(impl.MaxValues, 1), 0),
		"the only one is too many": append(repeated(impl.MaxValues, 0), 1),
		"many weights too many":    repeated(3*impl.MaxValues, impl.MaxTime),
		"one weight below 0":       {-1},
		"first weight below 0":     {-1, 2, 3},
		"weight between below 0":   {2, -1, 3},
		"last weight below 0":      {2, 3, -1},
		"last of all below 0":      append(repeated(impl.MaxValues-1, 9), -1),
		"weights that make up 0":   {1, -1},
		"one weight too great":     {impl.MaxTime + 1},
		"first weight too great":   {impl.MaxTime + 1, 0, 1},
		"weight between too great": {0, impl.MaxTime + 1, 1},
		"last weight too great":    {1, 0, impl.MaxTime + 1},
		"last of all too great":    append(repeated(impl.MaxValues-1, 0), impl.MaxTime+1),
		"less that makes it up":    {impl.MaxTime + 1, -1},
		"the least number":         {1, math.MinInt, 1},
		"the greatest number":      {1, math.MaxInt, 1},
		"more than there may be":   {math.MaxInt, math.MaxInt, 3},
		"a weight that wraps":      {1 << 32, 1},
	}
}

// someChances returns chances: of few weights all, or all of few numbers, of
// more weights all of 0 and 1, and some others.
func someChances() [][]int {
	lists := slices.Concat(allLists(1, 0, 1, 2, 3, 4, 5, 6, 7, 8, 9), allLists(2, 0, 1, 2, 3, 6, 9), allLists(3, 0, 1, 2, 9))
	r := fixedRandom()
	for n := 4; n <= impl.MaxValues; n++ {
		lists = append(lists, allLists(n, 0, 1)...)
		lists = append(lists, repeated(n, 2), repeated(n, impl.MaxTime))
		for range 20 {
			list := randomList(r, n, impl.MaxTime)
			lists = append(lists, list, sparse(r, list, 2), sparse(r, list, 3), randomList(r, n, 2))
		}
	}
	return slices.DeleteFunc(lists, func(list []int) bool { return sum(list) == 0 })
}

// fewChances returns the chances with which all costs are tried.
func fewChances() [][]int {
	return [][]int{{1}, {0, 3}, {4, 0}, {1, 2, 1}, {2, 0, 3, 1, 0, 2}, {0, 0, 4, 0, 5, 0}, {9, 1, 1, 1, 1, 1, 1}, repeated(impl.MaxValues, impl.MaxTime)}
}

// costsFor returns pairs of costs for the chances: all of them for fewChances,
// and some of them for others.
func costsFor(w []int) [][]int {
	if !slices.ContainsFunc(fewChances(), func(few []int) bool { return same(few, w) }) {
		return allLists(2, stockCosts...)
	}
	return allLists(2, inOrder(impl.MaxCost+1)...)
}

// forChances calls check with all of some chances, and pairs of costs for them.
func forChances(check func(w []int, one, other int)) {
	for _, w := range append(someChances(), fewChances()...) {
		for _, pair := range costsFor(w) {
			check(w, pair[0], pair[1])
		}
	}
}

// valuesOf returns each value of the chances as often as its weight tells.
func valuesOf(w []int) []int {
	var values []int
	for value, weight := range w {
		values = append(values, repeated(weight, value)...)
	}
	return values
}

// costByThings returns StockCost, each thing counted on its own.
func costByThings(w []int, stock, over, under int) int {
	cost := 0
	for _, want := range valuesOf(w) {
		for thing := range max(stock, want) {
			if thing >= want {
				cost += over
			}
			if thing >= stock {
				cost += under
			}
		}
	}
	return cost
}

// costsByThings returns StockCost of all stocks.
func costsByThings(w []int, over, under int) []int {
	var costs []int
	for stock := range impl.MaxValues + 1 {
		costs = append(costs, costByThings(w, stock, over, under))
	}
	return costs
}

// shareByThings returns StockByShare, of the values one by one, the least one
// first, as many as the share tells.
func shareByThings(w []int, over, under int) int {
	values := valuesOf(w)
	if under == 0 {
		return 0
	}
	share := big.NewRat(int64(under), int64(over+under))
	for met := range values {
		if big.NewRat(int64(met+1), int64(len(values))).Cmp(share) >= 0 {
			return values[met]
		}
	}
	return -1
}

// rateByParts returns AgeRate, each part on its own.
func rateByParts(w []int, age, plan, fail int) *big.Rat {
	cost, time := 0, 0
	for _, value := range valuesOf(w) {
		if life := value + 1; life <= age {
			cost, time = cost+fail, time+life
		} else {
			cost, time = cost+plan, time+age
		}
	}
	return big.NewRat(int64(cost), int64(time))
}

// ratesByParts returns AgeRate of all ages, from 1 on.
func ratesByParts(w []int, plan, fail int) []*big.Rat {
	var rates []*big.Rat
	for age := 1; age <= impl.MaxValues; age++ {
		rates = append(rates, rateByParts(w, age, plan, fail))
	}
	return rates
}

// leastAge returns the first age, from 1 on, of which the rate is the least,
// and how many others have the same rate.
func leastAge(rates []*big.Rat) (int, int) {
	least := slices.MinFunc(rates, (*big.Rat).Cmp)
	isLeast := func(rate *big.Rat) bool { return rate.Cmp(least) == 0 }
	first := slices.IndexFunc(rates, isLeast)
	others := slices.DeleteFunc(slices.Clone(rates[first+1:]), func(rate *big.Rat) bool { return !isLeast(rate) })
	return first + 1, len(others)
}

// scaled returns the list with each number times the factor.
func scaled(list []int, factor int) []int {
	more := slices.Clone(list)
	for i := range more {
		more[i] *= factor
	}
	return more
}

// rateOf returns AgeRate of valid chances, ages and costs. It fails the test if
// that is no fraction without a common factor, or less than 0.
func rateOf(t *testing.T, w []int, age, plan, fail int) *big.Rat {
	t.Helper()
	got, ok := impl.AgeRate(w, age, plan, fail)
	if !ok || got.Up < 0 || got.Down < 1 {
		t.Fatalf("AgeRate(%v, %d, %d, %d) = %v, %t", w, age, plan, fail, got, ok)
	}
	rat := big.NewRat(int64(got.Up), int64(got.Down))
	if fracOfRat(rat) != got {
		t.Fatalf("AgeRate(%v, %d, %d, %d) = %v, which has a common factor", w, age, plan, fail, got)
	}
	return rat
}

// expectStockCosts fails the test if the costs of the stocks from 0 on are not
// what is wanted.
func expectStockCosts(t *testing.T, w []int, over, under int, want ...int) {
	t.Helper()
	for stock, cost := range want {
		if got := impl.StockCost(w, stock, over, under); got != cost {
			t.Errorf("StockCost(%v, %d, %d, %d) = %d, want %d", w, stock, over, under, got, cost)
		}
	}
}

// expectStock fails the test if the stock that costs least, or that of the
// share, is another one.
func expectStock(t *testing.T, w []int, over, under, want int) {
	t.Helper()
	if got := impl.BestStock(w, over, under); got != want {
		t.Errorf("BestStock(%v, %d, %d) = %d, want %d", w, over, under, got, want)
	}
	if got := impl.StockByShare(w, over, under); got != want {
		t.Errorf("StockByShare(%v, %d, %d) = %d, want %d", w, over, under, got, want)
	}
}

// expectRates fails the test if the rates of the ages from 1 on are not what is
// wanted; those of all later ages are the last one.
func expectRates(t *testing.T, w []int, plan, fail int, want ...impl.Frac) {
	t.Helper()
	for age := 1; age <= impl.MaxValues; age++ {
		rate := want[min(age, len(want))-1]
		if got, ok := impl.AgeRate(w, age, plan, fail); !ok || got != rate {
			t.Errorf("AgeRate(%v, %d, %d, %d) = %v, %t, want %v", w, age, plan, fail, got, ok, rate)
		}
	}
}

// expectAge fails the test if BestAge is not what is wanted.
func expectAge(t *testing.T, w []int, plan, fail, want int) {
	t.Helper()
	if got := impl.BestAge(w, plan, fail); got != want {
		t.Errorf("BestAge(%v, %d, %d) = %d, want %d", w, plan, fail, got, want)
	}
}

// expectNoStock fails the test if a cost of the stock is found.
func expectNoStock(t *testing.T, what string, w []int, stock, over, under int) {
	t.Helper()
	if got := impl.StockCost(w, stock, over, under); got != -1 {
		t.Errorf("%s: StockCost(%v, %d, %d, %d) = %d", what, w, stock, over, under, got)
	}
}

// expectNoBest fails the test if a stock is found that costs least, or that of
// the share, or a best age.
func expectNoBest(t *testing.T, what string, w []int, one, other int) {
	t.Helper()
	for name, call := range map[string]func(w []int, one, other int) int{
		"BestStock": impl.BestStock, "StockByShare": impl.StockByShare, "BestAge": impl.BestAge,
	} {
		if got := call(w, one, other); got != -1 {
			t.Errorf("%s: %s(%v, %d, %d) = %d", what, name, w, one, other, got)
		}
	}
}

// expectNoRate fails the test if a rate is found.
func expectNoRate(t *testing.T, what string, w []int, age, plan, fail int) {
	t.Helper()
	if got, ok := impl.AgeRate(w, age, plan, fail); ok || got != (impl.Frac{}) {
		t.Errorf("%s: AgeRate(%v, %d, %d, %d) = %v, %t", what, w, age, plan, fail, got, ok)
	}
}

func TestValidChances(t *testing.T) {
	for _, w := range append(someChances(), fewChances()...) {
		if !impl.ValidChances(w) {
			t.Errorf("ValidChances(%v) is false", w)
		}
	}
	for n := 1; n <= impl.MaxValues; n++ {
		for value := range n {
			for weight := 1; weight <= impl.MaxTime; weight++ {
				w := repeated(n, 0)
				w[value] = weight
				if !impl.ValidChances(w) {
					t.Errorf("ValidChances(%v) is false", w)
				}
			}
		}
	}
}

func TestBadChances(t *testing.T) {
	for what, w := range badChances() {
		if impl.ValidChances(w) {
			t.Errorf("%s: ValidChances(%v) is true", what, w)
		}
	}
	for _, w := range fewChances() {
		for place := range w {
			for _, bad := range changedAt(w, place, farFrom(0, impl.MaxTime)) {
				if impl.ValidChances(bad) {
					t.Errorf("ValidChances(%v) is true", bad)
				}
			}
		}
	}
}

func TestOrdinaryStocks(t *testing.T) {
	expectStockCosts(t, []int{1, 2, 1}, 1, 3, 12, 4, 4, 8, 12, 16, 20, 24)
	expectStockCosts(t, []int{1, 2, 1}, 3, 1, 4, 4, 12, 24, 36, 48, 60, 72)
	expectStockCosts(t, []int{3, 5, 1, 7}, 4, 3, 84, 57, 65, 80, 144, 208, 272, 336)
	expectStock(t, []int{1, 2, 1}, 1, 3, 1)
	expectStock(t, []int{1, 2, 1}, 1, 4, 2)
	expectStock(t, []int{1, 2, 1}, 3, 1, 0)
	expectStock(t, []int{1, 2, 1}, 2, 1, 1)
	expectStock(t, []int{3, 5, 1, 7}, 4, 3, 1)
	expectStock(t, []int{3, 5, 1, 7}, 3, 4, 3)
	expectStock(t, []int{3, 5, 1, 7}, 13, 3, 0)
	expectStock(t, []int{3, 5, 1, 7}, 12, 3, 1)
}

func TestOrdinaryAges(t *testing.T) {
	expectRates(t, []int{1, 2, 1}, 2, 5, frac(11, 4), frac(17, 7), frac(5, 2))
	expectRates(t, []int{3, 5, 1, 7}, 4, 9, frac(79, 16), frac(104, 29), frac(109, 37), frac(36, 11))
	expectAge(t, []int{1, 2, 1}, 2, 5, 2)
	expectAge(t, []int{1, 2, 1}, 5, 2, 3)
	expectAge(t, []int{3, 5, 1, 7}, 4, 9, 3)
	expectAge(t, []int{3, 5, 1, 7}, 4, 7, 3)
	expectAge(t, []int{3, 5, 1, 7}, 4, 6, 4)
	// Half of them fail early: to renew the others ahead of time pays or not.
	expectRates(t, []int{1, 0, 0, 1}, 1, 3, frac(2, 1), frac(4, 3), frac(1, 1), frac(6, 5))
	expectAge(t, []int{1, 0, 0, 1}, 1, 3, 3)
	expectRates(t, []int{1, 0, 0, 1}, 2, 3, frac(5, 2), frac(5, 3), frac(5, 4), frac(6, 5))
	expectAge(t, []int{1, 0, 0, 1}, 2, 3, 4)
}

func TestCostsOf0(t *testing.T) {
	w := []int{2, 0, 3, 1, 0, 2, 0}
	// Nothing is too much, so all wants are met.
	expectStockCosts(t, w, 0, 5, 95, 65, 35, 20, 10, 0, 0, 0)
	expectStock(t, w, 0, 5, 5)
	// Nothing is too few.
	expectStockCosts(t, w, 2, 0, 0, 4, 8, 18, 30, 42, 58, 74)
	expectStock(t, w, 2, 0, 0)
	expectStockCosts(t, w, 0, 0, repeated(impl.MaxValues+1, 0)...)
	expectStock(t, w, 0, 0, 0)
	// The first wants cost nothing at all.
	expectStockCosts(t, []int{0, 0, 4}, 2, 0, 0, 0, 0, 8, 16, 24, 32, 40)
	expectStock(t, []int{0, 0, 4}, 2, 0, 0)
	expectStock(t, []int{0, 0, 4}, 0, 2, 2)
	expectStock(t, []int{0, 0, 4}, 0, 0, 0)
	expectStock(t, []int{9, 1, 0, 0}, 0, 1, 1)
	for _, w := range someChances() {
		last := slices.Max(valuesOf(w))
		for cost := range impl.MaxCost {
			expectStock(t, w, 0, cost+1, last)
			expectStock(t, w, cost+1, 0, 0)
		}
		expectStock(t, w, 0, 0, 0)
	}
}

func TestWantsThatNeverCome(t *testing.T) {
	// At the front.
	expectStockCosts(t, []int{0, 0, 4, 1}, 1, 2, 22, 12, 2, 4, 9, 14, 19, 24)
	expectStock(t, []int{0, 0, 4, 1}, 1, 2, 2)
	expectStock(t, []int{0, 0, 4, 1}, 1, 30, 3)
	expectStock(t, []int{0, 0, 4, 1}, 30, 1, 2)
	// Between.
	expectStockCosts(t, []int{2, 0, 3, 1, 0, 2}, 2, 5, 95, 69, 43, 38, 40, 42, 58, 74)
	expectStock(t, []int{2, 0, 3, 1, 0, 2}, 2, 5, 3)
	expectStock(t, []int{2, 0, 3, 1, 0, 2}, 1, 4, 5)
	expectStock(t, []int{2, 0, 3, 1, 0, 2}, 2, 1, 2)
	expectStock(t, []int{2, 0, 3, 1, 0, 2}, 4, 1, 0)
	// At the front and between.
	expectStockCosts(t, []int{0, 0, 4, 0, 5}, 3, 2, 56, 38, 20, 22, 24, 51, 78, 105)
	expectStock(t, []int{0, 0, 4, 0, 5}, 3, 2, 2)
	expectStock(t, []int{0, 0, 4, 0, 5}, 2, 3, 4)
	// At the end.
	expectStockCosts(t, []int{1, 2, 0, 0, 0, 0, 0}, 3, 4, 8, 3, 12, 21, 30, 39, 48, 57)
	expectStock(t, []int{1, 2, 0, 0, 0, 0, 0}, 3, 4, 1)
	expectStock(t, []int{1, 2, 0, 0, 0, 0, 0}, 0, 4, 1)
	expectStock(t, []int{1, 2, 0, 0, 0, 0, 0}, 2, 1, 0)
}

func TestAgesThatNeverCome(t *testing.T) {
	expectRates(t, []int{0, 0, 4, 0, 5}, 3, 8, frac(3, 1), frac(3, 2), frac(47, 27), frac(47, 32), frac(72, 37))
	expectAge(t, []int{0, 0, 4, 0, 5}, 3, 8, 4)
	expectRates(t, []int{2, 0, 3, 1, 0, 2}, 3, 7, frac(4, 1), frac(16, 7), frac(11, 5), frac(48, 23), frac(48, 25), frac(56, 27))
	expectAge(t, []int{2, 0, 3, 1, 0, 2}, 3, 7, 5)
	expectRates(t, []int{0, 3, 0, 1, 0, 0}, 2, 6, frac(2, 1), frac(5, 2), frac(20, 9), frac(12, 5))
	expectAge(t, []int{0, 3, 0, 1, 0, 0}, 2, 6, 1)
	// All of them fail at once, or live as long as may be.
	expectRates(t, []int{5, 0, 0, 0, 0, 0, 0}, 2, 6, frac(6, 1))
	expectAge(t, []int{5, 0, 0, 0, 0, 0, 0}, 2, 6, 1)
	expectRates(t, []int{0, 0, 0, 0, 0, 0, 5}, 2, 6, frac(2, 1), frac(1, 1), frac(2, 3), frac(1, 2), frac(2, 5), frac(1, 3), frac(6, 7))
	expectAge(t, []int{0, 0, 0, 0, 0, 0, 5}, 2, 6, 6)
}

// Wants at the end that never come change nothing, and ahead of all others each
// of them makes the best stock one more.
func TestMoreWantsThatNeverCome(t *testing.T) {
	for _, w := range someChances() {
		if len(w) == impl.MaxValues {
			continue
		}
		behind, ahead := append(slices.Clone(w), 0), append([]int{0}, w...)
		for _, pair := range allLists(2, stockCosts...) {
			over, under := pair[0], pair[1]
			best, costs := impl.BestStock(w, over, under), costsByThings(w, over, under)
			expectStock(t, behind, over, under, best)
			expectStockCosts(t, behind, over, under, costs...)
			none := costs[0] + under*sum(w)
			expectStockCosts(t, ahead, over, under, append([]int{none}, costs[:impl.MaxValues]...)...)
			if under > 0 {
				expectStock(t, ahead, over, under, best+1)
			}
			expectAge(t, behind, over, under, impl.BestAge(w, over, under))
		}
	}
}

func TestOneWeightAlone(t *testing.T) {
	for n := 1; n <= impl.MaxValues; n++ {
		for value := range n {
			for _, weight := range []int{1, 2, 7, impl.MaxTime} {
				w := repeated(n, 0)
				w[value] = weight
				checkOneWeight(t, w, value, weight)
			}
		}
	}
}

// checkOneWeight fails the test if the costs or the rates of the chances, of
// which only this value has a weight, are others.
func checkOneWeight(t *testing.T, w []int, value, weight int) {
	t.Helper()
	for _, pair := range allLists(2, stockCosts...) {
		one, other := pair[0], pair[1]
		var costs []int
		var rates []impl.Frac
		for stock := range impl.MaxValues + 1 {
			if stock > value {
				costs = append(costs, weight*one*(stock-value))
			} else {
				costs = append(costs, weight*other*(value-stock))
			}
		}
		for age := 1; age <= value; age++ {
			rates = append(rates, fracOfRat(big.NewRat(int64(one), int64(age))))
		}
		expectStockCosts(t, w, one, other, costs...)
		expectRates(t, w, one, other, append(rates, fracOfRat(big.NewRat(int64(other), int64(value+1))))...)
	}
}

func TestMaxValuesOfMaxTime(t *testing.T) {
	w := repeated(impl.MaxValues, impl.MaxTime)
	expectStockCosts(t, w, impl.MaxCost, impl.MaxCost, 5670, 4320, 3510, 3240, 3510, 4320, 5670, 7560)
	expectStock(t, w, impl.MaxCost, impl.MaxCost, 3)
	expectStock(t, w, 0, impl.MaxCost, 6)
	expectStock(t, w, 1, impl.MaxCost, 6)
	expectStock(t, w, impl.MaxCost, 0, 0)
	expectStock(t, w, impl.MaxCost, 1, 0)
	expectRates(t, w, impl.MaxCost, impl.MaxCost, frac(30, 1), frac(210, 13), frac(35, 3), frac(105, 11), frac(42, 5), frac(70, 9), frac(15, 2))
	expectAge(t, w, impl.MaxCost, impl.MaxCost, 7)
	expectRates(t, w, 1, impl.MaxCost, frac(36, 7), frac(5, 1), frac(47, 9), frac(123, 22), frac(152, 25), frac(181, 27), frac(15, 2))
	expectAge(t, w, 1, impl.MaxCost, 2)
	expectRates(t, w, impl.MaxCost, 0, frac(180, 7), frac(150, 13), frac(20, 3), frac(45, 11), frac(12, 5), frac(10, 9), frac(0, 1))
	expectAge(t, w, impl.MaxCost, 0, 7)
}

func TestStocksOf0AndOfMaxValues(t *testing.T) {
	for _, w := range someChances() {
		values := valuesOf(w)
		for _, cost := range stockCosts {
			if got := impl.StockCost(w, 0, cost, 3); got != 3*sum(values) {
				t.Errorf("StockCost(%v, 0, %d, 3) = %d, want %d", w, cost, got, 3*sum(values))
			}
			most := 3 * (impl.MaxValues*len(values) - sum(values))
			if got := impl.StockCost(w, impl.MaxValues, 3, cost); got != most {
				t.Errorf("StockCost(%v, %d, 3, %d) = %d, want %d", w, impl.MaxValues, cost, got, most)
			}
		}
	}
}

// Beyond all wants each thing more costs over for all weights together, and is
// never the best.
func TestStocksBeyondAllWants(t *testing.T) {
	expectStockCosts(t, []int{5}, impl.MaxCost, impl.MaxCost, 0, 150, 300, 450, 600, 750, 900, 1050)
	expectStockCosts(t, []int{0, 9}, impl.MaxCost, impl.MaxCost, 270, 0, 270, 540, 810, 1080, 1350, 1620)
	forChances(func(w []int, over, under int) {
		last := slices.Max(valuesOf(w))
		for stock := last; stock < impl.MaxValues; stock++ {
			if less, more := impl.StockCost(w, stock, over, under), impl.StockCost(w, stock+1, over, under); more-less != over*sum(w) {
				t.Fatalf("StockCost(%v, %d, %d, %d) = %d, and of one more %d", w, stock, over, under, less, more)
			}
		}
		if best := impl.BestStock(w, over, under); best > last {
			t.Fatalf("BestStock(%v, %d, %d) = %d", w, over, under, best)
		}
	})
}

func TestStocksThatCostTheSame(t *testing.T) {
	// Two stocks.
	expectStockCosts(t, []int{1, 1}, 1, 1, 1, 1, 3)
	expectStock(t, []int{1, 1}, 1, 1, 0)
	expectStockCosts(t, []int{0, 1, 1}, 1, 1, 3, 1, 1, 3)
	expectStock(t, []int{0, 1, 1}, 1, 1, 1)
	// Several, wants between which never come.
	expectStockCosts(t, []int{1, 0, 0, 1}, 1, 1, 3, 3, 3, 3, 5)
	expectStock(t, []int{1, 0, 0, 1}, 1, 1, 0)
	expectStockCosts(t, []int{0, 1, 0, 0, 2}, 6, 3, 27, 18, 18, 18, 18, 36)
	expectStock(t, []int{0, 1, 0, 0, 2}, 6, 3, 1)
	expectStockCosts(t, []int{2, 0, 0, 0, 0, 0, 2}, 30, 30, 360, 360, 360, 360, 360, 360, 360, 480)
	expectStock(t, []int{2, 0, 0, 0, 0, 0, 2}, 30, 30, 0)
	// All of them, or all from one on.
	expectStockCosts(t, []int{1, 1, 1}, 0, 4, 12, 4, 0, 0, 0, 0, 0, 0)
	expectStock(t, []int{1, 1, 1}, 0, 4, 2)
}

// At the share of so many of all values just these are met, with a little more
// one value more, and with a little less no fewer.
func TestSharesThatAreMetExactly(t *testing.T) {
	expectStock(t, []int{1, 1, 1}, 2, 1, 0)
	expectStock(t, []int{1, 1, 1}, 1, 2, 1)
	expectStock(t, []int{1, 2, 3, 4}, 7, 3, 1)
	expectStock(t, []int{1, 2, 3, 4}, 21, 9, 1)
	expectStock(t, []int{1, 2, 3, 4}, 20, 9, 2)
	expectStock(t, []int{1, 2, 3, 4}, 21, 10, 2)
	expectStock(t, []int{1, 2, 3, 4}, 22, 9, 1)
	expectStock(t, []int{1, 2, 3, 4}, 9, 1, 0)
	expectStock(t, []int{1, 2, 3, 4}, 8, 1, 1)
	for n := 2; n <= impl.MaxValues; n++ {
		w := repeated(n, impl.MaxTime)
		for met := 1; met < n; met++ {
			for factor := 1; factor*n <= impl.MaxCost; factor++ {
				expectStock(t, w, factor*(n-met), factor*met, met-1)
			}
			expectStock(t, w, 4*(n-met), 4*met+1, met)
			expectStock(t, w, 4*(n-met), 4*met-1, met-1)
			expectStock(t, w, 4*(n-met)-1, 4*met, met)
			expectStock(t, w, 4*(n-met)+1, 4*met, met-1)
		}
	}
}

func TestAgesOf1AndOfMaxValues(t *testing.T) {
	for _, w := range someChances() {
		all := sum(w)
		for _, pair := range allLists(2, stockCosts...) {
			plan, fail := pair[0], pair[1]
			first := big.NewRat(int64(fail*w[0]+plan*(all-w[0])), int64(all))
			if got := rateOf(t, w, 1, plan, fail); got.Cmp(first) != 0 {
				t.Errorf("AgeRate(%v, 1, %d, %d) = %v, want %v", w, plan, fail, got, first)
			}
			never := big.NewRat(int64(fail*all), int64(sum(valuesOf(w))+all))
			if got := rateOf(t, w, impl.MaxValues, plan, fail); got.Cmp(never) != 0 {
				t.Errorf("AgeRate(%v, %d, %d, %d) = %v, want %v", w, impl.MaxValues, plan, fail, got, never)
			}
		}
	}
}

func TestAgesWithTheSameRate(t *testing.T) {
	expectRates(t, []int{0, 0, 4}, 2, 3, frac(2, 1), frac(1, 1))
	expectAge(t, []int{0, 0, 4}, 2, 3, 2)
	expectRates(t, []int{0, 0, 2, 1, 1}, 1, 2, frac(1, 1), frac(1, 2), frac(1, 2), frac(1, 2), frac(8, 15))
	expectAge(t, []int{0, 0, 2, 1, 1}, 1, 2, 2)
	// Between them others are worse.
	expectRates(t, []int{0, 2, 0, 1}, 2, 6, frac(2, 1), frac(7, 3), frac(2, 1), frac(9, 4))
	expectAge(t, []int{0, 2, 0, 1}, 2, 6, 1)
	expectRates(t, []int{0, 1, 1, 0, 1}, 1, 4, frac(1, 1), frac(1, 1), frac(9, 8), frac(1, 1), frac(6, 5))
	expectAge(t, []int{0, 1, 1, 0, 1}, 1, 4, 1)
	// Of all ages beyond all the first one is asked.
	expectAge(t, []int{3}, 5, 4, 1)
	expectAge(t, []int{0, 3}, 5, 4, 2)
	expectAge(t, []int{1, 1, 1, 0, 0}, 4, 4, 3)
}

func TestRatesWithACommonFactor(t *testing.T) {
	// 22 divided by 8, 34 by 14, and so on: twice the weights.
	expectRates(t, []int{2, 4, 2}, 2, 5, frac(11, 4), frac(17, 7), frac(5, 2))
	expectRates(t, []int{9, 9}, 4, 8, frac(6, 1), frac(16, 3))
	expectRates(t, []int{4, 4}, 3, 5, frac(4, 1), frac(10, 3))
	for _, w := range someChances() {
		for factor := 2; factor*slices.Max(w) <= impl.MaxTime; factor++ {
			more := scaled(w, factor)
			for _, pair := range allLists(2, stockCosts...) {
				for age := 1; age <= impl.MaxValues; age++ {
					if got, want := rateOf(t, more, age, pair[0], pair[1]), rateOf(t, w, age, pair[0], pair[1]); got.Cmp(want) != 0 {
						t.Errorf("AgeRate(%v, %d, %d, %d) = %v, want %v", more, age, pair[0], pair[1], got, want)
					}
				}
				expectAge(t, more, pair[0], pair[1], impl.BestAge(w, pair[0], pair[1]))
				expectStock(t, more, pair[0], pair[1], impl.BestStock(w, pair[0], pair[1]))
			}
		}
	}
}

func TestRatesOf0(t *testing.T) {
	w := []int{0, 0, 3, 0, 1, 0}
	// To renew costs nothing up to the first age at which one fails.
	expectRates(t, w, 0, 6, frac(0, 1), frac(0, 1), frac(3, 2), frac(18, 13), frac(12, 7))
	expectAge(t, w, 0, 6, 1)
	// A failure costs nothing: none is renewed ahead of it.
	expectRates(t, w, 6, 0, frac(6, 1), frac(3, 1), frac(1, 2), frac(6, 13), frac(0, 1))
	expectAge(t, w, 6, 0, 5)
	expectRates(t, w, 0, 0, frac(0, 1))
	expectAge(t, w, 0, 0, 1)
	// One fails at each age, but the first one costs least.
	expectRates(t, []int{1, 9, 9}, 0, 8, frac(8, 19), frac(80, 37), frac(76, 23))
	expectAge(t, []int{1, 9, 9}, 0, 8, 1)
	expectAge(t, []int{7, 1, 0}, 9, 0, 2)
	expectAge(t, []int{7, 0, 0}, 9, 0, 1)
}

func TestStocksOfBadChances(t *testing.T) {
	for what, w := range badChances() {
		for _, pair := range allLists(2, 0, 1, impl.MaxCost) {
			for _, stock := range append(inOrder(impl.MaxValues+1), farFrom(0, impl.MaxValues)...) {
				expectNoStock(t, what, w, stock, pair[0], pair[1])
				expectNoRate(t, what, w, stock, pair[0], pair[1])
			}
			expectNoBest(t, what, w, pair[0], pair[1])
		}
	}
}

func TestBadStocksAndAges(t *testing.T) {
	for _, w := range append(fewChances(), repeated(impl.MaxValues, 1)) {
		for _, pair := range allLists(2, 0, 1, impl.MaxCost) {
			for _, stock := range farFrom(0, impl.MaxValues) {
				expectNoStock(t, "a bad stock", w, stock, pair[0], pair[1])
			}
			for _, age := range farFrom(1, impl.MaxValues) {
				expectNoRate(t, "a bad age", w, age, pair[0], pair[1])
			}
		}
	}
}

func TestBadStockCosts(t *testing.T) {
	var pairs [][]int
	for _, bad := range farFrom(0, impl.MaxCost) {
		for _, other := range []int{0, 1, 7, impl.MaxCost, -bad, bad} {
			pairs = append(pairs, []int{bad, other}, []int{other, bad})
		}
	}
	for _, w := range fewChances() {
		for _, pair := range pairs {
			expectNoBest(t, "bad costs", w, pair[0], pair[1])
			for stock := -1; stock <= impl.MaxValues+1; stock++ {
				expectNoStock(t, "bad costs", w, stock, pair[0], pair[1])
				expectNoRate(t, "bad costs", w, stock, pair[0], pair[1])
			}
		}
	}
}

func TestStocksThingByThing(t *testing.T) {
	forChances(func(w []int, over, under int) {
		costs := costsByThings(w, over, under)
		expectStockCosts(t, w, over, under, costs...)
		expectStock(t, w, over, under, slices.Index(costs, slices.Min(costs)))
		if share := shareByThings(w, over, under); impl.StockByShare(w, over, under) != share {
			t.Fatalf("StockByShare(%v, %d, %d) = %d, want %d", w, over, under, impl.StockByShare(w, over, under), share)
		}
	})
}

func TestAgesPartByPart(t *testing.T) {
	several := 0
	forChances(func(w []int, plan, fail int) {
		rates := ratesByParts(w, plan, fail)
		for i, want := range rates {
			if got := rateOf(t, w, i+1, plan, fail); got.Cmp(want) != 0 {
				t.Fatalf("AgeRate(%v, %d, %d, %d) = %v, want %v", w, i+1, plan, fail, got, want)
			}
		}
		age, others := leastAge(rates)
		expectAge(t, w, plan, fail, age)
		if others > 0 && rates[impl.MaxValues-1].Cmp(rates[age-1]) > 0 {
			several++
		}
	})
	if several < 50 {
		t.Errorf("only %d times several ages below all have the same rate", several)
	}
}

func TestP50ChancesMayHaveOneMore(t *testing.T) {
	for _, w := range someChances() {
		for weight := range impl.MaxTime + 1 {
			more := append(slices.Clone(w), weight)
			if got, want := impl.ValidChances(more), len(w) < impl.MaxValues; got != want {
				t.Errorf("ValidChances(%v) = %t", more, got)
			}
		}
		for value, weight := range w {
			more := slices.Clone(w)
			more[value]++
			if got, want := impl.ValidChances(more), weight < impl.MaxTime; got != want {
				t.Errorf("ValidChances(%v) = %t", more, got)
			}
		}
	}
}

func TestP51CostsOfStocksHaveNoHumps(t *testing.T) {
	forChances(func(w []int, over, under int) {
		for stock := 1; stock < impl.MaxValues; stock++ {
			less, more := impl.StockCost(w, stock-1, over, under), impl.StockCost(w, stock+1, over, under)
			cost := impl.StockCost(w, stock, over, under)
			if less < 0 || cost < 0 || more < 0 || less+more < 2*cost {
				t.Fatalf("StockCost(%v, %d, %d, %d) = %d, of one less %d, and of one more %d", w, stock, over, under, cost, less, more)
			}
		}
	})
}

func TestP52TheBestStockIsThatOfAShare(t *testing.T) {
	forChances(func(w []int, over, under int) {
		best := impl.BestStock(w, over, under)
		if share := impl.StockByShare(w, over, under); best != share || best < 0 {
			t.Fatalf("BestStock(%v, %d, %d) = %d, and StockByShare %d", w, over, under, best, share)
		}
		least := impl.StockCost(w, best, over, under)
		for stock := range impl.MaxValues + 1 {
			cost := impl.StockCost(w, stock, over, under)
			if cost < least || cost == least && stock < best {
				t.Fatalf("StockCost(%v, %d, %d, %d) = %d, and of the best one, %d, %d", w, stock, over, under, cost, best, least)
			}
		}
	})
}

func TestP53DearerWantsNeedMoreStock(t *testing.T) {
	raised := 0
	forChances(func(w []int, over, under int) {
		share := impl.StockByShare(w, over, under)
		if under < impl.MaxCost {
			more := impl.StockByShare(w, over, under+1)
			if more < share {
				t.Fatalf("StockByShare(%v, %d, %d) = %d, and with one more under %d", w, over, under, share, more)
			}
			raised += more - share
		}
		if over < impl.MaxCost {
			if more := impl.StockByShare(w, over+1, under); more > share {
				t.Fatalf("StockByShare(%v, %d, %d) = %d, and with one more over %d", w, over, under, share, more)
			}
		}
	})
	if raised == 0 {
		t.Error("no stock is more with more under")
	}
}

func TestP54NeverRenewedItCostsWhatItLives(t *testing.T) {
	forChances(func(w []int, plan, fail int) {
		lives := valuesOf(w)
		for i := range lives {
			lives[i]++
		}
		want := big.NewRat(int64(fail*len(lives)), int64(sum(lives)))
		for age := slices.Max(lives); age <= impl.MaxValues; age++ {
			if got := rateOf(t, w, age, plan, fail); got.Cmp(want) != 0 {
				t.Fatalf("AgeRate(%v, %d, %d, %d) = %v, want %v", w, age, plan, fail, got, want)
			}
		}
	})
}

func TestP55TheBestAgeIsBest(t *testing.T) {
	forChances(func(w []int, plan, fail int) {
		best := impl.BestAge(w, plan, fail)
		if best < 1 || best > impl.MaxValues {
			t.Fatalf("BestAge(%v, %d, %d) = %d", w, plan, fail, best)
		}
		least := rateOf(t, w, best, plan, fail)
		for age := 1; age <= impl.MaxValues; age++ {
			order := rateOf(t, w, age, plan, fail).Cmp(least)
			if order < 0 || order == 0 && age < best {
				t.Fatalf("BestAge(%v, %d, %d) = %d, but the rate of %d is no more", w, plan, fail, best, age)
			}
		}
		if never := rateOf(t, w, impl.MaxValues, plan, fail); plan >= fail && least.Cmp(never) != 0 {
			t.Fatalf("the rate of BestAge(%v, %d, %d) = %d is %v, and never renewed %v", w, plan, fail, best, least, never)
		}
	})
}

func TestP79SureWantsNeedJustWhatIsWanted(t *testing.T) {
	for n := 1; n <= impl.MaxValues; n++ {
		for value := range n {
			for weight := 1; weight <= impl.MaxTime; weight++ {
				w := repeated(n, 0)
				w[value] = weight
				for _, pair := range allLists(2, 1, 2, 5, 17, impl.MaxCost) {
					expectStock(t, w, pair[0], pair[1], value)
					if cost := impl.StockCost(w, impl.BestStock(w, pair[0], pair[1]), pair[0], pair[1]); cost != 0 {
						t.Errorf("the best stock of %v, %v costs %d", w, pair, cost)
					}
				}
			}
		}
	}
}

// stockCalls returns calls of all functions of stocks, with the weights.
func stockCalls() map[string]func(lists [][]int) []int {
	return map[string]func(lists [][]int) []int{
		"ValidChances": func(lists [][]int) []int {
			if impl.ValidChances(lists[0]) {
				return []int{1}
			}
			return nil
		},
		"StockCost":            func(lists [][]int) []int { return []int{impl.StockCost(lists[0], 2, 3, 5)} },
		"BestStock":            func(lists [][]int) []int { return []int{impl.BestStock(lists[0], 3, 5)} },
		"BestStock over":       func(lists [][]int) []int { return []int{impl.BestStock(lists[0], 0, 5)} },
		"BestStock at 0":       func(lists [][]int) []int { return []int{impl.BestStock(lists[0], 0, 0)} },
		"StockByShare":         func(lists [][]int) []int { return []int{impl.StockByShare(lists[0], 3, 5)} },
		"StockByShare over":    func(lists [][]int) []int { return []int{impl.StockByShare(lists[0], 0, 5)} },
		"StockByShare at 0":    func(lists [][]int) []int { return []int{impl.StockByShare(lists[0], 0, 0)} },
		"AgeRate of 1":         func(lists [][]int) []int { return rateNumbers(lists[0], 1) },
		"AgeRate":              func(lists [][]int) []int { return rateNumbers(lists[0], 3) },
		"AgeRate beyond all":   func(lists [][]int) []int { return rateNumbers(lists[0], impl.MaxValues) },
		"AgeRate of a bad age": func(lists [][]int) []int { return rateNumbers(lists[0], 0) },
		"BestAge":              func(lists [][]int) []int { return []int{impl.BestAge(lists[0], 3, 7)} },
		"BestAge at 0":         func(lists [][]int) []int { return []int{impl.BestAge(lists[0], 0, 0)} },
		"BestAge of bad costs": func(lists [][]int) []int { return []int{impl.BestAge(lists[0], -1, 0)} },
	}
}

// rateNumbers returns the two numbers of AgeRate.
func rateNumbers(w []int, age int) []int {
	rate, _ := impl.AgeRate(w, age, 3, 7)
	return []int{rate.Up, rate.Down}
}

func TestStocksShareNoMemory(t *testing.T) {
	lists := slices.Concat(someChances(), fewChances())
	for _, bad := range badChances() {
		lists = append(lists, bad)
	}
	for name, call := range stockCalls() {
		for _, w := range lists {
			checkMemory(t, name, [][]int{w}, call)
		}
	}
}
