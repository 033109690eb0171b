package tests

import (
	"math"
	"testing"

	"loop.example/shopsthatmake/impl"
)

// mostMade is the greatest number of what may be made on one day.
const mostMade = impl.MaxWant * impl.MaxDays

// badDays returns lists that are not numbers of days, in 0..limit.
func badDays(limit int) map[string][]int {
	return map[string][]int{
		"one day too many":       repeated(impl.MaxDays+1, 1),
		"many days too many":     repeated(3*impl.MaxDays, 0),
		"one day below 0":        {-1},
		"first day below 0":      {-1, 1, 1},
		"last day below 0":       {1, 1, -1},
		"one day too great":      {limit + 1},
		"first day too great":    {limit + 1, 1, 1},
		"last day too great":     {1, 1, limit + 1},
		"last of all too great":  append(repeated(impl.MaxDays-1, limit), limit+1),
		"last of all below 0":    append(repeated(impl.MaxDays-1, 0), -1),
		"the least number":       {1, math.MinInt, 1},
		"the greatest number":    {1, math.MaxInt, 1},
		"less that makes it up":  {limit, -limit},
		"more than there may be": {math.MaxInt, math.MaxInt},
	}
}

// outOf returns numbers that are not in least..most.
func outOf(least, most int) []int {
	return []int{least - 1, least - 2, -most - 1, most + 1, most + 2, math.MinInt, math.MaxInt}
}

// upTo returns the sums of the numbers up to each one.
func upTo(list []int) []int {
	var sums []int
	for i := range list {
		sums = append(sums, sum(list[:i+1]))
	}
	return sums
}

// expectStocks fails the test if StocksOf is not what is wanted, and true.
func expectStocks(t *testing.T, stock int, made, wants, want []int) {
	t.Helper()
	if got, ok := impl.StocksOf(stock, made, wants); !ok || !same(got, want) {
		t.Errorf("StocksOf(%d, %v, %v) = %v, %t, want %v", stock, made, wants, got, ok, want)
	}
}

// expectNoStocks fails the test if StocksOf is not nil and false.
func expectNoStocks(t *testing.T, what string, stock int, made, wants []int) {
	t.Helper()
	if got, ok := impl.StocksOf(stock, made, wants); ok || got != nil {
		t.Errorf("%s: StocksOf(%d, %v, %v) = %v, %t", what, stock, made, wants, got, ok)
	}
}

func TestLimitOfDays(t *testing.T) {
	if impl.MaxDays != 8 {
		t.Errorf("MaxDays = %d", impl.MaxDays)
	}
}

func TestNetOfDays(t *testing.T) {
	wants := []int{3, 0, 4, 2}
	expect(t, "NetOf without a stock", impl.NetOf(wants, 0), wants)
	expect(t, "NetOf 1", impl.NetOf(wants, 1), []int{2, 0, 4, 2})
	expect(t, "NetOf 3", impl.NetOf(wants, 3), []int{0, 0, 4, 2})
	expect(t, "NetOf 4", impl.NetOf(wants, 4), []int{0, 0, 3, 2})
	expect(t, "NetOf 8", impl.NetOf(wants, 8), []int{0, 0, 0, 1})
	expect(t, "NetOf all", impl.NetOf(wants, 9), repeated(4, 0))
	expect(t, "NetOf more than all", impl.NetOf(wants, impl.MaxWant), repeated(4, 0))
	most := repeated(impl.MaxDays, impl.MaxWant)
	expect(t, "NetOf the most", impl.NetOf(most, impl.MaxWant), append([]int{0}, most[1:]...))
	expect(t, "NetOf the most but 1", impl.NetOf(most, impl.MaxWant-1), append([]int{1}, most[1:]...))
}

func TestLotsForDays(t *testing.T) {
	list := []int{0, 3, 0, 0, 4, 2, 0, 1}
	lots := [][]int{
		1: list,
		2: {0, 3, 0, 0, 6, 0, 0, 1},
		3: {0, 3, 0, 0, 6, 0, 0, 1},
		4: {0, 7, 0, 0, 0, 3, 0, 0},
		5: {0, 9, 0, 0, 0, 0, 0, 1},
		6: {0, 9, 0, 0, 0, 0, 0, 1},
		7: {0, 10, 0, 0, 0, 0, 0, 0},
		8: {0, 10, 0, 0, 0, 0, 0, 0},
	}
	for days := 1; days <= impl.MaxDays; days++ {
		expect(t, "LotsFor", impl.LotsFor(list, days), lots[days])
	}
	most := repeated(impl.MaxDays, impl.MaxWant)
	expect(t, "LotsFor the most, 1", impl.LotsFor(most, 1), most)
	expect(t, "LotsFor the most, 3", impl.LotsFor(most, 3), []int{60, 0, 0, 60, 0, 0, 40, 0})
	expect(t, "LotsFor the most, 8", impl.LotsFor(most, 8), []int{mostMade, 0, 0, 0, 0, 0, 0, 0})
	expect(t, "LotsFor nothing", impl.LotsFor(repeated(5, 0), 3), repeated(5, 0))
}

func TestStocksOfDays(t *testing.T) {
	expectStocks(t, 2, []int{3, 0, 0}, []int{1, 2, 2}, []int{4, 2, 0})
	expectStocks(t, 0, []int{1, 2, 2}, []int{1, 2, 2}, repeated(3, 0))
	expectStocks(t, 5, repeated(3, 0), []int{1, 2, 2}, []int{4, 2, 0})
	expectStocks(t, 5, repeated(3, 0), repeated(3, 0), repeated(3, 5))
	expectStocks(t, 0, []int{0, 4}, []int{0, 1}, []int{0, 3})
	expectStocks(t, impl.MaxWant, []int{mostMade}, []int{0}, []int{impl.MaxWant + mostMade})
	expectStocks(t, impl.MaxWant, []int{0}, []int{impl.MaxWant}, []int{0})
	most := repeated(impl.MaxDays, mostMade)
	none := repeated(impl.MaxDays, 0)
	expectStocks(t, impl.MaxWant, most, none, []int{180, 340, 500, 660, 820, 980, 1140, 1300})
	expectStocks(t, 0, append([]int{mostMade}, none[1:]...), repeated(impl.MaxDays, impl.MaxWant),
		[]int{140, 120, 100, 80, 60, 40, 20, 0})
}

func TestStocksBelow0(t *testing.T) {
	expectNoStocks(t, "the only day", 0, []int{0}, []int{1})
	expectNoStocks(t, "the first day", 2, []int{0, 9, 9}, []int{3, 0, 0})
	expectNoStocks(t, "a day between", 0, []int{1, 1, 9}, []int{1, 2, 0})
	expectNoStocks(t, "the last day", 1, []int{1, 1, 0}, []int{1, 1, 2})
	expectNoStocks(t, "made a day too late", 0, []int{0, 3}, []int{3, 0})
	most := repeated(impl.MaxDays, impl.MaxWant)
	expectNoStocks(t, "the last of all days", impl.MaxWant-1, append([]int{0}, most[1:]...), most)
	expectStocks(t, impl.MaxWant, append([]int{0}, most[1:]...), most, repeated(impl.MaxDays, 0))
}

func TestBeginsOfDays(t *testing.T) {
	made := []int{3, 0, 6, 0, 1}
	begun := [][]int{
		0: made,
		1: {3, 6, 0, 1, 0},
		2: {9, 0, 1, 0, 0},
		3: {9, 1, 0, 0, 0},
		4: {10, 0, 0, 0, 0},
		5: {10, 0, 0, 0, 0},
		6: {10, 0, 0, 0, 0},
		7: {10, 0, 0, 0, 0},
		8: {10, 0, 0, 0, 0},
	}
	for wait := range impl.MaxDays + 1 {
		expect(t, "BeginsOf", impl.BeginsOf(made, wait), begun[wait])
	}
	most := repeated(impl.MaxDays, mostMade)
	expect(t, "BeginsOf the most, 0", impl.BeginsOf(most, 0), most)
	expect(t, "BeginsOf the most, 1", impl.BeginsOf(most, 1), []int{320, 160, 160, 160, 160, 160, 160, 0})
	expect(t, "BeginsOf the most, 7", impl.BeginsOf(most, 7), []int{1280, 0, 0, 0, 0, 0, 0, 0})
	expect(t, "BeginsOf the most, 8", impl.BeginsOf(most, 8), []int{1280, 0, 0, 0, 0, 0, 0, 0})
	expect(t, "BeginsOf nothing", impl.BeginsOf(repeated(4, 0), 2), repeated(4, 0))
}

func TestNoDays(t *testing.T) {
	for _, none := range [][]int{nil, {}} {
		if !impl.ValidDays(none) {
			t.Error("no days are not days")
		}
		for stock := range impl.MaxWant + 1 {
			expect(t, "NetOf", impl.NetOf(none, stock), nil)
			expectStocks(t, stock, none, none, nil)
			expectStocks(t, stock, nil, none, nil)
			expectStocks(t, stock, none, nil, nil)
		}
		for days := range impl.MaxDays + 1 {
			expect(t, "LotsFor", impl.LotsFor(none, days), nil)
			expect(t, "BeginsOf", impl.BeginsOf(none, days), nil)
		}
		for _, bad := range outOf(0, impl.MaxWant) {
			expectNoStocks(t, "no days", bad, none, none)
			expect(t, "NetOf", impl.NetOf(none, bad), nil)
		}
	}
}

func TestOneDay(t *testing.T) {
	for _, n := range []int{0, 1, impl.MaxWant} {
		one := []int{n}
		expect(t, "NetOf 0", impl.NetOf(one, 0), one)
		expect(t, "NetOf 1", impl.NetOf(one, 1), []int{max(n-1, 0)})
		expect(t, "NetOf all", impl.NetOf(one, impl.MaxWant), []int{0})
		for days := 1; days <= impl.MaxDays; days++ {
			expect(t, "LotsFor", impl.LotsFor(one, days), one)
		}
		for wait := range impl.MaxDays + 1 {
			expect(t, "BeginsOf", impl.BeginsOf(one, wait), one)
		}
	}
}

func TestBadDays(t *testing.T) {
	for name, list := range badDays(impl.MaxWant) {
		if impl.ValidDays(list) {
			t.Errorf("%s: days", name)
		}
		for _, n := range []int{0, 1, 5, impl.MaxDays} {
			expect(t, name+": NetOf", impl.NetOf(list, n), nil)
			expect(t, name+": LotsFor", impl.LotsFor(list, n), nil)
			expectNoStocks(t, name, n, repeated(len(list), impl.MaxWant+1), list)
		}
	}
	for name, made := range badDays(mostMade) {
		for wait := range impl.MaxDays + 1 {
			expect(t, name+": BeginsOf", impl.BeginsOf(made, wait), nil)
		}
		expectNoStocks(t, name, 2, made, repeated(len(made), 0))
		expectNoStocks(t, name, 2, made, repeated(len(made), 1))
	}
}

// Wants have a lower limit than what is made.
func TestWhatIsMadeMayBeMoreThanWants(t *testing.T) {
	for _, n := range []int{impl.MaxWant + 1, mostMade} {
		made := []int{n, 0, n}
		expect(t, "BeginsOf", impl.BeginsOf(made, 1), []int{n, n, 0})
		expectStocks(t, 0, made, []int{0, 0, 1}, []int{n, n, 2*n - 1})
		expect(t, "NetOf", impl.NetOf(made, 0), nil)
		expect(t, "LotsFor", impl.LotsFor(made, 1), nil)
		expectNoStocks(t, "wants too great", impl.MaxWant, made, made)
	}
}

func TestStocksDaysAndWaitsOutOfRange(t *testing.T) {
	list := []int{1, 0, 2}
	for _, bad := range outOf(0, impl.MaxWant) {
		expect(t, "NetOf", impl.NetOf(list, bad), nil)
		expectNoStocks(t, "a stock out of range", bad, []int{9, 9, 9}, list)
	}
	for _, bad := range outOf(1, impl.MaxDays) {
		expect(t, "LotsFor", impl.LotsFor(list, bad), nil)
	}
	for _, bad := range outOf(0, impl.MaxDays) {
		expect(t, "BeginsOf", impl.BeginsOf(list, bad), nil)
	}
}

func TestMadeOfAnotherLength(t *testing.T) {
	for n := range impl.MaxDays + 1 {
		for other := range impl.MaxDays + 1 {
			made, wants := repeated(n, 2), repeated(other, 1)
			if n != other {
				expectNoStocks(t, "another length", 5, made, wants)
				expectNoStocks(t, "another length", 0, repeated(n, 0), repeated(other, 0))
			}
		}
	}
	expectNoStocks(t, "nothing made", 5, nil, []int{1})
	expectNoStocks(t, "nothing wanted", 5, []int{1}, nil)
}

func TestP7DaysCanBeCut(t *testing.T) {
	for _, list := range someDays(impl.MaxWant) {
		for n := len(list); n >= 0; n-- {
			if !impl.ValidDays(list[:n]) {
				t.Fatalf("%v are no days", list[:n])
			}
		}
	}
}

func TestP8WhatIsNotThereIsMade(t *testing.T) {
	for _, wants := range someDays(impl.MaxWant) {
		for stock := range impl.MaxWant + 1 {
			net := impl.NetOf(wants, stock)
			if len(net) != len(wants) {
				t.Fatalf("NetOf(%v, %d) = %v", wants, stock, net)
			}
			given := upTo(wants)
			for day, left := range upTo(net) {
				// Up to each day, all that was wanted is given out, or all of the stock.
				if net[day] < 0 || net[day] > wants[day] || given[day]-left != min(given[day], stock) {
					t.Fatalf("NetOf(%v, %d) = %v: day %d", wants, stock, net, day)
				}
			}
		}
	}
}

func TestP9LotsAreAllThatIsToBeMade(t *testing.T) {
	for _, list := range someDays(impl.MaxWant) {
		for days := 1; days <= impl.MaxDays; days++ {
			made := impl.LotsFor(list, days)
			stocks, ok := impl.StocksOf(0, made, list)
			if len(made) != len(list) || sum(made) != sum(list) || !ok {
				t.Fatalf("LotsFor(%v, %d) = %v, stocks %v, %t", list, days, made, stocks, ok)
			}
			for day, lot := range made {
				ahead := day > 0 && stocks[day-1] > 0
				due := list[day] > 0 && !ahead
				if due != (lot > 0) || due && lot != sum(list[day:min(day+days, len(list))]) {
					t.Fatalf("LotsFor(%v, %d) = %v: day %d", list, days, made, day)
				}
			}
		}
		expect(t, "LotsFor one day", impl.LotsFor(list, 1), list)
	}
}

func TestP10StocksAreWhatCameLessWhatWent(t *testing.T) {
	r := fixedRandom()
	for _, made := range append(someDays(mostMade), someDays(impl.MaxWant)...) {
		wants := randomList(r, len(made), impl.MaxWant)
		for _, stock := range []int{0, 1, 10, impl.MaxWant - 1, impl.MaxWant} {
			var want []int
			below := false
			for day, came := range upTo(made) {
				want = append(want, stock+came-upTo(wants)[day])
				below = below || want[day] < 0
			}
			if below {
				expectNoStocks(t, "below 0", stock, made, wants)
				continue
			}
			expectStocks(t, stock, made, wants, want)
			if stock < impl.MaxWant {
				expectStocks(t, stock+1, made, wants, added(want, repeated(len(want), 1)))
			}
		}
	}
}

func TestP11WhatIsBegunIsMade(t *testing.T) {
	for _, made := range append(someDays(mostMade), someDays(impl.MaxWant)...) {
		for wait := range impl.MaxDays + 1 {
			begun := impl.BeginsOf(made, wait)
			if len(begun) != len(made) || sum(begun) != sum(made) {
				t.Fatalf("BeginsOf(%v, %d) = %v", made, wait, begun)
			}
			for day, all := range upTo(begun) {
				// No more than what is made so many days later has begun either.
				if later := min(day+wait+1, len(made)); all != sum(made[:later]) {
					t.Fatalf("BeginsOf(%v, %d) = %v: day %d", made, wait, begun, day)
				}
			}
		}
	}
}

func TestP64StockMayBeGivenOutInTwoParts(t *testing.T) {
	for _, wants := range someDays(impl.MaxWant) {
		for both := range impl.MaxWant + 1 {
			want := impl.NetOf(wants, both)
			for first := range both + 1 {
				if got := impl.NetOf(impl.NetOf(wants, first), both-first); !same(got, want) {
					t.Fatalf("NetOf %v with %d and %d of %d = %v, want %v", wants, first, both-first, both, got, want)
				}
			}
		}
	}
}

func TestP65WaitsAreAdded(t *testing.T) {
	for _, made := range append(someDays(mostMade/impl.MaxDays), someDays(2)...) {
		for both := range impl.MaxDays + 1 {
			want := impl.BeginsOf(made, both)
			for first := range both + 1 {
				if got := impl.BeginsOf(impl.BeginsOf(made, first), both-first); !same(got, want) {
					t.Fatalf("BeginsOf %v with %d and %d = %v, want %v", made, first, both-first, got, want)
				}
			}
		}
	}
}

// netCalls returns calls of all functions of nets, with what is made and what
// is wanted.
func netCalls() map[string]func(lists [][]int) []int {
	return map[string]func(lists [][]int) []int{
		"NetOf":    func(lists [][]int) []int { return impl.NetOf(lists[1], 3) },
		"NetOf 0":  func(lists [][]int) []int { return impl.NetOf(lists[1], 0) },
		"LotsFor":  func(lists [][]int) []int { return impl.LotsFor(lists[1], 2) },
		"LotsFor1": func(lists [][]int) []int { return impl.LotsFor(lists[1], 1) },
		"LotsFor8": func(lists [][]int) []int { return impl.LotsFor(lists[1], impl.MaxDays) },
		"BeginsOf": func(lists [][]int) []int { return impl.BeginsOf(lists[0], 2) },
		"Begins 0": func(lists [][]int) []int { return impl.BeginsOf(lists[0], 0) },
		"Begins 8": func(lists [][]int) []int { return impl.BeginsOf(lists[0], impl.MaxDays) },
		"StocksOf": func(lists [][]int) []int {
			stocks, _ := impl.StocksOf(9, lists[0], lists[1])
			return stocks
		},
		"ValidDays": func(lists [][]int) []int {
			return repeated(1, map[bool]int{true: 1}[impl.ValidDays(lists[1])])
		},
	}
}

func TestNetsShareNoMemory(t *testing.T) {
	bad := [][]int{repeated(impl.MaxDays+1, 1), {-1, 2}, {impl.MaxWant + 1, 1}, {mostMade + 1}}
	for name, call := range netCalls() {
		for _, wants := range append(someDays(impl.MaxWant), bad...) {
			checkMemory(t, name, [][]int{wants, wants}, call)
			checkMemory(t, name, [][]int{repeated(len(wants), impl.MaxWant), wants}, call)
		}
	}
}
