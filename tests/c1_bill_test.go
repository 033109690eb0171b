package tests

import (
	"math"
	"slices"
	"testing"

	"loop.example/shopsthatmake/impl"
)

// tableBill is a bill for a table: screw, board, leg, top, frame, table. Some
// of its parts are taken by others over several ways.
func tableBill() [][]int {
	return [][]int{
		{},
		{0},
		{2, 1},
		{1, 3, 0},
		{0, 0, 3, 1},
		{1, 0, 0, 2, 2},
	}
}

// badBills returns rows that are not a bill.
func badBills() map[string][][]int {
	return map[string][][]int{
		"no parts (nil)":       nil,
		"no parts (empty)":     {},
		"one part too many":    fullBill(impl.MaxParts+1, 1),
		"many parts too many":  fullBill(3*impl.MaxParts, 0),
		"a first row too long": {{0}},
		"a row too long":       {{}, {1, 0}, {1, 1}},
		"a row too short":      {{}, {1}, {1}},
		"a row that is nil":    {{}, nil},
		"last row too long":    {{}, {1}, {1, 1, 0}},
		"a number below 0":     {{}, {-1}, {0, 0}},
		"last number below 0":  {{}, {0}, {0, -1}},
		"a number too great":   {{}, {impl.MaxUse + 1}, {0, 0}},
		"the last too great":   {{}, {0}, {0, impl.MaxUse + 1}},
		"the least number":     {{}, {math.MinInt}},
		"the greatest number":  {{}, {math.MaxInt}},
	}
}

// badLists returns lists that are not one number in 0..MaxWant for each of 3
// parts.
func badLists() map[string][]int {
	return map[string][]int{
		"none (nil)":     nil,
		"none (empty)":   {},
		"too few":        {1, 1},
		"too many":       {1, 1, 1, 1},
		"first below 0":  {-1, 1, 1},
		"last below 0":   {1, 1, -1},
		"first too many": {impl.MaxWant + 1, 1, 1},
		"last too many":  {1, 1, impl.MaxWant + 1},
		"the least":      {1, math.MinInt, 1},
		"the greatest":   {1, math.MaxInt, 1},
	}
}

// badParts returns numbers that are no part of a bill of n parts.
func badParts(n int) []int {
	return []int{-1, n, n + 1, impl.MaxParts, math.MinInt, math.MaxInt}
}

// takesBySteps returns TakesOf, found by all rows of parts that take the next
// one.
func takesBySteps(bill [][]int, i, j int) int {
	found, rows := 0, [][2]int{{i, 1}}
	for len(rows) > 0 {
		part, times := rows[0][0], rows[0][1]
		rows = rows[1:]
		if part == j {
			found += times
		}
		for next, use := range bill[part] {
			if use > 0 {
				rows = append(rows, [2]int{next, times * use})
			}
		}
	}
	return found
}

func TestLimitsOfBills(t *testing.T) {
	if impl.MaxParts != 6 || impl.MaxUse != 3 || impl.MaxWant != 20 {
		t.Errorf("limits = %d, %d, %d", impl.MaxParts, impl.MaxUse, impl.MaxWant)
	}
}

func TestTableBill(t *testing.T) {
	bill := tableBill()
	if !impl.ValidBill(bill) {
		t.Fatal("the table is no bill")
	}
	expect(t, "NeedsOf one", impl.NeedsOf(bill, []int{0, 0, 0, 0, 0, 1}), []int{17, 18, 6, 4, 2, 1})
	expect(t, "NeedsOf some", impl.NeedsOf(bill, []int{5, 4, 3, 2, 1, 0}), []int{20, 19, 6, 3, 1, 0})
	expect(t, "LevelsOf", impl.LevelsOf(bill), []int{0, 0, 1, 1, 2, 3})
	expect(t, "CostsOf", impl.CostsOf(bill, []int{1, 2, 3, 4, 5, 6}), []int{1, 2, 7, 11, 37, 103})
	expect(t, "UsedIn 0", impl.UsedIn(bill, 0), []int{2, 3, 4, 5})
	expect(t, "UsedIn 1", impl.UsedIn(bill, 1), []int{2, 3, 4, 5})
	expect(t, "UsedIn 2", impl.UsedIn(bill, 2), []int{4, 5})
	expect(t, "UsedIn 3", impl.UsedIn(bill, 3), []int{4, 5})
	expect(t, "UsedIn 4", impl.UsedIn(bill, 4), []int{5})
	expect(t, "UsedIn 5", impl.UsedIn(bill, 5), nil)
	for j, want := range []int{17, 18, 6, 4, 2, 1} {
		if got := impl.TakesOf(bill, 5, j); got != want {
			t.Errorf("TakesOf(5, %d) = %d, want %d", j, got, want)
		}
	}
}

func TestBillOfOnePart(t *testing.T) {
	for _, bill := range [][][]int{{{}}, {nil}} {
		if !impl.ValidBill(bill) {
			t.Error("one part is no bill")
		}
		for _, n := range []int{0, 1, impl.MaxWant} {
			expect(t, "NeedsOf", impl.NeedsOf(bill, []int{n}), []int{n})
			expect(t, "CostsOf", impl.CostsOf(bill, []int{n}), []int{n})
		}
		if got := impl.TakesOf(bill, 0, 0); got != 1 {
			t.Errorf("TakesOf itself = %d", got)
		}
		expect(t, "LevelsOf", impl.LevelsOf(bill), []int{0})
		expect(t, "UsedIn", impl.UsedIn(bill, 0), nil)
	}
}

func TestPartsThatTakeNothing(t *testing.T) {
	for n := 1; n <= impl.MaxParts; n++ {
		bill := fullBill(n, 0)
		list := randomList(fixedRandom(), n, impl.MaxWant)
		expect(t, "NeedsOf", impl.NeedsOf(bill, list), list)
		expect(t, "CostsOf", impl.CostsOf(bill, list), list)
		expect(t, "LevelsOf", impl.LevelsOf(bill), repeated(n, 0))
		for i := range n {
			expect(t, "UsedIn", impl.UsedIn(bill, i), nil)
			for j := range n {
				if got := impl.TakesOf(bill, i, j); got != takesBySteps(bill, i, j) {
					t.Errorf("TakesOf(%d, %d) of %v = %d", i, j, bill, got)
				}
			}
		}
	}
}

// With MaxUse of each part ahead, all that takes a part is 4 times as many
// from each part to the one ahead of it.
func TestPartsThatTakeAll(t *testing.T) {
	for n := 1; n <= impl.MaxParts; n++ {
		bill := fullBill(n, impl.MaxUse)
		var needs, levels, costs []int
		for i := range n {
			needs = append(needs, impl.MaxWant<<(2*(n-1-i)))
			costs = append(costs, impl.MaxWant<<(2*i))
			levels = append(levels, i)
		}
		most := repeated(n, impl.MaxWant)
		expect(t, "NeedsOf", impl.NeedsOf(bill, most), needs)
		expect(t, "CostsOf", impl.CostsOf(bill, most), costs)
		expect(t, "NeedsOf nothing", impl.NeedsOf(bill, repeated(n, 0)), repeated(n, 0))
		expect(t, "CostsOf nothing", impl.CostsOf(bill, repeated(n, 0)), repeated(n, 0))
		expect(t, "LevelsOf", impl.LevelsOf(bill), levels)
		for j := range n {
			expect(t, "UsedIn", impl.UsedIn(bill, j), levels[j+1:])
		}
		for i := 1; i < n; i++ {
			if got, want := impl.TakesOf(bill, i, 0), impl.MaxUse<<(2*(i-1)); got != want {
				t.Errorf("TakesOf(%d, 0) = %d, want %d", i, got, want)
			}
		}
	}
}

func TestBadBills(t *testing.T) {
	for name, bill := range badBills() {
		if impl.ValidBill(bill) {
			t.Errorf("%s: a bill", name)
		}
		list := repeated(len(bill), 1)
		expect(t, name+": NeedsOf", impl.NeedsOf(bill, list), nil)
		expect(t, name+": CostsOf", impl.CostsOf(bill, list), nil)
		expect(t, name+": LevelsOf", impl.LevelsOf(bill), nil)
		expect(t, name+": UsedIn", impl.UsedIn(bill, 0), nil)
		for i := range len(bill) + 1 {
			if got := impl.TakesOf(bill, i, 0); got != -1 {
				t.Errorf("%s: TakesOf(%d, 0) = %d", name, i, got)
			}
		}
	}
}

func TestBadWantsAndCosts(t *testing.T) {
	bill := [][]int{{}, {2}, {1, 3}}
	for name, list := range badLists() {
		expect(t, name+": NeedsOf", impl.NeedsOf(bill, list), nil)
		expect(t, name+": CostsOf", impl.CostsOf(bill, list), nil)
	}
}

func TestPartsNotThere(t *testing.T) {
	for n := 1; n <= impl.MaxParts; n++ {
		bill := fullBill(n, 1)
		for _, bad := range badParts(n) {
			expect(t, "UsedIn", impl.UsedIn(bill, bad), nil)
			for _, c := range [][2]int{{bad, 0}, {0, bad}, {n - 1, bad}, {bad, n - 1}, {bad, bad}} {
				if got := impl.TakesOf(bill, c[0], c[1]); got != -1 {
					t.Errorf("TakesOf(%d, %d) of %d parts = %d", c[0], c[1], n, got)
				}
			}
		}
	}
}

func TestTakesBySteps(t *testing.T) {
	for _, bill := range someBills() {
		for i := range bill {
			for j := range bill {
				if got, want := impl.TakesOf(bill, i, j), takesBySteps(bill, i, j); got != want {
					t.Fatalf("TakesOf(%v, %d, %d) = %d, want %d", bill, i, j, got, want)
				}
			}
		}
	}
}

func TestP1BillsCanBeCut(t *testing.T) {
	for _, bill := range someBills() {
		for n := len(bill); n >= 1; n-- {
			if !impl.ValidBill(bill[:n]) {
				t.Fatalf("%v is no bill", bill[:n])
			}
		}
		if impl.ValidBill(bill[:0]) {
			t.Fatal("no part is a bill")
		}
	}
}

func TestP2NeedsAreWantsAndWhatIsTaken(t *testing.T) {
	r := fixedRandom()
	for _, bill := range someBills() {
		for _, wants := range someLists(r, len(bill)) {
			needs := impl.NeedsOf(bill, wants)
			if len(needs) != len(bill) {
				t.Fatalf("NeedsOf(%v, %v) = %v", bill, wants, needs)
			}
			for j := range bill {
				byTakes, left := 0, needs[j]-wants[j]
				for i := range bill {
					byTakes += wants[i] * impl.TakesOf(bill, i, j)
					if i > j {
						left -= needs[i] * bill[i][j]
					}
				}
				if needs[j] != byTakes || left != 0 {
					t.Fatalf("NeedsOf(%v, %v) = %v: part %d", bill, wants, needs, j)
				}
			}
		}
	}
}

func TestP3OneTakesWhatItsPartsTake(t *testing.T) {
	for _, bill := range someBills() {
		for i := range bill {
			if got := impl.TakesOf(bill, i, i); got != 1 {
				t.Fatalf("TakesOf(%v, %d, %d) = %d", bill, i, i, got)
			}
			for j := range i {
				first, last := 0, 0
				for k := j; k < i; k++ {
					first += bill[i][k] * impl.TakesOf(bill, k, j)
					last += impl.TakesOf(bill, i, k+1) * bill[k+1][j]
				}
				if got := impl.TakesOf(bill, i, j); got != first || got != last {
					t.Fatalf("TakesOf(%v, %d, %d) = %d, want %d and %d", bill, i, j, got, first, last)
				}
				if got := impl.TakesOf(bill, j, i); got != 0 {
					t.Fatalf("TakesOf(%v, %d, %d) = %d, want 0", bill, j, i, got)
				}
			}
		}
	}
}

func TestP4LevelsGoUp(t *testing.T) {
	for _, bill := range someBills() {
		levels := impl.LevelsOf(bill)
		if len(levels) != len(bill) {
			t.Fatalf("LevelsOf(%v) = %v", bill, levels)
		}
		for i, row := range bill {
			want := 0
			for j, use := range row {
				if use > 0 {
					want = max(want, levels[j]+1)
				}
			}
			if levels[i] != want || (levels[i] == 0) != (sum(row) == 0) {
				t.Fatalf("LevelsOf(%v) = %v: part %d", bill, levels, i)
			}
		}
	}
}

func TestP5CostsAreCountedByParts(t *testing.T) {
	r := fixedRandom()
	for _, bill := range someBills() {
		wants := randomList(r, len(bill), impl.MaxWant)
		for _, own := range someLists(r, len(bill)) {
			costs := impl.CostsOf(bill, own)
			if len(costs) != len(bill) {
				t.Fatalf("CostsOf(%v, %v) = %v", bill, own, costs)
			}
			for i := range bill {
				byTakes := 0
				for j := range bill {
					byTakes += own[j] * impl.TakesOf(bill, i, j)
				}
				if costs[i] != byTakes {
					t.Fatalf("CostsOf(%v, %v) = %v: part %d", bill, own, costs, i)
				}
			}
			if times(wants, costs) != times(impl.NeedsOf(bill, wants), own) {
				t.Fatalf("%v: the wants %v do not cost what is made", bill, wants)
			}
		}
	}
}

func TestP6PartsAreUsedWhereTheyAreTaken(t *testing.T) {
	for _, bill := range someBills() {
		for j := range bill {
			var want []int
			for i := range bill {
				if i != j && impl.TakesOf(bill, i, j) > 0 {
					want = append(want, i)
				}
			}
			if got := impl.UsedIn(bill, j); !same(got, want) {
				t.Fatalf("UsedIn(%v, %d) = %v, want %v", bill, j, got, want)
			}
		}
	}
}

func TestP62WantsAreAdded(t *testing.T) {
	r := fixedRandom()
	for _, bill := range someBills() {
		for _, both := range someLists(r, len(bill)) {
			var one, other []int
			for _, n := range both {
				part := r.IntN(n + 1)
				one, other = append(one, part), append(other, n-part)
			}
			got := impl.NeedsOf(bill, both)
			first, second := impl.NeedsOf(bill, one), impl.NeedsOf(bill, other)
			if len(first) != len(bill) || len(second) != len(bill) || !same(got, added(first, second)) {
				t.Fatalf("NeedsOf(%v, %v) = %v, of %v %v, of %v %v", bill, both, got, one, first, other, second)
			}
		}
	}
}

func TestP63PartsTakeLowerOnes(t *testing.T) {
	for _, bill := range someBills() {
		levels := impl.LevelsOf(bill)
		for i := range bill {
			for j := range bill {
				if i != j && impl.TakesOf(bill, i, j) > 0 && levels[i] <= levels[j] {
					t.Fatalf("%v: %d takes %d, levels %v", bill, i, j, levels)
				}
			}
		}
	}
}

// billCalls returns calls of all functions of bills that give out a list.
func billCalls() map[string]func(bill [][]int, list []int) []int {
	return map[string]func(bill [][]int, list []int) []int{
		"NeedsOf":  impl.NeedsOf,
		"CostsOf":  impl.CostsOf,
		"LevelsOf": func(bill [][]int, _ []int) []int { return impl.LevelsOf(bill) },
		"UsedIn":   func(bill [][]int, _ []int) []int { return impl.UsedIn(bill, 0) },
		"TakesOf":  func(bill [][]int, _ []int) []int { return []int{impl.TakesOf(bill, len(bill)-1, 0)} },
		"ValidBill": func(bill [][]int, _ []int) []int {
			return repeated(1, map[bool]int{true: 1}[impl.ValidBill(bill)])
		},
	}
}

func TestBillsLeaveTheirArguments(t *testing.T) {
	bills := append(someBills(), fullBill(impl.MaxParts+1, 1), [][]int{{}, {4}}, [][]int{{}, {1, 1}})
	for name, call := range billCalls() {
		for _, bill := range bills {
			list := repeated(len(bill), 5)
			billGuard, listGuard := guardedRows(bill), guarded(list)
			result := call(billGuard, listGuard)
			if !untouchedRows(bill, billGuard) || !untouched(list, listGuard) {
				t.Fatalf("%s changed its arguments, of %v", name, bill)
			}
			overwrite(result)
			if !untouchedRows(bill, billGuard) || !untouched(list, listGuard) {
				t.Fatalf("%s gave out memory of its arguments, of %v", name, bill)
			}
		}
	}
}

func TestBillsKeepNothing(t *testing.T) {
	for name, call := range billCalls() {
		for _, bill := range someBills() {
			billCopy, list := copyOfRows(bill), repeated(len(bill), 5)
			result := call(billCopy, list)
			kept := slices.Clone(result)
			for _, row := range billCopy {
				overwrite(row)
			}
			overwrite(list)
			if !same(result, kept) {
				t.Fatalf("%s: the result changed with the arguments, of %v", name, bill)
			}
			overwrite(result)
			if again := call(bill, repeated(len(bill), 5)); !same(again, kept) {
				t.Fatalf("%s(%v) = %v, and then %v", name, bill, kept, again)
			}
		}
	}
}
