package tests

import (
	"math/big"
	"math/rand/v2"
	"slices"
	"testing"

	"loop.example/shopsthatmake/impl"
)

// spare is what lies in the spare capacity of guarded lists.
const spare = -77

// same reports whether two lists have the same numbers; nil and empty lists
// are the same value.
func same(a, b []int) bool {
	return slices.Equal(a, b)
}

// sameRows reports whether two lists of rows have the same numbers.
func sameRows(a, b [][]int) bool {
	return slices.EqualFunc(a, b, same)
}

// expect fails the test if a list is not the one that is wanted.
func expect(t *testing.T, what string, got, want []int) {
	t.Helper()
	if !same(got, want) {
		t.Errorf("%s = %v, want %v", what, got, want)
	}
}

// repeated returns a list of n times the same number.
func repeated(n, number int) []int {
	return slices.Repeat([]int{number}, n)
}

// sum returns the sum of all numbers.
func sum(list []int) int {
	all := 0
	for _, n := range list {
		all += n
	}
	return all
}

// added returns the sums of two lists, number by number.
func added(a, b []int) []int {
	both := slices.Clone(a)
	for i := range both {
		both[i] += b[i]
	}
	return both
}

// times returns the products of two lists, number by number, all together.
func times(a, b []int) int {
	all := 0
	for i := range a {
		all += a[i] * b[i]
	}
	return all
}

// fracOfRat returns the fraction of a number.
func fracOfRat(rat *big.Rat) impl.Frac {
	return impl.Frac{Up: int(rat.Num().Int64()), Down: int(rat.Denom().Int64())}
}

// guarded returns a copy of a list with spare capacity that is marked.
func guarded(list []int) []int {
	room := append(slices.Clone(list), spare, spare, spare)
	return room[:len(list)]
}

// guardedRows returns a copy of rows, each of them guarded, with spare
// capacity that is marked, too.
func guardedRows(rows [][]int) [][]int {
	room := make([][]int, 0, len(rows)+2)
	for _, row := range rows {
		room = append(room, guarded(row))
	}
	return append(room, []int{spare}, []int{spare})[:len(rows)]
}

// untouched reports whether a guarded list and its spare capacity are as they
// were made of the list.
func untouched(list, guard []int) bool {
	marked := append(slices.Clone(list), spare, spare, spare)
	return same(guard[:len(marked)], marked)
}

// untouchedRows reports whether guarded rows and their spare capacity are as
// they were made of the rows.
func untouchedRows(rows, guard [][]int) bool {
	all := guard[:len(rows)+2]
	for i, row := range rows {
		if !untouched(row, all[i]) {
			return false
		}
	}
	return sameRows(all[len(rows):], [][]int{{spare}, {spare}})
}

// overwrite writes over a list and all of its spare capacity.
func overwrite(list []int) {
	whole := list[:cap(list)]
	for i := range whole {
		whole[i] = 1000 + i
	}
}

// changedAt returns copies of a list in which the number at the place is
// changed to each of the others that is not the same.
func changedAt(list []int, place int, others []int) [][]int {
	var lists [][]int
	for _, other := range others {
		if other != list[place] {
			changed := slices.Clone(list)
			changed[place] = other
			lists = append(lists, changed)
		}
	}
	return lists
}

// checkMemory fails the test if a call changes the lists that are its
// arguments, gives out memory of them, or keeps any of them.
func checkMemory(t *testing.T, what string, lists [][]int, call func(lists [][]int) []int) {
	t.Helper()
	guard := guardedRows(lists)
	result := call(guard)
	if !untouchedRows(lists, guard) {
		t.Fatalf("%s changed its arguments, of %v", what, lists)
	}
	kept := slices.Clone(result)
	for _, list := range guard {
		overwrite(list)
	}
	if !same(result, kept) {
		t.Fatalf("%s: the result changed with the arguments, of %v", what, lists)
	}
	overwrite(result)
	guard = guardedRows(lists)
	again := call(guard)
	if !same(again, kept) {
		t.Fatalf("%s of %v = %v, and then %v", what, lists, kept, again)
	}
	overwrite(again)
	if !untouchedRows(lists, guard) {
		t.Fatalf("%s gave out memory of its arguments, of %v", what, lists)
	}
}

// fixedRandom returns a source that gives the same numbers in every run.
func fixedRandom() *rand.Rand {
	return rand.New(rand.NewPCG(1, 2))
}

// fullBill returns the bill of n parts each of which takes as many as number
// of each part ahead of it.
func fullBill(n, number int) [][]int {
	bill := make([][]int, n)
	for i := range bill {
		bill[i] = repeated(i, number)
	}
	return bill
}

// allBills returns all bills of n parts.
func allBills(n int) [][][]int {
	bills := [][][]int{fullBill(n, 0)}
	for i := range n {
		for j := range i {
			bills = withEachUse(bills, i, j)
		}
	}
	return bills
}

// withEachUse returns the bills with each number that the part i may take of
// the part j.
func withEachUse(bills [][][]int, i, j int) [][][]int {
	var more [][][]int
	for _, bill := range bills {
		for use := range impl.MaxUse + 1 {
			changed := copyOfRows(bill)
			changed[i][j] = use
			more = append(more, changed)
		}
	}
	return more
}

// copyOfRows returns a copy of rows that shares nothing with them.
func copyOfRows(rows [][]int) [][]int {
	copied := make([][]int, len(rows))
	for i, row := range rows {
		copied[i] = slices.Clone(row)
	}
	return copied
}

// randomBill returns a bill of n parts, which takes about one in gap of the
// parts that it may take.
func randomBill(r *rand.Rand, n, gap int) [][]int {
	bill := fullBill(n, 0)
	for _, row := range bill {
		for j := range row {
			if r.IntN(gap) == 0 {
				row[j] = r.IntN(impl.MaxUse + 1)
			}
		}
	}
	return bill
}

// randomList returns n numbers in 0..limit.
func randomList(r *rand.Rand, n, limit int) []int {
	list := make([]int, n)
	for i := range list {
		list[i] = r.IntN(limit + 1)
	}
	return list
}

// someBills returns all bills of few parts, and of each larger number of parts
// those that take nothing and all, and some between.
func someBills() [][][]int {
	var bills [][][]int
	for n := 1; n <= 3; n++ {
		bills = append(bills, allBills(n)...)
	}
	r := fixedRandom()
	for n := 4; n <= impl.MaxParts; n++ {
		bills = append(bills, fullBill(n, 0), fullBill(n, 1), fullBill(n, impl.MaxUse))
		for range 60 {
			bills = append(bills, randomBill(r, n, 1), randomBill(r, n, 3))
		}
	}
	return bills
}

// someLists returns lists of n numbers in 0..MaxWant: of 0, of MaxWant, of one
// for one of them alone, and some others.
func someLists(r *rand.Rand, n int) [][]int {
	lists := [][]int{repeated(n, 0), repeated(n, impl.MaxWant)}
	for i := range n {
		one := repeated(n, 0)
		one[i] = 1
		lists = append(lists, one)
	}
	for range 3 {
		lists = append(lists, randomList(r, n, impl.MaxWant))
	}
	return lists
}

// allLists returns all lists of n of the numbers.
func allLists(n int, numbers ...int) [][]int {
	lists := [][]int{{}}
	for range n {
		var longer [][]int
		for _, list := range lists {
			for _, number := range numbers {
				longer = append(longer, append(slices.Clone(list), number))
			}
		}
		lists = longer
	}
	return lists
}

// sparse returns a copy of a list in which about one number in gap is kept,
// and the others are 0.
func sparse(r *rand.Rand, list []int, gap int) []int {
	kept := slices.Clone(list)
	for i := range kept {
		if r.IntN(gap) != 0 {
			kept[i] = 0
		}
	}
	return kept
}

// someDays returns numbers of days, in 0..limit: no days, all lists of few days
// with few numbers, and some lists of each larger number of days.
func someDays(limit int) [][]int {
	var lists [][]int
	for n := range 4 {
		lists = append(lists, allLists(n, 0, 1, limit)...)
	}
	r := fixedRandom()
	for n := 4; n <= impl.MaxDays; n++ {
		lists = append(lists, repeated(n, 0), repeated(n, 1), repeated(n, limit))
		for range 20 {
			list := randomList(r, n, limit)
			lists = append(lists, list, sparse(r, list, 2), sparse(r, list, 4), randomList(r, n, 2))
		}
	}
	return lists
}

// guardedGroups returns a copy of groups of rows, each of them guarded, with
// spare capacity that is marked, too.
func guardedGroups(groups [][][]int) [][][]int {
	room := make([][][]int, 0, len(groups)+1)
	for _, rows := range groups {
		room = append(room, guardedRows(rows))
	}
	return append(room, [][]int{{spare}})[:len(groups)]
}

// untouchedGroups reports whether guarded groups and their spare capacity are
// as they were made of the groups.
func untouchedGroups(groups, guard [][][]int) bool {
	all := guard[:len(groups)+1]
	for i, rows := range groups {
		if len(all[i]) != len(rows) || !untouchedRows(rows, all[i]) {
			return false
		}
	}
	return sameRows(all[len(groups)], [][]int{{spare}})
}

// overwriteRows writes over rows and all of their spare capacity, and reports
// whether each of them had memory of its own.
func overwriteRows(rows [][]int) bool {
	defer clear(rows[:cap(rows)])
	for i, row := range rows {
		for j := range row[:cap(row)] {
			row[:cap(row)][j] = 1000*i + j
		}
	}
	for i, row := range rows {
		for j, n := range row[:cap(row)] {
			if n != 1000*i+j {
				return false
			}
		}
	}
	return true
}

// checkGroupsMemory fails the test if a call changes the groups of rows or the
// list that are its arguments, gives out memory of them, keeps any of them, or
// gives out two slices that share memory.
func checkGroupsMemory(t *testing.T, what string, groups [][][]int, list []int, call func(groups [][][]int, list []int) [][]int) {
	t.Helper()
	guard, guardList := guardedGroups(groups), guarded(list)
	result := call(guard, guardList)
	if !untouchedGroups(groups, guard) || !untouched(list, guardList) {
		t.Fatalf("%s changed its arguments, of %v and %v", what, groups, list)
	}
	kept := copyOfRows(result)
	for _, rows := range guard {
		overwriteRows(rows)
	}
	overwrite(guardList)
	if !sameRows(result, kept) {
		t.Fatalf("%s: the result changed with the arguments, of %v and %v", what, groups, list)
	}
	overwriteRows(result)
	guard, guardList = guardedGroups(groups), guarded(list)
	again := call(guard, guardList)
	if !sameRows(again, kept) {
		t.Fatalf("%s of %v and %v = %v, and then %v", what, groups, list, kept, again)
	}
	if !overwriteRows(again) {
		t.Fatalf("%s gave out slices that share memory, of %v and %v", what, groups, list)
	}
	if !untouchedGroups(groups, guard) || !untouched(list, guardList) {
		t.Fatalf("%s gave out memory of its arguments, of %v and %v", what, groups, list)
	}
}
