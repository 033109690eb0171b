package impl

import (
	"iter"
	"slices"
)

// MaxParts is the largest number of parts of a bill.
const MaxParts = 6

// MaxUse is the largest number of a part that one of another one takes.
const MaxUse = 3

// MaxWant is the greatest number of what is wanted.
const MaxWant = 20

// ValidBill reports whether rows are a bill of parts.
func ValidBill(bill [][]int) bool {
	if len(bill) < 1 || len(bill) > MaxParts {
		return false
	}
	for i, row := range bill {
		if len(row) != i || !allUpTo(row, MaxUse) {
			return false
		}
	}
	return true
}

// NeedsOf returns how many of each part are made in all.
func NeedsOf(bill [][]int, wants []int) []int {
	if !hasOneEach(bill, wants) {
		return nil
	}
	needs := slices.Clone(wants)
	// A part is taken only by parts behind it, so from the last one on
	// the need of a part is complete when its turn comes.
	for i, row := range slices.Backward(bill) {
		for part, count := range partsTaken(row) {
			needs[part] += needs[i] * count
		}
	}
	return needs
}

// TakesOf returns how many of a part one of another one takes in all.
func TakesOf(bill [][]int, i int, j int) int {
	if !ValidBill(bill) || !isPart(bill, i) || !isPart(bill, j) {
		return -1
	}
	return countTaken(bill, i, j)
}

// LevelsOf returns the longest way below each part.
func LevelsOf(bill [][]int) []int {
	if !ValidBill(bill) {
		return nil
	}
	levels := make([]int, len(bill))
	for i, row := range bill {
		for part := range partsTaken(row) {
			levels[i] = max(levels[i], levels[part]+1)
		}
	}
	return levels
}

// CostsOf returns what one of each part costs.
func CostsOf(bill [][]int, own []int) []int {
	if !hasOneEach(bill, own) {
		return nil
	}
	costs := slices.Clone(own)
	for i, row := range bill {
		for part, count := range partsTaken(row) {
			costs[i] += costs[part] * count
		}
	}
	return costs
}

// UsedIn returns the parts that take a part.
func UsedIn(bill [][]int, j int) []int {
	if !ValidBill(bill) || !isPart(bill, j) {
		return nil
	}
	takesIt := func(i int) bool {
		return i != j && countTaken(bill, i, j) > 0
	}
	return slices.Collect(partsThat(bill, takesIt))
}

// isUpTo reports whether the number is in 0..limit.
func isUpTo(n, limit int) bool {
	return n >= 0 && n <= limit
}

// allUpTo reports whether all numbers are in 0..limit.
func allUpTo(list []int, limit int) bool {
	for _, n := range list {
		if !isUpTo(n, limit) {
			return false
		}
	}
	return true
}

// hasOneEach reports whether the list has one number in 0..MaxWant for each
// part of a valid bill.
func hasOneEach(bill [][]int, list []int) bool {
	return ValidBill(bill) && len(list) == len(bill) && allUpTo(list, MaxWant)
}

// isPart reports whether the bill has a part with this index.
func isPart(bill [][]int, i int) bool {
	return i >= 0 && i < len(bill)
}

// partsTaken yields, ascending, each part that the row of a part takes at
// least one of, and how many of it.
func partsTaken(row []int) iter.Seq2[int, int] {
	return func(yield func(int, int) bool) {
		for part, count := range row {
			if count > 0 && !yield(part, count) {
				return
			}
		}
	}
}

// partsThat yields, ascending, the parts of the bill that are kept.
func partsThat(bill [][]int, keep func(i int) bool) iter.Seq[int] {
	return func(yield func(int) bool) {
		for i := range bill {
			if keep(i) && !yield(i) {
				return
			}
		}
	}
}

// countTaken is TakesOf for a valid bill and two of its parts. It ends, since
// a part takes only parts ahead of it.
func countTaken(bill [][]int, i int, j int) int {
	if i == j {
		return 1
	}
	sum := 0
	for part, count := range partsTaken(bill[i]) {
		sum += count * countTaken(bill, part, j)
	}
	return sum
}
