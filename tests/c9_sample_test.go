package tests

import (
	"math"
	"math/big"
	"math/bits"
	"slices"
	"testing"

	"loop.example/shopsthatmake/impl"
)

// lotSample is a sample of a lot: how many things there are, how many of them
// are bad, how many are taken, and how many of these may be bad.
type lotSample struct {
	lot, bad, size, most int
}

// allSamples returns all valid samples of lots.
func allSamples() []lotSample {
	var samples []lotSample
	for lot := 1; lot <= impl.MaxLot; lot++ {
		for bad := range lot + 1 {
			for size := range lot + 1 {
				for most := range impl.MaxLot + 1 {
					samples = append(samples, lotSample{lot, bad, size, most})
				}
			}
		}
	}
	return samples
}

// samplesThat returns the valid samples that are kept.
func samplesThat(keep func(s lotSample) bool) []lotSample {
	return slices.DeleteFunc(allSamples(), func(s lotSample) bool { return !keep(s) })
}

// allLots returns all valid lots, with all numbers of bad things that are
// allowed, and with samples of nothing.
func allLots() []lotSample {
	return samplesThat(func(s lotSample) bool { return s.size == 0 })
}

// pass returns PassChance of a valid sample.
func (s lotSample) pass(t *testing.T) *big.Rat {
	t.Helper()
	return wholeRat(t, "PassChance", s, impl.PassChance)
}

// draws returns PassByDraws of a valid sample.
func (s lotSample) draws(t *testing.T) *big.Rat {
	t.Helper()
	return wholeRat(t, "PassByDraws", s, impl.PassByDraws)
}

// left returns BadOut of a valid sample.
func (s lotSample) left(t *testing.T) *big.Rat {
	t.Helper()
	return wholeRat(t, "BadOut", s, impl.BadOut)
}

// wholeRat returns what a call tells of a valid sample. It fails the test if
// that is no fraction without a common factor, or less than 0.
func wholeRat(t *testing.T, what string, s lotSample, call func(lot, bad, size, most int) (impl.Frac, bool)) *big.Rat {
	t.Helper()
	got, ok := call(s.lot, s.bad, s.size, s.most)
	if !ok || got.Up < 0 || got.Down < 1 {
		t.Fatalf("%s(%v) = %v, %t", what, s, got, ok)
	}
	rat := big.NewRat(int64(got.Up), int64(got.Down))
	if fracOfRat(rat) != got {
		t.Fatalf("%s(%v) = %v, which has a common factor", what, s, got)
	}
	return rat
}

// badInSets returns for each number of bad things how many of all sets of size
// things of the lot have so many of them; the first ones of the lot are bad.
func badInSets(lot, bad, size int) []int {
	sets := make([]int, lot+1)
	for set := range uint(1) << lot {
		if bits.OnesCount(set) == size {
			sets[bits.OnesCount(set&(1<<bad-1))]++
		}
	}
	return sets
}

// passBySets returns the chance that a lot passes, by all sets of things.
func passBySets(s lotSample) *big.Rat {
	sets := badInSets(s.lot, s.bad, s.size)
	return big.NewRat(int64(sum(sets[:min(s.most, s.lot)+1])), int64(sum(sets)))
}

// leftBySets returns the mean of the bad things that are left, by all sets.
func leftBySets(s lotSample) *big.Rat {
	sets := badInSets(s.lot, s.bad, s.size)
	left := 0
	for taken, count := range sets[:min(s.most, s.lot)+1] {
		left += count * (s.bad - taken)
	}
	return big.NewRat(int64(left), int64(sum(sets)))
}

// countDraws returns how many draws, one thing after the other, of size more
// things out of those of the lot that are not drawn, have at most most more bad
// ones, and how many there are; the first ones of the lot are bad.
func countDraws(s lotSample, drawn int) (int, int) {
	if s.size == 0 {
		if s.most >= 0 {
			return 1, 1
		}
		return 0, 1
	}
	pass, all := 0, 0
	for thing := range s.lot {
		if in(drawn, thing) {
			continue
		}
		next := lotSample{s.lot, s.bad, s.size - 1, s.most}
		if thing < s.bad {
			next.most--
		}
		passNext, allNext := countDraws(next, drawn|1<<thing)
		pass, all = pass+passNext, all+allNext
	}
	return pass, all
}

// leastBySets returns the least size for which the chance, by all sets, is at
// most up divided by down, or -1.
func leastBySets(passes []*big.Rat, up, down int) int {
	share := big.NewRat(int64(up), int64(down))
	return slices.IndexFunc(passes, func(pass *big.Rat) bool { return pass.Cmp(share) <= 0 })
}

// passesBySets returns the chances that a lot passes, for all sizes of samples.
func passesBySets(s lotSample) []*big.Rat {
	var passes []*big.Rat
	for size := range s.lot + 1 {
		passes = append(passes, passBySets(lotSample{s.lot, s.bad, size, s.most}))
	}
	return passes
}

// expectChoose fails the test if ChooseOf is not what is wanted.
func expectChoose(t *testing.T, n, k, want int) {
	t.Helper()
	if got := impl.ChooseOf(n, k); got != want {
		t.Errorf("ChooseOf(%d, %d) = %d, want %d", n, k, got, want)
	}
}

// expectFrac fails the test if a call tells another fraction of the sample.
func expectFrac(t *testing.T, what string, s lotSample, call func(lot, bad, size, most int) (impl.Frac, bool), want impl.Frac) {
	t.Helper()
	if got, ok := call(s.lot, s.bad, s.size, s.most); !ok || got != want {
		t.Errorf("%s(%v) = %v, %t, want %v", what, s, got, ok, want)
	}
}

// expectSample fails the test if the chance that the lot passes, by choices or
// by draws, or the mean of what is left is another one.
func expectSample(t *testing.T, s lotSample, pass, left impl.Frac) {
	t.Helper()
	expectFrac(t, "PassChance", s, impl.PassChance, pass)
	expectFrac(t, "PassByDraws", s, impl.PassByDraws, pass)
	expectFrac(t, "BadOut", s, impl.BadOut, left)
}

// expectLeastSample fails the test if LeastSample is not what is wanted.
func expectLeastSample(t *testing.T, lot, bad, most, up, down, want int) {
	t.Helper()
	if got := impl.LeastSample(lot, bad, most, up, down); got != want {
		t.Errorf("LeastSample(%d, %d, %d, %d, %d) = %d, want %d", lot, bad, most, up, down, got, want)
	}
}

// expectLeastSizes fails the test if LeastSample of the lot is another one for
// one of the shares, each of them up and down.
func expectLeastSizes(t *testing.T, s lotSample, want int, shares ...[]int) {
	t.Helper()
	for _, share := range shares {
		expectLeastSample(t, s.lot, s.bad, s.most, share[0], share[1], want)
	}
}

// expectNoSample fails the test if a sample is taken for a valid one.
func expectNoSample(t *testing.T, s lotSample) {
	t.Helper()
	for name, call := range map[string]func(lot, bad, size, most int) (impl.Frac, bool){
		"PassChance": impl.PassChance, "PassByDraws": impl.PassByDraws, "BadOut": impl.BadOut,
	} {
		if got, ok := call(s.lot, s.bad, s.size, s.most); ok || got != (impl.Frac{}) {
			t.Errorf("%s(%v) = %v, %t", name, s, got, ok)
		}
	}
}

// frac returns up divided by down.
func frac(up, down int) impl.Frac {
	return impl.Frac{Up: up, Down: down}
}

// farFrom returns numbers that are not in least..most, some of them far away.
func farFrom(least, most int) []int {
	return append(outOf(least, most), 64, -64, 1<<32, -1<<32, math.MinInt+1, math.MaxInt-1)
}

func TestChoose(t *testing.T) {
	rows := [][]int{{1}, {1, 1}, {1, 2, 1}, {1, 3, 3, 1}, {1, 4, 6, 4, 1}, {1, 5, 10, 10, 5, 1},
		{1, 6, 15, 20, 15, 6, 1}, {1, 7, 21, 35, 35, 21, 7, 1}, {1, 8, 28, 56, 70, 56, 28, 8, 1},
		{1, 9, 36, 84, 126, 126, 84, 36, 9, 1}, {1, 10, 45, 120, 210, 252, 210, 120, 45, 10, 1},
		{1, 11, 55, 165, 330, 462, 462, 330, 165, 55, 11, 1},
		{1, 12, 66, 220, 495, 792, 924, 792, 495, 220, 66, 12, 1}}
	for n, row := range rows {
		for k, want := range row {
			expectChoose(t, n, k, want)
		}
		for _, k := range farFrom(0, n) {
			expectChoose(t, n, k, 0)
		}
	}
}

func TestBadChoose(t *testing.T) {
	for _, n := range farFrom(0, impl.MaxLot) {
		for k := -3; k <= impl.MaxLot+3; k++ {
			expectChoose(t, n, k, -1)
		}
		for _, k := range append(farFrom(0, impl.MaxLot), n, n-1, n/2) {
			expectChoose(t, n, k, -1)
		}
	}
}

func TestOrdinarySamples(t *testing.T) {
	expectSample(t, lotSample{10, 2, 3, 0}, frac(7, 15), frac(14, 15))
	expectSample(t, lotSample{10, 2, 3, 1}, frac(14, 15), frac(7, 5))
	expectSample(t, lotSample{10, 3, 2, 0}, frac(7, 15), frac(7, 5))
	expectSample(t, lotSample{10, 3, 2, 1}, frac(14, 15), frac(7, 3))
	expectSample(t, lotSample{5, 2, 2, 0}, frac(3, 10), frac(3, 5))
	expectSample(t, lotSample{5, 2, 2, 1}, frac(9, 10), frac(6, 5))
	expectSample(t, lotSample{5, 2, 2, 2}, frac(1, 1), frac(6, 5))
	expectSample(t, lotSample{4, 2, 3, 1}, frac(1, 2), frac(1, 2))
	expectSample(t, lotSample{7, 3, 4, 1}, frac(13, 35), frac(27, 35))
	expectSample(t, lotSample{11, 4, 5, 2}, frac(53, 66), frac(2, 1))
	// 1, 36, 225 and 400 of 924 sets of 6 have 0, 1, 2 and 3 bad things.
	expectSample(t, lotSample{12, 6, 6, 0}, frac(1, 924), frac(1, 154))
	expectSample(t, lotSample{12, 6, 6, 1}, frac(37, 924), frac(31, 154))
	expectSample(t, lotSample{12, 6, 6, 2}, frac(131, 462), frac(181, 154))
	expectSample(t, lotSample{12, 6, 6, 3}, frac(331, 462), frac(381, 154))
}

func TestNothingTaken(t *testing.T) {
	for _, s := range allLots() {
		expectSample(t, s, frac(1, 1), frac(s.bad, 1))
	}
}

func TestNothingBad(t *testing.T) {
	for _, s := range samplesThat(func(s lotSample) bool { return s.bad == 0 }) {
		expectSample(t, s, frac(1, 1), frac(0, 1))
	}
}

// What is bad is put right, whether the lot passes or not.
func TestAllTaken(t *testing.T) {
	for _, s := range samplesThat(func(s lotSample) bool { return s.size == s.lot }) {
		pass := frac(0, 1)
		if s.bad <= s.most {
			pass = frac(1, 1)
		}
		expectSample(t, s, pass, frac(0, 1))
	}
}

func TestAllBad(t *testing.T) {
	for _, s := range samplesThat(func(s lotSample) bool { return s.bad == s.lot }) {
		pass, left := frac(0, 1), frac(0, 1)
		if s.size <= s.most {
			pass, left = frac(1, 1), frac(s.lot-s.size, 1)
		}
		expectSample(t, s, pass, left)
	}
}

func TestMostAllowed(t *testing.T) {
	// As many as are bad, or as are taken, and more: all lots pass.
	for most := 3; most <= impl.MaxLot; most++ {
		expectSample(t, lotSample{8, 3, 4, most}, frac(1, 1), frac(3, 2))
		expectSample(t, lotSample{8, 4, 3, most}, frac(1, 1), frac(5, 2))
		expectSample(t, lotSample{12, 3, 9, most}, frac(1, 1), frac(3, 4))
		expectSample(t, lotSample{12, 9, 3, most}, frac(1, 1), frac(27, 4))
	}
	// One fewer, and none.
	expectSample(t, lotSample{8, 3, 4, 2}, frac(13, 14), frac(3, 2))
	expectSample(t, lotSample{8, 4, 3, 2}, frac(13, 14), frac(17, 7))
	expectSample(t, lotSample{8, 3, 4, 0}, frac(1, 14), frac(3, 14))
	expectSample(t, lotSample{8, 4, 3, 0}, frac(1, 14), frac(2, 7))
}

func TestLotOfOne(t *testing.T) {
	for most := range impl.MaxLot + 1 {
		expectSample(t, lotSample{1, 0, 0, most}, frac(1, 1), frac(0, 1))
		expectSample(t, lotSample{1, 0, 1, most}, frac(1, 1), frac(0, 1))
		expectSample(t, lotSample{1, 1, 0, most}, frac(1, 1), frac(1, 1))
	}
	expectSample(t, lotSample{1, 1, 1, 0}, frac(0, 1), frac(0, 1))
	expectSample(t, lotSample{1, 1, 1, 1}, frac(1, 1), frac(0, 1))
}

func TestLotOfMaxLot(t *testing.T) {
	expectSample(t, lotSample{12, 1, 1, 0}, frac(11, 12), frac(11, 12))
	expectSample(t, lotSample{12, 1, 11, 0}, frac(1, 12), frac(1, 12))
	expectSample(t, lotSample{12, 11, 1, 0}, frac(1, 12), frac(11, 12))
	expectSample(t, lotSample{12, 11, 11, 10}, frac(11, 12), frac(11, 12))
	expectSample(t, lotSample{12, 11, 11, 9}, frac(0, 1), frac(0, 1))
	expectSample(t, lotSample{12, 11, 11, 11}, frac(1, 1), frac(11, 12))
	expectSample(t, lotSample{12, 5, 4, 12}, frac(1, 1), frac(10, 3))
	expectSample(t, lotSample{12, 12, 12, 12}, frac(1, 1), frac(0, 1))
	expectSample(t, lotSample{12, 12, 12, 11}, frac(0, 1), frac(0, 1))
}

// Of those that are taken at least so many, and at most so many, are bad.
func TestChancesOf0And1(t *testing.T) {
	one := big.NewRat(1, 1)
	for _, s := range allSamples() {
		atLeast, atMost := max(0, s.size+s.bad-s.lot), min(s.size, s.bad)
		for _, pass := range []*big.Rat{s.pass(t), s.draws(t)} {
			if (pass.Sign() == 0) != (s.most < atLeast) || (pass.Cmp(one) == 0) != (s.most >= atMost) {
				t.Fatalf("the chance of %v is %v", s, pass)
			}
		}
	}
}

func TestChancesWithACommonFactor(t *testing.T) {
	// 2 of 4, 6 of 12, 3 of 6, 20 of 84 and 126 of 495 sets, and all 924.
	expectSample(t, lotSample{4, 2, 1, 0}, frac(1, 2), frac(1, 1))
	expectSample(t, lotSample{12, 6, 1, 0}, frac(1, 2), frac(3, 1))
	expectSample(t, lotSample{4, 1, 2, 0}, frac(1, 2), frac(1, 2))
	expectSample(t, lotSample{9, 3, 3, 0}, frac(5, 21), frac(5, 7))
	expectSample(t, lotSample{12, 3, 4, 0}, frac(14, 55), frac(42, 55))
	expectSample(t, lotSample{12, 4, 6, 4}, frac(1, 1), frac(2, 1))
	// 1 and 17 of 70 have none, but 4 and 52 of 70 do.
	expectSample(t, lotSample{8, 4, 4, 0}, frac(1, 70), frac(2, 35))
	expectSample(t, lotSample{8, 4, 4, 1}, frac(17, 70), frac(26, 35))
}

func TestLeastSamples(t *testing.T) {
	// Of 10 of which 2 are bad, 28, 21, 15, 10, 6, 3 and 1 of 45 pass with 2, 3
	// and so on taken, 36 with 1, and none with 9.
	expectLeastSample(t, 10, 2, 0, 1, 1, 0)
	expectLeastSample(t, 10, 2, 0, 39, 40, 1)
	expectLeastSample(t, 10, 2, 0, 4, 5, 1)
	expectLeastSample(t, 10, 2, 0, 31, 39, 2)
	expectLeastSample(t, 10, 2, 0, 1, 2, 3)
	expectLeastSample(t, 10, 2, 0, 7, 15, 3)
	expectLeastSample(t, 10, 2, 0, 8, 17, 3)
	expectLeastSample(t, 10, 2, 0, 18, 39, 4)
	expectLeastSample(t, 10, 2, 0, 1, 3, 4)
	expectLeastSample(t, 10, 2, 0, 1, 15, 7)
	expectLeastSample(t, 10, 2, 0, 2, 31, 8)
	expectLeastSample(t, 10, 2, 0, 1, 40, 8)
	expectLeastSample(t, 10, 2, 0, 0, 1, 9)
	expectLeastSample(t, 10, 2, 1, 14, 15, 3)
	expectLeastSample(t, 10, 2, 1, 0, 40, 10)
	expectLeastSample(t, 7, 3, 1, 13, 35, 4)
	expectLeastSample(t, 7, 3, 1, 13, 36, 5)
	expectLeastSample(t, 1, 1, 0, 39, 40, 1)
	expectLeastSample(t, 12, 12, 0, 39, 40, 1)
	expectLeastSample(t, 12, 12, 11, 39, 40, 12)
	expectLeastSample(t, 12, 1, 0, 11, 12, 1)
	expectLeastSample(t, 12, 1, 0, 10, 11, 2)
	expectLeastSample(t, 12, 1, 0, 1, 12, 11)
	expectLeastSample(t, 12, 1, 0, 2, 25, 12)
}

func TestSharesWithACommonFactor(t *testing.T) {
	for factor := 1; factor*15 <= impl.MaxPace; factor++ {
		expectLeastSample(t, 10, 2, 0, 7*factor, 15*factor, 3)
	}
	for factor := 1; factor*5 <= impl.MaxPace; factor++ {
		expectLeastSample(t, 10, 2, 0, 4*factor, 5*factor, 1)
		expectLeastSample(t, 10, 2, 0, 5*factor, 5*factor, 0)
		expectLeastSample(t, 10, 2, 0, 0, 5*factor, 9)
	}
}

// Nothing has to be taken for a share of 1 and more, and for a share of 0 there
// must be more bad things than are allowed.
func TestSharesOf0And1(t *testing.T) {
	for _, s := range allLots() {
		expectLeastSizes(t, s, 0, []int{1, 1}, []int{2, 1}, []int{impl.MaxPace, 1}, []int{impl.MaxPace, impl.MaxPace}, []int{impl.MaxPace, impl.MaxPace - 1})
		never := -1
		if s.bad > s.most {
			never = s.lot - s.bad + s.most + 1
		}
		expectLeastSizes(t, s, never, []int{0, 1}, []int{0, 7}, []int{0, impl.MaxPace})
	}
}

// Where no more are bad than are allowed, all lots pass, whatever is taken.
func TestNoSizeIsEnough(t *testing.T) {
	for _, s := range allLots() {
		if s.most >= s.bad {
			expectLeastSizes(t, s, -1, []int{0, 1}, []int{1, 2}, []int{1, impl.MaxPace}, []int{impl.MaxPace - 1, impl.MaxPace})
		}
	}
}

// At, just below and just above each chance, with each number by which a share
// may be divided.
func TestSharesAtChances(t *testing.T) {
	for _, s := range allLots() {
		if s.most > s.bad {
			continue
		}
		passes := passesBySets(s)
		for down := 1; down <= impl.MaxPace; down++ {
			checkSharesAt(t, s, passes, down)
		}
	}
}

// checkSharesAt fails the test if LeastSample is another one for a share at one
// of the chances, just below it or just above it.
func checkSharesAt(t *testing.T, s lotSample, passes []*big.Rat, down int) {
	t.Helper()
	ups := map[int]bool{}
	for _, pass := range passes {
		below := int(pass.Num().Int64()) * down / int(pass.Denom().Int64())
		for up := max(0, below-1); up <= min(impl.MaxPace, below+1); up++ {
			ups[up] = true
		}
	}
	for up := range ups {
		expectLeastSample(t, s.lot, s.bad, s.most, up, down, leastBySets(passes, up, down))
	}
}

func TestBadSamples(t *testing.T) {
	for _, most := range []int{0, 1, impl.MaxLot} {
		for _, lot := range farFrom(1, impl.MaxLot) {
			for _, other := range []int{0, 1, impl.MaxLot, lot} {
				expectNoSample(t, lotSample{lot, other, 0, most})
				expectNoSample(t, lotSample{lot, 0, other, most})
				expectNoSample(t, lotSample{lot, other, other, most})
			}
		}
	}
	for lot := 1; lot <= impl.MaxLot; lot++ {
		for good := range lot + 1 {
			for _, bad := range append(farFrom(0, lot), impl.MaxLot+1) {
				expectNoSample(t, lotSample{lot, bad, good, 0})
				expectNoSample(t, lotSample{lot, bad, good, impl.MaxLot})
				expectNoSample(t, lotSample{lot, good, bad, 0})
				expectNoSample(t, lotSample{lot, good, bad, impl.MaxLot})
				expectNoSample(t, lotSample{lot, bad, bad, 1})
			}
			for _, most := range farFrom(0, impl.MaxLot) {
				expectNoSample(t, lotSample{lot, good, 0, most})
				expectNoSample(t, lotSample{lot, 0, good, most})
				expectNoSample(t, lotSample{lot, good, good, most})
				expectNoSample(t, lotSample{lot, lot, lot, most})
			}
		}
	}
}

// The shares are of 1 and more, of 0, and small.
func TestBadLeastSamples(t *testing.T) {
	shares := [][]int{{1, 1}, {impl.MaxPace, 1}, {0, 1}, {1, impl.MaxPace}}
	for _, lot := range farFrom(1, impl.MaxLot) {
		for _, bad := range []int{0, 1, impl.MaxLot, lot} {
			expectLeastSizes(t, lotSample{lot: lot, bad: bad}, -1, shares...)
		}
	}
	for lot := 1; lot <= impl.MaxLot; lot++ {
		for _, bad := range farFrom(0, lot) {
			expectLeastSizes(t, lotSample{lot: lot, bad: bad}, -1, shares...)
			expectLeastSizes(t, lotSample{lot: lot, bad: bad, most: impl.MaxLot}, -1, shares...)
		}
		for _, most := range farFrom(0, impl.MaxLot) {
			expectLeastSizes(t, lotSample{lot: lot, most: most}, -1, shares...)
			expectLeastSizes(t, lotSample{lot: lot, bad: lot, most: most}, -1, shares...)
		}
	}
}

func TestBadShares(t *testing.T) {
	for _, s := range allLots() {
		for _, up := range farFrom(0, impl.MaxPace) {
			expectLeastSizes(t, s, -1, []int{up, 1}, []int{up, 7}, []int{up, impl.MaxPace}, []int{up, up})
		}
		for _, down := range farFrom(1, impl.MaxPace) {
			expectLeastSizes(t, s, -1, []int{0, down}, []int{1, down}, []int{7, down}, []int{impl.MaxPace, down})
		}
	}
}

func TestP45WhatIsChosenIsWithOneOrWithoutIt(t *testing.T) {
	for n := range impl.MaxLot + 1 {
		all := 0
		for k := -2; k <= n+2; k++ {
			got := impl.ChooseOf(n, k)
			if n > 0 && got != impl.ChooseOf(n-1, k-1)+impl.ChooseOf(n-1, k) {
				t.Errorf("ChooseOf(%d, %d) = %d, with one it is %d, without it %d", n, k, got, impl.ChooseOf(n-1, k-1), impl.ChooseOf(n-1, k))
			}
			if left := impl.ChooseOf(n, n-k); got != left {
				t.Errorf("ChooseOf(%d, %d) = %d, and of what is left %d", n, k, got, left)
			}
			all += got
		}
		if all != 1<<n {
			t.Errorf("ChooseOf(%d, k) of all k are %d", n, all)
		}
	}
}

func TestP46ChancesBySamplesAreChancesByDraws(t *testing.T) {
	for _, s := range allSamples() {
		pass := s.pass(t)
		if pass.Cmp(s.draws(t)) != 0 || pass.Cmp(passBySets(s)) != 0 {
			t.Fatalf("PassChance(%v) = %v, PassByDraws %v, by all sets %v", s, pass, s.draws(t), passBySets(s))
		}
		if more := (lotSample{s.lot, s.bad + 1, s.size, s.most}); s.bad < s.lot && (more.pass(t).Cmp(pass) > 0 || more.draws(t).Cmp(pass) > 0) {
			t.Fatalf("PassChance(%v) = %v, and with one more bad %v", s, pass, more.pass(t))
		}
		if more := (lotSample{s.lot, s.bad, s.size, s.most + 1}); s.most < impl.MaxLot && (more.pass(t).Cmp(pass) < 0 || more.draws(t).Cmp(pass) < 0) {
			t.Fatalf("PassChance(%v) = %v, and with one more allowed %v", s, pass, more.pass(t))
		}
	}
}

// Each thing that is drawn has its place.
func TestChancesByEachDraw(t *testing.T) {
	for _, s := range samplesThat(func(s lotSample) bool { return s.lot <= 5 && s.most <= s.lot }) {
		pass, all := countDraws(s, 0)
		if want := big.NewRat(int64(pass), int64(all)); s.draws(t).Cmp(want) != 0 {
			t.Errorf("PassByDraws(%v) = %v, want %d of %d", s, s.draws(t), pass, all)
		}
	}
}

func TestP47NothingTakenPasses(t *testing.T) {
	for _, s := range allSamples() {
		if (s.size == 0 || s.most >= s.bad) && s.draws(t).Cmp(big.NewRat(1, 1)) != 0 {
			t.Fatalf("PassByDraws(%v) = %v", s, s.draws(t))
		}
	}
}

func TestP48WhatIsLeftIsNoMoreThanWhatPasses(t *testing.T) {
	for _, s := range allSamples() {
		left := s.left(t)
		if left.Cmp(leftBySets(s)) != 0 {
			t.Fatalf("BadOut(%v) = %v, by all sets %v", s, left, leftBySets(s))
		}
		bad := big.NewRat(int64(s.bad), 1)
		if most := new(big.Rat).Mul(bad, s.pass(t)); left.Cmp(most) > 0 {
			t.Fatalf("BadOut(%v) = %v, more than %v", s, left, most)
		}
		if s.size == 0 && left.Cmp(bad) != 0 {
			t.Fatalf("BadOut(%v) = %v", s, left)
		}
	}
}

func TestP49SmallerSamplesAreNotEnough(t *testing.T) {
	shares := [][]int{{0, 1}, {1, impl.MaxPace}, {1, 10}, {1, 3}, {7, 15}, {1, 2}, {2, 3}, {11, 12}, {39, 40}, {1, 1}, {3, 2}}
	for _, s := range allLots() {
		for _, share := range shares {
			checkLeastSample(t, s, share[0], share[1])
		}
	}
}

// checkLeastSample fails the test if the chance with LeastSample is more than
// the share, or the chance with one less is not, or if a size is enough and none
// is found.
func checkLeastSample(t *testing.T, s lotSample, up, down int) {
	t.Helper()
	share := big.NewRat(int64(up), int64(down))
	size := impl.LeastSample(s.lot, s.bad, s.most, up, down)
	if size < -1 || size > s.lot {
		t.Fatalf("LeastSample(%v, %v) = %d", s, share, size)
	}
	if at := (lotSample{s.lot, s.bad, size, s.most}); size >= 0 && at.pass(t).Cmp(share) > 0 {
		t.Fatalf("LeastSample(%v, %v) = %d, of which the chance is %v", s, share, size, at.pass(t))
	}
	below := lotSample{s.lot, s.bad, size - 1, s.most}
	if size < 0 {
		below.size = s.lot
	}
	for ; below.size >= 0; below.size-- {
		if below.pass(t).Cmp(share) <= 0 {
			t.Fatalf("LeastSample(%v, %v) = %d, but %d is enough", s, share, size, below.size)
		}
	}
}

func TestP77AllChancesAreOne(t *testing.T) {
	for _, s := range samplesThat(func(s lotSample) bool { return s.most == 0 }) {
		all, mean, below := new(big.Rat), new(big.Rat), new(big.Rat)
		for k := range impl.MaxLot + 1 {
			upTo := lotSample{s.lot, s.bad, s.size, k}.pass(t)
			just := new(big.Rat).Sub(upTo, below)
			if just.Sign() < 0 || k > min(s.size, s.bad) && just.Sign() > 0 {
				t.Fatalf("the chance of just %d bad of %v is %v", k, s, just)
			}
			all.Add(all, just)
			mean.Add(mean, just.Mul(just, big.NewRat(int64(k), 1)))
			below = upTo
		}
		if want := big.NewRat(int64(s.size*s.bad), int64(s.lot)); all.Cmp(big.NewRat(1, 1)) != 0 || mean.Cmp(want) != 0 {
			t.Fatalf("all chances of %v are %v, and the mean is %v, want %v", s, all, mean, want)
		}
	}
}

func TestP78SamplesAndBadOnesMayBeExchanged(t *testing.T) {
	for _, s := range allSamples() {
		other := lotSample{s.lot, s.size, s.bad, s.most}
		if s.pass(t).Cmp(other.pass(t)) != 0 || s.draws(t).Cmp(other.draws(t)) != 0 {
			t.Fatalf("PassChance(%v) = %v, and with the size and bad exchanged %v", s, s.pass(t), other.pass(t))
		}
	}
}

// The functions take and give out numbers and fractions of two numbers alone, so
// they have no memory to change or to share: otherwise this does not compile.
var (
	_ func(n, k int) int                               = impl.ChooseOf
	_ func(lot, bad, size, most int) (impl.Frac, bool) = impl.PassChance
	_ func(lot, bad, size, most int) (impl.Frac, bool) = impl.PassByDraws
	_ func(lot, bad, size, most int) (impl.Frac, bool) = impl.BadOut
	_ func(lot, bad, most, up, down int) int           = impl.LeastSample
	_ struct{ Up, Down int }                           = impl.Frac{}
)

// Nothing is kept from call to call: in any order of the calls each one gives
// the same result.
func TestSamplesKeepNothing(t *testing.T) {
	type result struct {
		pass, draws, left     impl.Frac
		fine, drawn, good     bool
		choices, least, never int
	}
	resultOf := func(s lotSample) result {
		var r result
		r.pass, r.fine = impl.PassChance(s.lot, s.bad, s.size, s.most)
		r.draws, r.drawn = impl.PassByDraws(s.lot, s.bad, s.size, s.most)
		r.left, r.good = impl.BadOut(s.lot, s.bad, s.size, s.most)
		r.choices = impl.ChooseOf(s.lot, s.size)
		r.least = impl.LeastSample(s.lot, s.bad, s.most, s.size, s.lot)
		r.never = impl.LeastSample(s.lot, s.bad, s.most, s.size, 0)
		return r
	}
	samples := append(allSamples(), lotSample{}, lotSample{13, 1, 1, 1}, lotSample{5, 6, 1, 1}, lotSample{5, 1, 6, 1}, lotSample{5, 1, 1, 13})
	first := map[lotSample]result{}
	for _, s := range samples {
		first[s] = resultOf(s)
	}
	for _, s := range slices.Backward(samples) {
		if again := resultOf(s); again != first[s] {
			t.Fatalf("of %v there is at first %v, and then %v", s, first[s], again)
		}
	}
}
