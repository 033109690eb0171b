package tests

import (
	"math"
	"slices"
	"strings"
	"testing"

	"loop.example/shopsthatmake/impl"
)

// cutList is cuts: their lengths, and the length of each roll.
type cutList struct {
	list []int
	roll int
}

// badCuts returns lists that are not cuts.
func badCuts() map[string]cutList {
	return map[string]cutList{
		"one cut too many":         {repeated(impl.MaxCuts+1, 1), impl.MaxRoll},
		"one long cut too many":    {repeated(impl.MaxCuts+1, impl.MaxRoll), impl.MaxRoll},
		"many cuts too many":       {repeated(70, 1), impl.MaxRoll},
		"one too many, on 1":       {repeated(impl.MaxCuts+1, 1), 1},
		"only a cut of 0":          {[]int{0}, 10},
		"only a cut below 0":       {[]int{-1}, 10},
		"only a cut too long":      {[]int{11}, 10},
		"a cut of 0 first":         {[]int{0, 3, 4}, 10},
		"a cut of 0 between":       {[]int{3, 0, 4}, 10},
		"a cut of 0 last":          {[]int{3, 4, 0}, 10},
		"a cut below 0 last":       {[]int{3, 4, -1}, 10},
		"a cut too long first":     {[]int{11, 3, 4}, 10},
		"a cut too long between":   {[]int{3, 11, 4}, 10},
		"a cut too long last":      {[]int{3, 4, 11}, 10},
		"the last of all of 0":     {append(repeated(impl.MaxCuts-1, 1), 0), impl.MaxRoll},
		"the last of all too long": {append(repeated(impl.MaxCuts-1, 1), impl.MaxRoll+1), impl.MaxRoll},
		"all cuts too long":        {repeated(impl.MaxCuts, 2), 1},
		"less that makes it up":    {[]int{11, -1}, 10},
		"the least length":         {[]int{1, math.MinInt}, 10},
		"the greatest length":      {[]int{math.MaxInt, 1}, 10},
		"lengths that wrap":        {[]int{math.MaxInt, math.MaxInt, 3}, 10},
		"a length that wraps":      {[]int{1<<32 + 1}, 10},
		"a roll of 0":              {[]int{1}, 0},
		"a roll and a cut of 0":    {[]int{0}, 0},
		"a roll below 0":           {[]int{1}, -1},
		"a roll and a cut below 0": {[]int{-1}, -1},
		"a roll too long":          {[]int{1}, impl.MaxRoll + 1},
		"a cut of a roll too long": {[]int{impl.MaxRoll + 1}, impl.MaxRoll + 1},
		"the least roll":           {[]int{1}, math.MinInt},
		"the greatest roll":        {[]int{1}, math.MaxInt},
		"no cuts, a roll of 0":     {nil, 0},
		"no cuts, below 0":         {[]int{}, -1},
		"no cuts, too long":        {nil, impl.MaxRoll + 1},
	}
}

// namesNear returns names that are nearly the name.
func namesNear(name string) []string {
	return []string{name[:1], name[1:], name[:len(name)-1], name + "s", name + name, strings.ToUpper(name),
		strings.ToUpper(name[:1]) + name[1:], " " + name, name + " ", name + "\n", name + "\x00"}
}

// badCutKinds returns names that are no kinds of cuts.
func badCutKinds() []string {
	return slices.Concat(namesNear("first"), namesNear("long"),
		[]string{"", " ", "0", "1", "2", "firstlong", "longfirst", "first,long", "longest", "short", "fewest", "least", "wait", "due"})
}

// lengthsAt returns the lengths near half of a roll, near 1 and near the roll.
func lengthsAt(roll int) []int {
	lengths := []int{1, 2, roll/2 - 1, roll / 2, roll/2 + 1, roll/2 + 2, roll - 1, roll}
	slices.Sort(lengths)
	return slices.DeleteFunc(slices.Compact(lengths), func(length int) bool { return length < 1 || length > roll })
}

// cutsOn returns cuts of rolls of one length: all of few, of more some near
// half of the roll, of one length, and others.
func cutsOn(roll int) []cutList {
	var lists [][]int
	all := added(inOrder(roll), repeated(roll, 1))
	for n := range 3 {
		lists = append(lists, allLists(n, all...)...)
	}
	lists = append(lists, allLists(3, lengthsAt(roll)...)...)
	r := fixedRandom()
	for n := 3; n <= impl.MaxCuts; n++ {
		for _, length := range all {
			lists = append(lists, repeated(n, length))
		}
		for range 40 {
			for _, limit := range []int{roll, roll/2 + 1, (roll + 1) / 2, (roll + 2) / 3} {
				lists = append(lists, randomTimes(r, n, limit))
			}
		}
	}
	cuts := make([]cutList, len(lists))
	for i, list := range lists {
		cuts[i] = cutList{list, roll}
	}
	return cuts
}

// someCuts returns cuts of rolls of all lengths.
func someCuts() []cutList {
	var cuts []cutList
	for roll := 1; roll <= impl.MaxRoll; roll++ {
		cuts = append(cuts, cutsOn(roll)...)
	}
	return cuts
}

// sizesOf returns all lists of sizes of patterns, none of them twice.
func sizesOf(roll int) [][]int {
	var lists [][]int
	all := added(inOrder(roll), repeated(roll, 1))
	for n := 1; n <= impl.MaxSizes; n++ {
		lists = append(lists, allLists(n, all...)...)
	}
	return slices.DeleteFunc(lists, hasTwice)
}

// forSizes calls check with all sizes of patterns, and rolls of all lengths.
func forSizes(check func(sizes []int, roll int)) {
	for roll := 1; roll <= impl.MaxRoll; roll++ {
		for _, sizes := range sizesOf(roll) {
			check(sizes, roll)
		}
	}
}

// those returns the numbers of a list that are kept.
func those(list []int, keep func(n int) bool) []int {
	return slices.DeleteFunc(slices.Clone(list), func(n int) bool { return !keep(n) })
}

// longCuts returns the cuts that are longer than half of the roll.
func (c cutList) longCuts() []int {
	return those(c.list, func(length int) bool { return length > c.roll-length })
}

// fewest returns the fewest rolls, by trying each one for each cut: cuts are
// tasks that need not wait.
func (c cutList) fewest() int {
	return fewestTried(taskList{c.list, noneAhead(len(c.list))}, c.roll)
}

// least returns LeastRolls, from each length on, roll by roll.
func (c cutList) least() int {
	least := 0
	for from := 0; from <= c.roll-from; from++ {
		room := 0
		for _, length := range c.longCuts() {
			if length <= c.roll-from {
				room += c.roll - length
			}
		}
		short := those(c.list, func(length int) bool { return length >= from && length <= c.roll-length })
		rolls := len(c.longCuts())
		for left := sum(short) - room; left > 0; left -= c.roll {
			rolls++
		}
		least = max(least, rolls)
	}
	return least
}

// byKind returns RollsBy, each cut on the first roll that all on it leave room.
func (c cutList) byKind(kind string) []int {
	order := inOrder(len(c.list))
	if kind == "long" {
		order = orderByKeys(scaled(c.list, -1))
	}
	at := repeated(len(c.list), -1)
	for _, next := range order {
		for roll := 0; at[next] < 0; roll++ {
			if c.lengthOn(at, roll)+c.list[next] <= c.roll {
				at[next] = roll
			}
		}
	}
	return at
}

// lengthOn returns the lengths of all cuts of a roll together.
func (c cutList) lengthOn(at []int, roll int) int {
	all := 0
	for i, length := range c.list {
		if at[i] == roll {
			all += length
		}
	}
	return all
}

// rollsIn returns how many rolls there are, of the roll of each cut.
func rollsIn(at []int) int {
	return 1 + slices.Max(append(slices.Clone(at), -1))
}

// patternsByCounts returns PatternsOf, of all numbers of each size.
func patternsByCounts(sizes []int, roll int) [][]int {
	rows := [][]int{{}}
	for _, size := range sizes {
		var longer [][]int
		for _, row := range rows {
			for count := 0; count*size <= roll; count++ {
				longer = append(longer, append(slices.Clone(row), count))
			}
		}
		rows = longer
	}
	rows = slices.DeleteFunc(rows, func(row []int) bool { return !isFull(row, sizes, roll) })
	slices.SortFunc(rows, func(a, b []int) int { return slices.Compare(b, a) })
	return rows
}

// isFull reports whether the pattern fits on the roll, and no size fits on what
// is left.
func isFull(row, sizes []int, roll int) bool {
	left := roll - times(row, sizes)
	return left >= 0 && len(those(sizes, func(size int) bool { return size <= left })) == 0
}

// expectRolls fails the test if FewestRolls or LeastRolls are not what is
// wanted.
func expectRolls(t *testing.T, c cutList, fewest, least int) {
	t.Helper()
	if got := impl.FewestRolls(c.list, c.roll); got != fewest {
		t.Errorf("FewestRolls(%v, %d) = %d, want %d", c.list, c.roll, got, fewest)
	}
	if got := impl.LeastRolls(c.list, c.roll); got != least {
		t.Errorf("LeastRolls(%v, %d) = %d, want %d", c.list, c.roll, got, least)
	}
}

// expectKinds fails the test if RollsBy are not what is wanted, by both kinds.
func expectKinds(t *testing.T, c cutList, first, long []int) {
	t.Helper()
	if got := impl.RollsBy(c.list, c.roll, "first"); !same(got, first) {
		t.Errorf("RollsBy(%v, %d, first) = %v, want %v", c.list, c.roll, got, first)
	}
	if got := impl.RollsBy(c.list, c.roll, "long"); !same(got, long) {
		t.Errorf("RollsBy(%v, %d, long) = %v, want %v", c.list, c.roll, got, long)
	}
}

// expectPatterns fails the test if PatternsOf are not what is wanted.
func expectPatterns(t *testing.T, sizes []int, roll int, want ...[]int) {
	t.Helper()
	if got := impl.PatternsOf(sizes, roll); !sameRows(got, want) {
		t.Errorf("PatternsOf(%v, %d) = %v, want %v", sizes, roll, got, want)
	}
}

// expectNoCuts fails the test if these are cuts, or rolls or patterns of them
// are found.
func expectNoCuts(t *testing.T, what string, c cutList) {
	t.Helper()
	if impl.ValidCuts(c.list, c.roll) {
		t.Errorf("%s: ValidCuts(%v, %d) is true", what, c.list, c.roll)
	}
	expectRolls(t, c, -1, -1)
	expectKinds(t, c, nil, nil)
	expectPatterns(t, c.list, c.roll)
}

func TestValidCuts(t *testing.T) {
	for _, c := range someCuts() {
		if !impl.ValidCuts(c.list, c.roll) {
			t.Errorf("ValidCuts(%v, %d) is false", c.list, c.roll)
		}
	}
}

func TestBadCuts(t *testing.T) {
	for what, c := range badCuts() {
		expectNoCuts(t, what, c)
	}
	for _, roll := range []int{1, 2, 7, impl.MaxRoll} {
		for n := 1; n <= impl.MaxCuts; n++ {
			for place := range n {
				for _, bad := range changedAt(repeated(n, 1), place, farFrom(1, roll)) {
					expectNoCuts(t, "a bad cut", cutList{bad, roll})
				}
			}
		}
	}
	for _, list := range [][]int{nil, {}, {1}, {1, 1, 1}, repeated(impl.MaxCuts, 1)} {
		for _, roll := range farFrom(1, impl.MaxRoll) {
			expectNoCuts(t, "a bad roll", cutList{list, roll})
		}
	}
}

func TestBadCutKinds(t *testing.T) {
	for _, c := range []cutList{{nil, 10}, {[]int{}, 1}, {[]int{4}, 10}, {[]int{4, 4, 6, 6}, 10}, {repeated(impl.MaxCuts, 1), impl.MaxRoll}} {
		for _, kind := range badCutKinds() {
			if got := impl.RollsBy(c.list, c.roll, kind); len(got) != 0 {
				t.Errorf("RollsBy(%v, %d, %q) = %v", c.list, c.roll, kind, got)
			}
		}
	}
}

func TestOrdinaryCuts(t *testing.T) {
	c := cutList{[]int{3, 7, 2, 5, 8, 5}, 10}
	expectRolls(t, c, 3, 3)
	expectKinds(t, c, []int{0, 0, 1, 1, 2, 3}, []int{1, 1, 0, 2, 0, 2})
	c = cutList{[]int{6, 2, 11, 3, 8}, 13}
	expectRolls(t, c, 3, 3)
	expectKinds(t, c, []int{0, 0, 1, 0, 2}, []int{2, 0, 0, 1, 1})
	c = cutList{[]int{2, 9, 4, 4, 7, 1, 6}, 12}
	expectRolls(t, c, 3, 3)
	expectKinds(t, c, []int{0, 0, 1, 1, 2, 0, 3}, []int{0, 0, 1, 2, 1, 0, 2})
}

func TestNoCuts(t *testing.T) {
	for roll := 1; roll <= impl.MaxRoll; roll++ {
		for _, list := range [][]int{nil, {}} {
			expectRolls(t, cutList{list, roll}, 0, 0)
			expectKinds(t, cutList{list, roll}, nil, nil)
			expectPatterns(t, list, roll)
		}
	}
}

func TestOneCutAlone(t *testing.T) {
	for roll := 1; roll <= impl.MaxRoll; roll++ {
		for length := 1; length <= roll; length++ {
			c := cutList{[]int{length}, roll}
			expectRolls(t, c, 1, 1)
			expectKinds(t, c, []int{0}, []int{0})
		}
	}
}

func TestCutsOfWholeRolls(t *testing.T) {
	// One of them, behind, between and ahead of others.
	expectRolls(t, cutList{[]int{10, 4, 6}, 10}, 2, 2)
	expectKinds(t, cutList{[]int{10, 4, 6}, 10}, []int{0, 1, 1}, []int{0, 1, 1})
	expectRolls(t, cutList{[]int{4, 10, 6}, 10}, 2, 2)
	expectKinds(t, cutList{[]int{4, 10, 6}, 10}, []int{0, 1, 0}, []int{1, 0, 1})
	expectRolls(t, cutList{[]int{4, 6, 10}, 10}, 2, 2)
	expectKinds(t, cutList{[]int{4, 6, 10}, 10}, []int{0, 0, 1}, []int{1, 1, 0})
	expectRolls(t, cutList{[]int{1, 10, 10}, 10}, 3, 3)
	expectKinds(t, cutList{[]int{1, 10, 10}, 10}, []int{0, 1, 2}, []int{2, 0, 1})
	// All of them.
	for roll := 1; roll <= impl.MaxRoll; roll++ {
		for n := range impl.MaxCuts + 1 {
			c := cutList{repeated(n, roll), roll}
			expectRolls(t, c, n, n)
			expectKinds(t, c, inOrder(n), inOrder(n))
		}
	}
}

func TestMaxCuts(t *testing.T) {
	c := cutList{repeated(impl.MaxCuts, 1), impl.MaxRoll}
	expectRolls(t, c, 1, 1)
	expectKinds(t, c, repeated(impl.MaxCuts, 0), repeated(impl.MaxCuts, 0))
	c = cutList{[]int{6, 7, 9, 4, 12, 3, 19}, impl.MaxRoll}
	expectRolls(t, c, 4, 4)
	expectKinds(t, c, []int{0, 0, 1, 0, 2, 0, 3}, []int{2, 1, 2, 2, 1, 3, 0})
	c = cutList{[]int{19, 1, 18, 2, 17, 3, 16}, impl.MaxRoll}
	expectRolls(t, c, 4, 4)
	expectKinds(t, c, []int{0, 0, 1, 1, 2, 2, 3}, []int{0, 0, 1, 1, 2, 2, 3})
	c = cutList{[]int{13, 7, 6, 10, 11, 9, 5}, impl.MaxRoll}
	expectRolls(t, c, 4, 4)
	expectKinds(t, c, []int{0, 0, 1, 1, 2, 2, 3}, []int{0, 0, 2, 2, 1, 1, 3})
}

func TestRollsOf1(t *testing.T) {
	for n := range impl.MaxCuts + 1 {
		c := cutList{repeated(n, 1), 1}
		expectRolls(t, c, n, n)
		expectKinds(t, c, inOrder(n), inOrder(n))
	}
	expectPatterns(t, []int{1}, 1, []int{1})
	expectPatterns(t, []int{1, 1}, 1)
	expectPatterns(t, []int{1, 2}, 1)
}

func TestCutsOfHalfOfARoll(t *testing.T) {
	for roll := 2; roll <= impl.MaxRoll; roll++ {
		half := roll / 2
		for n := range impl.MaxCuts + 1 {
			// Just half, or at odd rolls the whole length below it: two fit.
			pairs := (n + 1) / 2
			if half > 1 || roll == 2 {
				expectRolls(t, cutList{repeated(n, half), roll}, pairs, (n*half+roll-1)/roll)
			}
			// 1 more: each one has a roll of its own.
			expectRolls(t, cutList{repeated(n, half+1), roll}, n, n)
		}
		if roll%2 == 0 {
			expectRolls(t, cutList{[]int{half, half}, roll}, 1, 1)
			expectRolls(t, cutList{[]int{half, half, half}, roll}, 2, 2)
			expectRolls(t, cutList{[]int{half, half + 1}, roll}, 2, 2)
			expectKinds(t, cutList{[]int{half, half + 1, half}, roll}, []int{0, 1, 0}, []int{1, 0, 1})
		} else {
			expectRolls(t, cutList{[]int{half, half + 1}, roll}, 1, 1)
			expectRolls(t, cutList{[]int{half + 1, half + 1}, roll}, 2, 2)
			expectKinds(t, cutList{[]int{half, half + 1, half + 1}, roll}, []int{0, 0, 1}, []int{0, 0, 1})
		}
		if half > 1 {
			// 1 less and 1 more: only at odd rolls half fits on what it leaves.
			c := cutList{[]int{half - 1, half + 1, half}, roll}
			at := roll % 2
			expectRolls(t, cutList{c.list[:2], roll}, 1, 1)
			expectRolls(t, c, 2, 2)
			expectKinds(t, c, []int{0, 0, 1}, []int{at, 0, 1 - at})
		}
	}
	expectRolls(t, cutList{repeated(impl.MaxCuts, 10), impl.MaxRoll}, 4, 4)
	expectRolls(t, cutList{repeated(impl.MaxCuts, 11), impl.MaxRoll}, 7, 7)
	expectRolls(t, cutList{repeated(impl.MaxCuts, 9), impl.MaxRoll}, 4, 4)
	expectRolls(t, cutList{repeated(impl.MaxCuts, 9), 19}, 4, 4)
	expectRolls(t, cutList{repeated(impl.MaxCuts, 10), 19}, 7, 7)
	expectRolls(t, cutList{repeated(impl.MaxCuts, 8), 19}, 4, 3)
}

func TestCutsThatFillRolls(t *testing.T) {
	list := []int{7, 3, 6, 4, 5, 5}
	expectRolls(t, cutList{list, 10}, 3, 3)
	expectKinds(t, cutList{list, 10}, []int{0, 0, 1, 1, 2, 2}, []int{0, 0, 1, 1, 2, 2})
	// 1 is left on each roll.
	expectRolls(t, cutList{list, 11}, 3, 3)
	expectKinds(t, cutList{list, 11}, []int{0, 0, 1, 1, 2, 2}, []int{0, 2, 1, 0, 1, 2})
	// 1 is missing on each roll.
	expectRolls(t, cutList{list, 9}, 4, 4)
	expectKinds(t, cutList{list, 9}, []int{0, 1, 1, 2, 2, 3}, []int{0, 1, 1, 2, 2, 3})
	expectRolls(t, cutList{[]int{8, 8, 2, 2}, 10}, 2, 2)
	expectKinds(t, cutList{[]int{8, 8, 2, 2}, 10}, []int{0, 1, 0, 1}, []int{0, 1, 0, 1})
	expectRolls(t, cutList{[]int{8, 8, 1, 1}, 10}, 2, 2)
	expectKinds(t, cutList{[]int{8, 8, 1, 1}, 10}, []int{0, 1, 0, 0}, []int{0, 1, 0, 0})
	expectRolls(t, cutList{[]int{8, 8, 3, 3}, 10}, 3, 3)
	expectKinds(t, cutList{[]int{8, 8, 3, 3}, 10}, []int{0, 1, 2, 2}, []int{0, 1, 2, 2})
}

func TestFirstTakesMoreThanLong(t *testing.T) {
	for _, c := range []cutList{{[]int{4, 4, 6, 6}, 10}, {[]int{1, 1, 2, 2}, 3}, {[]int{1, 2, 3, 2}, 4}} {
		expectRolls(t, c, 2, 2)
	}
	expectKinds(t, cutList{[]int{4, 4, 6, 6}, 10}, []int{0, 0, 1, 2}, []int{0, 1, 0, 1})
	expectKinds(t, cutList{[]int{1, 1, 2, 2}, 3}, []int{0, 0, 1, 2}, []int{0, 1, 0, 1})
	expectKinds(t, cutList{[]int{1, 2, 3, 2}, 4}, []int{0, 0, 1, 2}, []int{0, 1, 0, 1})
}

func TestLongTakesMoreThanTheFewest(t *testing.T) {
	// By first it takes no more than the fewest.
	c := cutList{[]int{3, 2, 2, 3, 2, 2}, 7}
	expectRolls(t, c, 2, 2)
	expectKinds(t, c, []int{0, 0, 0, 1, 1, 1}, []int{0, 1, 1, 0, 1, 2})
	// Both kinds take more.
	c = cutList{[]int{2, 2, 2, 3, 5, 6}, 10}
	expectRolls(t, c, 2, 2)
	expectKinds(t, c, []int{0, 0, 0, 0, 1, 2}, []int{1, 1, 2, 0, 1, 0})
	c = cutList{[]int{3, 3, 2, 2, 2, 2}, 7}
	expectRolls(t, c, 2, 2)
	expectKinds(t, c, []int{0, 0, 1, 1, 1, 2}, []int{0, 0, 1, 1, 1, 2})
}

// Of several cuts of the same length the first one is cut first.
func TestLongOfTheSameLength(t *testing.T) {
	expectKinds(t, cutList{[]int{4, 7, 4, 7, 4}, 12}, []int{0, 0, 1, 1, 2}, []int{0, 0, 1, 1, 2})
	expectKinds(t, cutList{[]int{3, 5, 3, 5, 3, 5}, 10}, []int{0, 0, 1, 1, 2, 2}, []int{1, 0, 2, 0, 2, 1})
	expectKinds(t, cutList{[]int{5, 3, 5, 3, 5, 3, 5}, 11}, []int{0, 0, 1, 0, 1, 2, 2}, []int{0, 2, 0, 2, 1, 2, 1})
	expectKinds(t, cutList{[]int{2, 6, 2, 6, 2}, 9}, []int{0, 0, 1, 1, 2}, []int{0, 0, 1, 1, 2})
}

func TestFewestMoreThanLeast(t *testing.T) {
	expectRolls(t, cutList{[]int{2, 6, 2, 6, 2}, 9}, 3, 2)
	expectRolls(t, cutList{repeated(5, 2), 5}, 3, 2)
	expectRolls(t, cutList{repeated(5, 4), 10}, 3, 2)
	expectRolls(t, cutList{repeated(5, 3), 8}, 3, 2)
	expectRolls(t, cutList{repeated(impl.MaxCuts, 7), impl.MaxRoll}, 4, 3)
}

// For each length there are cuts of which only those from it on tell how many
// rolls are needed: on the rolls of the two long ones there is 1 too little room
// for the short one.
func TestLeastFromEachLength(t *testing.T) {
	for roll := 1; roll <= impl.MaxRoll; roll++ {
		for from := 2; 2*from <= roll; from++ {
			long := roll - from + 1
			expectRolls(t, cutList{[]int{long, long, from}, roll}, 3, 3)
			expectRolls(t, cutList{[]int{from, long, long}, roll}, 3, 3)
			expectRolls(t, cutList{[]int{long, long, from - 1}, roll}, 2, 2)
			if 2*(long-1) > roll {
				expectRolls(t, cutList{[]int{long, long - 1, from}, roll}, 2, 2)
			}
		}
	}
	// From 2, 4 and 5 on it is 4, and from 3 on only 3.
	expectRolls(t, cutList{[]int{9, 7, 7, 5, 2}, 10}, 4, 4)
	// From 0, 1 and 3 on it is 3, and from 2 on only 2.
	expectRolls(t, cutList{[]int{5, 5, 3, 1, 1}, 7}, 3, 3)
}

func TestOrdinaryPatterns(t *testing.T) {
	expectPatterns(t, []int{3, 4, 5}, 12, []int{4, 0, 0}, []int{2, 1, 0}, []int{2, 0, 1}, []int{1, 2, 0}, []int{1, 1, 1}, []int{0, 3, 0}, []int{0, 0, 2})
	expectPatterns(t, []int{9, 6, 5}, 20, []int{2, 0, 0}, []int{1, 1, 1}, []int{1, 0, 2}, []int{0, 3, 0}, []int{0, 2, 1}, []int{0, 1, 2}, []int{0, 0, 4})
	expectPatterns(t, []int{2, 3}, 7, []int{3, 0}, []int{2, 1}, []int{0, 2})
	expectPatterns(t, []int{7, 3}, 9, []int{1, 0}, []int{0, 3})
}

func TestSizesInAnyOrder(t *testing.T) {
	expectPatterns(t, []int{6, 4, 3}, 10, []int{1, 1, 0}, []int{1, 0, 1}, []int{0, 2, 0}, []int{0, 1, 2}, []int{0, 0, 3})
	expectPatterns(t, []int{3, 4, 6}, 10, []int{3, 0, 0}, []int{2, 1, 0}, []int{1, 0, 1}, []int{0, 2, 0}, []int{0, 1, 1})
	expectPatterns(t, []int{5, 4, 3}, 12, []int{2, 0, 0}, []int{1, 1, 1}, []int{1, 0, 2}, []int{0, 3, 0}, []int{0, 2, 1}, []int{0, 1, 2}, []int{0, 0, 4})
	expectPatterns(t, []int{4, 7, 3}, 10, []int{2, 0, 0}, []int{1, 0, 2}, []int{0, 1, 1}, []int{0, 0, 3})
	expectPatterns(t, []int{20, 19, 18}, impl.MaxRoll, []int{1, 0, 0}, []int{0, 1, 0}, []int{0, 0, 1})
	expectPatterns(t, []int{18, 19, 20}, impl.MaxRoll, []int{1, 0, 0}, []int{0, 1, 0}, []int{0, 0, 1})
}

func TestSizesOf1(t *testing.T) {
	expectPatterns(t, []int{1, 2, 3}, 3, []int{3, 0, 0}, []int{1, 1, 0}, []int{0, 0, 1})
	expectPatterns(t, []int{3, 2, 1}, 3, []int{1, 0, 0}, []int{0, 1, 1}, []int{0, 0, 3})
	expectPatterns(t, []int{20, 1}, impl.MaxRoll, []int{1, 0}, []int{0, 20})
	expectPatterns(t, []int{1, 20}, impl.MaxRoll, []int{20, 0}, []int{0, 1})
	// Nothing is left of any roll.
	forSizes(func(sizes []int, roll int) {
		if !slices.Contains(sizes, 1) {
			return
		}
		for _, row := range impl.PatternsOf(sizes, roll) {
			if times(row, sizes) != roll {
				t.Fatalf("PatternsOf(%v, %d) has %v", sizes, roll, row)
			}
		}
	})
}

// On what a pattern leaves no size fits, also not the least one alone.
func TestSizesThatDoNotFit(t *testing.T) {
	// None fits on the 4 that are left of 12, or on the 1 of 11.
	expectPatterns(t, []int{8, 5}, 12, []int{1, 0}, []int{0, 2})
	expectPatterns(t, []int{10, 5}, 11, []int{1, 0}, []int{0, 2})
	// Only the second one fits on what the first one leaves, or only the last.
	expectPatterns(t, []int{8, 4}, 12, []int{1, 1}, []int{0, 3})
	expectPatterns(t, []int{7, 5, 2}, 10, []int{1, 0, 1}, []int{0, 2, 0}, []int{0, 1, 2}, []int{0, 0, 5})
	expectPatterns(t, []int{2, 5, 7}, 10, []int{5, 0, 0}, []int{2, 1, 0}, []int{1, 0, 1}, []int{0, 2, 0})
	// Just the least one fills what is left, and of 1 less it does not fit.
	expectPatterns(t, []int{6, 4}, 10, []int{1, 1}, []int{0, 2})
	expectPatterns(t, []int{6, 4}, 9, []int{1, 0}, []int{0, 2})
}

func TestBadPatternSizes(t *testing.T) {
	for _, roll := range []int{1, 4, 10, impl.MaxRoll} {
		expectPatterns(t, nil, roll)
		expectPatterns(t, []int{}, roll)
	}
	expectPatterns(t, []int{1, 2, 3, 4}, 10)
	expectPatterns(t, []int{4, 3, 2, 1}, impl.MaxRoll)
	expectPatterns(t, []int{1, 2, 3, 4, 5, 6, 7}, impl.MaxRoll)
	expectPatterns(t, repeated(impl.MaxSizes+1, 2), 10)
	for size := 1; size <= impl.MaxRoll; size++ {
		other := impl.MaxRoll + 1 - size
		for _, twice := range [][]int{{size, size}, {size, size, other}, {size, other, size}, {other, size, size}, {size, size, size}} {
			expectPatterns(t, twice, impl.MaxRoll)
		}
	}
	// Only some of the sizes fit on a roll.
	for roll := 1; roll < impl.MaxRoll; roll++ {
		for _, tooLong := range [][]int{{roll + 1}, {1, roll + 1}, {roll + 1, 1}, {roll, roll + 1}, {roll + 2, roll + 1}} {
			expectPatterns(t, tooLong, roll)
		}
	}
}

func TestRollsTried(t *testing.T) {
	for _, c := range someCuts() {
		expectRolls(t, c, c.fewest(), c.least())
		expectKinds(t, c, c.byKind("first"), c.byKind("long"))
	}
}

func TestPatternsByCounts(t *testing.T) {
	forSizes(func(sizes []int, roll int) {
		expectPatterns(t, sizes, roll, patternsByCounts(sizes, roll)...)
	})
}

func TestP56CutsCanBeLeftOut(t *testing.T) {
	for _, c := range someCuts() {
		for n := len(c.list); n >= 0; n-- {
			if !impl.ValidCuts(c.list[:n], c.roll) {
				t.Fatalf("%v are no cuts of %d", c.list[:n], c.roll)
			}
		}
	}
}

func TestP57FewestRollsAreBetween(t *testing.T) {
	overLeast, underFirst, underLong := 0, 0, 0
	for _, c := range someCuts() {
		fewest, least := impl.FewestRolls(c.list, c.roll), impl.LeastRolls(c.list, c.roll)
		first, long := rollsIn(impl.RollsBy(c.list, c.roll, "first")), rollsIn(impl.RollsBy(c.list, c.roll, "long"))
		if least < 0 || fewest < least || fewest > first || fewest > long {
			t.Fatalf("of %v, %d: at least %d, the fewest %d, by first %d, by long %d", c.list, c.roll, least, fewest, first, long)
		}
		overLeast += fewest - least
		underFirst += first - fewest
		underLong += long - fewest
		if last := len(c.list) - 1; last >= 0 {
			if less := impl.FewestRolls(c.list[:last], c.roll); less > fewest || less < fewest-1 {
				t.Fatalf("FewestRolls(%v, %d) = %d, and without the last one %d", c.list, c.roll, fewest, less)
			}
		}
	}
	if overLeast < 50 || underFirst < 50 || underLong < 5 {
		t.Errorf("only so many rolls more than at least, by first, and by long: %d, %d, %d", overLeast, underFirst, underLong)
	}
}

func TestP58RollsHoldWhatIsCut(t *testing.T) {
	for _, c := range someCuts() {
		fewest := impl.FewestRolls(c.list, c.roll)
		for _, kind := range []string{"first", "long"} {
			at := impl.RollsBy(c.list, c.roll, kind)
			if len(at) != len(c.list) || slices.Min(append(slices.Clone(at), 0)) < 0 {
				t.Fatalf("RollsBy(%v, %d, %s) = %v", c.list, c.roll, kind, at)
			}
			for roll := range rollsIn(at) {
				if all := c.lengthOn(at, roll); all < 1 || all > c.roll {
					t.Fatalf("RollsBy(%v, %d, %s) = %v: roll %d has %d", c.list, c.roll, kind, at, roll, all)
				}
			}
			if kind == "first" && 10*rollsIn(at) > 17*fewest || kind == "long" && 9*rollsIn(at) > 11*fewest+6 {
				t.Fatalf("RollsBy(%v, %d, %s) = %v, and the fewest are %d", c.list, c.roll, kind, at, fewest)
			}
		}
	}
}

func TestP59LongCutsHaveRollsOfTheirOwn(t *testing.T) {
	for _, c := range someCuts() {
		least := impl.LeastRolls(c.list, c.roll)
		if least < len(c.longCuts()) || least*c.roll < sum(c.list) {
			t.Fatalf("LeastRolls(%v, %d) = %d", c.list, c.roll, least)
		}
	}
}

func TestP60PatternsAreFull(t *testing.T) {
	forSizes(func(sizes []int, roll int) {
		rows := impl.PatternsOf(sizes, roll)
		if len(rows) == 0 {
			t.Fatalf("PatternsOf(%v, %d) = %v", sizes, roll, rows)
		}
		for i, row := range rows {
			if len(row) != len(sizes) || slices.Min(row) < 0 || !isFull(row, sizes, roll) {
				t.Fatalf("PatternsOf(%v, %d) has %v", sizes, roll, row)
			}
			if i > 0 && slices.Compare(rows[i-1], row) <= 0 {
				t.Fatalf("PatternsOf(%v, %d) has %v behind %v", sizes, roll, row, rows[i-1])
			}
		}
	})
}

func TestP69TasksThatNeedNotWaitAreCuts(t *testing.T) {
	compared := 0
	for _, c := range someCuts() {
		if len(c.list) > impl.MaxTasks || slices.Max(append(slices.Clone(c.list), 0)) > impl.MaxTime {
			continue
		}
		compared++
		expectFewest(t, taskList{c.list, noneAhead(len(c.list))}, c.roll, impl.FewestRolls(c.list, c.roll))
	}
	for _, tasks := range someTasks() {
		for _, tact := range someTacts(tasks.times) {
			if tact <= impl.MaxRoll {
				compared++
				expectFewest(t, taskList{tasks.times, noneAhead(len(tasks.times))}, tact, impl.FewestRolls(tasks.times, tact))
			}
		}
	}
	if compared < 5000 {
		t.Errorf("only %d compared", compared)
	}
}

func TestP80CutsOfOneLengthAreCounted(t *testing.T) {
	for roll := 1; roll <= impl.MaxRoll; roll++ {
		for length := 1; length <= roll; length++ {
			for n := range impl.MaxCuts + 1 {
				c := cutList{repeated(n, length), roll}
				fit := roll / length
				at := repeated(n, 0)
				for i := range at {
					at[i] = i / fit
				}
				if got, want := impl.FewestRolls(c.list, roll), (n+fit-1)/fit; got != want || rollsIn(at) != want {
					t.Errorf("FewestRolls(%v, %d) = %d, want %d", c.list, roll, got, want)
				}
				expectKinds(t, c, at, at)
			}
		}
	}
}

func TestP81OneSizeHasOnePattern(t *testing.T) {
	for roll := 1; roll <= impl.MaxRoll; roll++ {
		for size := 1; size <= roll; size++ {
			expectPatterns(t, []int{size}, roll, []int{roll / size})
		}
	}
	forSizes(func(sizes []int, roll int) {
		rows := impl.PatternsOf(sizes, roll)
		if len(rows) == 0 {
			t.Fatalf("PatternsOf(%v, %d) = %v", sizes, roll, rows)
		}
		last := rows[len(rows)-1]
		if times(last, sizes) > roll {
			t.Fatalf("PatternsOf(%v, %d) ends with %v", sizes, roll, last)
		}
		var list []int
		for i, count := range last {
			list = append(list, repeated(count, sizes[i])...)
		}
		if got := impl.FewestRolls(list, roll); got != 1 && len(list) <= impl.MaxCuts {
			t.Fatalf("FewestRolls(%v, %d) = %d, of the last one of PatternsOf(%v, %d)", list, roll, got, sizes, roll)
		}
	})
}

// cutCalls returns calls of all functions of cuts, with the lengths.
func cutCalls(roll int) map[string]func(lists [][]int) []int {
	return map[string]func(lists [][]int) []int{
		"ValidCuts": func(lists [][]int) []int {
			if impl.ValidCuts(lists[0], roll) {
				return []int{1}
			}
			return nil
		},
		"FewestRolls":     func(lists [][]int) []int { return []int{impl.FewestRolls(lists[0], roll)} },
		"RollsBy first":   func(lists [][]int) []int { return impl.RollsBy(lists[0], roll, "first") },
		"RollsBy long":    func(lists [][]int) []int { return impl.RollsBy(lists[0], roll, "long") },
		"RollsBy no kind": func(lists [][]int) []int { return impl.RollsBy(lists[0], roll, "") },
		"LeastRolls":      func(lists [][]int) []int { return []int{impl.LeastRolls(lists[0], roll)} },
	}
}

func TestCutsShareNoMemory(t *testing.T) {
	cuts := someCuts()
	for _, bad := range badCuts() {
		cuts = append(cuts, bad)
	}
	for _, c := range cuts {
		for name, call := range cutCalls(c.roll) {
			checkMemory(t, name, [][]int{c.list}, call)
		}
		checkGroupsMemory(t, "PatternsOf", nil, c.list, func(groups [][][]int, list []int) [][]int {
			return impl.PatternsOf(list, c.roll)
		})
	}
}
