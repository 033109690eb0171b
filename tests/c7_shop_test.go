package tests

import (
	"math"
	"math/rand/v2"
	"slices"
	"testing"

	"loop.example/shopsthatmake/impl"
)

// machineLists returns all lists of machines none of which is there twice.
func machineLists() [][]int {
	var lists [][]int
	for n := range impl.MaxMachines + 1 {
		for _, list := range allLists(n, inOrder(impl.MaxMachines)...) {
			if !hasTwice(list) {
				lists = append(lists, list)
			}
		}
	}
	return lists
}

// hasTwice reports whether a number is in the list twice.
func hasTwice(list []int) bool {
	for i, n := range list {
		if slices.Contains(list[:i], n) {
			return true
		}
	}
	return false
}

// jobsOfSteps returns all jobs of at most so many steps with these times.
func jobsOfSteps(most int, times ...int) [][][]int {
	var jobs [][][]int
	for _, machines := range machineLists() {
		if len(machines) > most {
			continue
		}
		for _, list := range allLists(len(machines), times...) {
			jobs = append(jobs, paired(machines, list))
		}
	}
	return jobs
}

// randomShop returns a shop with these machines for each job, and times up to
// the limit.
func randomShop(r *rand.Rand, limit int, machines ...[]int) [][][]int {
	var shop [][][]int
	for _, list := range machines {
		shop = append(shop, paired(list, randomTimes(r, len(list), limit)))
	}
	return shop
}

// shopOf returns the shop with these machines for each job, and one time for
// all steps.
func shopOf(time int, machines ...[]int) [][][]int {
	var shop [][][]int
	for _, list := range machines {
		shop = append(shop, paired(list, repeated(len(list), time)))
	}
	return shop
}

// someShops returns shops: no jobs, jobs without steps, all of one job and of
// two with few times, and of three jobs with all machines in each order some
// with the same times, with few, and with others.
func someShops() [][][][]int {
	shops := [][][][]int{nil, {{}, {}}, {{}, {}, {}}}
	for _, job := range jobsOfSteps(3, 1, 2, impl.MaxTime) {
		shops = append(shops, [][][]int{job})
	}
	for _, first := range jobsOfSteps(2, 1, 3) {
		for _, second := range jobsOfSteps(2, 1, 3) {
			shops = append(shops, [][][]int{first, second})
		}
	}
	r := fixedRandom()
	for i, first := range machineLists() {
		for j, second := range machineLists() {
			shops = append(shops, randomShop(r, impl.MaxTime, first, second))
			for k, third := range machineLists() {
				limit := []int{1, 2, impl.MaxTime}[(i+j+k)%3]
				shops = append(shops, randomShop(r, limit, first, second, third))
			}
		}
	}
	return shops
}

// counts returns how many steps each job has.
func counts(shop [][][]int) []int {
	var list []int
	for _, job := range shop {
		list = append(list, len(job))
	}
	return list
}

// work returns the times of all steps of the job, together.
func work(job [][]int) int {
	return sum(timesOn(job, 1))
}

// knownTurns keeps what turnsOf made for each number of steps.
var knownTurns = map[[impl.MaxShop]int][][]int{}

// turnsOf returns all turns of the shop, ascending.
func turnsOf(shop [][][]int) [][]int {
	var key [impl.MaxShop]int
	copy(key[:], counts(shop))
	if _, ok := knownTurns[key]; !ok {
		knownTurns[key] = allTurns(key[:])
	}
	return knownTurns[key]
}

// allTurns returns all turns with so many of each job, ascending: those of the
// last job are put to all places among those of the others.
func allTurns(counts []int) [][]int {
	if len(counts) == 0 {
		return [][]int{{}}
	}
	job := len(counts) - 1
	all := allTurns(counts[:job])
	for range counts[job] {
		var longer [][]int
		for _, turns := range all {
			for place := slices.Index(append(slices.Clone(turns), job), job); place >= 0; place-- {
				longer = append(longer, slices.Insert(slices.Clone(turns), place, job))
			}
		}
		all = longer
	}
	slices.SortFunc(all, slices.Compare)
	return all
}

// someTurns returns all turns of few steps, and of more the first ones, the
// last ones, and others.
func someTurns(r *rand.Rand, shop [][][]int) [][]int {
	all := turnsOf(shop)
	if len(all) <= 6 {
		return all
	}
	some := [][]int{all[0], all[len(all)-1]}
	for range 4 {
		some = append(some, all[r.IntN(len(all))])
	}
	return some
}

// timesByTurns returns for each job when its steps begin, and when all are
// done: each turn waits for all turns ahead of it of its job or its machine.
func timesByTurns(shop [][][]int, turns []int) ([][]int, int) {
	begins, last := make([][]int, len(shop)), 0
	var machines, ends []int
	for place, job := range turns {
		step := shop[job][len(begins[job])]
		begin := 0
		for ahead := range place {
			if turns[ahead] == job || machines[ahead] == step[0] {
				begin = max(begin, ends[ahead])
			}
		}
		begins[job] = append(begins[job], begin)
		machines, ends = append(machines, step[0]), append(ends, begin+step[1])
		last = max(last, begin+step[1])
	}
	return begins, last
}

// bestOfTurns returns the first of all turns for which all is done first, and
// when.
func bestOfTurns(shop [][][]int) ([]int, int) {
	var best []int
	least := math.MaxInt
	for _, turns := range turnsOf(shop) {
		if _, end := timesByTurns(shop, turns); end < least {
			best, least = turns, end
		}
	}
	return best, least
}

// leastBySums returns the greatest one of the times of a job or a machine.
func leastBySums(shop [][][]int) int {
	all := []int{0}
	for _, job := range shop {
		all = append(all, work(job))
	}
	for machine := range impl.MaxMachines {
		sum := 0
		for _, step := range slices.Concat(shop...) {
			if step[0] == machine {
				sum += step[1]
			}
		}
		all = append(all, sum)
	}
	return slices.Max(all)
}

// mostByWork returns the turns by the most work that is left.
func mostByWork(shop [][][]int) []int {
	var turns []int
	left := slices.Clone(shop)
	for sum(counts(left)) > 0 {
		var works []int
		for _, job := range left {
			works = append(works, work(job))
		}
		job := slices.Index(works, slices.Max(works))
		turns = append(turns, job)
		left[job] = left[job][1:]
	}
	return turns
}

// expectTimes fails the test if ShopTimes is not what is wanted.
func expectTimes(t *testing.T, shop [][][]int, turns []int, end int, begins ...[]int) {
	t.Helper()
	if got, done := impl.ShopTimes(shop, turns); done != end || !sameRows(got, begins) {
		t.Errorf("ShopTimes(%v, %v) = %v, %d, want %v, %d", shop, turns, got, done, begins, end)
	}
}

// expectNoTimes fails the test if ShopTimes takes the turns.
func expectNoTimes(t *testing.T, shop [][][]int, turns []int) {
	t.Helper()
	if got, done := impl.ShopTimes(shop, turns); done != -1 || got != nil {
		t.Errorf("ShopTimes(%v, %v) = %v, %d", shop, turns, got, done)
	}
}

// expectBestTurns fails the test if BestTurns is not what is wanted.
func expectBestTurns(t *testing.T, shop [][][]int, end int, turns ...int) {
	t.Helper()
	if got, done := impl.BestTurns(shop); done != end || !same(got, turns) {
		t.Errorf("BestTurns(%v) = %v, %d, want %v, %d", shop, got, done, turns, end)
	}
}

// expectMost fails the test if MostTurns is not what is wanted.
func expectMost(t *testing.T, shop [][][]int, turns ...int) {
	t.Helper()
	if got := impl.MostTurns(shop); !same(got, turns) {
		t.Errorf("MostTurns(%v) = %v, want %v", shop, got, turns)
	}
}

// expectLeastShop fails the test if LeastShop is not what is wanted, or the
// lists are no shop.
func expectLeastShop(t *testing.T, shop [][][]int, want int) {
	t.Helper()
	if !impl.ValidShop(shop) {
		t.Errorf("%v are no shop", shop)
	}
	if got := impl.LeastShop(shop); got != want {
		t.Errorf("LeastShop(%v) = %d, want %d", shop, got, want)
	}
}

// expectNoShop fails the test if a function of shops takes the lists, with any
// turns that would be theirs, or others.
func expectNoShop(t *testing.T, what string, shop [][][]int) {
	t.Helper()
	if impl.ValidShop(shop) {
		t.Errorf("%s: %v are a shop", what, shop)
	}
	if got, done := impl.BestTurns(shop); got != nil || done != -1 {
		t.Errorf("%s: BestTurns(%v) = %v, %d", what, shop, got, done)
	}
	if got := impl.LeastShop(shop); got != -1 {
		t.Errorf("%s: LeastShop(%v) = %d", what, shop, got)
	}
	if got := impl.MostTurns(shop); got != nil {
		t.Errorf("%s: MostTurns(%v) = %v", what, shop, got)
	}
	var turns []int
	for job, steps := range shop {
		turns = append(turns, repeated(len(steps), job)...)
	}
	for _, list := range [][]int{turns, backward(turns), nil, {}, {0}, {-1}} {
		expectNoTimes(t, shop, list)
	}
}

func TestLimitsOfShops(t *testing.T) {
	if impl.MaxShop != 3 || impl.MaxMachines != 3 || impl.MaxTime != 9 {
		t.Errorf("limits = %d, %d, %d", impl.MaxShop, impl.MaxMachines, impl.MaxTime)
	}
}

func TestShopOfJobs(t *testing.T) {
	shop := [][][]int{{{0, 3}, {1, 2}, {2, 2}}, {{0, 2}, {2, 1}, {1, 4}}, {{1, 4}, {2, 3}}}
	expectTimes(t, shop, []int{0, 1, 2, 1, 0, 1, 2, 0}, 11, []int{0, 4, 9}, []int{3, 5, 6}, []int{0, 6})
	expectTimes(t, shop, []int{0, 0, 0, 1, 1, 1, 2, 2}, 19, []int{0, 3, 5}, []int{3, 7, 8}, []int{12, 16})
	expectTimes(t, shop, []int{2, 2, 1, 1, 1, 0, 0, 0}, 16, []int{2, 12, 14}, []int{0, 7, 8}, []int{0, 4})
	expectBestTurns(t, shop, 11, 0, 1, 1, 2, 0, 0, 1, 2)
	expectMost(t, shop, 0, 1, 2, 1, 0, 1, 2, 0)
	expectLeastShop(t, shop, 10)
	few := [][][]int{{{0, 3}, {1, 2}}, {{1, 4}, {0, 1}}}
	expectTimes(t, few, []int{0, 1, 0, 1}, 6, []int{0, 4}, []int{0, 4})
	expectTimes(t, few, []int{1, 1, 0, 0}, 10, []int{5, 8}, []int{0, 4})
	expectBestTurns(t, few, 6, 0, 1, 0, 1)
	expectMost(t, few, 0, 1, 0, 1)
	expectLeastShop(t, few, 6)
}

// A step never begins ahead of what was put to its machine ahead of it, even
// where there is room.
func TestStepsAreNotPutBetween(t *testing.T) {
	shop := [][][]int{{{0, 5}, {1, 1}}, {{1, 2}}}
	expectTimes(t, shop, []int{0, 0, 1}, 8, []int{0, 5}, []int{6})
	expectTimes(t, shop, []int{0, 1, 0}, 6, []int{0, 5}, []int{0})
	expectTimes(t, shop, []int{1, 0, 0}, 6, []int{0, 5}, []int{0})
	expectBestTurns(t, shop, 6, 0, 1, 0)
	expectMost(t, shop, 0, 1, 0)
	expectLeastShop(t, shop, 6)
}

// The most work first need not be best, and the best turns need not be done as
// soon as LeastShop.
func TestMostTurnsThatAreNotBest(t *testing.T) {
	shop := [][][]int{{{0, 9}}, {{0, 1}, {1, 7}}}
	expectMost(t, shop, 0, 1, 1)
	expectTimes(t, shop, []int{0, 1, 1}, 17, []int{0}, []int{9, 10})
	expectBestTurns(t, shop, 10, 1, 0, 1)
	expectTimes(t, shop, []int{1, 0, 1}, 10, []int{1}, []int{0, 1})
	expectLeastShop(t, shop, 10)
	behind := [][][]int{{{0, 2}, {1, 3}}, {{0, 2}, {1, 3}}}
	expectMost(t, behind, 0, 1, 0, 1)
	expectBestTurns(t, behind, 8, 0, 0, 1, 1)
	expectLeastShop(t, behind, 6)
}

func TestNoJobsOfShop(t *testing.T) {
	for _, none := range [][][][]int{nil, {}} {
		expectLeastShop(t, none, 0)
		expectMost(t, none)
		expectBestTurns(t, none, 0)
		for _, turns := range [][]int{nil, {}} {
			expectTimes(t, none, turns, 0)
		}
		for _, turns := range [][]int{{0}, {-1}, {1}, {0, 0}, {math.MinInt}, {math.MaxInt}} {
			expectNoTimes(t, none, turns)
		}
	}
}

func TestJobsWithoutSteps(t *testing.T) {
	// None of the jobs has steps.
	for n := 1; n <= impl.MaxShop; n++ {
		for _, steps := range [][][]int{nil, {}} {
			shop := slices.Repeat([][][]int{steps}, n)
			expectLeastShop(t, shop, 0)
			expectMost(t, shop)
			expectBestTurns(t, shop, 0)
			for _, turns := range [][]int{nil, {}} {
				expectTimes(t, shop, turns, 0, make([][]int, n)...)
			}
			for _, turns := range [][]int{{0}, {n - 1}, {n}, {-1}, inOrder(n)} {
				expectNoTimes(t, shop, turns)
			}
		}
	}
	// One of them has none, beside others.
	first := [][][]int{{}, {{0, 3}}, {{0, 2}, {1, 1}}}
	expectTimes(t, first, []int{1, 2, 2}, 6, nil, []int{0}, []int{3, 5})
	expectBestTurns(t, first, 5, 2, 1, 2)
	expectMost(t, first, 1, 2, 2)
	expectLeastShop(t, first, 5)
	second := [][][]int{{{0, 3}}, nil, {{0, 2}, {1, 1}}}
	expectTimes(t, second, []int{2, 0, 2}, 5, []int{2}, nil, []int{0, 2})
	expectTimes(t, second, []int{2, 2, 0}, 5, []int{2}, nil, []int{0, 2})
	expectBestTurns(t, second, 5, 2, 0, 2)
	expectMost(t, second, 0, 2, 2)
	expectLeastShop(t, second, 5)
	last := [][][]int{{{0, 3}}, {{0, 2}, {1, 1}}, {}}
	expectTimes(t, last, []int{0, 1, 1}, 6, []int{0}, []int{3, 5}, nil)
	expectBestTurns(t, last, 5, 1, 0, 1)
	expectMost(t, last, 0, 1, 1)
	expectLeastShop(t, last, 5)
	for job, shop := range [][][][]int{first, second, last} {
		for _, turns := range [][]int{nil, repeated(3, job), {0, 1, 2}, {job, 0, 2, 2}} {
			expectNoTimes(t, shop, turns)
		}
	}
}

func TestAllStepsOnOneMachine(t *testing.T) {
	for machine := range impl.MaxMachines {
		shop := [][][]int{{{machine, 3}}, {{machine, 5}}, {{machine, 2}}}
		expectTimes(t, shop, []int{0, 1, 2}, 10, []int{0}, []int{3}, []int{8})
		expectTimes(t, shop, []int{2, 0, 1}, 10, []int{2}, []int{5}, []int{0})
		expectTimes(t, shop, []int{1, 2, 0}, 10, []int{7}, []int{0}, []int{5})
		expectBestTurns(t, shop, 10, 0, 1, 2)
		expectMost(t, shop, 1, 0, 2)
		expectLeastShop(t, shop, 10)
		most := shopOf(impl.MaxTime, []int{machine}, []int{machine}, []int{machine})
		expectTimes(t, most, []int{2, 1, 0}, 27, []int{18}, []int{9}, []int{0})
		expectBestTurns(t, most, 27, 0, 1, 2)
		expectMost(t, most, 0, 1, 2)
		expectLeastShop(t, most, 27)
	}
}

func TestOneJobOfShop(t *testing.T) {
	expectTimes(t, [][][]int{{{2, 4}, {0, 1}, {1, 9}}}, []int{0, 0, 0}, 14, []int{0, 4, 5})
	for _, job := range jobsOfSteps(impl.MaxMachines, 1, 2, impl.MaxTime) {
		shop, n := [][][]int{job}, len(job)
		begins := append([]int{0}, upTo(timesOn(job, 1))...)[:n]
		expectTimes(t, shop, repeated(n, 0), work(job), begins)
		expectBestTurns(t, shop, work(job), repeated(n, 0)...)
		expectMost(t, shop, repeated(n, 0)...)
		expectLeastShop(t, shop, work(job))
		expectNoTimes(t, shop, repeated(n+1, 0))
		if n > 0 {
			expectNoTimes(t, shop, repeated(n-1, 0))
			expectNoTimes(t, shop, repeated(n, 1))
			expectNoTimes(t, shop, repeated(n, -1))
		}
	}
}

func TestMostStepsOfShop(t *testing.T) {
	// Each machine is used all of the time.
	round := shopOf(impl.MaxTime, []int{0, 1, 2}, []int{1, 2, 0}, []int{2, 0, 1})
	full := []int{0, 9, 18}
	expectTimes(t, round, []int{0, 1, 2, 0, 1, 2, 0, 1, 2}, 27, full, full, full)
	expectTimes(t, round, []int{2, 2, 2, 1, 1, 1, 0, 0, 0}, 81, []int{54, 63, 72}, []int{27, 36, 45}, full)
	expectBestTurns(t, round, 27, 0, 1, 0, 2, 1, 0, 2, 1, 2)
	expectMost(t, round, 0, 1, 2, 0, 1, 2, 0, 1, 2)
	expectLeastShop(t, round, 27)
	// All go the same way.
	row := shopOf(impl.MaxTime, []int{0, 1, 2}, []int{0, 1, 2}, []int{0, 1, 2})
	expectTimes(t, row, []int{0, 1, 2, 0, 1, 2, 0, 1, 2}, 45, full, []int{9, 18, 27}, []int{18, 27, 36})
	expectBestTurns(t, row, 45, 0, 0, 0, 1, 1, 1, 2, 2, 2)
	expectMost(t, row, 0, 1, 2, 0, 1, 2, 0, 1, 2)
	expectLeastShop(t, row, 27)
	for n := range impl.MaxShop + 1 {
		if !impl.ValidShop(row[:n]) {
			t.Errorf("%d jobs are no shop", n)
		}
	}
}

func TestTurnsDoneAtTheSameTime(t *testing.T) {
	// No job waits for another one, so all turns are done at once.
	apart := [][][]int{{{2, 4}}, {{0, 1}, {1, 3}}}
	for _, turns := range turnsOf(apart) {
		expectTimes(t, apart, turns, 4, []int{0}, []int{0, 1})
	}
	expectBestTurns(t, apart, 4, 0, 1, 1)
	expectBestTurns(t, [][][]int{apart[1], apart[0]}, 4, 0, 0, 1)
	// Any order on the machine, and any place of what is on another one.
	expectBestTurns(t, [][][]int{{{0, 1}}, {{0, 1}}, {{1, 1}}}, 2, 0, 1, 2)
	expectBestTurns(t, [][][]int{{{0, 1}, {1, 1}}, {{1, 1}, {0, 1}}, {{2, 9}}}, 9, 0, 0, 1, 1, 2)
	// Those done first are the same, but for the place of the last step.
	expectBestTurns(t, [][][]int{{{0, 1}, {1, 1}}, {{1, 1}, {0, 1}}, {{2, 1}}}, 2, 0, 1, 0, 1, 2)
	expectBestTurns(t, [][][]int{{{2, 1}}, {{0, 1}, {1, 1}}, {{1, 1}, {0, 1}}}, 2, 0, 1, 2, 1, 2)
	// What differs first counts, whatever comes behind it.
	expectBestTurns(t, [][][]int{{{1, 5}}, {{0, 2}}, {{0, 2}, {1, 5}}}, 10, 0, 1, 2, 2)
	expectBestTurns(t, [][][]int{{{1, 5}}, {{0, 6}}, {{0, 2}, {1, 5}}}, 10, 0, 2, 1, 2)
}

func TestJobsWithTheSameWorkLeft(t *testing.T) {
	expectMost(t, [][][]int{{{0, 1}}, {{1, 1}}, {{2, 1}}}, 0, 1, 2)
	expectMost(t, [][][]int{{{0, 2}}, {{1, 3}}, {{2, 3}}}, 1, 2, 0)
	expectMost(t, [][][]int{{{0, 3}}, {{1, 2}}, {{2, 3}}}, 0, 2, 1)
	expectMost(t, [][][]int{{{0, 3}}, {{1, 3}}, {{2, 2}}}, 0, 1, 2)
	// The work is the same, the steps are not.
	expectMost(t, [][][]int{{{0, 4}}, {{1, 1}, {2, 3}}, {{2, 3}, {1, 1}}}, 0, 1, 2, 1, 2)
	expectMost(t, [][][]int{{{0, 1}, {1, 1}, {2, 2}}, {{1, 3}, {2, 1}}, {{2, 4}}}, 0, 1, 2, 0, 0, 1)
	// It comes to be the same behind some steps.
	expectMost(t, [][][]int{{{0, 2}, {1, 3}}, {{1, 3}}, {{2, 1}, {0, 3}}}, 0, 2, 0, 1, 2)
	expectMost(t, [][][]int{{{0, 3}}, {{1, 2}, {0, 3}}, {{2, 1}, {1, 3}}}, 1, 2, 0, 1, 2)
	for _, machines := range machineLists() {
		var want []int
		for range machines {
			want = append(want, 0, 1, 2)
		}
		expectMost(t, shopOf(4, machines, machines, machines), want...)
		expectMost(t, shopOf(4, machines, backward(machines), machines), want...)
	}
}

func TestBadShops(t *testing.T) {
	job := [][]int{{0, 1}, {1, 1}}
	bad := map[string][][][]int{
		"one job too many":          slices.Repeat([][][]int{job}, impl.MaxShop+1),
		"one too many of no steps":  make([][][]int, impl.MaxShop+1),
		"many jobs too many":        slices.Repeat([][][]int{job}, 70),
		"one of no steps too many":  {job, job, job, {}},
		"only a step that is nil":   {{nil}},
		"only a step that is empty": {{{}}},
		"a step that is nil":        {job, {{0, 1}, nil}, job},
		"a step that is empty":      {job, {{}, {0, 1}}, job},
		"only a step of one number": {{{0}}},
		"a step of one number":      {{{0, 1}, {1}, {2, 1}}},
		"a step of three numbers":   {{{0, 1}, {1, 1, 1}}},
		"a step of many numbers":    {{repeated(70, 1)}},
		"steps of other lengths":    {{{0}, {1, 1, 1}}},
		"first machine twice":       {{{0, 1}, {0, 1}}},
		"last machine twice":        {job, job, {{2, 1}, {1, 1}, {2, 9}}},
		"one step too many":         {{{0, 1}, {1, 1}, {2, 1}, {0, 1}}},
		"a machine too many":        {{{0, 1}, {1, 1}, {2, 1}, {3, 1}}},
		"many steps too many":       {slices.Repeat([][]int{{0, 1}}, 70)},
		"a time of 0":               {{{0, 0}}},
		"a time too great":          {{{0, impl.MaxTime + 1}}},
		"all of 0":                  {{{0, 0}, {0, 0}}, {{0, 0}}},
	}
	for name, shop := range bad {
		expectNoShop(t, name, shop)
	}
}

func TestStepsOfBadShops(t *testing.T) {
	limits := [][]int{{0, impl.MaxMachines - 1}, {1, impl.MaxTime}}
	fullShop := func() [][][]int {
		return shopOf(2, []int{0, 1, 2}, []int{2, 0, 1}, []int{1, 0, 2})
	}
	for job := range impl.MaxShop {
		for step := range impl.MaxMachines {
			for number, limit := range limits {
				for _, bad := range append(outOf(limit[0], limit[1]), 64, -64, 1<<32) {
					shop := fullShop()
					shop[job][step][number] = bad
					expectNoShop(t, "a number", shop)
				}
			}
			for _, other := range inOrder(impl.MaxMachines) {
				shop := fullShop()
				if shop[job][step][0] != other {
					shop[job][step][0] = other
					expectNoShop(t, "a machine twice", shop)
				}
			}
			for _, bad := range [][]int{nil, {}, {0}, {0, 1, 1}} {
				shop := fullShop()
				shop[job][step] = bad
				expectNoShop(t, "a step", shop)
			}
		}
	}
}

// Of all jobs of few numbers just those with each machine once are taken.
func TestMachinesOfJobs(t *testing.T) {
	for n := range impl.MaxMachines + 2 {
		for _, machines := range allLists(n, -1, 0, 1, 2, 3) {
			shop := shopOf(1, machines)
			if hasTwice(machines) || slices.Contains(machines, -1) || slices.Contains(machines, impl.MaxMachines) {
				expectNoShop(t, "machines", shop)
			} else {
				expectLeastShop(t, shop, n)
			}
		}
	}
	for time := -2; time <= impl.MaxTime+2; time++ {
		shop := shopOf(time, []int{1})
		if want := time >= 1 && time <= impl.MaxTime; impl.ValidShop(shop) != want {
			t.Errorf("ValidShop(%v) is not %t", shop, want)
		}
	}
}

// Of all lists of few numbers just the turns are taken.
func TestListsThatAreNoTurns(t *testing.T) {
	shops := [][][][]int{
		nil,
		{{}},
		shopOf(1, []int{0}),
		shopOf(2, []int{0, 1}, []int{1}),
		shopOf(2, []int{1}, nil, []int{1, 2}),
		shopOf(3, []int{0}, []int{1}, []int{2}),
		shopOf(1, []int{2, 1}, []int{0, 2}),
		shopOf(1, []int{0, 1, 2}, nil, []int{1}),
	}
	for _, shop := range shops {
		for length := range 6 {
			for _, list := range allLists(length, -1, 0, 1, 2, 3) {
				if slices.ContainsFunc(turnsOf(shop), func(turns []int) bool { return same(turns, list) }) {
					begins, end := timesByTurns(shop, list)
					expectTimes(t, shop, list, end, begins...)
				} else {
					expectNoTimes(t, shop, list)
				}
			}
		}
	}
}

// badTurns returns lists that are no turns of a shop of which these are: too
// few, too many, with a job too often, and with a number that is no job's.
func badTurns(turns []int, jobs int) [][]int {
	n := len(turns)
	bad := [][]int{nil, turns[:n-1], turns[1:], slices.Concat(turns, turns), slices.Concat(turns, repeated(1000, 0))}
	others := append(outOf(0, jobs-1), 64, -64, 1<<32, math.MinInt+1)
	others = append(others, inOrder(impl.MaxShop+1)...)
	for _, other := range others {
		bad = append(bad, append(slices.Clone(turns), other), append([]int{other}, turns...))
	}
	for place := range turns {
		bad = append(bad, changedAt(turns, place, others)...)
	}
	return bad
}

func TestBadTurns(t *testing.T) {
	r := fixedRandom()
	for i, shop := range someShops() {
		if i%20 != 0 || sum(counts(shop)) == 0 {
			continue
		}
		for _, turns := range someTurns(r, shop) {
			for _, bad := range badTurns(turns, len(shop)) {
				expectNoTimes(t, shop, bad)
			}
		}
	}
}

func TestP35JobsCanBeLeftOutOfAShop(t *testing.T) {
	for _, shop := range someShops() {
		if !impl.ValidShop(shop) {
			t.Fatalf("%v are no shop", shop)
		}
		if n := len(shop); n > 0 && !impl.ValidShop(shop[:n-1]) {
			t.Fatalf("%v without the last job are no shop", shop)
		}
	}
}

// checkTimes fails the test if a step begins too early, or if not all are done
// at the end.
func checkTimes(t *testing.T, shop [][][]int, turns []int, begins [][]int, end int) {
	t.Helper()
	last := 0
	used := map[[2]int]bool{}
	for job, steps := range shop {
		ready := 0
		if len(begins[job]) != len(steps) {
			t.Fatalf("ShopTimes(%v, %v) = %v", shop, turns, begins)
		}
		for i, step := range steps {
			if begins[job][i] < ready {
				t.Fatalf("ShopTimes(%v, %v) = %v, too early", shop, turns, begins)
			}
			ready = begins[job][i] + step[1]
			for time := begins[job][i]; time < ready; time++ {
				if used[[2]int{step[0], time}] {
					t.Fatalf("ShopTimes(%v, %v) = %v, with two on a machine at once", shop, turns, begins)
				}
				used[[2]int{step[0], time}] = true
			}
		}
		last = max(last, ready)
	}
	if end != last || end < impl.LeastShop(shop) {
		t.Fatalf("ShopTimes(%v, %v) = %v, %d", shop, turns, begins, end)
	}
}

func TestP36NoStepBeginsTooEarly(t *testing.T) {
	r := fixedRandom()
	for _, shop := range someShops() {
		for _, turns := range someTurns(r, shop) {
			begins, end := impl.ShopTimes(shop, turns)
			if len(begins) != len(shop) {
				t.Fatalf("ShopTimes(%v, %v) = %v, %d", shop, turns, begins, end)
			}
			checkTimes(t, shop, turns, begins, end)
			wanted, done := timesByTurns(shop, turns)
			expectTimes(t, shop, turns, done, wanted...)
		}
	}
}

func TestP37TheBestTurnsAreBest(t *testing.T) {
	for _, shop := range someShops() {
		turns, end := impl.BestTurns(shop)
		_, done := impl.ShopTimes(shop, turns)
		_, byMost := impl.ShopTimes(shop, impl.MostTurns(shop))
		if done != end || end > byMost || end < impl.LeastShop(shop) {
			t.Fatalf("BestTurns(%v) = %v, %d, done at %d, and by MostTurns at %d", shop, turns, end, done, byMost)
		}
	}
}

func TestBestOfAllTurns(t *testing.T) {
	for _, shop := range someShops() {
		turns, end := bestOfTurns(shop)
		expectBestTurns(t, shop, end, turns...)
	}
}

func TestP38TheLeastTimeIsOneOfAJobOrAMachine(t *testing.T) {
	for _, shop := range someShops() {
		least := impl.LeastShop(shop)
		expectLeastShop(t, shop, leastBySums(shop))
		for _, job := range shop {
			expectLeastShop(t, [][][]int{job}, work(job))
		}
		if n := len(shop); n > 0 && impl.LeastShop(shop[:n-1]) > least {
			t.Fatalf("LeastShop(%v) = %d, and without the last job more", shop, least)
		}
	}
}

func TestP39TurnsAreOfAllSteps(t *testing.T) {
	for _, shop := range someShops() {
		turns := impl.MostTurns(shop)
		expectMost(t, shop, mostByWork(shop)...)
		if len(turns) != sum(counts(shop)) {
			t.Fatalf("MostTurns(%v) = %v", shop, turns)
		}
		for job, steps := range shop {
			often := 0
			for _, turn := range turns {
				if turn == job {
					often++
				}
			}
			if often != len(steps) || work(steps) > 0 && work(steps) > work(shop[turns[0]]) {
				t.Fatalf("MostTurns(%v) = %v", shop, turns)
			}
		}
	}
}

func TestP70TwoMachinesAreAShop(t *testing.T) {
	r := fixedRandom()
	pairs := append(fewJobs(1, 1, 2, impl.MaxTime), fewJobs(2, 1, 2, 5)...)
	pairs = append(pairs, fewJobs(3, 1, 3)...)
	for range 200 {
		n := 1 + r.IntN(impl.MaxShop)
		pairs = append(pairs, paired(randomTimes(r, n, impl.MaxTime), randomTimes(r, n, impl.MaxTime)))
	}
	for _, jobs := range append(pairs, nil) {
		for _, machines := range machineLists() {
			if len(machines) != 2 {
				continue
			}
			var shop [][][]int
			for _, times := range jobs {
				shop = append(shop, paired(machines, times))
			}
			_, end := impl.BestTurns(shop)
			if span := impl.SpanTried(jobs); end != span || impl.LeastShop(shop) > span {
				t.Fatalf("BestTurns(%v) is done at %d, SpanTried(%v) = %d, LeastShop %d", shop, end, jobs, span, impl.LeastShop(shop))
			}
		}
	}
}

// shopCalls returns calls of all functions of shops.
func shopCalls() map[string]func(shop [][][]int, turns []int) [][]int {
	number := map[bool]int{true: 1}
	return map[string]func(shop [][][]int, turns []int) [][]int{
		"ValidShop": func(shop [][][]int, _ []int) [][]int { return [][]int{{number[impl.ValidShop(shop)]}} },
		"ShopTimes": func(shop [][][]int, turns []int) [][]int {
			begins, end := impl.ShopTimes(shop, turns)
			if len(begins) == 0 {
				return [][]int{{end}}
			}
			return begins
		},
		"BestTurns": func(shop [][][]int, _ []int) [][]int {
			turns, end := impl.BestTurns(shop)
			return [][]int{turns, {end}}
		},
		"LeastShop": func(shop [][][]int, _ []int) [][]int { return [][]int{{impl.LeastShop(shop)}} },
		"MostTurns": func(shop [][][]int, _ []int) [][]int { return [][]int{impl.MostTurns(shop)} },
	}
}

func TestShopsShareNoMemory(t *testing.T) {
	bad := [][][][]int{
		make([][][]int, impl.MaxShop+1),
		{{{0, 1}, {1}}, {{2, 2}}},
		{{{0, 1}, {1, 1, 1}}},
		{{{2, 2}}, {{0, 1}, {0, 1}}},
		{{{0, 1}, {impl.MaxMachines, 1}}},
		{{{0, 1}, {1, impl.MaxTime + 1}}},
	}
	for name, call := range shopCalls() {
		for _, shop := range bad {
			checkGroupsMemory(t, name, shop, []int{1, 0}, call)
		}
		for i, shop := range someShops() {
			if i%4 != 0 {
				continue
			}
			all := turnsOf(shop)
			first, last := all[0], all[len(all)-1]
			for _, turns := range [][]int{first, last, append(slices.Clone(last), 0), {1, 0, -1}} {
				checkGroupsMemory(t, name, shop, turns, call)
			}
		}
	}
}
