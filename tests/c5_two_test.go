package tests

import (
	"math"
	"math/rand/v2"
	"slices"
	"testing"

	"loop.example/shopsthatmake/impl"
)

// inOrder returns the order of n jobs in which they are counted.
func inOrder(n int) []int {
	var order []int
	for job := range n {
		order = append(order, job)
	}
	return order
}

// ordersOf returns all orders of n jobs: the last one is put to each place of
// the orders of the others.
func ordersOf(n int) [][]int {
	if n == 0 {
		return [][]int{{}}
	}
	var all [][]int
	for _, order := range ordersOf(n - 1) {
		for place := range n {
			all = append(all, slices.Insert(slices.Clone(order), place, n-1))
		}
	}
	return all
}

// someOrders returns all orders of few jobs, and of more the one in which they
// are counted, the other way round, and others.
func someOrders(r *rand.Rand, n int) [][]int {
	if n <= 3 {
		return ordersOf(n)
	}
	orders := [][]int{inOrder(n), backward(inOrder(n))}
	for range 4 {
		orders = append(orders, r.Perm(n))
	}
	return orders
}

// badOrders returns lists that are no orders of n jobs, at least 1: too short,
// too long, with a job twice, and with a number that is no job's.
func badOrders(n int) [][]int {
	bad := [][]int{nil}
	for _, order := range [][]int{inOrder(n), backward(inOrder(n))} {
		bad = append(bad, order[:n-1], order[1:], slices.Concat(order, order), slices.Concat(order, repeated(1000, 0)))
		for _, more := range []int{0, n - 1, n, -1, 64} {
			bad = append(bad, append(slices.Clone(order), more), append([]int{more}, order...))
		}
		for place, job := range order {
			others := append(outOf(0, n-1), inOrder(impl.MaxJobs+2)...)
			others = append(others, job+64, job-64, job+1<<32, job+math.MinInt)
			bad = append(bad, changedAt(order, place, others)...)
		}
	}
	return bad
}

// backward returns a list the other way round.
func backward(list []int) []int {
	back := slices.Clone(list)
	slices.Reverse(back)
	return back
}

// paired returns the jobs with these times on the first machine, and on the
// second one.
func paired(first, second []int) [][]int {
	var jobs [][]int
	for job := range first {
		jobs = append(jobs, []int{first[job], second[job]})
	}
	return jobs
}

// timesOn returns the times of the jobs on a machine.
func timesOn(jobs [][]int, machine int) []int {
	var times []int
	for _, job := range jobs {
		times = append(times, job[machine])
	}
	return times
}

// exchanged returns the jobs with both machines exchanged.
func exchanged(jobs [][]int) [][]int {
	return paired(timesOn(jobs, 1), timesOn(jobs, 0))
}

// fewJobs returns all lists of n jobs with these times.
func fewJobs(n int, times ...int) [][][]int {
	var lists [][][]int
	for _, first := range allLists(n, times...) {
		for _, second := range allLists(n, times...) {
			lists = append(lists, paired(first, second))
		}
	}
	return lists
}

// someTwos returns jobs of two machines: all of few with few times, and of
// each larger number of jobs some with times of 0, of MaxTime, that are the
// same on a machine or on both, with many times of 0, and others.
func someTwos() [][][]int {
	lists := [][][]int{nil}
	lists = append(lists, fewJobs(1, 0, 1, 2, 5, impl.MaxTime)...)
	lists = append(lists, fewJobs(2, 0, 1, 2, impl.MaxTime)...)
	lists = append(lists, fewJobs(3, 0, 1, 4)...)
	r := fixedRandom()
	for n := 4; n <= impl.MaxJobs; n++ {
		for _, first := range []int{0, 1, impl.MaxTime} {
			for _, second := range []int{0, 1, impl.MaxTime} {
				lists = append(lists, paired(repeated(n, first), repeated(n, second)))
			}
		}
		for range 12 {
			first, second := randomList(r, n, impl.MaxTime), randomList(r, n, impl.MaxTime)
			lists = append(lists,
				paired(first, second),
				paired(first, first),
				paired(first, repeated(n, r.IntN(impl.MaxTime+1))),
				paired(repeated(n, r.IntN(impl.MaxTime+1)), second),
				paired(first, repeated(n, 0)),
				paired(repeated(n, 0), second),
				paired(sparse(r, first, 2), sparse(r, second, 2)),
				paired(randomList(r, n, 2), randomList(r, n, 2)))
		}
	}
	return lists
}

// tried reports whether there are so few jobs that all orders are tried.
func tried(jobs [][]int) bool {
	return len(jobs) <= impl.MaxTried
}

// doneAt returns when the last job of the order is done on a machine: its time
// there behind its time on the machine ahead, and behind the job ahead of it.
func doneAt(jobs [][]int, order []int, machine int) int {
	if len(order) == 0 || machine < 0 {
		return 0
	}
	ahead, last := order[:len(order)-1], order[len(order)-1]
	return max(doneAt(jobs, ahead, machine), doneAt(jobs, order, machine-1)) + jobs[last][machine]
}

// spanBySteps returns when all jobs are done in the order.
func spanBySteps(jobs [][]int, order []int) int {
	return doneAt(jobs, order, 1)
}

// leastOfOrders returns the least span of all orders.
func leastOfOrders(jobs [][]int) int {
	least := math.MaxInt
	for _, order := range ordersOf(len(jobs)) {
		least = min(least, spanBySteps(jobs, order))
	}
	return least
}

// ruleByTimes returns the order by the rule, for one time after the other.
func ruleByTimes(jobs [][]int) []int {
	var order, rest []int
	for time := 0; time <= impl.MaxTime; time++ {
		for job, row := range jobs {
			if row[0] == time && row[1] > time {
				order = append(order, job)
			}
		}
	}
	for time := impl.MaxTime; time >= 0; time-- {
		for job, row := range jobs {
			if row[1] == time && row[0] >= time {
				rest = append(rest, job)
			}
		}
	}
	return append(order, rest...)
}

// expectSpan fails the test if SpanOf or SpanByTurns is not what is wanted.
func expectSpan(t *testing.T, jobs [][]int, order []int, want int) {
	t.Helper()
	if got := impl.SpanOf(jobs, order); got != want {
		t.Errorf("SpanOf(%v, %v) = %d, want %d", jobs, order, got, want)
	}
	if got := impl.SpanByTurns(jobs, order); got != want {
		t.Errorf("SpanByTurns(%v, %v) = %d, want %d", jobs, order, got, want)
	}
}

// expectTried fails the test if SpanTried is not what is wanted.
func expectTried(t *testing.T, jobs [][]int, want int) {
	t.Helper()
	if got := impl.SpanTried(jobs); got != want {
		t.Errorf("SpanTried(%v) = %d, want %d", jobs, got, want)
	}
}

// expectRule fails the test if RuleOrder is not what is wanted.
func expectRule(t *testing.T, jobs [][]int, want ...int) {
	t.Helper()
	if got := impl.RuleOrder(jobs); !same(got, want) {
		t.Errorf("RuleOrder(%v) = %v, want %v", jobs, got, want)
	}
}

// expectRuleSpan fails the test if RuleOrder is not what is wanted, or if its
// span is not, or not the least one.
func expectRuleSpan(t *testing.T, jobs [][]int, span int, want ...int) {
	t.Helper()
	expectRule(t, jobs, want...)
	expectSpan(t, jobs, want, span)
	if tried(jobs) {
		expectTried(t, jobs, span)
	}
}

// expectNoPairs fails the test if a function of two machines takes the jobs,
// in any of these orders.
func expectNoPairs(t *testing.T, what string, jobs [][]int, orders ...[]int) {
	t.Helper()
	if impl.ValidPairs(jobs) {
		t.Errorf("%s: %v are pairs", what, jobs)
	}
	if got := impl.RuleOrder(jobs); got != nil {
		t.Errorf("%s: RuleOrder(%v) = %v", what, jobs, got)
	}
	expectTried(t, jobs, -1)
	for _, order := range append(orders, nil, inOrder(len(jobs)), backward(inOrder(len(jobs)))) {
		expectSpan(t, jobs, order, -1)
	}
}

func TestLimitsOfPairs(t *testing.T) {
	if impl.MaxJobs != 8 || impl.MaxTried != 5 || impl.MaxTime != 9 {
		t.Errorf("limits = %d, %d, %d", impl.MaxJobs, impl.MaxTried, impl.MaxTime)
	}
}

func TestPairsOfJobs(t *testing.T) {
	jobs := [][]int{{3, 6}, {7, 2}, {4, 7}, {5, 3}, {7, 4}}
	if !impl.ValidPairs(jobs) {
		t.Fatal("no pairs")
	}
	expectRuleSpan(t, jobs, 28, 0, 2, 4, 3, 1)
	expectSpan(t, jobs, []int{0, 1, 2, 3, 4}, 30)
	expectSpan(t, jobs, []int{1, 3, 4, 2, 0}, 36)
	expectSpan(t, jobs, []int{4, 3, 2, 1, 0}, 32)
	few := [][]int{{3, 2}, {1, 4}, {2, 2}}
	expectRuleSpan(t, few, 9, 1, 0, 2)
	expectSpan(t, few, []int{0, 1, 2}, 11)
	expectSpan(t, few, []int{2, 0, 1}, 11)
	expectSpan(t, few, []int{1, 2, 0}, 9)
	// The second machine waits for the first one, and the jobs for the second.
	expectSpan(t, [][]int{{1, 1}, {9, 1}, {1, 9}, {1, 9}}, []int{0, 1, 2, 3}, 29)
	expectSpan(t, [][]int{{1, 1}, {9, 1}, {1, 9}, {1, 9}}, []int{2, 3, 1, 0}, 21)
}

func TestRuleOrderOfSeveral(t *testing.T) {
	// With the same time on the first machine, and less than on the second.
	expectRule(t, [][]int{{1, 2}, {1, 9}, {1, 3}}, 0, 1, 2)
	expectRule(t, [][]int{{2, 3}, {1, 9}, {2, 9}, {1, 2}}, 1, 3, 0, 2)
	// With the same time on the second machine, and less than on the first.
	expectRule(t, [][]int{{2, 1}, {9, 1}, {3, 1}}, 0, 1, 2)
	expectRule(t, [][]int{{9, 1}, {3, 2}, {2, 1}, {9, 2}}, 1, 3, 0, 2)
	// With the same time on both machines.
	expectRule(t, [][]int{{2, 2}, {1, 1}, {3, 3}}, 2, 0, 1)
	expectRule(t, [][]int{{2, 2}, {1, 2}, {3, 2}, {2, 2}}, 1, 0, 2, 3)
	expectRule(t, [][]int{{3, 2}, {2, 2}, {1, 1}, {1, 2}}, 3, 0, 1, 2)
	expectRule(t, [][]int{{2, 2}, {2, 3}, {3, 2}}, 1, 0, 2)
	for n := range impl.MaxJobs + 1 {
		for _, row := range allLists(2, 0, 1, 2, impl.MaxTime) {
			jobs := paired(repeated(n, row[0]), repeated(n, row[1]))
			expectRule(t, jobs, inOrder(n)...)
		}
	}
}

func TestTimesOf0(t *testing.T) {
	// On the first machine alone: nothing waits for it.
	expectRuleSpan(t, [][]int{{0, 5}, {0, 3}, {0, 9}}, 17, 0, 1, 2)
	expectRuleSpan(t, [][]int{{2, 5}, {0, 3}}, 8, 1, 0)
	// On the second machine alone: it is still waited for.
	expectRuleSpan(t, [][]int{{5, 0}, {3, 0}, {9, 0}}, 17, 0, 1, 2)
	expectRuleSpan(t, [][]int{{5, 0}, {3, 2}}, 8, 1, 0)
	expectSpan(t, [][]int{{5, 0}, {3, 2}}, []int{0, 1}, 10)
	// On both: such a job has no time less, and no time at all.
	expectRuleSpan(t, [][]int{{0, 0}, {0, 1}, {1, 0}}, 1, 1, 0, 2)
	expectRuleSpan(t, [][]int{{0, 0}, {4, 4}, {0, 0}}, 8, 1, 0, 2)
	expectSpan(t, [][]int{{0, 0}, {4, 4}, {0, 0}}, []int{0, 2, 1}, 8)
	expectSpan(t, [][]int{{4, 0}, {0, 0}, {0, 4}}, []int{0, 1, 2}, 8)
	expectSpan(t, [][]int{{4, 0}, {0, 0}, {0, 4}}, []int{2, 1, 0}, 4)
	for n := range impl.MaxJobs + 1 {
		none := paired(repeated(n, 0), repeated(n, 0))
		expectRuleSpan(t, none, 0, inOrder(n)...)
		expectSpan(t, none, backward(inOrder(n)), 0)
	}
}

func TestNoJobsOfTwo(t *testing.T) {
	for _, none := range [][][]int{nil, {}} {
		if !impl.ValidPairs(none) {
			t.Error("no jobs are no pairs")
		}
		expectRule(t, none)
		expectTried(t, none, 0)
		for _, order := range [][]int{nil, {}} {
			expectSpan(t, none, order, 0)
		}
		for _, order := range [][]int{{0}, {-1}, {1}, {0, 1}, {math.MinInt}, {math.MaxInt}} {
			expectSpan(t, none, order, -1)
		}
	}
}

func TestOneJobOfTwo(t *testing.T) {
	for first := range impl.MaxTime + 1 {
		for second := range impl.MaxTime + 1 {
			jobs := [][]int{{first, second}}
			if !impl.ValidPairs(jobs) {
				t.Errorf("%v are no pairs", jobs)
			}
			expectRuleSpan(t, jobs, first+second, 0)
			for _, order := range [][]int{nil, {}, {1}, {-1}, {0, 0}, {0, 1}} {
				expectSpan(t, jobs, order, -1)
			}
		}
	}
}

func TestMostJobsOfTwo(t *testing.T) {
	most := paired(repeated(impl.MaxJobs, impl.MaxTime), repeated(impl.MaxJobs, impl.MaxTime))
	expectRuleSpan(t, most, 81, 0, 1, 2, 3, 4, 5, 6, 7)
	expectSpan(t, most, []int{7, 3, 5, 1, 6, 0, 2, 4}, 81)
	jobs := [][]int{{9, 1}, {2, 8}, {7, 7}, {0, 9}, {4, 0}, {3, 3}, {2, 5}, {6, 9}}
	expectRuleSpan(t, jobs, 42, 3, 1, 6, 7, 2, 5, 0, 4)
	expectSpan(t, jobs, backward(inOrder(impl.MaxJobs)), 48)
	for n := range impl.MaxJobs + 1 {
		if !impl.ValidPairs(most[:n]) {
			t.Errorf("%d jobs are no pairs", n)
		}
		if n == 0 {
			continue
		}
		expectRuleSpan(t, most[:n], impl.MaxTime*(n+1), inOrder(n)...)
		if n > impl.MaxTried {
			expectTried(t, most[:n], -1)
			expectTried(t, jobs[:n], -1)
		}
	}
}

// Of few jobs each order is for some of them the only one with the least span.
func TestEachOrderIsTried(t *testing.T) {
	first, second := []int{0, 2, 3, 4, 9}, []int{2, 3, 4, 9, 0}
	for n := range impl.MaxTried + 1 {
		for _, order := range ordersOf(n) {
			jobs := make([][]int, n)
			for place, job := range order {
				jobs[job] = []int{first[place], second[place]}
			}
			least := sum(second[:n])
			expectTried(t, jobs, least)
			expectSpan(t, jobs, order, least)
			for _, other := range ordersOf(n) {
				if !same(other, order) && impl.SpanOf(jobs, other) <= least {
					t.Errorf("SpanOf(%v, %v) = %d, no more than %d", jobs, other, impl.SpanOf(jobs, other), least)
				}
			}
		}
	}
}

func TestBadPairs(t *testing.T) {
	row := []int{1, 1}
	bad := map[string][][]int{
		"one job too many":      paired(repeated(impl.MaxJobs+1, 1), repeated(impl.MaxJobs+1, 1)),
		"one too many of 0":     paired(repeated(impl.MaxJobs+1, 0), repeated(impl.MaxJobs+1, 0)),
		"many jobs too many":    paired(repeated(70, 1), repeated(70, 1)),
		"rows too many":         make([][]int, impl.MaxJobs+1),
		"only a row (nil)":      {nil},
		"only a row (empty)":    {{}},
		"only a row too short":  {{1}},
		"only a row too long":   {{1, 1, 1}},
		"a row that is nil":     {row, nil, row},
		"a row that is empty":   {row, {}, row},
		"a row too short":       {row, {1}, row},
		"a row too long":        {row, {1, 1, 0}, row},
		"a row much too long":   {row, repeated(70, 0), row},
		"first row too short":   {{0}, row, row},
		"first row too long":    {{0, 0, 0}, row, row},
		"last row too short":    {row, row, {0}},
		"last row too long":     {row, row, {0, 0, 0}},
		"rows of other lengths": {{1}, {1, 1, 1}},
		"all rows are nil":      make([][]int, impl.MaxTried),
	}
	for name, jobs := range bad {
		expectNoPairs(t, name, jobs)
	}
	for n := 1; n <= impl.MaxJobs; n++ {
		for job := range n {
			for machine := range 2 {
				for _, time := range outOf(0, impl.MaxTime) {
					jobs := paired(repeated(n, 1), repeated(n, 1))
					jobs[job][machine] = time
					expectNoPairs(t, "a time", jobs)
				}
			}
			for _, row := range [][]int{nil, {}, {1}, {1, 1, 1}} {
				jobs := paired(repeated(n, 1), repeated(n, 1))
				jobs[job] = row
				expectNoPairs(t, "a row", jobs)
			}
		}
	}
	// All that is not valid at once.
	expectNoPairs(t, "jobs and orders", [][]int{{10, 1}}, []int{1}, []int{-1}, []int{0, 0})
}

func TestJobsOfWhichOrdersAreTried(t *testing.T) {
	for n := range impl.MaxJobs + 1 {
		for _, time := range []int{0, 1, impl.MaxTime} {
			jobs := paired(repeated(n, time), repeated(n, time))
			want := time * (n + 1)
			if n == 0 {
				want = 0
			}
			if n > impl.MaxTried {
				want = -1
			}
			expectTried(t, jobs, want)
		}
	}
}

// Of all lists of few numbers just the orders are taken.
func TestListsThatAreNoOrders(t *testing.T) {
	for n := range 5 {
		jobs := paired([]int{3, 1, 2, 0}[:n], []int{2, 4, 2, 1}[:n])
		orders := ordersOf(n)
		for length := range 6 {
			for _, list := range allLists(length, -1, 0, 1, 2, 3, 4) {
				want := -1
				if slices.ContainsFunc(orders, func(order []int) bool { return same(order, list) }) {
					want = spanBySteps(jobs, list)
				}
				expectSpan(t, jobs, list, want)
			}
		}
	}
}

func TestBadOrders(t *testing.T) {
	for n := 1; n <= impl.MaxJobs; n++ {
		jobs := paired(repeated(n, 1), repeated(n, 2))
		expectSpan(t, jobs, inOrder(n), 2*n+1)
		expectSpan(t, jobs, backward(inOrder(n)), 2*n+1)
		for _, order := range badOrders(n) {
			expectSpan(t, jobs, order, -1)
		}
	}
}

func TestP22MachinesMayBeExchanged(t *testing.T) {
	for _, jobs := range someTwos() {
		if !impl.ValidPairs(jobs) || !impl.ValidPairs(exchanged(jobs)) {
			t.Fatalf("%v, or with machines exchanged, are no pairs", jobs)
		}
	}
	for first := -2; first <= impl.MaxTime+2; first++ {
		for second := -2; second <= impl.MaxTime+2; second++ {
			want := min(first, second) >= 0 && max(first, second) <= impl.MaxTime
			jobs := [][]int{{first, second}}
			if impl.ValidPairs(jobs) != want || impl.ValidPairs(exchanged(jobs)) != want {
				t.Errorf("ValidPairs(%v) is not %t, or not with machines exchanged", jobs, want)
			}
		}
	}
}

func TestP23SpansAreTheLongestTurns(t *testing.T) {
	r := fixedRandom()
	for _, jobs := range someTwos() {
		for _, order := range someOrders(r, len(jobs)) {
			want := spanBySteps(jobs, order)
			expectSpan(t, jobs, order, want)
			expectSpan(t, exchanged(jobs), backward(order), want)
		}
	}
}

func TestP24SpansAreAtLeastEachMachine(t *testing.T) {
	r := fixedRandom()
	for _, jobs := range someTwos() {
		if len(jobs) == 0 {
			continue
		}
		first, second := timesOn(jobs, 0), timesOn(jobs, 1)
		least := max(sum(first)+slices.Min(second), sum(second)+slices.Min(first))
		for _, order := range someOrders(r, len(jobs)) {
			if span := impl.SpanByTurns(jobs, order); span < least {
				t.Fatalf("SpanByTurns(%v, %v) = %d, less than %d", jobs, order, span, least)
			}
		}
	}
}

func TestP25TheRuleIsBest(t *testing.T) {
	for _, jobs := range someTwos() {
		expectRule(t, jobs, ruleByTimes(jobs)...)
		order := impl.RuleOrder(jobs)
		once := slices.Clone(order)
		slices.Sort(once)
		expect(t, "the jobs of RuleOrder", once, inOrder(len(jobs)))
		if !tried(jobs) {
			expectTried(t, jobs, -1)
			continue
		}
		least := leastOfOrders(jobs)
		expectTried(t, jobs, least)
		expectSpan(t, jobs, order, least)
	}
}

// The rule is best also for more jobs than those of which orders are tried.
func TestTheRuleIsBestForMostJobs(t *testing.T) {
	r := fixedRandom()
	for n := impl.MaxTried + 1; n <= impl.MaxJobs; n++ {
		for _, limit := range []int{2, impl.MaxTime} {
			jobs := paired(randomList(r, n, limit), randomList(r, n, limit))
			expectSpan(t, jobs, impl.RuleOrder(jobs), leastOfOrders(jobs))
		}
	}
}

func TestP26MoreJobsTakeNoLess(t *testing.T) {
	for _, jobs := range someTwos() {
		if !tried(jobs) {
			continue
		}
		span := impl.SpanTried(jobs)
		expectTried(t, exchanged(jobs), span)
		if len(jobs) == 0 {
			continue
		}
		if fewer := impl.SpanTried(jobs[:len(jobs)-1]); fewer > span || fewer < 0 {
			t.Fatalf("SpanTried(%v) = %d, and without the last job %d", jobs, span, fewer)
		}
	}
}

func TestP71AMachineWithoutTimesIsOneMachine(t *testing.T) {
	r := fixedRandom()
	for _, jobs := range someTwos() {
		first := timesOn(jobs, 0)
		alone := paired(first, repeated(len(jobs), 0))
		for _, order := range someOrders(r, len(jobs)) {
			expectSpan(t, alone, order, sum(first))
			expectSpan(t, exchanged(alone), order, sum(first))
		}
		if tried(jobs) {
			expectTried(t, alone, sum(first))
			expectTried(t, exchanged(alone), sum(first))
		}
	}
}

// twoCalls returns calls of all functions of two machines, with the jobs and,
// as the last list, an order.
func twoCalls() map[string]func(lists [][]int) []int {
	split := func(lists [][]int) ([][]int, []int) {
		return lists[:len(lists)-1], lists[len(lists)-1]
	}
	return map[string]func(lists [][]int) []int{
		"ValidPairs": func(lists [][]int) []int {
			jobs, _ := split(lists)
			return repeated(1, map[bool]int{true: 1}[impl.ValidPairs(jobs)])
		},
		"SpanOf":      func(lists [][]int) []int { return repeated(1, impl.SpanOf(split(lists))) },
		"SpanByTurns": func(lists [][]int) []int { return repeated(1, impl.SpanByTurns(split(lists))) },
		"RuleOrder": func(lists [][]int) []int {
			jobs, _ := split(lists)
			return impl.RuleOrder(jobs)
		},
		"SpanTried": func(lists [][]int) []int {
			jobs, _ := split(lists)
			return repeated(1, impl.SpanTried(jobs))
		},
	}
}

func TestTwoMachinesShareNoMemory(t *testing.T) {
	bad := [][][]int{
		paired(repeated(impl.MaxJobs+1, 1), repeated(impl.MaxJobs+1, 1)),
		{{1, 2}, {1}},
		{{1, 2}, {1, 2, 3}},
		{{1, 2}, {impl.MaxTime + 1, -1}},
	}
	for name, call := range twoCalls() {
		for _, jobs := range append(someTwos(), bad...) {
			for _, order := range [][]int{inOrder(len(jobs)), backward(inOrder(len(jobs))), repeated(len(jobs), 0), {1}} {
				lists := append(copyOfRows(jobs), order)
				checkMemory(t, name, lists, call)
			}
		}
	}
}
