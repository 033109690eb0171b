package tests

import (
	"math"
	"math/rand/v2"
	"slices"
	"testing"

	"loop.example/shopsthatmake/impl"
)

// wholeShare is a number that all times divide.
const wholeShare = 2520

// outcome is what comes of jobs that are done in an order.
type outcome struct {
	wait, latest, late, tardy int
}

// badKinds returns kinds that are none of the two.
func badKinds() []string {
	return []string{"", "w", "wai", "waits", "Wait", "WAIT", " wait", "wait ", "wait\x00", "weight", "time", "late",
		"d", "du", "dues", "Due", "DUE", " due", "due ", "due\n", "waitdue", "wait,due", "duewait", "long", "first"}
}

// jobsWith returns the jobs with these times, weights and due times.
func jobsWith(times, weights, dues []int) [][]int {
	var jobs [][]int
	for job := range times {
		jobs = append(jobs, []int{times[job], weights[job], dues[job]})
	}
	return jobs
}

// alike returns n jobs that are the same.
func alike(n, time, weight, due int) [][]int {
	return jobsWith(repeated(n, time), repeated(n, weight), repeated(n, due))
}

// column returns one of the three numbers of all jobs.
func column(jobs [][]int, number int) []int {
	var list []int
	for _, row := range jobs {
		list = append(list, row[number])
	}
	return list
}

// withColumn returns the jobs with one of the three numbers of all of them
// changed to these.
func withColumn(jobs [][]int, number int, list []int) [][]int {
	changed := copyOfRows(jobs)
	for job, row := range changed {
		row[number] = list[job]
	}
	return changed
}

// rowsOf returns all lists of n of the rows.
func rowsOf(n int, rows [][]int) [][][]int {
	lists := [][][]int{{}}
	for range n {
		var longer [][][]int
		for _, list := range lists {
			for _, row := range rows {
				longer = append(longer, append(copyOfRows(list), slices.Clone(row)))
			}
		}
		lists = longer
	}
	return lists
}

// rowsWith returns all rows of one of these times, weights and due times.
func rowsWith(times, weights, dues []int) [][]int {
	var rows [][]int
	for _, time := range times {
		for _, weight := range weights {
			for _, due := range dues {
				rows = append(rows, []int{time, weight, due})
			}
		}
	}
	return rows
}

// randomJobs returns n jobs, of numbers up to these.
func randomJobs(r *rand.Rand, n, time, weight, due int) [][]int {
	return jobsWith(randomTimes(r, n, time), randomList(r, n, weight), randomList(r, n, due))
}

// someOnes returns jobs of one machine: no jobs, all lists of few jobs with few
// numbers, and of each larger number of jobs some, with numbers of 0, that are
// the same, or as great as may be, and others.
func someOnes() [][][]int {
	lists := [][][]int{nil}
	lists = append(lists, rowsOf(1, rowsWith([]int{1, 2, impl.MaxTime}, []int{0, 1, impl.MaxTime}, []int{0, 1, 2, 9, impl.MaxDue}))...)
	lists = append(lists, rowsOf(2, rowsWith([]int{1, 2, 4}, []int{0, 1, 2}, []int{0, 2, 3, 5}))...)
	lists = append(lists, rowsOf(3, rowsWith([]int{1, 3}, []int{0, 1, 3}, []int{0, 4}))...)
	lists = append(lists, rowsOf(3, rowsWith([]int{2, 3}, []int{1}, []int{2, 3, 5, 6}))...)
	r := fixedRandom()
	for n := 4; n <= impl.MaxJobs; n++ {
		lists = append(lists, alike(n, impl.MaxTime, impl.MaxTime, impl.MaxDue), alike(n, 1, 0, 0), alike(n, 1, 1, n/2))
		for range 6 {
			lists = append(lists, someOfOne(r, n)...)
		}
	}
	return lists
}

// someOfOne returns jobs of one machine with a number in common, or with none.
func someOfOne(r *rand.Rand, n int) [][][]int {
	jobs := randomJobs(r, n, impl.MaxTime, impl.MaxTime, 5*n)
	times, weights, dues := column(jobs, 0), column(jobs, 1), column(jobs, 2)
	none := repeated(n, 0)
	return [][][]int{
		jobs,
		randomJobs(r, n, impl.MaxTime, impl.MaxTime, impl.MaxDue),
		randomJobs(r, n, 2, 1, n),
		randomJobs(r, n, 3, 2, 2*n),
		withColumn(jobs, 0, repeated(n, 1+r.IntN(impl.MaxTime))),
		withColumn(jobs, 1, repeated(n, 1+r.IntN(impl.MaxTime))),
		withColumn(jobs, 2, repeated(n, r.IntN(4*n))),
		withColumn(jobs, 1, times),
		withColumn(jobs, 1, none),
		withColumn(jobs, 1, sparse(r, weights, 2)),
		withColumn(jobs, 2, none),
		withColumn(jobs, 2, sparse(r, dues, 2)),
		withColumn(jobs, 2, repeated(n, impl.MaxDue)),
	}
}

// fewToTry reports whether the jobs are so few that tests try all orders.
func fewToTry(jobs [][]int) bool {
	return len(jobs) <= 6
}

// outcomeOf returns what comes of the order: each job is done when the times of
// all up to it are over. Without jobs the latest one is 0.
func outcomeOf(jobs [][]int, order []int) outcome {
	var all outcome
	for place, job := range order {
		end := 0
		for _, ahead := range order[:place+1] {
			end += jobs[ahead][0]
		}
		weight, lateness := jobs[job][1], end-jobs[job][2]
		all.wait += weight * end
		if place == 0 || lateness > all.latest {
			all.latest = lateness
		}
		if lateness > 0 {
			all.late++
			all.tardy += weight * lateness
		}
	}
	return all
}

// leastOutcome returns the least one of each number over all orders.
func leastOutcome(jobs [][]int) outcome {
	least := outcomeOf(jobs, inOrder(len(jobs)))
	for _, order := range ordersOf(len(jobs)) {
		one := outcomeOf(jobs, order)
		least.wait = min(least.wait, one.wait)
		least.latest = min(least.latest, one.latest)
		least.late = min(least.late, one.late)
		least.tardy = min(least.tardy, one.tardy)
	}
	return least
}

// orderByKeys returns the order in which the job with the least key is first,
// of several the first one: each job stands behind as many as are ahead of it.
func orderByKeys(keys []int) []int {
	order := make([]int, len(keys))
	for job, key := range keys {
		ahead := 0
		for other, otherKey := range keys {
			if otherKey < key || otherKey == key && other < job {
				ahead++
			}
		}
		order[ahead] = job
	}
	return order
}

// waitByKeys returns the order by weights divided by times.
func waitByKeys(jobs [][]int) []int {
	var keys []int
	for _, row := range jobs {
		keys = append(keys, -row[1]*(wholeShare/row[0]))
	}
	return orderByKeys(keys)
}

// dueByKeys returns the order by due times.
func dueByKeys(jobs [][]int) []int {
	return orderByKeys(column(jobs, 2))
}

// keptBySteps returns the jobs that are kept.
func keptBySteps(jobs [][]int) []int {
	var kept []int
	for _, job := range dueByKeys(jobs) {
		kept = append(kept, job)
		var times []int
		for _, one := range kept {
			times = append(times, jobs[one][0])
		}
		if sum(times) <= jobs[job][2] {
			continue
		}
		back := backward(times)
		last := len(kept) - 1 - slices.Index(back, slices.Max(back))
		kept = slices.Concat(kept[:last], kept[last+1:])
	}
	return kept
}

// notIn returns, ascending, the jobs of n that are not in the list.
func notIn(list []int, n int) []int {
	var others []int
	for _, job := range inOrder(n) {
		if !slices.Contains(list, job) {
			others = append(others, job)
		}
	}
	return others
}

// isOrderOf reports whether the order has each of n jobs once.
func isOrderOf(order []int, n int) bool {
	once := slices.Clone(order)
	slices.Sort(once)
	return same(once, inOrder(n))
}

// expectOutcome fails the test if what comes of the order is not what is
// wanted.
func expectOutcome(t *testing.T, jobs [][]int, order []int, want outcome) {
	t.Helper()
	latest, ok := impl.LatestOf(jobs, order)
	got := outcome{impl.WaitOf(jobs, order), latest, impl.LateOf(jobs, order), impl.TardyOf(jobs, order)}
	if got != want || ok != (len(jobs) > 0) {
		t.Errorf("of %v in the order %v come %v and %t, want %v", jobs, order, got, ok, want)
	}
}

// expectNoOutcome fails the test if a function takes the jobs in the order.
func expectNoOutcome(t *testing.T, jobs [][]int, order []int) {
	t.Helper()
	latest, ok := impl.LatestOf(jobs, order)
	got := outcome{impl.WaitOf(jobs, order), latest, impl.LateOf(jobs, order), impl.TardyOf(jobs, order)}
	if (got != outcome{-1, 0, -1, -1}) || ok {
		t.Errorf("of %v in the order %v come %v and %t", jobs, order, got, ok)
	}
}

// expectOrders fails the test if the orders by wait and by due are not what is
// wanted.
func expectOrders(t *testing.T, jobs [][]int, wait, due []int) {
	t.Helper()
	if got := impl.OrderBy(jobs, "wait"); !same(got, wait) {
		t.Errorf("OrderBy(%v, wait) = %v, want %v", jobs, got, wait)
	}
	if got := impl.OrderBy(jobs, "due"); !same(got, due) {
		t.Errorf("OrderBy(%v, due) = %v, want %v", jobs, got, due)
	}
}

// expectKept fails the test if the jobs that are kept are not what is wanted.
func expectKept(t *testing.T, jobs [][]int, want ...int) {
	t.Helper()
	if got := impl.KeptOnTime(jobs); !same(got, want) {
		t.Errorf("KeptOnTime(%v) = %v, want %v", jobs, got, want)
	}
}

// expectTardy fails the test if LeastTardy is not what is wanted.
func expectTardy(t *testing.T, jobs [][]int, want int) {
	t.Helper()
	if got := impl.LeastTardy(jobs); got != want {
		t.Errorf("LeastTardy(%v) = %d, want %d", jobs, got, want)
	}
}

// expectNoJobs fails the test if a function takes the jobs, in any of these
// orders.
func expectNoJobs(t *testing.T, what string, jobs [][]int, orders ...[]int) {
	t.Helper()
	if impl.ValidJobs(jobs) {
		t.Errorf("%s: %v are jobs", what, jobs)
	}
	for _, kind := range []string{"wait", "due", ""} {
		if got := impl.OrderBy(jobs, kind); got != nil {
			t.Errorf("%s: OrderBy(%v, %q) = %v", what, jobs, kind, got)
		}
	}
	if got := impl.KeptOnTime(jobs); got != nil {
		t.Errorf("%s: KeptOnTime(%v) = %v", what, jobs, got)
	}
	expectTardy(t, jobs, -1)
	for _, order := range append(orders, nil, inOrder(len(jobs)), backward(inOrder(len(jobs)))) {
		expectNoOutcome(t, jobs, order)
	}
}

func TestLimitsOfJobs(t *testing.T) {
	if impl.MaxJobs != 8 || impl.MaxTime != 9 || impl.MaxDue != 60 {
		t.Errorf("limits = %d, %d, %d", impl.MaxJobs, impl.MaxTime, impl.MaxDue)
	}
}

func TestJobsOfOneMachine(t *testing.T) {
	jobs := [][]int{{6, 2, 8}, {4, 5, 4}, {7, 1, 20}, {9, 9, 15}, {2, 3, 10}}
	if !impl.ValidJobs(jobs) {
		t.Fatal("no jobs")
	}
	expectOrders(t, jobs, []int{4, 1, 3, 0, 2}, []int{1, 0, 4, 3, 2})
	expectKept(t, jobs, 1, 4, 2)
	expectTardy(t, jobs, 34)
	expectOutcome(t, jobs, []int{0, 1, 2, 3, 4}, outcome{397, 18, 3, 183})
	expectOutcome(t, jobs, []int{4, 3, 2, 1, 0}, outcome{289, 20, 2, 130})
	expectOutcome(t, jobs, []int{1, 4, 2, 0, 3}, outcome{341, 13, 2, 139})
	expectOutcome(t, jobs, []int{4, 1, 3, 0, 2}, outcome{241, 13, 3, 44})
	expectOutcome(t, jobs, []int{1, 0, 4, 3, 2}, outcome{293, 8, 4, 72})
	few := [][]int{{3, 1, 4}, {2, 4, 9}, {4, 2, 5}}
	expectOrders(t, few, []int{1, 2, 0}, []int{0, 2, 1})
	expectKept(t, few, 0, 1)
	expectTardy(t, few, 3)
	expectOutcome(t, few, []int{0, 1, 2}, outcome{41, 4, 1, 8})
	expectOutcome(t, few, []int{2, 1, 0}, outcome{41, 5, 1, 5})
	expectOutcome(t, few, []int{2, 0, 1}, outcome{51, 3, 1, 3})
	expectOutcome(t, few, []int{1, 2, 0}, outcome{29, 5, 2, 7})
}

func TestOrderByOfSeveral(t *testing.T) {
	// Weights divided by times that are the same, but not the weights.
	expectOrders(t, [][]int{{2, 3, 2}, {4, 6, 1}, {6, 9, 1}}, []int{0, 1, 2}, []int{1, 2, 0})
	expectOrders(t, [][]int{{6, 9, 0}, {2, 3, 0}, {4, 6, 0}}, []int{0, 1, 2}, []int{0, 1, 2})
	expectOrders(t, [][]int{{3, 3, 9}, {1, 1, 9}, {9, 9, 8}, {2, 3, 9}}, []int{3, 0, 1, 2}, []int{2, 0, 1, 3})
	// They need not be whole: 1/3 is more than 2/7, and 7/9 less than 4/5.
	expectOrders(t, [][]int{{7, 2, 3}, {3, 1, 2}}, []int{1, 0}, []int{1, 0})
	expectOrders(t, [][]int{{3, 1, 2}, {7, 2, 3}}, []int{0, 1}, []int{0, 1})
	expectOrders(t, [][]int{{9, 7, 0}, {5, 4, 0}}, []int{1, 0}, []int{0, 1})
	expectOrders(t, [][]int{{9, 8, 0}, {8, 7, 0}, {7, 6, 0}}, []int{0, 1, 2}, []int{0, 1, 2})
	// The same time, or the same weight.
	expectOrders(t, [][]int{{5, 1, 7}, {5, 3, 7}, {5, 2, 7}}, []int{1, 2, 0}, []int{0, 1, 2})
	expectOrders(t, [][]int{{4, 2, 5}, {1, 2, 6}, {3, 2, 4}}, []int{1, 2, 0}, []int{2, 0, 1})
	// The same due time.
	expectOrders(t, [][]int{{1, 1, 7}, {9, 0, 6}, {2, 9, 7}, {1, 5, 6}}, []int{3, 2, 0, 1}, []int{1, 3, 0, 2})
}

// Each weight divided by each time is compared with each other one.
func TestAllWeightsByTimes(t *testing.T) {
	numbers := inOrder(impl.MaxTime + 1)
	rows := rowsWith(numbers[1:], numbers, []int{0})
	for _, a := range rows {
		for _, b := range rows {
			jobs := [][]int{a, b}
			expectOrders(t, jobs, waitByKeys(jobs), []int{0, 1})
		}
	}
}

func TestJobsThatAreTheSame(t *testing.T) {
	for n := range impl.MaxJobs + 1 {
		for _, row := range rowsWith([]int{1, 2, impl.MaxTime}, []int{0, 1, impl.MaxTime}, []int{0, 1, 9, impl.MaxDue}) {
			time, weight, due := row[0], row[1], row[2]
			jobs := alike(n, time, weight, due)
			expectOrders(t, jobs, inOrder(n), inOrder(n))
			want := outcome{wait: weight * time * n * (n + 1) / 2, late: max(0, n-due/time)}
			if n > 0 {
				want.latest = n*time - due
			}
			for place := range n {
				want.tardy += weight * max(0, (place+1)*time-due)
			}
			expectOutcome(t, jobs, inOrder(n), want)
			expectOutcome(t, jobs, backward(inOrder(n)), want)
			expectKept(t, jobs, inOrder(min(n, due/time))...)
			expectTardy(t, jobs, want.tardy)
		}
	}
}

func TestKeptOnTimeOfSeveral(t *testing.T) {
	// The one that is put last is left out, if no other takes more.
	expectKept(t, [][]int{{5, 1, 5}, {5, 1, 6}}, 0)
	expectKept(t, [][]int{{5, 1, 6}, {5, 1, 5}}, 1)
	expectKept(t, [][]int{{5, 1, 6}, {5, 1, 6}}, 0)
	// One that takes more is left out for it.
	expectKept(t, [][]int{{9, 1, 9}, {1, 1, 9}}, 1)
	expectKept(t, [][]int{{1, 1, 9}, {9, 1, 9}}, 0)
	expectKept(t, [][]int{{3, 1, 3}, {3, 1, 3}, {1, 1, 3}}, 2)
	// Of several that take as much, the last one of those that are done.
	expectKept(t, [][]int{{2, 1, 2}, {4, 1, 6}, {4, 1, 10}, {1, 1, 10}}, 0, 1, 3)
	expectKept(t, [][]int{{2, 1, 2}, {4, 1, 10}, {4, 1, 6}, {1, 1, 10}}, 0, 2, 3)
	expectKept(t, [][]int{{1, 1, 10}, {4, 1, 10}, {4, 1, 6}, {2, 1, 2}}, 3, 2, 0)
	expectKept(t, [][]int{{4, 0, 4}, {4, 9, 8}, {1, 1, 8}}, 0, 2)
	// Weights do not count, and more than one may be left out.
	expectKept(t, [][]int{{4, 9, 4}, {3, 0, 5}, {2, 0, 5}}, 1, 2)
	expectKept(t, [][]int{{3, 2, 6}, {5, 0, 3}, {1, 4, 10}, {8, 6, 12}, {2, 1, 5}, {4, 4, 9}, {7, 3, 25}, {6, 9, 20}}, 4, 0, 5, 2, 7, 6)
	// What is done just at the due time is on time.
	expectKept(t, [][]int{{3, 1, 3}, {4, 1, 7}, {2, 1, 9}}, 0, 1, 2)
	expectKept(t, [][]int{{3, 1, 3}, {4, 1, 7}, {2, 1, 8}}, 0, 2)
}

func TestWeightsOf0(t *testing.T) {
	// Of some: they are last by wait, and late for nothing.
	jobs := [][]int{{3, 0, 1}, {2, 5, 4}, {4, 0, 2}, {1, 3, 7}}
	expectOrders(t, jobs, []int{3, 1, 0, 2}, []int{0, 2, 1, 3})
	expectOutcome(t, jobs, []int{0, 1, 2, 3}, outcome{55, 7, 4, 14})
	expectOutcome(t, jobs, []int{1, 3, 0, 2}, outcome{19, 8, 2, 0})
	expectKept(t, jobs, 1, 3)
	expectTardy(t, jobs, 0)
	expectOrders(t, [][]int{{1, 0, 0}, {9, 1, 0}, {1, 0, 0}}, []int{1, 0, 2}, []int{0, 1, 2})
	// Of all: none stands ahead by wait, whatever the times are.
	none := [][]int{{3, 0, 1}, {2, 0, 4}, {4, 0, 2}}
	expectOrders(t, none, []int{0, 1, 2}, []int{0, 2, 1})
	expectOutcome(t, none, []int{0, 1, 2}, outcome{0, 7, 3, 0})
	expectOutcome(t, none, []int{2, 1, 0}, outcome{0, 8, 3, 0})
	expectKept(t, none, 1)
	expectTardy(t, none, 0)
}

func TestDueTimesOf0(t *testing.T) {
	// Of some.
	jobs := [][]int{{2, 3, 0}, {3, 4, 7}, {1, 1, 0}, {4, 4, 6}}
	expectOrders(t, jobs, []int{0, 1, 2, 3}, []int{0, 2, 3, 1})
	expectOutcome(t, jobs, []int{0, 1, 2, 3}, outcome{72, 6, 3, 28})
	expectOutcome(t, jobs, []int{0, 2, 3, 1}, outcome{77, 3, 4, 25})
	expectKept(t, jobs, 3, 1)
	expectTardy(t, jobs, 24)
	// Of all: none is on time, and all of the time is late.
	none := [][]int{{2, 3, 0}, {3, 4, 0}, {1, 1, 0}, {4, 4, 0}}
	expectOrders(t, none, []int{0, 1, 2, 3}, []int{0, 1, 2, 3})
	expectOutcome(t, none, []int{0, 1, 2, 3}, outcome{72, 10, 4, 72})
	expectOutcome(t, none, []int{3, 2, 1, 0}, outcome{83, 10, 4, 83})
	expectKept(t, none)
	expectTardy(t, none, 72)
}

func TestAllOnTime(t *testing.T) {
	jobs := [][]int{{1, 1, 10}, {2, 1, 9}, {3, 1, 10}, {1, 1, 9}, {5, 1, 60}}
	expectOrders(t, jobs, []int{0, 3, 1, 2, 4}, []int{1, 3, 0, 2, 4})
	expectOutcome(t, jobs, []int{0, 3, 1, 2, 4}, outcome{26, -3, 0, 0})
	expectOutcome(t, jobs, []int{1, 3, 0, 2, 4}, outcome{28, -3, 0, 0})
	expectKept(t, jobs, 1, 3, 0, 2, 4)
	expectTardy(t, jobs, 0)
	// The latest one is just on time, or long ahead of its due time.
	expectOutcome(t, [][]int{{4, 2, 4}, {5, 1, 9}}, []int{0, 1}, outcome{17, 0, 0, 0})
	expectOutcome(t, [][]int{{1, 9, impl.MaxDue}}, []int{0}, outcome{9, -59, 0, 0})
	expectOutcome(t, alike(8, 1, 9, impl.MaxDue), inOrder(8), outcome{324, -52, 0, 0})
}

func TestAllLate(t *testing.T) {
	jobs := [][]int{{5, 1, 4}, {9, 2, 8}, {7, 0, 6}, {5, 1, 3}}
	expectOrders(t, jobs, []int{1, 0, 3, 2}, []int{3, 0, 2, 1})
	expectOutcome(t, jobs, []int{3, 0, 2, 1}, outcome{67, 18, 4, 44})
	expectOutcome(t, jobs, []int{1, 0, 3, 2}, outcome{51, 20, 4, 28})
	expectKept(t, jobs)
	expectTardy(t, jobs, 28)
}

func TestNoJobsOfOne(t *testing.T) {
	for _, none := range [][][]int{nil, {}} {
		if !impl.ValidJobs(none) {
			t.Error("no jobs are no jobs")
		}
		expectOrders(t, none, nil, nil)
		expectKept(t, none)
		expectTardy(t, none, 0)
		for _, order := range [][]int{nil, {}} {
			expectOutcome(t, none, order, outcome{})
		}
		for _, order := range [][]int{{0}, {-1}, {1}, {0, 1}, {math.MinInt}, {math.MaxInt}} {
			expectNoOutcome(t, none, order)
		}
	}
}

func TestOneJobOfOne(t *testing.T) {
	for time := 1; time <= impl.MaxTime; time++ {
		for weight := range impl.MaxTime + 1 {
			for due := range impl.MaxDue + 1 {
				jobs := [][]int{{time, weight, due}}
				if !impl.ValidJobs(jobs) {
					t.Errorf("%v are no jobs", jobs)
				}
				want := outcome{wait: weight * time, latest: time - due}
				kept := []int{0}
				if time > due {
					want.late, want.tardy, kept = 1, weight*(time-due), nil
				}
				expectOutcome(t, jobs, []int{0}, want)
				expectOrders(t, jobs, []int{0}, []int{0})
				expectKept(t, jobs, kept...)
				expectTardy(t, jobs, want.tardy)
				for _, order := range [][]int{nil, {}, {1}, {-1}, {0, 0}, {0, 1}} {
					expectNoOutcome(t, jobs, order)
				}
			}
		}
	}
}

func TestMostJobsOfOne(t *testing.T) {
	most := alike(impl.MaxJobs, impl.MaxTime, impl.MaxTime, impl.MaxDue)
	all := inOrder(impl.MaxJobs)
	expectOrders(t, most, all, all)
	expectOutcome(t, most, all, outcome{2916, 12, 2, 135})
	expectOutcome(t, most, []int{7, 3, 5, 1, 6, 0, 2, 4}, outcome{2916, 12, 2, 135})
	expectKept(t, most, 0, 1, 2, 3, 4, 5)
	expectTardy(t, most, 135)
	late := alike(impl.MaxJobs, impl.MaxTime, impl.MaxTime, 0)
	expectOutcome(t, late, all, outcome{2916, 72, 8, 2916})
	expectKept(t, late)
	expectTardy(t, late, 2916)
	jobs := [][]int{{3, 2, 6}, {5, 0, 3}, {1, 4, 10}, {8, 6, 12}, {2, 1, 5}, {4, 4, 9}, {7, 3, 25}, {6, 9, 20}}
	expectOrders(t, jobs, []int{2, 7, 5, 3, 0, 4, 6, 1}, []int{1, 4, 0, 5, 2, 3, 7, 6})
	expectOutcome(t, jobs, all, outcome{669, 16, 6, 259})
	expectOutcome(t, jobs, backward(all), outcome{526, 30, 6, 268})
	expectOutcome(t, jobs, impl.OrderBy(jobs, "wait"), outcome{386, 33, 6, 119})
	expectOutcome(t, jobs, impl.OrderBy(jobs, "due"), outcome{650, 11, 8, 230})
	expectTardy(t, jobs, 75)
	for n := range impl.MaxJobs + 1 {
		if !impl.ValidJobs(most[:n]) {
			t.Errorf("%d jobs are no jobs", n)
		}
	}
}

func TestBadJobs(t *testing.T) {
	row := []int{1, 1, 1}
	bad := map[string][][]int{
		"one job too many":      alike(impl.MaxJobs+1, 1, 1, 1),
		"one too many of 0":     alike(impl.MaxJobs+1, 1, 0, 0),
		"many jobs too many":    alike(70, 1, 1, 1),
		"rows too many":         make([][]int, impl.MaxJobs+1),
		"only a row (nil)":      {nil},
		"only a row (empty)":    {{}},
		"only a row of one":     {{1}},
		"only a row of two":     {{1, 1}},
		"only a row of four":    {{1, 1, 1, 1}},
		"a row that is nil":     {row, nil, row},
		"a row that is empty":   {row, {}, row},
		"a row too short":       {row, {1, 1}, row},
		"a row too long":        {row, {1, 1, 1, 0}, row},
		"a row much too long":   {row, repeated(70, 1), row},
		"first row too short":   {{1, 0}, row, row},
		"first row too long":    {{1, 0, 0, 0}, row, row},
		"last row too short":    {row, row, {1, 0}},
		"last row too long":     {row, row, {1, 0, 0, 0}},
		"rows of other lengths": {{1, 1}, {1, 1, 1, 1}},
		"rows of pairs":         {{1, 1}, {1, 1}},
		"all of 0":              {{0, 0, 0}},
		"all too great":         {{10, 10, 61}},
	}
	for name, jobs := range bad {
		expectNoJobs(t, name, jobs)
	}
	// What is not valid at once: jobs and orders.
	expectNoJobs(t, "jobs and orders", [][]int{{0, 1, 1}}, []int{1}, []int{-1}, []int{0, 0})
}

func TestNumbersOfBadJobs(t *testing.T) {
	limits := [][]int{{1, impl.MaxTime}, {0, impl.MaxTime}, {0, impl.MaxDue}}
	for n := 1; n <= impl.MaxJobs; n++ {
		for job := range n {
			for number, limit := range limits {
				for _, bad := range outOf(limit[0], limit[1]) {
					jobs := alike(n, 1, 1, 1)
					jobs[job][number] = bad
					expectNoJobs(t, "a number", jobs)
				}
				for _, good := range limit {
					jobs := alike(n, 1, 1, 1)
					jobs[job][number] = good
					if !impl.ValidJobs(jobs) {
						t.Errorf("%v are no jobs", jobs)
					}
				}
			}
			for _, row := range [][]int{nil, {}, {1}, {1, 1}, {1, 1, 1, 1}} {
				jobs := alike(n, 1, 1, 1)
				jobs[job] = row
				expectNoJobs(t, "a row", jobs)
			}
		}
	}
}

func TestBadKinds(t *testing.T) {
	for _, jobs := range [][][]int{nil, {{1, 1, 1}}, {{3, 1, 4}, {2, 4, 9}, {4, 2, 5}}, alike(impl.MaxJobs, 9, 9, 60), {{0, 1, 1}}} {
		for _, kind := range badKinds() {
			if got := impl.OrderBy(jobs, kind); got != nil {
				t.Errorf("OrderBy(%v, %q) = %v", jobs, kind, got)
			}
		}
	}
}

// Of all lists of few numbers just the orders are taken.
func TestListsThatAreNoOrdersOfOne(t *testing.T) {
	for n := range 4 {
		jobs := [][]int{{3, 1, 4}, {2, 4, 9}, {4, 2, 5}}[:n]
		for length := range 5 {
			for _, list := range allLists(length, -1, 0, 1, 2, 3) {
				if isOrderOf(list, n) {
					expectOutcome(t, jobs, list, outcomeOf(jobs, list))
				} else {
					expectNoOutcome(t, jobs, list)
				}
			}
		}
	}
}

func TestBadOrdersOfOne(t *testing.T) {
	for n := 1; n <= impl.MaxJobs; n++ {
		jobs := alike(n, 1, 1, 2)
		for _, order := range [][]int{inOrder(n), backward(inOrder(n))} {
			expectOutcome(t, jobs, order, outcomeOf(jobs, order))
		}
		for _, order := range badOrders(n) {
			expectNoOutcome(t, jobs, order)
		}
	}
}

// What comes of each order is counted job by job.
func TestOutcomesOfOrders(t *testing.T) {
	r := fixedRandom()
	for _, jobs := range someOnes() {
		for _, order := range someOrders(r, len(jobs)) {
			expectOutcome(t, jobs, order, outcomeOf(jobs, order))
		}
	}
}

func TestP27JobsCanBeLeftOut(t *testing.T) {
	for _, jobs := range someOnes() {
		if !impl.ValidJobs(jobs) {
			t.Fatalf("%v are no jobs", jobs)
		}
		if n := len(jobs); n > 0 && !impl.ValidJobs(jobs[:n-1]) {
			t.Fatalf("%v without the last one are no jobs", jobs)
		}
	}
}

func TestP28ByWeightsAndTimesLeastIsWaited(t *testing.T) {
	r := fixedRandom()
	for _, jobs := range someOnes() {
		wait := impl.WaitOf(jobs, impl.OrderBy(jobs, "wait"))
		for _, order := range someOrders(r, len(jobs)) {
			if other := impl.WaitOf(jobs, order); other < wait || wait < 0 {
				t.Fatalf("WaitOf(%v, %v) = %d, less than %d by wait", jobs, order, other, wait)
			}
		}
	}
}

func TestP29OrdersHaveEachJobOnce(t *testing.T) {
	for _, jobs := range someOnes() {
		expectOrders(t, jobs, waitByKeys(jobs), dueByKeys(jobs))
		wait, due := impl.OrderBy(jobs, "wait"), impl.OrderBy(jobs, "due")
		if !isOrderOf(wait, len(jobs)) || !isOrderOf(due, len(jobs)) {
			t.Fatalf("OrderBy(%v) = %v and %v", jobs, wait, due)
		}
		for place := 1; place < len(jobs); place++ {
			a, b := wait[place-1], wait[place]
			if left, right := jobs[a][1]*jobs[b][0], jobs[b][1]*jobs[a][0]; left < right || left == right && a > b {
				t.Fatalf("OrderBy(%v, wait) = %v", jobs, wait)
			}
			a, b = due[place-1], due[place]
			if left, right := jobs[a][2], jobs[b][2]; left > right || left == right && a > b {
				t.Fatalf("OrderBy(%v, due) = %v", jobs, due)
			}
		}
	}
}

func TestP30ByDueTimesTheLatestIsLeastLate(t *testing.T) {
	r := fixedRandom()
	for _, jobs := range someOnes() {
		latest, ok := impl.LatestOf(jobs, impl.OrderBy(jobs, "due"))
		if ok != (len(jobs) > 0) {
			t.Fatalf("LatestOf(%v) by due is %t", jobs, ok)
		}
		for _, order := range someOrders(r, len(jobs)) {
			if other, _ := impl.LatestOf(jobs, order); other < latest {
				t.Fatalf("LatestOf(%v, %v) = %d, less than %d by due", jobs, order, other, latest)
			}
		}
	}
}

func TestP31NoOrderHasMoreOnTime(t *testing.T) {
	r := fixedRandom()
	for _, jobs := range someOnes() {
		out := len(jobs) - len(impl.KeptOnTime(jobs))
		for _, order := range someOrders(r, len(jobs)) {
			late := impl.LateOf(jobs, order)
			latest, _ := impl.LatestOf(jobs, order)
			if late < out || (late == 0) != (latest <= 0) {
				t.Fatalf("LateOf(%v, %v) = %d, with %d left out, and %d the latest", jobs, order, late, out, latest)
			}
		}
	}
}

func TestP32ThoseThatAreKeptAreOnTime(t *testing.T) {
	for _, jobs := range someOnes() {
		kept := impl.KeptOnTime(jobs)
		expectKept(t, jobs, keptBySteps(jobs)...)
		others := notIn(kept, len(jobs))
		for _, behind := range [][]int{others, backward(others)} {
			end := 0
			for place, job := range slices.Concat(kept, behind) {
				end += jobs[job][0]
				if late := end > jobs[job][2]; late != (place >= len(kept)) {
					t.Fatalf("KeptOnTime(%v) = %v, with %d done at %d", jobs, kept, job, end)
				}
			}
		}
	}
}

func TestP33TheLeastLatenessBySetsIsNoMoreThanAny(t *testing.T) {
	for _, jobs := range someOnes() {
		wait, due := impl.OrderBy(jobs, "wait"), impl.OrderBy(jobs, "due")
		least := impl.LeastTardy(jobs)
		if least < 0 || least > impl.TardyOf(jobs, wait) || least > impl.TardyOf(jobs, due) {
			t.Fatalf("LeastTardy(%v) = %d, but by wait %d, by due %d", jobs, least, impl.TardyOf(jobs, wait), impl.TardyOf(jobs, due))
		}
		if impl.LateOf(jobs, due) == 0 && least != 0 {
			t.Fatalf("LeastTardy(%v) = %d, but none is late by due", jobs, least)
		}
	}
}

func TestP34NoOrderIsLessLate(t *testing.T) {
	r := fixedRandom()
	for _, jobs := range someOnes() {
		least := impl.LeastTardy(jobs)
		for _, order := range someOrders(r, len(jobs)) {
			tardy := impl.TardyOf(jobs, order)
			if tardy < least || impl.LateOf(jobs, order) == 0 && tardy != 0 {
				t.Fatalf("TardyOf(%v, %v) = %d, and LeastTardy %d", jobs, order, tardy, least)
			}
		}
	}
}

// expectBestOrders fails the test if an order by a rule, what is kept or the least
// lateness is not the best one of all orders.
func expectBestOrders(t *testing.T, jobs [][]int) {
	t.Helper()
	least := leastOutcome(jobs)
	if got := impl.WaitOf(jobs, impl.OrderBy(jobs, "wait")); got != least.wait {
		t.Fatalf("WaitOf(%v) by wait = %d, want %d", jobs, got, least.wait)
	}
	if got, _ := impl.LatestOf(jobs, impl.OrderBy(jobs, "due")); got != least.latest {
		t.Fatalf("LatestOf(%v) by due = %d, want %d", jobs, got, least.latest)
	}
	if got := len(jobs) - len(impl.KeptOnTime(jobs)); got != least.late {
		t.Fatalf("KeptOnTime(%v) leaves out %d, want %d", jobs, got, least.late)
	}
	expectTardy(t, jobs, least.tardy)
}

func TestBestOfAllOrders(t *testing.T) {
	for _, jobs := range someOnes() {
		if fewToTry(jobs) {
			expectBestOrders(t, jobs)
		}
	}
	r := fixedRandom()
	for n := 7; n <= impl.MaxJobs; n++ {
		expectBestOrders(t, randomJobs(r, n, impl.MaxTime, impl.MaxTime, 4*n))
		expectBestOrders(t, randomJobs(r, n, 4, 2, 2*n))
	}
}

// Of few jobs each order is for some of them the only one with nothing late.
func TestEachOrderMayBeLeastTardy(t *testing.T) {
	times := []int{4, 1, 3, 9, 2}
	for n := range len(times) + 1 {
		for _, order := range ordersOf(n) {
			jobs := alike(n, 1, 1, 0)
			end := 0
			for place, job := range order {
				end += times[place]
				jobs[job][0], jobs[job][2] = times[place], end
			}
			expectTardy(t, jobs, 0)
			expectKept(t, jobs, order...)
			for _, other := range ordersOf(n) {
				if !same(other, order) && impl.TardyOf(jobs, other) == 0 {
					t.Errorf("TardyOf(%v, %v) = 0, as by %v", jobs, other, order)
				}
			}
		}
	}
}

func TestP72WeightsAndTimesMayBeExchanged(t *testing.T) {
	r := fixedRandom()
	for _, jobs := range someOnes() {
		if slices.Contains(column(jobs, 1), 0) {
			continue
		}
		changed := withColumn(withColumn(jobs, 0, column(jobs, 1)), 1, column(jobs, 0))
		for _, order := range someOrders(r, len(jobs)) {
			wait, other := impl.WaitOf(jobs, order), impl.WaitOf(changed, backward(order))
			if wait != other || wait < 0 {
				t.Fatalf("WaitOf(%v, %v) = %d, and exchanged %d", jobs, order, wait, other)
			}
		}
	}
}

func TestP73WithNoDueTimesLatenessIsWaiting(t *testing.T) {
	r := fixedRandom()
	for _, jobs := range someOnes() {
		none := withColumn(jobs, 2, repeated(len(jobs), 0))
		expectTardy(t, none, impl.WaitOf(jobs, impl.OrderBy(jobs, "wait")))
		expectKept(t, none)
		for _, order := range someOrders(r, len(jobs)) {
			late, tardy := impl.LateOf(none, order), impl.TardyOf(none, order)
			if late != len(jobs) || tardy != impl.WaitOf(jobs, order) {
				t.Fatalf("of %v in the order %v %d are late, by %d", none, order, late, tardy)
			}
		}
	}
}

func TestP74WhatIsKeptStandsByDueTimes(t *testing.T) {
	for _, jobs := range someOnes() {
		kept, due := impl.KeptOnTime(jobs), impl.OrderBy(jobs, "due")
		for place := 1; place < len(kept); place++ {
			if jobs[kept[place]][2] < jobs[kept[place-1]][2] {
				t.Fatalf("KeptOnTime(%v) = %v", jobs, kept)
			}
		}
		if impl.LateOf(jobs, due) == 0 && !same(kept, due) {
			t.Fatalf("KeptOnTime(%v) = %v, but none is late by %v", jobs, kept, due)
		}
	}
}

// oneCalls returns calls of all functions of one machine, with the jobs and, as
// the last list, an order.
func oneCalls() map[string]func(lists [][]int) []int {
	split := func(lists [][]int) ([][]int, []int) {
		return lists[:len(lists)-1], lists[len(lists)-1]
	}
	jobsOf := func(lists [][]int) [][]int {
		return lists[:len(lists)-1]
	}
	number := map[bool]int{true: 1}
	return map[string]func(lists [][]int) []int{
		"ValidJobs":    func(lists [][]int) []int { return []int{number[impl.ValidJobs(jobsOf(lists))]} },
		"WaitOf":       func(lists [][]int) []int { return []int{impl.WaitOf(split(lists))} },
		"OrderBy wait": func(lists [][]int) []int { return impl.OrderBy(jobsOf(lists), "wait") },
		"OrderBy due":  func(lists [][]int) []int { return impl.OrderBy(jobsOf(lists), "due") },
		"OrderBy none": func(lists [][]int) []int { return impl.OrderBy(jobsOf(lists), "") },
		"LatestOf": func(lists [][]int) []int {
			latest, ok := impl.LatestOf(split(lists))
			return []int{latest, number[ok]}
		},
		"LateOf":     func(lists [][]int) []int { return []int{impl.LateOf(split(lists))} },
		"KeptOnTime": func(lists [][]int) []int { return impl.KeptOnTime(jobsOf(lists)) },
		"LeastTardy": func(lists [][]int) []int { return []int{impl.LeastTardy(jobsOf(lists))} },
		"TardyOf":    func(lists [][]int) []int { return []int{impl.TardyOf(split(lists))} },
	}
}

func TestOneMachineSharesNoMemory(t *testing.T) {
	bad := [][][]int{
		alike(impl.MaxJobs+1, 1, 1, 1),
		{{1, 2, 3}, {1, 2}},
		{{1, 2, 3}, {1, 2, 3, 4}},
		{{1, 2, 3}, {impl.MaxTime + 1, -1, impl.MaxDue + 1}},
	}
	for name, call := range oneCalls() {
		for _, jobs := range append(someOnes(), bad...) {
			for _, order := range [][]int{inOrder(len(jobs)), backward(inOrder(len(jobs))), repeated(len(jobs), 0), {1}} {
				lists := append(copyOfRows(jobs), order)
				checkMemory(t, name, lists, call)
			}
		}
	}
}
