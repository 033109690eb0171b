package tests

import (
	"math"
	"math/rand/v2"
	"slices"
	"testing"

	"loop.example/shopsthatmake/impl"
)

// taskList is tasks: the time of each one, and the set of those that must be
// done ahead of it.
type taskList struct {
	times, after []int
}

// in reports whether a task is in a set.
func in(set, task int) bool {
	return set/(1<<task)%2 == 1
}

// noneAhead returns sets for n tasks none of which waits for another one.
func noneAhead(n int) []int {
	return repeated(n, 0)
}

// oneAhead returns sets for n tasks each of which waits for the one just ahead
// of it.
func oneAhead(n int) []int {
	var after []int
	for i := range n {
		after = append(after, (1<<i)/2)
	}
	return after
}

// allTasksAhead returns sets for n tasks each of which waits for all ahead of
// it.
func allTasksAhead(n int) []int {
	var after []int
	for i := range n {
		after = append(after, 1<<i-1)
	}
	return after
}

// allAfters returns all sets of tasks ahead of n tasks.
func allAfters(n int) [][]int {
	afters := [][]int{{}}
	for i := range n {
		var longer [][]int
		for _, after := range afters {
			for set := range 1 << i {
				longer = append(longer, append(slices.Clone(after), set))
			}
		}
		afters = longer
	}
	return afters
}

// randomAfter returns sets for n tasks, with about one in gap of the tasks that
// may be in them.
func randomAfter(r *rand.Rand, n, gap int) []int {
	after := repeated(n, 0)
	for i := range after {
		for j := range i {
			if r.IntN(gap) == 0 {
				after[i] += 1 << j
			}
		}
	}
	return after
}

// randomTimes returns n times in 1..limit.
func randomTimes(r *rand.Rand, n, limit int) []int {
	return added(repeated(n, 1), randomList(r, n, limit-1))
}

// someTasks returns all tasks of few with few times, and some of each larger
// number of tasks: with no set, with the one just ahead, with all ahead, and
// others, and with times of 1, of MaxTime, and others.
func someTasks() []taskList {
	var lists []taskList
	for n := range 4 {
		for _, after := range allAfters(n) {
			for _, times := range allLists(n, 1, 2, 5, impl.MaxTime) {
				lists = append(lists, taskList{times, after})
			}
		}
	}
	r := fixedRandom()
	for _, after := range allAfters(4) {
		lists = append(lists, taskList{randomTimes(r, 4, impl.MaxTime), after}, taskList{randomTimes(r, 4, 3), after})
	}
	for n := 5; n <= impl.MaxTasks; n++ {
		afters := [][]int{noneAhead(n), oneAhead(n), allTasksAhead(n)}
		for range 40 {
			afters = append(afters, randomAfter(r, n, 2), randomAfter(r, n, 4))
		}
		for _, after := range afters {
			for _, times := range [][]int{repeated(n, 1), repeated(n, impl.MaxTime), randomTimes(r, n, 3), randomTimes(r, n, impl.MaxTime)} {
				lists = append(lists, taskList{times, after})
			}
		}
	}
	return lists
}

// someTacts returns tacts for tasks with these times: the least one and others
// near it, some between, all times together, and the greatest ones.
func someTacts(times []int) []int {
	longest, all := slices.Max(append(times[:len(times):len(times)], 1)), max(sum(times), 1)
	tacts := []int{longest, (longest + all) / 2, all, impl.MaxTact}
	for more := 1; more <= 4; more++ {
		tacts = append(tacts, longest+more)
	}
	if all > longest {
		tacts = append(tacts, all-1)
	}
	slices.Sort(tacts)
	return slices.Compact(tacts)
}

// mayStand reports whether no task of the set stands behind the place, where
// at is the place of each of the tasks ahead.
func mayStand(set int, at []int, place int) bool {
	for other, where := range at {
		if in(set, other) && where > place {
			return false
		}
	}
	return true
}

// fitOn reports whether the tasks may stand at places with so much time left
// at each one, by trying each place for each task.
func fitOn(tasks taskList, left []int, at ...int) bool {
	task := len(at)
	if task == len(tasks.times) {
		return true
	}
	for place := range left {
		if left[place] < tasks.times[task] || !mayStand(tasks.after[task], at, place) {
			continue
		}
		left[place] -= tasks.times[task]
		fits := fitOn(tasks, left, append(at, place)...)
		left[place] += tasks.times[task]
		if fits {
			return true
		}
	}
	return false
}

// fewestTried returns the fewest places, by trying.
func fewestTried(tasks taskList, tact int) int {
	for places := range tasks.times {
		if fitOn(tasks, repeated(places, tact)) {
			return places
		}
	}
	return len(tasks.times)
}

// isBehind reports whether a task must be done behind another one, over
// others, too.
func isBehind(after []int, task, other int) bool {
	for next := range task {
		if in(after[task], next) && (next == other || isBehind(after, next, other)) {
			return true
		}
	}
	return false
}

// weightsBySteps returns the weights, each one of all that are behind.
func weightsBySteps(tasks taskList) []int {
	var weights []int
	for task, weight := range tasks.times {
		for other, time := range tasks.times {
			if isBehind(tasks.after, other, task) {
				weight += time
			}
		}
		weights = append(weights, weight)
	}
	return weights
}

// placesByRows returns the places by the weights: the tasks stand in a row by
// these, and the first one of the row that may be placed is taken out.
func placesByRows(tasks taskList, tact int) []int {
	weights := weightsBySteps(tasks)
	var row []int
	for task := range weights {
		row = append(row, task)
	}
	slices.SortStableFunc(row, func(a, b int) int { return weights[b] - weights[a] })
	at := repeated(len(row), -1)
	for place, left := 0, tact; len(row) > 0; {
		i := slices.IndexFunc(row, func(task int) bool {
			return tasks.times[task] <= left && aheadArePlaced(tasks.after[task], at)
		})
		if i < 0 {
			place, left = place+1, tact
			continue
		}
		at[row[i]] = place
		left -= tasks.times[row[i]]
		row = slices.Delete(row, i, i+1)
	}
	return at
}

// aheadArePlaced reports whether all tasks of the set have a place.
func aheadArePlaced(set int, at []int) bool {
	for other, place := range at {
		if in(set, other) && place < 0 {
			return false
		}
	}
	return true
}

// backwards returns the tasks the other way round, with those that are behind
// each one as those ahead of it.
func backwards(tasks taskList) taskList {
	n := len(tasks.times)
	back := taskList{slices.Clone(tasks.times), repeated(n, 0)}
	slices.Reverse(back.times)
	for task, set := range tasks.after {
		for other := range task {
			if in(set, other) {
				back.after[n-1-other] += 1 << (n - 1 - task)
			}
		}
	}
	return back
}

// expectFewest fails the test if FewestPlaces is not what is wanted.
func expectFewest(t *testing.T, tasks taskList, tact, want int) {
	t.Helper()
	if got := impl.FewestPlaces(tasks.times, tasks.after, tact); got != want {
		t.Errorf("FewestPlaces(%v, %v, %d) = %d, want %d", tasks.times, tasks.after, tact, got, want)
	}
}

// expectWeights fails the test if WeightsOf is not what is wanted.
func expectWeights(t *testing.T, tasks taskList, want ...int) {
	t.Helper()
	if got := impl.WeightsOf(tasks.times, tasks.after); !same(got, want) {
		t.Errorf("WeightsOf(%v, %v) = %v, want %v", tasks.times, tasks.after, got, want)
	}
}

// expectPlaces fails the test if PlacesBy is not what is wanted.
func expectPlaces(t *testing.T, tasks taskList, tact int, want ...int) {
	t.Helper()
	if got := impl.PlacesBy(tasks.times, tasks.after, tact); !same(got, want) {
		t.Errorf("PlacesBy(%v, %v, %d) = %v, want %v", tasks.times, tasks.after, tact, got, want)
	}
}

// expectTact fails the test if LeastTact is not what is wanted.
func expectTact(t *testing.T, tasks taskList, places, want int) {
	t.Helper()
	if got := impl.LeastTact(tasks.times, tasks.after, places); got != want {
		t.Errorf("LeastTact(%v, %v, %d) = %d, want %d", tasks.times, tasks.after, places, got, want)
	}
}

// expectTacts fails the test if LeastTact is not what is wanted for places
// from 1 on.
func expectTacts(t *testing.T, tasks taskList, want ...int) {
	t.Helper()
	for i, tact := range want {
		expectTact(t, tasks, i+1, tact)
	}
}

// expectNoTact fails the test if a function takes the tact for the tasks.
func expectNoTact(t *testing.T, tasks taskList, tact int) {
	t.Helper()
	expectFewest(t, tasks, tact, -1)
	if got := impl.PlacesBy(tasks.times, tasks.after, tact); got != nil {
		t.Errorf("PlacesBy(%v, %v, %d) = %v", tasks.times, tasks.after, tact, got)
	}
}

// expectNoTasks fails the test if a function of lines takes the tasks.
func expectNoTasks(t *testing.T, what string, tasks taskList) {
	t.Helper()
	if impl.ValidTasks(tasks.times, tasks.after) {
		t.Errorf("%s: %v, %v are tasks", what, tasks.times, tasks.after)
	}
	if got := impl.WeightsOf(tasks.times, tasks.after); got != nil {
		t.Errorf("%s: WeightsOf(%v, %v) = %v", what, tasks.times, tasks.after, got)
	}
	for _, tact := range []int{-1, 0, 1, impl.MaxTime, impl.MaxTact, impl.MaxTact + 1} {
		expectNoTact(t, tasks, tact)
	}
	for places := range impl.MaxTasks + 2 {
		expectTact(t, tasks, places, -1)
	}
}

func TestLimitsOfLines(t *testing.T) {
	if impl.MaxTasks != 6 || impl.MaxTime != 9 || impl.MaxTact != 60 {
		t.Errorf("limits = %d, %d, %d", impl.MaxTasks, impl.MaxTime, impl.MaxTact)
	}
}

func TestLineOfTasks(t *testing.T) {
	tasks := taskList{[]int{4, 3, 5, 2, 6, 1}, []int{0, 1, 1, 2, 4, 8 + 16}}
	if !impl.ValidTasks(tasks.times, tasks.after) {
		t.Fatal("no tasks")
	}
	expectWeights(t, tasks, 21, 6, 12, 3, 7, 1)
	expectNoTact(t, tasks, 5)
	for tact, want := range map[int]int{6: 4, 7: 3, 8: 3, 11: 3, 12: 2, 20: 2, 21: 1, impl.MaxTact: 1} {
		expectFewest(t, tasks, tact, want)
	}
	expectTacts(t, tasks, 21, 12, 7, 6, 6, 6)
	expectPlaces(t, tasks, 6, 0, 3, 1, 3, 2, 3)
	expectPlaces(t, tasks, 9, 0, 1, 0, 2, 1, 2)
	expectPlaces(t, tasks, 12, 0, 0, 0, 1, 1, 1)
	expectPlaces(t, tasks, 21, 0, 0, 0, 0, 0, 0)
}

func TestNoTasks(t *testing.T) {
	for _, tasks := range []taskList{{}, {[]int{}, nil}, {nil, []int{}}, {[]int{}, []int{}}} {
		if !impl.ValidTasks(tasks.times, tasks.after) {
			t.Error("no tasks are none")
		}
		expectWeights(t, tasks)
		for tact := 1; tact <= impl.MaxTact; tact++ {
			expectFewest(t, tasks, tact, 0)
			expectPlaces(t, tasks, tact)
		}
		expectTacts(t, tasks, repeated(impl.MaxTasks, 1)...)
		for _, tact := range outOf(1, impl.MaxTact) {
			expectNoTact(t, tasks, tact)
		}
		for _, places := range outOf(1, impl.MaxTasks) {
			expectTact(t, tasks, places, -1)
		}
	}
}

func TestOneTask(t *testing.T) {
	for time := 1; time <= impl.MaxTime; time++ {
		tasks := taskList{[]int{time}, []int{0}}
		expectWeights(t, tasks, time)
		for tact := range impl.MaxTact + 1 {
			if tact < time {
				expectNoTact(t, tasks, tact)
				continue
			}
			expectFewest(t, tasks, tact, 1)
			expectPlaces(t, tasks, tact, 0)
		}
		expectTacts(t, tasks, repeated(impl.MaxTasks, time)...)
	}
}

// Tasks each of which waits for all ahead of it, or for the one just ahead,
// stand in a row.
func TestTasksThatAllWait(t *testing.T) {
	for _, after := range [][]int{allTasksAhead(impl.MaxTasks), oneAhead(impl.MaxTasks)} {
		tasks := taskList{[]int{2, 5, 3, 3, 9, 1}, after}
		expectWeights(t, tasks, 23, 21, 16, 13, 10, 1)
		for tact, want := range map[int]int{9: 4, 10: 3, 12: 3, 13: 2, 22: 2, 23: 1} {
			expectFewest(t, tasks, tact, want)
		}
		expectTacts(t, tasks, 23, 13, 10, 9, 9, 9)
		expectPlaces(t, tasks, 9, 0, 0, 1, 1, 2, 3)
		expectPlaces(t, tasks, 10, 0, 0, 0, 1, 2, 2)
		expectPlaces(t, tasks, 13, 0, 0, 0, 0, 1, 1)
		for n := range impl.MaxTasks + 1 {
			most := taskList{repeated(n, impl.MaxTime), after[:n]}
			for tact := impl.MaxTime; tact <= impl.MaxTact; tact++ {
				fit := tact / impl.MaxTime
				expectFewest(t, most, tact, (n+fit-1)/fit)
			}
		}
	}
	// Three that wait need a place more than three that do not.
	expectFewest(t, taskList{[]int{2, 4, 2}, noneAhead(3)}, 4, 2)
	expectFewest(t, taskList{[]int{2, 4, 2}, allTasksAhead(3)}, 4, 3)
	expectFewest(t, taskList{[]int{2, 4, 2}, []int{0, 0, 1}}, 4, 2)
}

func TestTactOfTheLongest(t *testing.T) {
	for _, tasks := range someTasks() {
		if len(tasks.times) == 0 {
			continue
		}
		longest := slices.Max(tasks.times)
		expectNoTact(t, tasks, longest-1)
		expectFewest(t, tasks, longest, fewestTried(tasks, longest))
		expectPlaces(t, tasks, longest, placesByRows(tasks, longest)...)
		expectTact(t, tasks, len(tasks.times), longest)
	}
}

func TestTactOfAllTimes(t *testing.T) {
	for _, tasks := range someTasks() {
		if len(tasks.times) == 0 {
			continue
		}
		for tact := sum(tasks.times); tact <= impl.MaxTact; tact++ {
			expectFewest(t, tasks, tact, 1)
			expectPlaces(t, tasks, tact, noneAhead(len(tasks.times))...)
		}
		expectTact(t, tasks, 1, sum(tasks.times))
		if len(tasks.times) > 1 {
			expectFewest(t, tasks, sum(tasks.times)-1, 2)
		}
	}
}

func TestMostTasks(t *testing.T) {
	for _, after := range [][]int{noneAhead(impl.MaxTasks), oneAhead(impl.MaxTasks), allTasksAhead(impl.MaxTasks)} {
		most := taskList{repeated(impl.MaxTasks, impl.MaxTime), after}
		expectFewest(t, most, impl.MaxTime, impl.MaxTasks)
		expectFewest(t, most, impl.MaxTact, 1)
		expectPlaces(t, most, impl.MaxTime, 0, 1, 2, 3, 4, 5)
		expectPlaces(t, most, impl.MaxTact, noneAhead(impl.MaxTasks)...)
		expectTacts(t, most, 54, 27, 18, 18, 18, 9)
		least := taskList{repeated(impl.MaxTasks, 1), after}
		expectFewest(t, least, 1, impl.MaxTasks)
		expectFewest(t, least, 4, 2)
		expectFewest(t, least, impl.MaxTact, 1)
		expectPlaces(t, least, 1, 0, 1, 2, 3, 4, 5)
		expectPlaces(t, least, 4, 0, 0, 0, 0, 1, 1)
		expectTacts(t, least, 6, 3, 2, 2, 2, 1)
	}
	expectWeights(t, taskList{repeated(impl.MaxTasks, impl.MaxTime), allTasksAhead(impl.MaxTasks)}, 54, 45, 36, 27, 18, 9)
	expectWeights(t, taskList{repeated(impl.MaxTasks, impl.MaxTime), noneAhead(impl.MaxTasks)}, 9, 9, 9, 9, 9, 9)
}

// What is behind over several others counts once.
func TestWeightsOverOthers(t *testing.T) {
	expectWeights(t, taskList{[]int{1, 2, 3, 4}, []int{0, 1, 1, 6}}, 10, 6, 7, 4)
	expectWeights(t, taskList{[]int{1, 2, 3, 4}, []int{0, 1, 2, 4}}, 10, 9, 7, 4)
	expectWeights(t, taskList{[]int{1, 2, 3, 4}, []int{0, 1, 3, 7}}, 10, 9, 7, 4)
	expectWeights(t, taskList{[]int{1, 2, 3, 4}, []int{0, 0, 3, 4}}, 8, 9, 7, 4)
	expectWeights(t, taskList{[]int{1, 2, 3, 4}, []int{0, 0, 0, 1}}, 5, 2, 3, 4)
}

func TestPlacesByOfSeveral(t *testing.T) {
	// Of several with the same weight the first one is placed.
	expectPlaces(t, taskList{[]int{3, 3, 3}, noneAhead(3)}, 6, 0, 0, 1)
	expectPlaces(t, taskList{[]int{2, 1, 3}, []int{0, 1, 0}}, 3, 0, 0, 1)
	expectPlaces(t, taskList{[]int{3, 2, 1}, []int{0, 0, 2}}, 3, 0, 1, 1)
	// One with less weight is placed where the one with more does not fit.
	expectPlaces(t, taskList{[]int{5, 4, 1}, noneAhead(3)}, 6, 0, 1, 0)
	// One that must wait is placed at the place of that for which it waits.
	expectPlaces(t, taskList{[]int{1, 9, 2}, []int{0, 1, 0}}, 10, 0, 0, 1)
	// By weights the first two fill a place together, and the other two do not
	// fit in one: the rule takes a place more than the fewest.
	slower := taskList{[]int{1, 1, 2, 2}, []int{0, 0, 0, 3}}
	expectPlaces(t, slower, 3, 0, 0, 1, 2)
	expectFewest(t, slower, 3, 2)
}

func TestBadTasks(t *testing.T) {
	bad := map[string]taskList{
		"one task too many":    {repeated(impl.MaxTasks+1, 1), noneAhead(impl.MaxTasks + 1)},
		"one too many wait":    {repeated(impl.MaxTasks+1, 1), allTasksAhead(impl.MaxTasks + 1)},
		"many tasks too many":  {repeated(70, 1), noneAhead(70)},
		"no sets (nil)":        {[]int{1}, nil},
		"no sets (empty)":      {[]int{1}, []int{}},
		"no times (nil)":       {nil, []int{0}},
		"no times (empty)":     {[]int{}, []int{0}},
		"a time too few":       {[]int{1, 1}, []int{0, 1, 1}},
		"a set too few":        {[]int{1, 1, 1}, []int{0, 1}},
		"too many sets":        {repeated(impl.MaxTasks, 1), noneAhead(impl.MaxTasks + 1)},
		"too many times":       {repeated(impl.MaxTasks+1, 1), noneAhead(impl.MaxTasks)},
		"ahead of the first":   {[]int{1}, []int{1}},
		"a set of itself":      {[]int{1, 1}, []int{0, 2}},
		"the last of itself":   {repeated(impl.MaxTasks, 1), append(noneAhead(impl.MaxTasks-1), 1<<(impl.MaxTasks-1))},
		"a set of one behind":  {[]int{1, 1, 1}, []int{0, 4, 0}},
		"the first of behind":  {[]int{1, 1, 1}, []int{2, 0, 0}},
		"a set with one more":  {[]int{1, 1, 1}, []int{0, 1, 5}},
		"a set of no task":     {[]int{1, 1}, []int{0, 1 << 10}},
		"a set of the highest": {[]int{1, 1}, []int{0, 1 << 62}},
		"the greatest set":     {[]int{1, 1}, []int{0, math.MaxInt}},
		"the first set below":  {[]int{1, 1}, []int{-1, 0}},
		"the last set below":   {[]int{1, 1}, []int{0, -1}},
		"a set of 2 below":     {[]int{1, 1, 1}, []int{0, 0, -2}},
		"the least set":        {[]int{1, 1}, []int{0, math.MinInt}},
	}
	for name, tasks := range bad {
		expectNoTasks(t, name, tasks)
	}
	for _, time := range outOf(1, impl.MaxTime) {
		expectNoTasks(t, "the only time", taskList{[]int{time}, []int{0}})
		for i := range impl.MaxTasks {
			tasks := taskList{repeated(impl.MaxTasks, 1), oneAhead(impl.MaxTasks)}
			tasks.times[i] = time
			expectNoTasks(t, "a time", tasks)
		}
	}
}

// All sets but those of tasks ahead are none.
func TestSetsOfTasksAhead(t *testing.T) {
	for n := 1; n <= impl.MaxTasks; n++ {
		for i := range n {
			for set := -70; set <= 70; set++ {
				tasks := taskList{repeated(n, 1), noneAhead(n)}
				tasks.after[i] = set
				want := set >= 0 && set < 1<<i
				if got := impl.ValidTasks(tasks.times, tasks.after); got != want {
					t.Errorf("ValidTasks(%v, %v) = %t", tasks.times, tasks.after, got)
				}
			}
		}
	}
}

func TestBadTactsAndPlaces(t *testing.T) {
	for _, n := range []int{1, 3, impl.MaxTasks} {
		for _, tasks := range []taskList{{repeated(n, 1), noneAhead(n)}, {repeated(n, impl.MaxTime), allTasksAhead(n)}} {
			for _, tact := range outOf(1, impl.MaxTact) {
				expectNoTact(t, tasks, tact)
			}
			for _, places := range outOf(1, impl.MaxTasks) {
				expectTact(t, tasks, places, -1)
			}
		}
	}
	for i := range impl.MaxTasks {
		tasks := taskList{repeated(impl.MaxTasks, 1), noneAhead(impl.MaxTasks)}
		tasks.times[i] = impl.MaxTime
		for tact := range impl.MaxTime {
			expectNoTact(t, tasks, tact)
		}
	}
}

func TestP17TasksCanBeLeftOut(t *testing.T) {
	for _, tasks := range someTasks() {
		for n := len(tasks.times); n >= 0; n-- {
			if !impl.ValidTasks(tasks.times[:n], tasks.after[:n]) {
				t.Fatalf("%v, %v are no tasks", tasks.times[:n], tasks.after[:n])
			}
		}
	}
}

func TestP18FewerPlacesAreNotEnough(t *testing.T) {
	for _, tasks := range someTasks() {
		last := math.MaxInt
		for _, tact := range someTacts(tasks.times) {
			expectFewest(t, tasks, tact, fewestTried(tasks, tact))
			fewest := impl.FewestPlaces(tasks.times, tasks.after, tact)
			placed := impl.PlacesBy(tasks.times, tasks.after, tact)
			if fewest > 1+slices.Max(append(placed, -1)) || fewest*tact < sum(tasks.times) || fewest > last {
				t.Fatalf("FewestPlaces(%v, %v, %d) = %d, by weights %v, with less tact %d", tasks.times, tasks.after, tact, fewest, placed, last)
			}
			last = fewest
		}
	}
}

func TestP19WeightsGoDownTheLine(t *testing.T) {
	for _, tasks := range someTasks() {
		expectWeights(t, tasks, weightsBySteps(tasks)...)
		weights := impl.WeightsOf(tasks.times, tasks.after)
		for task, set := range tasks.after {
			if weights[task] < tasks.times[task] || weights[task] > sum(tasks.times) {
				t.Fatalf("WeightsOf(%v, %v) = %v: task %d", tasks.times, tasks.after, weights, task)
			}
			for other := range task {
				if in(set, other) && weights[other] < tasks.times[other]+weights[task] {
					t.Fatalf("WeightsOf(%v, %v) = %v: %d behind %d", tasks.times, tasks.after, weights, task, other)
				}
			}
		}
	}
}

func TestP20TasksStandWhereTheyMay(t *testing.T) {
	for _, tasks := range someTasks() {
		for _, tact := range someTacts(tasks.times) {
			expectPlaces(t, tasks, tact, placesByRows(tasks, tact)...)
			places := impl.PlacesBy(tasks.times, tasks.after, tact)
			used := repeated(impl.MaxTasks, 0)
			for task, place := range places {
				used[place] += tasks.times[task]
				if used[place] > tact || !mayStand(tasks.after[task], places, place) {
					t.Fatalf("PlacesBy(%v, %v, %d) = %v: task %d", tasks.times, tasks.after, tact, places, task)
				}
			}
		}
	}
}

func TestP21LessTactIsNotEnough(t *testing.T) {
	for _, tasks := range someTasks() {
		for places := 1; places <= impl.MaxTasks; places++ {
			tact := impl.LeastTact(tasks.times, tasks.after, places)
			if fewest := impl.FewestPlaces(tasks.times, tasks.after, tact); fewest < 0 || fewest > places {
				t.Fatalf("LeastTact(%v, %v, %d) = %d, for %d places", tasks.times, tasks.after, places, tact, fewest)
			}
			if fewest := impl.FewestPlaces(tasks.times, tasks.after, tact-1); fewest >= 0 && fewest <= places {
				t.Fatalf("LeastTact(%v, %v, %d) = %d, but 1 less is enough", tasks.times, tasks.after, places, tact)
			}
		}
	}
}

func TestP68LinesMayRunBackwards(t *testing.T) {
	for _, tasks := range someTasks() {
		back := backwards(tasks)
		for _, tact := range someTacts(tasks.times) {
			expectFewest(t, back, tact, impl.FewestPlaces(tasks.times, tasks.after, tact))
		}
	}
}

// lineCalls returns calls of all functions of lines, with times and sets.
func lineCalls() map[string]func(lists [][]int) []int {
	return map[string]func(lists [][]int) []int{
		"ValidTasks": func(lists [][]int) []int {
			return repeated(1, map[bool]int{true: 1}[impl.ValidTasks(lists[0], lists[1])])
		},
		"FewestPlaces":  func(lists [][]int) []int { return []int{impl.FewestPlaces(lists[0], lists[1], 10)} },
		"WeightsOf":     func(lists [][]int) []int { return impl.WeightsOf(lists[0], lists[1]) },
		"PlacesBy":      func(lists [][]int) []int { return impl.PlacesBy(lists[0], lists[1], 10) },
		"PlacesBy once": func(lists [][]int) []int { return impl.PlacesBy(lists[0], lists[1], impl.MaxTact) },
		"PlacesBy none": func(lists [][]int) []int { return impl.PlacesBy(lists[0], lists[1], 0) },
		"LeastTact":     func(lists [][]int) []int { return []int{impl.LeastTact(lists[0], lists[1], 2)} },
	}
}

func TestLinesShareNoMemory(t *testing.T) {
	bad := []taskList{
		{repeated(impl.MaxTasks+1, 1), noneAhead(impl.MaxTasks + 1)},
		{[]int{1, 0}, []int{0, 1}},
		{[]int{1, 1}, []int{0, 2}},
		{[]int{1, 1}, []int{0}},
	}
	for name, call := range lineCalls() {
		for _, tasks := range append(someTasks(), bad...) {
			checkMemory(t, name, [][]int{tasks.times, tasks.after}, call)
		}
	}
}
