package tests

import (
	"math"
	"math/big"
	"math/rand/v2"
	"slices"
	"testing"

	"loop.example/shopsthatmake/impl"
)

// netOf returns the net of workers with these times, and of these ways.
func netOf(times []int, ways ...[]int) impl.Net {
	return impl.Net{Times: times, Ways: ways}
}

// ring returns ways from each worker to the next one, and from the last one to
// the first one, with these tokens.
func ring(tokens ...int) [][]int {
	var ways [][]int
	for worker, lying := range tokens {
		ways = append(ways, []int{worker, (worker + 1) % len(tokens), lying})
	}
	return ways
}

// withWays returns the net with these ways instead of its own.
func withWays(n impl.Net, ways [][]int) impl.Net {
	return impl.Net{Times: n.Times, Ways: ways}
}

// withTokens returns the net with so many tokens on the way.
func withTokens(n impl.Net, way, tokens int) impl.Net {
	ways := copyOfRows(n.Ways)
	ways[way][2] = tokens
	return withWays(n, ways)
}

// fullNet returns a net of MaxNodes workers and MaxWays ways.
func fullNet() impl.Net {
	return netOf(repeated(impl.MaxNodes, impl.MaxTime), append(ring(0, 0, 0, 1), []int{0, 2, 1}, []int{1, 0, 3}, []int{3, 3, 2})...)
}

// fewWorkers returns all nets of one worker and of two workers with few ways,
// times and tokens.
func fewWorkers() []impl.Net {
	var nets []impl.Net
	for count := range 3 {
		for _, ways := range rowsOf(count, rowsWith([]int{0}, []int{0}, []int{0, 1, 2, impl.MaxTokens})) {
			for _, times := range allLists(1, 0, 1, 2, impl.MaxTime) {
				nets = append(nets, netOf(times, ways...))
			}
		}
		for _, ways := range rowsOf(count, rowsWith([]int{0, 1}, []int{0, 1}, []int{0, 1, impl.MaxTokens})) {
			for _, times := range allLists(2, 0, 2, impl.MaxTime) {
				nets = append(nets, netOf(times, ways...))
			}
		}
	}
	return nets
}

// randomWays returns ways of a net with so many workers, each with a number of
// tokens out of a list.
func randomWays(r *rand.Rand, count, workers int, tokens ...int) [][]int {
	var ways [][]int
	for range count {
		ways = append(ways, []int{r.IntN(workers), r.IntN(workers), tokens[r.IntN(len(tokens))]})
	}
	return ways
}

// randomNets returns nets with so many workers: of any ways, and of a ring with
// other ways among its own.
func randomNets(r *rand.Rand, workers, count int, tokens ...int) []impl.Net {
	times := randomList(r, workers, impl.MaxTime)
	nets := []impl.Net{
		netOf(times, randomWays(r, count, workers, tokens...)...),
		netOf(sparse(r, times, 2), randomWays(r, count, workers, tokens...)...),
		netOf(randomList(r, workers, 1), randomWays(r, count, workers, tokens...)...),
	}
	if count < workers {
		return nets
	}
	for _, list := range [][]int{times, sparse(r, times, 2), repeated(workers, impl.MaxTime)} {
		ways := ring(repeated(workers, 0)...)
		for _, way := range ways {
			way[2] = tokens[r.IntN(len(tokens))]
		}
		ways = append(ways, randomWays(r, count-workers, workers, tokens...)...)
		r.Shuffle(count, func(i, j int) { ways[i], ways[j] = ways[j], ways[i] })
		nets = append(nets, netOf(list, ways...))
	}
	return nets
}

// someNets returns nets: no workers, all of few workers with few ways, and some
// of each larger number of workers and ways, some of them dead.
func someNets() []impl.Net {
	nets := append([]impl.Net{{}, fullNet()}, fewWorkers()...)
	r := fixedRandom()
	for workers := 2; workers <= impl.MaxNodes; workers++ {
		for count := range impl.MaxWays + 1 {
			for range 8 {
				nets = append(nets, randomNets(r, workers, count, 0, 1, 2, impl.MaxTokens)...)
				nets = append(nets, randomNets(r, workers, count, 0, 0, 0, 1)...)
				nets = append(nets, randomNets(r, workers, count, 1, 2, impl.MaxTokens)...)
			}
		}
	}
	return nets
}

// livingNets returns those of someNets that are not dead.
func livingNets() []impl.Net {
	return slices.DeleteFunc(someNets(), deadByRounds)
}

// roundSums is the time of all workers, and the tokens, of a round or of
// several that have no worker in common.
type roundSums struct {
	time, tokens int
}

// roundsOf returns the sums of all sets of ways that are rounds without a worker
// in common: each worker of them has one way to it, and one from it.
func roundsOf(n impl.Net) []roundSums {
	var sums []roundSums
	for set := 1; set < 1<<len(n.Ways); set++ {
		var one roundSums
		to, from := 0, 0
		areRounds := true
		for i, way := range n.Ways {
			if in(set, i) {
				areRounds = areRounds && !in(from, way[0]) && !in(to, way[1])
				from, to = from|1<<way[0], to|1<<way[1]
				one.time += n.Times[way[0]]
				one.tokens += way[2]
			}
		}
		if areRounds && from == to {
			sums = append(sums, one)
		}
	}
	return sums
}

// deadByRounds reports whether a round has no tokens.
func deadByRounds(n impl.Net) bool {
	return slices.ContainsFunc(roundsOf(n), func(one roundSums) bool { return one.tokens == 0 })
}

// paceByRounds returns the greatest pace of all rounds of a net that is not
// dead. Of several rounds together it is between those of each one.
func paceByRounds(n impl.Net) impl.Frac {
	pace := new(big.Rat)
	for _, one := range roundsOf(n) {
		if rat := big.NewRat(int64(one.time), int64(one.tokens)); rat.Cmp(pace) > 0 {
			pace = rat
		}
	}
	return fracOfRat(pace)
}

// keepsByRounds reports whether no round takes more time than the pace has for
// its tokens.
func keepsByRounds(n impl.Net, up, down int) bool {
	return !slices.ContainsFunc(roundsOf(n), func(one roundSums) bool { return one.time*down > up*one.tokens })
}

// clockNet is a net that is gone through by the clock.
type clockNet struct {
	net    impl.Net
	clock  int
	lying  []int   // how many tokens lie on each way
	coming [][]int // for each way, when tokens are put on it
	begins [][]int // for each worker, when it begins
}

// beginsByClock returns when each worker begins for each round, found by moving
// tokens when the clock tells so.
func beginsByClock(n impl.Net, rounds int) [][]int {
	c := &clockNet{net: n, lying: column(n.Ways, 2), coming: make([][]int, len(n.Ways)), begins: make([][]int, len(n.Times))}
	for c.clock = 0; slices.ContainsFunc(c.begins, func(list []int) bool { return len(list) < rounds }); c.clock++ {
		for changed := true; changed; {
			changed = c.putTokens()
			for worker := range n.Times {
				if len(c.begins[worker]) < rounds && c.mayBegin(worker) {
					c.begin(worker)
					changed = true
				}
			}
		}
	}
	rows := make([][]int, rounds)
	for round := range rows {
		for worker := range n.Times {
			rows[round] = append(rows[round], c.begins[worker][round])
		}
	}
	return rows
}

// putTokens puts on their ways all tokens that come now, and reports whether
// there are any.
func (c *clockNet) putTokens() bool {
	changed := false
	for way, list := range c.coming {
		left := slices.DeleteFunc(slices.Clone(list), func(time int) bool { return time <= c.clock })
		c.lying[way] += len(list) - len(left)
		c.coming[way] = left
		changed = changed || len(left) < len(list)
	}
	return changed
}

// mayBegin reports whether a token lies on each way to the worker.
func (c *clockNet) mayBegin(worker int) bool {
	for i, way := range c.net.Ways {
		if way[1] == worker && c.lying[i] == 0 {
			return false
		}
	}
	return true
}

// begin takes the tokens for the worker, which begins now.
func (c *clockNet) begin(worker int) {
	c.begins[worker] = append(c.begins[worker], c.clock)
	for i, way := range c.net.Ways {
		if way[1] == worker {
			c.lying[i]--
		}
		if way[0] == worker {
			c.coming[i] = append(c.coming[i], c.clock+c.net.Times[worker])
		}
	}
}

// expectKeeps fails the test if KeepsPace is not what is wanted.
func expectKeeps(t *testing.T, n impl.Net, up, down int, want bool) {
	t.Helper()
	if got := impl.KeepsPace(n, up, down); got != want {
		t.Errorf("KeepsPace(%v, %d, %d) = %t", n, up, down, got)
	}
}

// expectKeptFrom fails the test if KeepsPace does not hold of just the paces
// that are at least up divided by down: for each number by which a pace may be
// divided it asks for those at it, just below it and just above it, and for the
// least and the greatest ones.
func expectKeptFrom(t *testing.T, n impl.Net, up, down int) {
	t.Helper()
	for by := 1; by <= impl.MaxPace; by++ {
		least := (up*by + down - 1) / down
		for _, pace := range []int{0, 1, least - 1, least, least + 1, impl.MaxPace} {
			if pace >= 0 && pace <= impl.MaxPace {
				expectKeeps(t, n, pace, by, pace >= least)
			}
		}
	}
}

// expectPace fails the test if the net is dead, or its pace is another one.
func expectPace(t *testing.T, n impl.Net, up, down int) {
	t.Helper()
	if !impl.ValidNet(n) || impl.IsDead(n) {
		t.Errorf("ValidNet(%v) = %t, IsDead %t", n, impl.ValidNet(n), impl.IsDead(n))
	}
	if got, ok := impl.PaceOf(n); !ok || got != (impl.Frac{Up: up, Down: down}) {
		t.Errorf("PaceOf(%v) = %v, %t, want %d divided by %d", n, got, ok, up, down)
	}
	expectKeptFrom(t, n, up, down)
}

// expectBegins fails the test if the workers do not begin when it is wanted.
func expectBegins(t *testing.T, n impl.Net, want ...[]int) {
	t.Helper()
	if got := impl.BeginsAt(n, len(want)); !sameRows(got, want) {
		t.Errorf("BeginsAt(%v, %d) = %v, want %v", n, len(want), got, want)
	}
}

// expectNoBegins fails the test if BeginsAt takes the arguments.
func expectNoBegins(t *testing.T, n impl.Net, rounds int) {
	t.Helper()
	if got := impl.BeginsAt(n, rounds); got != nil {
		t.Errorf("BeginsAt(%v, %d) = %v", n, rounds, got)
	}
}

// expectNoPace fails the test if there is a pace, or if any worker begins.
func expectNoPace(t *testing.T, n impl.Net) {
	t.Helper()
	if got, ok := impl.PaceOf(n); ok || got != (impl.Frac{}) {
		t.Errorf("PaceOf(%v) = %v, %t", n, got, ok)
	}
	for _, rounds := range []int{-1, 0, 1, 2, impl.MaxRounds, impl.MaxRounds + 1} {
		expectNoBegins(t, n, rounds)
	}
}

// expectDead fails the test if the net is not a dead one.
func expectDead(t *testing.T, n impl.Net) {
	t.Helper()
	if !impl.ValidNet(n) || !impl.IsDead(n) {
		t.Errorf("ValidNet(%v) = %t, IsDead %t", n, impl.ValidNet(n), impl.IsDead(n))
	}
	expectNoPace(t, n)
}

// expectNoNet fails the test if a function of nets takes it.
func expectNoNet(t *testing.T, what string, n impl.Net) {
	t.Helper()
	if impl.ValidNet(n) || impl.IsDead(n) {
		t.Errorf("%s: ValidNet(%v) = %t, IsDead %t", what, n, impl.ValidNet(n), impl.IsDead(n))
	}
	expectNoPace(t, n)
	for _, pace := range [][]int{{0, 1}, {1, 1}, {5, 2}, {impl.MaxPace, 1}, {impl.MaxPace, impl.MaxPace}} {
		expectKeeps(t, n, pace[0], pace[1], false)
	}
}

func TestLimitsOfNets(t *testing.T) {
	if impl.MaxNodes != 4 || impl.MaxWays != 7 || impl.MaxTokens != 3 || impl.MaxRounds != 40 || impl.MaxPace != 40 {
		t.Errorf("limits = %d, %d, %d, %d, %d", impl.MaxNodes, impl.MaxWays, impl.MaxTokens, impl.MaxRounds, impl.MaxPace)
	}
}

func TestNetOfWorkers(t *testing.T) {
	three := netOf([]int{2, 3, 4}, ring(0, 0, 2)...)
	expectPace(t, three, 9, 2)
	expectBegins(t, three, []int{0, 2, 5}, []int{0, 2, 5}, []int{9, 11, 14}, []int{9, 11, 14}, []int{18, 20, 23})
	// The tokens lie elsewhere.
	expectPace(t, netOf([]int{2, 3, 4}, ring(1, 1, 0)...), 9, 2)
	expectBegins(t, netOf([]int{2, 3, 4}, ring(1, 1, 0)...), []int{4, 0, 0}, []int{7, 6, 3}, []int{13, 9, 9}, []int{16, 15, 12})
	// One worker has a round of its own, which is slower.
	slow := netOf([]int{2, 3, 4}, append(ring(0, 0, 3), []int{2, 2, 1})...)
	expectPace(t, slow, 4, 1)
	expectBegins(t, slow, []int{0, 2, 5}, []int{0, 2, 9}, []int{0, 2, 13}, []int{9, 11, 17}, []int{13, 15, 21})
	// A round that is faster does not count, but what it puts is waited for.
	fast := netOf([]int{2, 3, 4}, append(ring(0, 0, 1), []int{1, 0, 2})...)
	expectPace(t, fast, 9, 1)
	expectBegins(t, fast, []int{0, 2, 5}, []int{9, 11, 14}, []int{18, 20, 23})
}

func TestWaysThatAreNoRound(t *testing.T) {
	// All ways lead forward, with tokens or without.
	row := netOf([]int{2, 3, 4, 1}, []int{0, 1, 0}, []int{1, 2, 0}, []int{2, 3, 0})
	expectPace(t, row, 0, 1)
	expectBegins(t, row, []int{0, 2, 5, 9}, []int{0, 2, 5, 9}, []int{0, 2, 5, 9})
	expectBegins(t, withTokens(row, 1, 2), []int{0, 2, 0, 4}, []int{0, 2, 0, 4}, []int{0, 2, 5, 9})
	// They lead backward, each one to a worker with a lesser number.
	back := netOf([]int{1, 4, 3, 2}, []int{1, 0, 0}, []int{2, 1, 0}, []int{3, 2, 0})
	expectPace(t, back, 0, 1)
	expectBegins(t, back, []int{9, 5, 2, 0}, []int{9, 5, 2, 0})
	// Two ways lead to the same worker, which waits for the later token.
	fork := netOf([]int{2, 3, 9, 1}, []int{0, 1, 0}, []int{0, 2, 0}, []int{1, 3, 0}, []int{2, 3, 0})
	expectPace(t, fork, 0, 1)
	expectBegins(t, fork, []int{0, 2, 2, 11}, []int{0, 2, 2, 11})
	expectBegins(t, withTokens(fork, 3, 1), []int{0, 2, 2, 5}, []int{0, 2, 2, 11})
	// A round leads to others, and others to a round.
	ahead := netOf([]int{3, 2, 5, 4}, []int{0, 0, 1}, []int{0, 1, 0}, []int{1, 2, 1}, []int{2, 3, 0})
	expectPace(t, ahead, 3, 1)
	expectBegins(t, ahead, []int{0, 3, 0, 5}, []int{3, 6, 5, 10}, []int{6, 9, 8, 13})
	behind := netOf([]int{3, 2, 5}, []int{0, 1, 0}, []int{1, 2, 0}, []int{2, 1, 1})
	expectPace(t, behind, 7, 1)
	expectBegins(t, behind, []int{0, 3, 5}, []int{0, 10, 12}, []int{0, 17, 19})
}

func TestNoWays(t *testing.T) {
	for workers := range impl.MaxNodes + 1 {
		for _, times := range allLists(workers, 0, 1, impl.MaxTime) {
			for _, ways := range [][][]int{nil, {}} {
				n := netOf(times, ways...)
				expectPace(t, n, 0, 1)
				for _, rounds := range []int{0, 1, 2, impl.MaxRounds} {
					expectBegins(t, n, slices.Repeat([][]int{repeated(workers, 0)}, rounds)...)
				}
			}
		}
	}
}

func TestNoWorkers(t *testing.T) {
	for _, none := range []impl.Net{{}, netOf([]int{}), {Ways: [][]int{}}} {
		expectPace(t, none, 0, 1)
		for rounds := range impl.MaxRounds + 1 {
			expectBegins(t, none, make([][]int, rounds)...)
		}
		expectNoBegins(t, none, -1)
		expectNoBegins(t, none, impl.MaxRounds+1)
	}
	for _, way := range [][]int{nil, {}, {0, 0, 0}, {0, 0, 1}, {-1, -1, 1}, {0, 1, 1}} {
		expectNoNet(t, "a way without workers", netOf(nil, way))
	}
}

func TestRoundsOfOneWorker(t *testing.T) {
	for time := range impl.MaxTime + 1 {
		expectDead(t, netOf([]int{time}, []int{0, 0, 0}))
		expectPace(t, netOf([]int{time}, []int{0, 0, 1}), time, 1)
		for tokens := 1; tokens <= impl.MaxTokens; tokens++ {
			n := netOf([]int{time}, []int{0, 0, tokens})
			want := paceByRounds(n)
			expectPace(t, n, want.Up, want.Down)
			var begins [][]int
			for round := range impl.MaxRounds {
				begins = append(begins, []int{round / tokens * time})
			}
			expectBegins(t, n, begins...)
			// Of several rounds the one with the fewest tokens counts.
			expectBegins(t, netOf([]int{time}, []int{0, 0, impl.MaxTokens}, []int{0, 0, tokens}), begins...)
			expectDead(t, netOf([]int{time}, []int{0, 0, tokens}, []int{0, 0, 0}))
		}
	}
	expectPace(t, netOf([]int{7}, []int{0, 0, 3}, []int{0, 0, 2}), 7, 2)
	expectPace(t, netOf([]int{7}, []int{0, 0, 2}, []int{0, 0, 3}), 7, 2)
	// Each worker has its own, and nothing in common.
	apart := netOf([]int{3, 5, 9, 4}, []int{0, 0, 1}, []int{1, 1, 2}, []int{2, 2, 3}, []int{3, 3, 1})
	expectPace(t, apart, 4, 1)
	expectBegins(t, apart, []int{0, 0, 0, 0}, []int{3, 0, 0, 4}, []int{6, 5, 0, 8}, []int{9, 5, 9, 12})
	for worker := range apart.Times {
		expectDead(t, withTokens(apart, worker, 0))
	}
}

// A worker begins again while it is still at work, if there are tokens.
func TestWorkersThatBeginAgainAtWork(t *testing.T) {
	expectBegins(t, netOf([]int{9}, []int{0, 0, 3}), []int{0}, []int{0}, []int{0}, []int{9}, []int{9}, []int{9}, []int{18})
	both := netOf([]int{1, 8}, ring(0, 2)...)
	expectPace(t, both, 9, 2)
	expectBegins(t, both, []int{0, 1}, []int{0, 1}, []int{9, 10}, []int{9, 10})
	apart := netOf([]int{1, 8}, append(ring(0, 3), []int{0, 0, 1})...)
	expectPace(t, apart, 3, 1)
	expectBegins(t, apart, []int{0, 1}, []int{1, 2}, []int{2, 3}, []int{9, 10}, []int{10, 11}, []int{11, 12}, []int{18, 19})
	expectBegins(t, netOf([]int{1, 9}, []int{0, 0, 1}, []int{0, 1, 0}), []int{0, 1}, []int{1, 2}, []int{2, 3}, []int{3, 4})
}

func TestNetsDeadByOneRound(t *testing.T) {
	times := []int{3, 2, 4, 1}
	lively := [][]int{{0, 0, 1}, {1, 2, 2}, {2, 1, 1}}
	expectPace(t, netOf(times, lively...), 3, 1)
	for length := 1; length <= impl.MaxNodes; length++ {
		expectDead(t, netOf(times, ring(repeated(length, 0)...)...))
		dead := ring(repeated(length, 0)...)
		expectDead(t, netOf(times, append(copyOfRows(lively), dead...)...))
		expectDead(t, netOf(times, append(copyOfRows(dead), lively...)...))
		slices.Reverse(dead)
		expectDead(t, netOf(times, append(copyOfRows(dead), lively...)...))
		for way := range dead {
			for tokens := 1; tokens <= impl.MaxTokens; tokens++ {
				n := withTokens(netOf(times, append(copyOfRows(dead), lively...)...), way, tokens)
				want := paceByRounds(n)
				expectPace(t, n, want.Up, want.Down)
			}
		}
	}
	// Of several ways between two workers one of each makes the round.
	several := netOf([]int{3, 2}, []int{0, 1, 1}, []int{0, 1, 0}, []int{1, 0, 2}, []int{1, 0, 0})
	expectDead(t, several)
	expectPace(t, withTokens(several, 1, 1), 5, 1)
	expectPace(t, withTokens(several, 3, 2), 5, 2)
	// The round is not the first worker's, nor the last one's.
	expectDead(t, netOf(times, []int{0, 1, 0}, []int{1, 2, 0}, []int{2, 1, 0}, []int{2, 3, 0}))
	expectDead(t, netOf(times, []int{3, 2, 0}, []int{1, 3, 0}, []int{2, 1, 0}, []int{0, 0, 1}))
	expectPace(t, netOf(times, []int{3, 2, 0}, []int{1, 3, 0}, []int{2, 1, 3}, []int{0, 0, 1}), 3, 1)
}

// The paragraph on KeepsPace does not speak of dead nets: there are numbers if
// all rounds without tokens take no time.
func TestPacesOfDeadNets(t *testing.T) {
	for workers := 1; workers <= impl.MaxNodes; workers++ {
		dead := ring(repeated(workers, 0)...)
		expectDead(t, netOf(repeated(workers, 0), dead...))
		expectKeptFrom(t, netOf(repeated(workers, 0), dead...), 0, 1)
		for worker := range workers {
			times := repeated(workers, 0)
			times[worker] = 1
			expectDead(t, netOf(times, dead...))
			for up := range impl.MaxPace + 1 {
				for down := 1; down <= impl.MaxPace; down++ {
					expectKeeps(t, netOf(times, dead...), up, down, false)
				}
			}
		}
	}
	// Another round tells, beside one without tokens and times.
	other := netOf([]int{0, 0, 5}, []int{0, 1, 0}, []int{1, 0, 0}, []int{1, 2, 0}, []int{2, 1, 2})
	expectDead(t, other)
	expectKeptFrom(t, other, 5, 2)
}

func TestMostWorkersAndWays(t *testing.T) {
	full := fullNet()
	expectPace(t, full, 36, 1)
	expectBegins(t, full, []int{0, 9, 18, 27}, []int{36, 45, 54, 63}, []int{72, 81, 90, 99})
	last := impl.BeginsAt(full, impl.MaxRounds)
	if len(last) != impl.MaxRounds || !same(last[impl.MaxRounds-1], []int{1404, 1413, 1422, 1431}) {
		t.Errorf("BeginsAt(%v, %d) = %v", full, impl.MaxRounds, last)
	}
	// Less is asked for when there are more tokens, one round after the other.
	expectPace(t, withTokens(full, 0, 3), 27, 2)
	expectPace(t, withTokens(withTokens(full, 0, 3), 4, 3), 9, 1)
	expectPace(t, withTokens(withTokens(withTokens(full, 0, 3), 4, 3), 2, 3), 36, 7)
	expectPace(t, netOf(full.Times, ring(3, 3, 3, 3)...), 3, 1)
	// All ways are of one worker, or all between the same two.
	alone := netOf(repeated(impl.MaxNodes, impl.MaxTime), slices.Repeat([][]int{{3, 3, 2}}, impl.MaxWays)...)
	expectPace(t, alone, 9, 2)
	expectBegins(t, alone, []int{0, 0, 0, 0}, []int{0, 0, 0, 0}, []int{0, 0, 0, 9}, []int{0, 0, 0, 9}, []int{0, 0, 0, 18})
	expectDead(t, withTokens(alone, impl.MaxWays-1, 0))
	between := netOf(repeated(impl.MaxNodes, impl.MaxTime), slices.Repeat([][]int{{3, 1, 0}}, impl.MaxWays)...)
	expectPace(t, between, 0, 1)
	expectBegins(t, between, []int{0, 9, 0, 0}, []int{0, 9, 0, 0})
	expectPace(t, withWays(between, append([][]int{{1, 3, 3}}, between.Ways[1:]...)), 6, 1)
}

func TestTimesOfNone(t *testing.T) {
	for workers := 1; workers <= impl.MaxNodes; workers++ {
		none := repeated(workers, 0)
		for tokens := 1; tokens <= impl.MaxTokens; tokens++ {
			lying := repeated(workers, 0)
			lying[workers-1] = tokens
			n := netOf(none, ring(lying...)...)
			expectPace(t, n, 0, 1)
			expectBegins(t, n, slices.Repeat([][]int{none}, impl.MaxRounds)...)
		}
	}
	// Only one of them has a time.
	expectPace(t, netOf([]int{0, 9, 0}, ring(1, 1, 1)...), 3, 1)
	expectBegins(t, netOf([]int{0, 9, 0}, ring(1, 0, 0)...), []int{9, 0, 9}, []int{18, 9, 18})
}

func TestSeveralWaysBetweenTwo(t *testing.T) {
	several := netOf([]int{3, 2}, []int{0, 1, 0}, []int{0, 1, 2}, []int{1, 0, 1}, []int{1, 0, 3})
	expectPace(t, several, 5, 1)
	expectBegins(t, several, []int{0, 3}, []int{5, 8}, []int{10, 13})
	backward := slices.Clone(several.Ways)
	slices.Reverse(backward)
	expectPace(t, withWays(several, backward), 5, 1)
	// Both ways tell when the worker begins, at first the one, then the other.
	expectBegins(t, netOf([]int{3, 2, 9}, []int{0, 2, 2}, []int{1, 2, 1}, []int{1, 1, 1}, []int{0, 0, 1}), []int{0, 0, 0}, []int{3, 2, 2}, []int{6, 4, 4}, []int{9, 6, 6})
	expectPace(t, netOf([]int{3, 2}, []int{0, 1, 3}, []int{0, 1, 1}, []int{1, 0, 3}, []int{1, 0, 2}), 5, 3)
}

func TestRoundsWithTheSamePace(t *testing.T) {
	// 4 of 2, 2 of 1, and 6 of 3.
	expectPace(t, netOf([]int{4, 2}, []int{0, 0, 2}, []int{1, 1, 1}, []int{0, 1, 1}, []int{1, 0, 2}), 2, 1)
	expectPace(t, netOf([]int{3, 6}, []int{0, 0, 2}, []int{0, 1, 3}, []int{1, 0, 3}), 3, 2)
	expectPace(t, netOf([]int{3, 6}, []int{0, 1, 3}, []int{1, 0, 3}, []int{0, 0, 2}), 3, 2)
	// One is just above the other one, and just below it.
	expectPace(t, netOf([]int{5, 8}, []int{0, 0, 2}, []int{1, 1, 3}), 8, 3)
	expectPace(t, netOf([]int{8, 5}, []int{0, 0, 3}, []int{1, 1, 2}), 8, 3)
	expectPace(t, netOf([]int{5, 7}, []int{0, 0, 2}, []int{1, 1, 3}), 5, 2)
}

func TestPacesWithACommonFactor(t *testing.T) {
	for _, c := range []struct {
		time, tokens int
		want         impl.Frac
	}{{6, 3, impl.Frac{Up: 2, Down: 1}}, {6, 2, impl.Frac{Up: 3, Down: 1}}, {9, 3, impl.Frac{Up: 3, Down: 1}}, {3, 3, impl.Frac{Up: 1, Down: 1}},
		{2, 2, impl.Frac{Up: 1, Down: 1}}, {8, 3, impl.Frac{Up: 8, Down: 3}}, {1, 3, impl.Frac{Up: 1, Down: 3}}, {0, 3, impl.Frac{Up: 0, Down: 1}}} {
		expectPace(t, netOf([]int{c.time}, []int{0, 0, c.tokens}), c.want.Up, c.want.Down)
	}
	expectPace(t, netOf([]int{2, 2}, ring(3, 3)...), 2, 3)
	expectPace(t, netOf([]int{1, 2}, ring(3, 3)...), 1, 2)
	expectPace(t, netOf([]int{1, 2, 0}, ring(3, 3, 3)...), 1, 3)
	expectPace(t, netOf([]int{9, 9, 9, 9}, ring(3, 3, 2, 2)...), 18, 5)
	expectPace(t, netOf([]int{1, 1, 3, 3}, ring(3, 3, 3, 3)...), 2, 3)
	expectPace(t, netOf([]int{1, 0, 0, 0}, ring(3, 3, 3, 3)...), 1, 12)
}

func TestRoundsOfNets(t *testing.T) {
	n := netOf([]int{3, 2}, ring(0, 2)...)
	all := impl.BeginsAt(n, impl.MaxRounds)
	for rounds := range impl.MaxRounds + 1 {
		got := impl.BeginsAt(n, rounds)
		if len(got) != rounds || !sameRows(got, all[:rounds]) {
			t.Errorf("BeginsAt(%v, %d) = %v", n, rounds, got)
		}
	}
	for _, n := range []impl.Net{n, {}, netOf([]int{0}), fullNet()} {
		for _, rounds := range append(outOf(0, impl.MaxRounds), 64, -64, 1<<32, math.MinInt+1) {
			expectNoBegins(t, n, rounds)
		}
	}
}

// All paces in their limits, at the pace of the net and beside it.
func TestAllPaces(t *testing.T) {
	nets := []impl.Net{{}, netOf([]int{9}), fullNet(), netOf([]int{1, 0, 0, 0}, ring(3, 3, 3, 3)...), netOf([]int{8}, []int{0, 0, 3}),
		netOf([]int{5, 8}, []int{0, 0, 2}, []int{1, 1, 3}), netOf([]int{3, 2}, ring(0, 2)...), netOf([]int{0, 0}, ring(0, 1)...)}
	for _, n := range nets {
		for up := range impl.MaxPace + 1 {
			for down := 1; down <= impl.MaxPace; down++ {
				expectKeeps(t, n, up, down, keepsByRounds(n, up, down))
			}
		}
	}
}

func TestBadPaces(t *testing.T) {
	for _, n := range []impl.Net{{}, netOf([]int{0}), netOf([]int{1, 0}, ring(3, 3)...), netOf([]int{0, 0}, ring(0, 0)...)} {
		expectKeeps(t, n, impl.MaxPace, 1, true)
		expectKeeps(t, n, impl.MaxPace, impl.MaxPace, true)
		for _, good := range []int{1, 7, impl.MaxPace} {
			for _, bad := range append(outOf(0, impl.MaxPace), 64, -64, 1<<32) {
				expectKeeps(t, n, bad, good, false)
				expectKeeps(t, n, bad, bad, false)
			}
			for _, bad := range append(outOf(1, impl.MaxPace), 64, -64, 1<<32) {
				expectKeeps(t, n, good, bad, false)
				expectKeeps(t, n, 0, bad, false)
			}
		}
	}
}

func TestBadNets(t *testing.T) {
	way := []int{0, 0, 1}
	bad := map[string]impl.Net{
		"one worker too many":         netOf(repeated(impl.MaxNodes+1, 1)),
		"one too many, with ways":     netOf(repeated(impl.MaxNodes+1, 1), way, way),
		"a way to one too many":       netOf(repeated(impl.MaxNodes+1, 1), []int{0, impl.MaxNodes, 1}),
		"many workers too many":       netOf(repeated(70, 0)),
		"a time below 0":              netOf([]int{-1}),
		"a time above MaxTime":        netOf([]int{impl.MaxTime + 1}),
		"one way too many":            netOf([]int{1}, slices.Repeat([][]int{way}, impl.MaxWays+1)...),
		"many ways too many":          netOf([]int{1}, slices.Repeat([][]int{way}, 70)...),
		"one too many, the last bad":  netOf([]int{1}, append(slices.Repeat([][]int{way}, impl.MaxWays), nil)...),
		"only a way that is nil":      netOf([]int{1}, nil),
		"only a way that is empty":    netOf([]int{1}, []int{}),
		"a way of one number":         netOf([]int{1}, []int{0}),
		"a way of two numbers":        netOf([]int{1, 1}, []int{0, 1}),
		"a way of four numbers":       netOf([]int{1, 1}, []int{0, 1, 1, 1}),
		"a way of many numbers":       netOf([]int{1, 1}, repeated(70, 1)),
		"ways of other lengths":       netOf([]int{1, 1}, []int{0, 1}, []int{1, 0, 1, 1}),
		"a way to one that is none":   netOf([]int{1, 1}, []int{0, 2, 1}),
		"a way from one that is none": netOf([]int{1, 1}, []int{2, 0, 1}),
		"a way below 0":               netOf([]int{1, 1}, []int{-1, 0, 1}),
		"tokens below 0":              netOf([]int{1, 1}, []int{0, 1, -1}),
		"tokens above MaxTokens":      netOf([]int{1, 1}, []int{0, 1, impl.MaxTokens + 1}),
		"a dead round, and a bad way": netOf([]int{1, 1}, []int{0, 0, 0}, []int{0, 2, 1}),
		"a dead round, a bad time":    netOf([]int{-1, 1}, []int{0, 0, 0}),
	}
	for name, n := range bad {
		expectNoNet(t, name, n)
	}
}

func TestNumbersOfBadNets(t *testing.T) {
	for workers := 1; workers <= impl.MaxNodes; workers++ {
		for worker := range workers {
			for _, number := range append(outOf(0, impl.MaxTime), 64, -64, 1<<32) {
				times := repeated(workers, 2)
				times[worker] = number
				expectNoNet(t, "a time", netOf(times, []int{0, 0, 1}))
				expectNoNet(t, "a time", netOf(times))
			}
		}
		for count := 1; count <= impl.MaxWays; count++ {
			for place := range count {
				for number, most := range []int{workers - 1, workers - 1, impl.MaxTokens} {
					for _, other := range append(outOf(0, most), 64, -64, 1<<32) {
						ways := slices.Repeat([][]int{{0, 0, 1}}, count)
						ways[place] = slices.Clone(ways[place])
						ways[place][number] = other
						expectNoNet(t, "a number of a way", netOf(repeated(workers, 2), ways...))
					}
				}
				for _, row := range [][]int{nil, {}, {0}, {0, 0}, {0, 0, 1, 1}, {0, 0, 1, 0, 0, 1}} {
					ways := slices.Repeat([][]int{{0, 0, 1}}, count)
					ways[place] = row
					expectNoNet(t, "a way", netOf(repeated(workers, 2), ways...))
				}
			}
		}
	}
}

// Of all ways of few numbers just those between workers are taken.
func TestValidNets(t *testing.T) {
	for workers := range impl.MaxNodes + 2 {
		times := inOrder(workers)
		for _, way := range allLists(3, -1, 0, 1, 2, 3, 4, 5) {
			want := workers <= impl.MaxNodes && slices.Min(way) >= 0 && max(way[0], way[1]) < workers && way[2] <= impl.MaxTokens
			if got := impl.ValidNet(netOf(times, way)); got != want {
				t.Errorf("ValidNet of %v and the way %v = %t", times, way, got)
			}
		}
	}
	for time := -2; time <= impl.MaxTime+2; time++ {
		if want := time >= 0 && time <= impl.MaxTime; impl.ValidNet(netOf([]int{0, time})) != want {
			t.Errorf("ValidNet with the time %d is not %t", time, want)
		}
	}
}

func TestP40WaysCanBeLeftOut(t *testing.T) {
	for _, n := range someNets() {
		for count := range len(n.Ways) + 1 {
			if !impl.ValidNet(withWays(n, n.Ways[:count])) {
				t.Fatalf("%v with %d of its ways is no net", n, count)
			}
		}
	}
}

func TestP41DeadNetsStayDeadWithMoreWays(t *testing.T) {
	for _, n := range someNets() {
		if got := impl.IsDead(n); got != deadByRounds(n) {
			t.Fatalf("IsDead(%v) = %t", n, got)
		}
		count := len(n.Ways)
		if count > 0 && !impl.IsDead(n) && impl.IsDead(withWays(n, n.Ways[:count-1])) {
			t.Fatalf("%v is not dead, but without its last way", n)
		}
		for way := range n.Ways {
			n = withTokens(n, way, max(1, n.Ways[way][2]))
		}
		if impl.IsDead(n) {
			t.Fatalf("%v is dead", n)
		}
	}
}

func TestP42ThePaceIsTheLeastThatIsKept(t *testing.T) {
	for _, n := range someNets() {
		pace, ok := impl.PaceOf(n)
		if dead := deadByRounds(n); dead == ok {
			t.Fatalf("PaceOf(%v) = %v, %t, dead %t", n, pace, ok, dead)
		}
		if !ok {
			continue
		}
		if pace != paceByRounds(n) {
			t.Fatalf("PaceOf(%v) = %v", n, pace)
		}
		expectKeeps(t, n, pace.Up, pace.Down, true)
		for down := 1; down <= impl.MaxPace; down++ {
			if below := (pace.Up*down - 1) / pace.Down; pace.Up > 0 && below <= impl.MaxPace {
				expectKeeps(t, n, below, down, false)
			}
		}
	}
}

// checkBegins fails the test if a worker begins ahead of a token that it takes,
// or later than it must, or if it does not keep the pace.
func checkBegins(t *testing.T, n impl.Net, begins [][]int, pace impl.Frac) {
	t.Helper()
	for round, row := range begins {
		if len(row) != len(n.Times) {
			t.Fatalf("BeginsAt(%v, %d) = %v", n, len(begins), begins)
		}
		for worker, begin := range row {
			latest := 0
			for _, way := range n.Ways {
				if way[1] == worker && round >= way[2] {
					latest = max(latest, begins[round-way[2]][way[0]]+n.Times[way[0]])
				}
			}
			if begin != latest || round > 0 && begin < begins[round-1][worker] {
				t.Fatalf("BeginsAt(%v, %d) = %v: in round %d the worker %d does not begin at %d", n, len(begins), begins, round, worker, latest)
			}
			if begin*pace.Down > round*pace.Up+sum(n.Times)*pace.Down {
				t.Fatalf("BeginsAt(%v, %d) = %v: in round %d the worker %d is behind the pace %v", n, len(begins), begins, round, worker, pace)
			}
		}
	}
}

func TestP43NetsBeginAsTheyMayAndKeepTheirPace(t *testing.T) {
	for i, n := range livingNets() {
		pace, _ := impl.PaceOf(n)
		begins := impl.BeginsAt(n, impl.MaxRounds)
		if len(begins) != impl.MaxRounds {
			t.Fatalf("BeginsAt(%v, %d) = %v", n, impl.MaxRounds, begins)
		}
		checkBegins(t, n, begins, pace)
		for _, rounds := range []int{0, 1, i % impl.MaxRounds} {
			expectBegins(t, n, begins[:rounds]...)
		}
	}
}

func TestBeginsByTheClock(t *testing.T) {
	for i, n := range livingNets() {
		rounds := 2*impl.MaxTokens + 2
		if i%50 == 0 {
			rounds = impl.MaxRounds
		}
		expectBegins(t, n, beginsByClock(n, rounds)...)
	}
}

func TestP44ASlowerPaceIsKeptToo(t *testing.T) {
	for _, n := range livingNets() {
		pace, ok := impl.PaceOf(n)
		if !ok {
			t.Fatalf("PaceOf(%v) = %v, %t", n, pace, ok)
		}
		expectKeptFrom(t, n, pace.Up, pace.Down)
	}
	for _, n := range someNets() {
		if !deadByRounds(n) {
			continue
		}
		for _, pace := range [][]int{{0, 1}, {1, 3}, {9, 2}, {impl.MaxPace, 1}, {impl.MaxPace, impl.MaxPace}} {
			expectKeeps(t, n, pace[0], pace[1], keepsByRounds(n, pace[0], pace[1]))
		}
	}
}

func TestP75RingsOfTokensGoAsFastAsTheyMust(t *testing.T) {
	for workers := 1; workers <= impl.MaxNodes; workers++ {
		for _, times := range allLists(workers, 0, 1, 2, 4, impl.MaxTime) {
			expectDead(t, netOf(times, ring(repeated(workers, 0)...)...))
			for tokens := 1; tokens <= impl.MaxTokens; tokens++ {
				lying := append(repeated(workers-1, 0), tokens)
				pace, ok := impl.PaceOf(netOf(times, ring(lying...)...))
				if !ok || pace.Up*tokens != sum(times)*pace.Down || sum(times) == 0 && pace.Down != 1 {
					t.Fatalf("PaceOf a ring of %v with %d tokens = %v, %t", times, tokens, pace, ok)
				}
			}
		}
	}
}

// expectNoLater fails the test if a worker begins later with more tokens.
func expectNoLater(t *testing.T, few, more [][]int) {
	t.Helper()
	noLater := func(a, b []int) bool {
		return slices.EqualFunc(a, b, func(begin, other int) bool { return other <= begin })
	}
	if len(few) != impl.MaxRounds || !slices.EqualFunc(few, more, noLater) {
		t.Fatalf("BeginsAt = %v, and with one token more %v", few, more)
	}
}

func TestP76MoreTokensMakeNoNetSlower(t *testing.T) {
	for _, n := range livingNets() {
		if len(n.Ways) == 0 || n.Ways[0][2] == impl.MaxTokens {
			continue
		}
		more := withTokens(n, 0, n.Ways[0][2]+1)
		first, _ := impl.PaceOf(n)
		second, ok := impl.PaceOf(more)
		if !ok || second.Up*first.Down > first.Up*second.Down {
			t.Fatalf("PaceOf(%v) = %v, and with one token more %v, %t", n, first, second, ok)
		}
		expectNoLater(t, impl.BeginsAt(n, impl.MaxRounds), impl.BeginsAt(more, impl.MaxRounds))
	}
}

// tokenCalls returns calls of all functions of nets of tokens, with the times
// and the ways as groups of rows.
func tokenCalls() map[string]func(groups [][][]int, list []int) [][]int {
	number := map[bool]int{true: 1}
	of := func(groups [][][]int) impl.Net { return impl.Net{Times: groups[0][0], Ways: groups[1]} }
	calls := map[string]func(groups [][][]int, list []int) [][]int{
		"ValidNet": func(groups [][][]int, _ []int) [][]int { return [][]int{{number[impl.ValidNet(of(groups))]}} },
		"IsDead":   func(groups [][][]int, _ []int) [][]int { return [][]int{{number[impl.IsDead(of(groups))]}} },
		"PaceOf": func(groups [][][]int, _ []int) [][]int {
			pace, ok := impl.PaceOf(of(groups))
			return [][]int{{pace.Up, pace.Down, number[ok]}}
		},
		"KeepsPace": func(groups [][][]int, _ []int) [][]int {
			return [][]int{{number[impl.KeepsPace(of(groups), 5, 2)], number[impl.KeepsPace(of(groups), 5, 0)]}}
		},
	}
	for name, rounds := range map[string]int{"BeginsAt": 5, "BeginsAt of no rounds": 0, "BeginsAt of too many rounds": impl.MaxRounds + 1} {
		calls[name] = func(groups [][][]int, _ []int) [][]int { return impl.BeginsAt(of(groups), rounds) }
	}
	return calls
}

func TestNetsOfTokensShareNoMemory(t *testing.T) {
	nets := []impl.Net{
		netOf(repeated(impl.MaxNodes+1, 1)),
		netOf([]int{1, -1}, []int{0, 1, 1}),
		netOf([]int{1, 1}, slices.Repeat([][]int{{1, 0, 1}}, impl.MaxWays+1)...),
		netOf([]int{1, 1}, []int{0, 1, 1}, []int{1, 0}),
		netOf([]int{1, 1}, []int{0, 1, 1}, []int{1, 0, 1, 1}),
		netOf([]int{1, 1}, []int{1, 2, 1}, []int{0, 1, 1}),
		netOf([]int{1, 1}, []int{1, 0, impl.MaxTokens + 1}),
	}
	for name, call := range tokenCalls() {
		for i, n := range append(nets, someNets()...) {
			if i < len(nets) || i%3 == 0 || len(n.Ways) > 4 {
				checkGroupsMemory(t, name, [][][]int{{n.Times}, n.Ways}, nil, call)
			}
		}
	}
}
