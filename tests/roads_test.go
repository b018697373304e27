package tests

import (
	"math"
	"math/big"
	"math/rand"
	"slices"
	"testing"

	"loop.example/g01118/impl"
)

// The tests of this file are about promise 10: roads and factors.

// wayFrom returns the length of the shortest way from s to u that visits no
// state twice, or -1 if there is none.
func wayFrom(roads []impl.Road, visited []int64, s, u int64) int64 {
	if s == u {
		return 0
	}
	shortest := int64(-1)
	for _, road := range roads {
		for _, to := range [][2]int64{{road.A, road.B}, {road.B, road.A}} {
			if to[0] != s || slices.Contains(visited, to[1]) {
				continue
			}
			rest := wayFrom(roads, append(slices.Clone(visited), to[1]), to[1], u)
			if rest >= 0 && (shortest < 0 || rest+road.Length < shortest) {
				shortest = rest + road.Length
			}
		}
	}
	return shortest
}

// waysOf returns the lengths of the shortest ways, and whether all states are
// connected.
func waysOf(states int64, roads []impl.Road) ([][]int64, bool) {
	lengths, connected := flatCosts(int(states), int(states), 0), true
	for s := range states {
		for u := range states {
			lengths[s][u] = wayFrom(roads, []int64{s}, s, u)
			connected = connected && lengths[s][u] >= 0
		}
	}
	return lengths, connected
}

// randomRoads returns roads that may leave states unconnected, and of which
// some may be longer than a way around.
func randomRoads(r *rand.Rand, states, count int64) []impl.Road {
	roads := []impl.Road{}
	longest := []int64{1, 3, 10, impl.MaxLength}[r.Intn(4)]
	for range count {
		if states > 1 {
			a, b := r.Int63n(states), 1+r.Int63n(states-1)
			roads = append(roads, impl.Road{A: a, B: (a + b) % states, Length: 1 + r.Int63n(longest)})
		}
	}
	return roads
}

// connectedRoads returns roads that connect all states, in a random order.
func connectedRoads(r *rand.Rand, states int64) []impl.Road {
	roads := randomRoads(r, states, r.Int63n(5))
	for s := int64(1); s < states; s++ {
		roads = append(roads, impl.Road{A: s, B: r.Int63n(s), Length: 1 + r.Int63n(9)})
	}
	r.Shuffle(len(roads), func(i, j int) { roads[i], roads[j] = roads[j], roads[i] })
	return roads
}

func TestRoadLengths(t *testing.T) {
	r := rand.New(rand.NewSource(141))
	kinds := map[bool]int{}
	for range 400 {
		states := 1 + r.Int63n(impl.MaxStates)
		roads := randomRoads(r, states, r.Int63n(9))
		want, connected := waysOf(states, roads)
		lengths, got := impl.RoadLengths(states, roads)
		kinds[connected]++
		if !connected {
			code(t, "not connected", impl.ErrState, lengths, got)
			continue
		}
		same(t, "lengths", lengths, want)
		same(t, "code", got, int64(impl.OK))
		r.Shuffle(len(roads), func(i, j int) { roads[i], roads[j] = roads[j], roads[i] })
		for i, road := range roads {
			if r.Intn(2) == 0 {
				roads[i] = impl.Road{A: road.B, B: road.A, Length: road.Length}
			}
		}
		again, _ := impl.RoadLengths(states, roads)
		same(t, "in any order and direction", again, lengths)
	}
	if kinds[true] < 100 || kinds[false] < 50 {
		t.Error("too few of one kind", kinds)
	}
}

func TestRoadLengthsEdges(t *testing.T) {
	many := slices.Repeat([]impl.Road{{A: 1, B: 0, Length: 7}}, impl.MaxRoads)
	many[13].Length = 3
	line := []impl.Road{}
	for s := range int64(impl.MaxStates - 1) {
		line = append(line, impl.Road{A: s + 1, B: s, Length: impl.MaxLength})
	}
	for _, one := range []struct {
		name   string
		states int64
		roads  []impl.Road
		want   [][]int64
	}{
		{"one state", 1, nil, [][]int64{{0}}},
		{"two states", 2, []impl.Road{{A: 0, B: 1, Length: impl.MaxLength}}, [][]int64{{0, 100}, {100, 0}}},
		{"the other direction", 2, []impl.Road{{A: 1, B: 0, Length: 1}}, [][]int64{{0, 1}, {1, 0}}},
		{"several roads", 2, many, [][]int64{{0, 3}, {3, 0}}},
		{"a road that is no shortest way", 3, []impl.Road{{A: 0, B: 2, Length: 5}, {A: 0, B: 1, Length: 1}, {A: 2, B: 1, Length: 1}}, [][]int64{{0, 1, 2}, {1, 0, 1}, {2, 1, 0}}},
		{"a way as long as the road", 3, []impl.Road{{A: 0, B: 2, Length: 2}, {A: 0, B: 1, Length: 1}, {A: 2, B: 1, Length: 1}}, [][]int64{{0, 1, 2}, {1, 0, 1}, {2, 1, 0}}},
		{"the longest way", impl.MaxStates, line, [][]int64{
			{0, 100, 200, 300, 400, 500}, {100, 0, 100, 200, 300, 400}, {200, 100, 0, 100, 200, 300},
			{300, 200, 100, 0, 100, 200}, {400, 300, 200, 100, 0, 100}, {500, 400, 300, 200, 100, 0},
		}},
	} {
		lengths, got := impl.RoadLengths(one.states, one.roads)
		same(t, one.name, lengths, one.want)
		same(t, one.name+": code", got, int64(impl.OK))
	}
	for states := int64(2); states <= impl.MaxStates; states++ {
		for _, roads := range [][]impl.Road{nil, {}, connectedRoads(rand.New(rand.NewSource(states)), states-1)} {
			lengths, got := impl.RoadLengths(states, roads)
			code(t, "the last state is left out", impl.ErrState, lengths, got)
		}
	}
}

// badRoads returns lists that are no roads between three states.
func badRoads() map[string][]impl.Road {
	good := []impl.Road{{A: 0, B: 1, Length: 1}, {A: 2, B: 1, Length: impl.MaxLength}}
	with := func(a, b, length int64) []impl.Road {
		return append(slices.Clone(good), impl.Road{A: a, B: b, Length: length})
	}
	return map[string][]impl.Road{
		"from no state":   with(-1, 1, 1),
		"from state 3":    with(3, 1, 1),
		"to no state":     with(1, -1, 1),
		"to state 3":      with(1, 3, 1),
		"far away":        with(math.MinInt64, math.MaxInt64, 1),
		"the same state":  with(1, 1, 1),
		"length 0":        with(0, 2, 0),
		"length 101":      with(0, 2, impl.MaxLength+1),
		"negative length": with(0, 2, -1),
		"any length":      with(0, 2, math.MaxInt64),
		"nothing":         {{}},
		"bad at first":    append([]impl.Road{{A: 0, B: 0, Length: 1}}, good...),
		"21 roads":        slices.Repeat(good[:1], impl.MaxRoads+1),
		"many roads":      slices.Repeat(good[:1], 1000000),
		"21 good roads":   slices.Concat(good, slices.Repeat(good[1:], impl.MaxRoads-1)),
	}
}

func TestRoadLengthsErrors(t *testing.T) {
	for name, bad := range badRoads() {
		for _, states := range []int64{3, 1, 0, 7} {
			lengths, got := impl.RoadLengths(states, bad)
			code(t, name, impl.ErrRange, lengths, got)
		}
		// The states 3 and 4 are not connected: ErrRange comes before ErrState.
		if name != "from state 3" && name != "to state 3" {
			lengths, got := impl.RoadLengths(5, bad)
			code(t, name, impl.ErrRange, lengths, got)
		}
	}
	for _, states := range []int64{0, -1, impl.MaxStates + 1, math.MaxInt64, math.MinInt64} {
		for _, roads := range [][]impl.Road{nil, {{A: 0, B: 1, Length: 1}}} {
			lengths, got := impl.RoadLengths(states, roads)
			code(t, "no number of states", impl.ErrRange, lengths, got)
		}
	}
}

// randomLengths returns lengths that need not be the same in both directions,
// nor those of shortest ways.
func randomLengths(r *rand.Rand, states int64) [][]int64 {
	lengths := flatCosts(int(states), int(states), 0)
	greatest := []int64{1, 4, impl.MaxCost}[r.Intn(3)]
	for s := range lengths {
		for u := range lengths {
			if s != u {
				lengths[s][u] = 1 + r.Int63n(greatest)
			}
		}
	}
	return lengths
}

// factorBetween returns the least cost of all couplings of the rows of two
// states, divided by their length. It tries all corners, so there should be few
// states.
func factorBetween(c impl.Chain, lengths [][]int64, s, u int64) *big.Rat {
	b := bargainOf(c.Weights[s], c.Weights[u], lengths)
	return big.NewRat(costOf(b.parts, lengths), c.Total*lengths[s][u])
}

func TestPairFactor(t *testing.T) {
	r := rand.New(rand.NewSource(142))
	for range 300 {
		c := randomChainOf(r, 2+r.Int63n(2), 1+r.Int63n(impl.MaxTotal))
		lengths := randomLengths(r, c.States)
		for s := range c.States {
			for u := range c.States {
				x, got := impl.PairFactor(c, lengths, s, u)
				if s == u {
					code(t, "equal states", impl.ErrRange, x, got)
				} else {
					isFraction(t, "factor", factorBetween(c, lengths, s, u), x, got)
				}
			}
		}
	}
	// More states, with the least costs of chapter 3.
	for range 200 {
		c := randomChainOf(r, 4+r.Int63n(3), 1+r.Int63n(impl.MaxTotal))
		lengths := randomLengths(r, c.States)
		s := r.Int63n(c.States)
		u := (s + 1 + r.Int63n(c.States-1)) % c.States
		x, got := impl.PairFactor(c, lengths, s, u)
		cost, _ := impl.LeastCost(partsOf(c.Weights[s]), partsOf(c.Weights[u]), lengths)
		isFraction(t, "factor", new(big.Rat).Quo(ratOf(cost), big.NewRat(lengths[s][u], 1)), x, got)
	}
	// With equal lengths, it is the distance of the rows.
	for _, c := range chainsOfAllKinds(r, 60) {
		for u := int64(1); u < c.States; u++ {
			x, got := impl.PairFactor(c, apartCosts(int(c.States), impl.MaxCost), 0, u)
			distance, _ := impl.RowDistance(c, 0, u, 1)
			same(t, "equal lengths", x, distance)
			same(t, "code", got, int64(impl.OK))
		}
	}
}

func TestPairFactorErrors(t *testing.T) {
	c := readChain(t, twoEnds)
	good := apartCosts(3, 5)
	with := func(s, u int, length int64) [][]int64 {
		lengths := apartCosts(3, 5)
		lengths[s][u] = length
		return lengths
	}
	bad := append(badCosts(3, 3), with(0, 1, 0), with(2, 1, 0), with(0, 0, 1), with(2, 2, 1), with(0, 1, -1), with(1, 1, -1), with(1, 2, impl.MaxCost+1), apartCosts(2, 5), apartCosts(4, 5), flatCosts(3, 3, 1), flatCosts(3, 3, 0))
	for _, lengths := range bad {
		x, got := impl.PairFactor(c, lengths, 0, 1)
		code(t, "no lengths", impl.ErrRange, x, got)
		x, got = impl.PairFactor(c, lengths, 0, 3)
		code(t, "no lengths and no state", impl.ErrRange, x, got)
	}
	for _, at := range [][2]int64{{-1, 0}, {0, -1}, {3, 0}, {0, 3}, {3, 3}, {0, 0}, {2, 2}, {math.MaxInt64, 0}, {0, math.MinInt64}} {
		x, got := impl.PairFactor(c, good, at[0], at[1])
		code(t, "no two states", impl.ErrRange, x, got)
	}
	for _, length := range []int64{1, impl.MaxCost} {
		x, got := impl.PairFactor(c, with(0, 1, length), 0, 1)
		code(t, "good", impl.OK, x, got)
	}
	x, got := impl.PairFactor(readChain(t, "chain 1 5\nfrom 5\n"), [][]int64{{0}}, 0, 0)
	code(t, "one state", impl.ErrRange, x, got)
	for name, bad := range invalidChains() {
		for _, lengths := range [][][]int64{good, nil, {{0}}, flatCosts(3, 3, -1)} {
			x, got := impl.PairFactor(bad, lengths, 0, 1)
			code(t, name, impl.ErrInvalid, x, got)
			x, got = impl.PairFactor(bad, lengths, -1, -1)
			code(t, name, impl.ErrInvalid, x, got)
		}
	}
}

// factorsOf returns the greatest factor of the two states of a road that is a
// shortest way, and that of any two states.
func factorsOf(c impl.Chain, roads []impl.Road, lengths [][]int64) (*big.Rat, *big.Rat) {
	whole, near := new(big.Rat), new(big.Rat)
	for s := range c.States {
		for u := range c.States {
			if s == u {
				continue
			}
			cost, _ := impl.LeastCost(partsOf(c.Weights[s]), partsOf(c.Weights[u]), lengths)
			factor := new(big.Rat).Quo(ratOf(cost), big.NewRat(lengths[s][u], 1))
			whole = slices.MaxFunc([]*big.Rat{whole, factor}, (*big.Rat).Cmp)
			if slices.Contains(roads, impl.Road{A: s, B: u, Length: lengths[s][u]}) {
				near = slices.MaxFunc([]*big.Rat{near, factor}, (*big.Rat).Cmp)
			}
		}
	}
	return near, whole
}

func TestRoadFactors(t *testing.T) {
	r := rand.New(rand.NewSource(143))
	shrinking, around := 0, 0
	for _, c := range chainsOfAllKinds(r, 150) {
		roads := connectedRoads(r, c.States)
		lengths, _ := waysOf(c.States, roads)
		near, whole := factorsOf(c, roads, lengths)
		x, got := impl.RoadFactor(c, roads)
		isFraction(t, "roads", near, x, got)
		y, got := impl.WholeFactor(c, roads)
		isFraction(t, "all pairs", whole, y, got)
		same(t, "neighbours bound all", ratOf(y).Cmp(ratOf(x)) <= 0, true)
		if ratOf(x).Cmp(big.NewRat(1, 1)) < 0 {
			shrinking++
		}
		for _, road := range roads {
			if road.Length > lengths[road.A][road.B] {
				around++
			}
		}
	}
	if shrinking < 20 || around < 20 {
		t.Error("too few kinds of roads", shrinking, around)
	}
}

func TestRoadBound(t *testing.T) {
	r := rand.New(rand.NewSource(144))
	one, below := big.NewRat(1, 1), 0
	for _, c := range chainsOfAllKinds(r, 200) {
		roads := connectedRoads(r, c.States)
		if r.Intn(2) == 0 {
			c, _ = impl.LazyChain(randomChainOf(r, c.States, 30))
		}
		lengths, _ := waysOf(c.States, roads)
		near, _ := factorsOf(c, roads, lengths)
		bound := big.NewRat(slices.Max(slices.Concat(lengths...)), 1)
		for steps := range int64(impl.MaxSteps + 1) {
			x, got := impl.RoadBound(c, roads, steps)
			isFraction(t, "bound", lesserRat(bound, one), x, got)
			worst, _ := impl.WorstDistance(c, steps)
			same(t, "at least the worst distance", ratOf(worst).Cmp(ratOf(x)) <= 0, true)
			if bound.Cmp(one) < 0 {
				below++
			}
			bound = new(big.Rat).Mul(bound, near)
		}
	}
	if below < 500 {
		t.Error("too few bounds below 1", below)
	}
}

func TestRoadEdges(t *testing.T) {
	walk, only := "chain 3 2\nfrom 1 1 0\nfrom 1 0 1\nfrom 0 1 1\n", "chain 1 5\nfrom 5\n"
	line := []impl.Road{{A: 0, B: 1, Length: 1}, {A: 1, B: 2, Length: 1}}
	around := append(slices.Clone(line), impl.Road{A: 0, B: 2, Length: 5})
	for _, one := range []struct {
		name, text   string
		roads        []impl.Road
		near, whole  string
		steps        int64
		bound, worst string
	}{
		{"one state", only, nil, "0", "0", 0, "0", "0"},
		{"one state, some steps", only, nil, "0", "0", 7, "0", "0"},
		{"a road that is no shortest way", walk, around, "1/2", "1/2", 2, "1/2", "1/4"},
		{"0 steps", walk, line, "1/2", "1/2", 0, "1", "1"},
		{"just 1", walk, line, "1/2", "1/2", 1, "1", "1/2"},
		{"below 1", walk, line, "1/2", "1/2", 3, "1/4", "1/8"},
		{"a way as long as the road", walk, append(slices.Clone(line), impl.Road{A: 2, B: 0, Length: 2}), "1/2", "1/2", 3, "1/4", "1/8"},
		{"equal rows", "chain 3 3\nfrom 1 1 1\nfrom 1 1 1\nfrom 1 1 1\n", line, "0", "0", 1, "0", "0"},
		{"equal rows, 0 steps", "chain 3 3\nfrom 1 1 1\nfrom 1 1 1\nfrom 1 1 1\n", line, "0", "0", 0, "1", "1"},
		{"staying", "chain 3 1\nfrom 1 0 0\nfrom 0 1 0\nfrom 0 0 1\n", around, "1", "1", impl.MaxSteps, "1", "1"},
		{"growing", "chain 3 1\nfrom 1 0 0\nfrom 0 0 1\nfrom 0 0 1\n", []impl.Road{{A: 0, B: 1, Length: 1}, {A: 1, B: 2, Length: 100}}, "101", "101", impl.MaxSteps, "1", "1"},
	} {
		c := readChain(t, one.text)
		x, got := impl.RoadFactor(c, one.roads)
		isFraction(t, one.name+": RoadFactor", ratOf(frac(one.near)), x, got)
		x, got = impl.WholeFactor(c, one.roads)
		isFraction(t, one.name+": WholeFactor", ratOf(frac(one.whole)), x, got)
		x, got = impl.RoadBound(c, one.roads, one.steps)
		isFraction(t, one.name+": RoadBound", ratOf(frac(one.bound)), x, got)
		x, got = impl.WorstDistance(c, one.steps)
		isFraction(t, one.name+": WorstDistance", ratOf(frac(one.worst)), x, got)
	}
}

// roadCodes calls the functions that are given a chain and roads.
func roadCodes(t *testing.T, name string, want int64, c impl.Chain, roads []impl.Road, steps int64) {
	t.Helper()
	x, got := impl.RoadBound(c, roads, steps)
	code(t, name+": RoadBound", want, x, got)
	if steps < 0 || steps > impl.MaxSteps {
		return
	}
	x, got = impl.RoadFactor(c, roads)
	code(t, name+": RoadFactor", want, x, got)
	x, got = impl.WholeFactor(c, roads)
	code(t, name+": WholeFactor", want, x, got)
}

func TestRoadErrors(t *testing.T) {
	c := readChain(t, twoEnds)
	good := []impl.Road{{A: 0, B: 1, Length: 1}, {A: 2, B: 1, Length: impl.MaxLength}}
	roadCodes(t, "good", impl.OK, c, good, impl.MaxSteps)
	for _, roads := range [][]impl.Road{nil, good[:1], good[1:]} {
		roadCodes(t, "not connected", impl.ErrState, c, roads, 0)
		roadCodes(t, "not connected", impl.ErrState, c, roads, impl.MaxSteps)
	}
	for _, steps := range []int64{-1, impl.MaxSteps + 1, math.MaxInt64, math.MinInt64} {
		roadCodes(t, "no steps", impl.ErrRange, c, good, steps)
		roadCodes(t, "no steps, and not connected", impl.ErrRange, c, nil, steps)
	}
	for name, bad := range badRoads() {
		roadCodes(t, name, impl.ErrRange, c, bad, 1)
		roadCodes(t, name, impl.ErrRange, c, bad, -1)
		for reason, none := range invalidChains() {
			roadCodes(t, reason+" and "+name, impl.ErrInvalid, none, bad, 1)
		}
	}
	for reason, none := range invalidChains() {
		roadCodes(t, reason, impl.ErrInvalid, none, good, 0)
		roadCodes(t, reason, impl.ErrInvalid, none, nil, -1)
	}
	only := readChain(t, "chain 1 5\nfrom 5\n")
	roadCodes(t, "one state with a road", impl.ErrRange, only, []impl.Road{{A: 0, B: 0, Length: 1}}, 1)
	roadCodes(t, "one state with a road", impl.ErrRange, only, good, 1)
}

// TestRoadDigits has the greatest numbers of digits that can come: they are far
// from MaxDigits.
func TestRoadDigits(t *testing.T) {
	c := readChain(t, "chain 3 59\nfrom 20 20 19\nfrom 19 21 19\nfrom 20 20 19\n")
	roads := []impl.Road{{A: 0, B: 1, Length: 97}, {A: 1, B: 2, Length: 100}}
	lengths, _ := waysOf(3, roads)
	near, _ := factorsOf(c, roads, lengths)
	want := big.NewRat(197, 1)
	for range impl.MaxSteps {
		want.Mul(want, near)
	}
	x, got := impl.RoadBound(c, roads, impl.MaxSteps)
	isFraction(t, "RoadBound", want, x, got)
	same(t, "long", len(x.Den) > 60, true)
}
