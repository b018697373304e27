package tests

import (
	"math"
	"math/big"
	"math/rand"
	"slices"
	"testing"

	"loop.example/g01118/impl"
)

// The tests of this file are about promise 12: orders, runs from the past by the
// ends of an order, and spreads that are below others.

// allRelations calls see for all relations of so many states.
func allRelations(states int, see func(below [][]bool)) {
	for bits := range 1 << (states * states) {
		below := [][]bool{}
		for s := range states {
			row := []bool{}
			for u := range states {
				row = append(row, bits>>(s*states+u)&1 == 1)
			}
			below = append(below, row)
		}
		see(below)
	}
}

// TestValidOrderCounts counts the orders of few states.
func TestValidOrderCounts(t *testing.T) {
	for i, want := range []int{1, 3, 19, 219} {
		states, orders := i+1, 0
		allRelations(states, func(below [][]bool) {
			isValid := impl.ValidOrder(int64(states), below)
			same(t, "order", isValid, isAnOrder(below))
			if isValid {
				orders++
			}
		})
		same(t, "orders", orders, want)
	}
}

func TestValidOrder(t *testing.T) {
	r := rand.New(rand.NewSource(241))
	for range 500 {
		states := 1 + r.Int63n(impl.MaxStates)
		below := randomOrder(r, states, r.Intn(101))
		same(t, "order", impl.ValidOrder(states, below), true)
		for _, other := range []int64{states - 1, states + 1, 0, -1, 7, math.MaxInt64, math.MinInt64} {
			same(t, "of another number", impl.ValidOrder(other, below), false)
		}
		s, u := r.Int63n(states), r.Int63n(states)
		below[s][u] = !below[s][u]
		same(t, "changed", impl.ValidOrder(states, below), isAnOrder(below))
	}
	for name, bad := range badOrders() {
		for _, states := range []int64{int64(len(bad)), -1, 0, 1, 2, 3, 6, 7, 1000000} {
			same(t, name, impl.ValidOrder(states, bad), false)
		}
	}
}

func TestLineOrder(t *testing.T) {
	for states := int64(1); states <= impl.MaxStates; states++ {
		below, got := impl.LineOrder(states)
		same(t, "code", got, int64(impl.OK))
		same(t, "valid", impl.ValidOrder(states, below), true)
		for s := range states {
			for u := range states {
				same(t, "below", below[s][u], s <= u)
			}
		}
		low, high, got := impl.EndsOf(below)
		same(t, "ends", []int64{low, high, got}, []int64{0, states - 1, impl.OK})
	}
	for _, states := range []int64{0, -1, 7, math.MaxInt64, math.MinInt64} {
		below, got := impl.LineOrder(states)
		code(t, "LineOrder", impl.ErrRange, below, got)
	}
}

func TestEndsOf(t *testing.T) {
	r := rand.New(rand.NewSource(242))
	kinds := map[[2]bool]int{}
	for range 1000 {
		below := randomOrder(r, 1+r.Int63n(impl.MaxStates), r.Intn(101))
		wantLow, wantHigh := endsIn(below)
		low, high, got := impl.EndsOf(below)
		kinds[[2]bool{wantLow >= 0, wantHigh >= 0}]++
		if wantLow < 0 || wantHigh < 0 {
			code(t, "without ends", impl.ErrNotFound, low, high, got)
		} else {
			same(t, "ends", []int64{low, high, got}, []int64{wantLow, wantHigh, impl.OK})
		}
	}
	for kind, count := range kinds {
		if count < 30 {
			t.Error("too few of one kind", kind, count)
		}
	}
	same(t, "kinds", len(kinds), 4)
	for name, bad := range badOrders() {
		low, high, got := impl.EndsOf(bad)
		code(t, name, impl.ErrInvalid, low, high, got)
	}
	for _, one := range []struct {
		name      string
		below     [][]bool
		low, high int64
	}{
		{"one state", orderOf("1"), 0, 0}, {"upside down", orderOf("100", "110", "111"), 2, 0}, {"a diamond", orderOf("1000", "1101", "1111", "1001"), 2, 0},
		{"a low end alone", orderOf("111", "010", "001"), -1, -1}, {"a high end alone", orderOf("101", "011", "001"), -1, -1}, {"none below another", orderOf("10", "01"), -1, -1},
	} {
		low, high, got := impl.EndsOf(one.below)
		if one.low < 0 {
			code(t, one.name, impl.ErrNotFound, low, high, got)
		} else {
			same(t, one.name, []int64{low, high, got}, []int64{one.low, one.high, impl.OK})
		}
	}
}

func TestIsMonotone(t *testing.T) {
	r := rand.New(rand.NewSource(243))
	kinds := map[bool]int{}
	for range 1500 {
		states := 1 + r.Int63n(impl.MaxStates)
		below := randomOrder(r, states, r.Intn(101))
		m := monotoneMaps(r, below)
		if r.Intn(2) == 0 {
			// One map that may break the order, at any place.
			m.List[r.Intn(len(m.List))].To = randomTo(r, states)
		}
		want := true
		for _, one := range m.List {
			want = want && isMonotoneMap(one.To, below)
		}
		is, got := impl.IsMonotone(m, below)
		same(t, "monotone", is, want)
		same(t, "code", got, int64(impl.OK))
		kinds[is]++
	}
	if kinds[true] < 300 || kinds[false] < 300 {
		t.Error("too few of one kind", kinds)
	}
}

// TestIsMonotoneMany has as many maps as there can be, of which one is not
// monotone, wherever it is.
func TestIsMonotoneMany(t *testing.T) {
	below := lineOf(t, impl.MaxStates)
	m := impl.Maps{States: impl.MaxStates, Total: impl.MaxTotal}
	for range impl.MaxMaps {
		m.List = append(m.List, impl.Map{Weight: 1, To: downTo(impl.MaxStates)})
	}
	is, got := impl.IsMonotone(m, below)
	same(t, "all", is && got == impl.OK, true)
	for at := range m.List {
		n := copyMaps(m)
		n.List[at].To = []int64{0, 1, 2, 3, 5, 4}
		is, got = impl.IsMonotone(n, below)
		same(t, "but one", is, false)
		same(t, "code", got, int64(impl.OK))
	}
}

func TestIsMonotoneErrors(t *testing.T) {
	r := rand.New(rand.NewSource(244))
	m := readMaps(t, "maps 3 2\nmap 1 : 0 0 0\nmap 1 : 0 0 1\n")
	for _, states := range []int64{1, 2, 4, 5, 6} {
		is, got := impl.IsMonotone(m, lineOf(t, states))
		code(t, "of another number", impl.ErrRange, is, got)
	}
	for name, bad := range badOrders() {
		is, got := impl.IsMonotone(m, bad)
		code(t, name, impl.ErrInvalid, is, got)
	}
	for name, bad := range invalidMaps() {
		for _, below := range [][][]bool{lineOf(t, 2), lineOf(t, 3), nil, randomOrder(r, 6, 50)} {
			is, got := impl.IsMonotone(bad, below)
			code(t, name, impl.ErrInvalid, is, got)
		}
	}
}

func TestSandwichRun(t *testing.T) {
	r := rand.New(rand.NewSource(245))
	found, branched := map[int64]int{}, 0
	for range 1000 {
		below := randomEnded(r, 1+r.Int63n(impl.MaxStates))
		m := monotoneMaps(r, below)
		for _, count := range []int{0, 1, 2, 3, r.Intn(20), r.Intn(impl.MaxPicks + 1)} {
			picks := randomPicks(r, m, count)
			s, k, got := impl.SandwichRun(m, below, picks)
			u, at, want := impl.PastRun(m, picks)
			same(t, "as PastRun", []int64{s, k, got}, []int64{u, at, want})
			found[got]++
			if k > 1 {
				branched++
			}
		}
	}
	if found[impl.OK] < 1000 || found[impl.ErrNotFound] < 1000 || branched < 300 {
		t.Error("too few of one kind", found, branched)
	}
}

func TestSandwichEdges(t *testing.T) {
	one := readMaps(t, "maps 1 1\nmap 1 : 0\n")
	for _, picks := range [][]int64{nil, {0}, make([]int64, impl.MaxPicks)} {
		s, k, got := impl.SandwichRun(one, orderOf("1"), picks)
		same(t, "one state", []int64{s, k, got}, []int64{0, 0, impl.OK})
	}
	// The line upside down, and a square of two bits.
	down := readMaps(t, "maps 3 1\nmap 1 : 0 0 1\n")
	s, k, got := impl.SandwichRun(down, orderOf("100", "110", "111"), []int64{0, 0, 0})
	same(t, "upside down", []int64{s, k, got}, []int64{0, 2, impl.OK})
	bits := readMaps(t, "maps 4 4\nmap 1 : 0 1 0 1\nmap 1 : 2 3 2 3\nmap 1 : 0 0 2 2\nmap 1 : 1 1 3 3\n")
	square := orderOf("1111", "0101", "0011", "0001")
	for _, x := range []struct{ picks, want []int64 }{
		{nil, nil}, {[]int64{0}, nil}, {[]int64{0, 1, 1, 0}, nil}, {[]int64{0, 2}, []int64{0, 2}}, {[]int64{1, 0, 0, 3, 2}, []int64{3, 4}}, {[]int64{3, 0}, []int64{1, 2}}, {[]int64{3, 2, 1}, []int64{3, 3}},
	} {
		s, k, got := impl.SandwichRun(bits, square, x.picks)
		if x.want == nil {
			code(t, "square", impl.ErrNotFound, s, k, got)
		} else {
			same(t, "square", []int64{s, k, got}, append(x.want, impl.OK))
		}
	}
}

func TestSandwichErrors(t *testing.T) {
	m, swap := readMaps(t, exampleMaps), readMaps(t, "maps 2 2\nmap 1 : 0 0\nmap 1 : 1 0\n")
	line, apart := lineOf(t, 2), orderOf("10", "01")
	sandwich := func(name string, want int64, m impl.Maps, below [][]bool, picks []int64) {
		t.Helper()
		s, k, got := impl.SandwichRun(m, below, picks)
		code(t, name, want, s, k, got)
	}
	for name, bad := range invalidMaps() {
		for _, picks := range append(badPicks(1), nil) {
			sandwich(name, impl.ErrInvalid, bad, line, picks)
			sandwich(name, impl.ErrInvalid, bad, apart, picks)
			sandwich(name, impl.ErrInvalid, bad, nil, picks)
		}
	}
	for name, bad := range badOrders() {
		for _, picks := range append(badPicks(2), nil) {
			sandwich(name, impl.ErrInvalid, m, bad, picks)
			sandwich(name, impl.ErrInvalid, swap, bad, picks)
		}
	}
	// ErrRange comes before ErrState, and this before ErrNotFound.
	for _, picks := range badPicks(2) {
		sandwich("no picks", impl.ErrRange, m, line, picks)
		sandwich("no picks, not monotone", impl.ErrRange, swap, line, picks)
		sandwich("no picks, no ends", impl.ErrRange, m, apart, picks)
	}
	for _, picks := range [][]int64{nil, {0}, {1, 1, 0}} {
		for _, below := range [][][]bool{orderOf("1"), lineOf(t, 3), orderOf("100", "010", "001"), lineOf(t, 6)} {
			sandwich("another number", impl.ErrRange, m, below, picks)
			sandwich("another number, not monotone", impl.ErrRange, swap, below, picks)
		}
		sandwich("not monotone", impl.ErrState, swap, line, picks)
		sandwich("no ends", impl.ErrState, m, apart, picks)
		sandwich("no ends", impl.ErrState, swap, apart, picks)
	}
	three := readMaps(t, "maps 3 1\nmap 1 : 0 0 0\n")
	sandwich("a low end alone", impl.ErrState, three, orderOf("111", "010", "001"), []int64{0})
	sandwich("a high end alone", impl.ErrState, three, orderOf("101", "011", "001"), []int64{0})
	sandwich("not found", impl.ErrNotFound, m, line, nil)
	sandwich("not found", impl.ErrNotFound, m, line, slices.Repeat([]int64{1}, impl.MaxPicks))
	// Monotone only if all maps are, also those that are not picked.
	sandwich("one that is not picked", impl.ErrState, swap, line, []int64{0})
}

// raised returns parts that have been moved upwards in an order.
func raised(r *rand.Rand, parts []int64, below [][]bool) []int64 {
	up := slices.Clone(parts)
	for range 4 {
		s, u := r.Intn(len(up)), r.Intn(len(up))
		if below[s][u] {
			more := r.Int63n(up[s] + 1)
			up[s] -= more
			up[u] += more
		}
	}
	return up
}

// upperSets returns all sets of states that have each state that one of theirs
// is below, but the empty one.
func upperSets(below [][]bool) [][]int64 {
	list := [][]int64{}
	for _, set := range setsOf(int64(len(below))) {
		isUpper := true
		for _, s := range set {
			for u := range below {
				isUpper = isUpper && (!below[s][u] || slices.Contains(set, int64(u)))
			}
		}
		if isUpper {
			list = append(list, set)
		}
	}
	return list
}

func sumIn(p []impl.Fraction, set []int64) *big.Rat {
	sum := new(big.Rat)
	for _, s := range set {
		sum.Add(sum, ratOf(p[s]))
	}
	return sum
}

// TestSpreadBelow compares with the cheapest coupling, if it costs 1 to be not
// below: a spread is below another one just if this costs nothing.
func TestSpreadBelow(t *testing.T) {
	r := rand.New(rand.NewSource(246))
	kinds := map[bool]int{}
	for range 800 {
		states := 1 + r.Int63n(impl.MaxStates)
		below := randomOrder(r, states, r.Intn(101))
		left, right := randomSides(r, states, states, 1+r.Int63n(30))
		if r.Intn(2) == 0 {
			right = raised(r, left, below)
		}
		if r.Intn(4) == 0 {
			left = raised(r, right, below)
		}
		p, q := partsOf(left), partsOf(right)
		is, got := impl.SpreadBelow(p, q, below)
		same(t, "code", got, int64(impl.OK))
		want := true
		for _, set := range upperSets(below) {
			want = want && sumIn(p, set).Cmp(sumIn(q, set)) <= 0
		}
		same(t, "upper sets", is, want)
		costs := flatCosts(int(states), int(states), 0)
		for s := range costs {
			for u := range costs {
				if !below[s][u] {
					costs[s][u] = 1
				}
			}
		}
		least, _ := impl.LeastCost(p, q, costs)
		same(t, "coupling", is, least == frac("0"))
		kinds[is]++
		if !is {
			continue
		}
		j, _ := impl.CheapestJoint(p, q, costs)
		isCoupling(t, "coupling", j, p, q)
		for s, row := range j {
			for u, x := range row {
				same(t, "always below", below[s][u] || x == frac("0"), true)
			}
		}
	}
	if kinds[true] < 200 || kinds[false] < 200 {
		t.Error("too few of one kind", kinds)
	}
}

// TestSpreadBelowKept has monotone maps: they keep spreads below others.
func TestSpreadBelowKept(t *testing.T) {
	r := rand.New(rand.NewSource(247))
	for range 300 {
		below := randomOrder(r, 1+r.Int63n(impl.MaxStates), r.Intn(101))
		m := monotoneMaps(r, below)
		left := randomParts(r, m.States, 1+r.Int63n(30))
		p, q := partsOf(left), partsOf(raised(r, left, below))
		c, _ := impl.ChainOfMaps(m)
		steps := r.Int63n(6)
		p, _ = impl.SpreadAfter(c, p, steps)
		q, _ = impl.SpreadAfter(c, q, steps)
		is, got := impl.SpreadBelow(p, q, below)
		same(t, "kept", is, true)
		same(t, "code", got, int64(impl.OK))
	}
}

func TestSpreadBelowEdges(t *testing.T) {
	line, apart := lineOf(t, 3), orderOf("100", "010", "001")
	fork := orderOf("111", "010", "001")
	tiny := "1/" + tenTo(299)
	rest := nines(299) + "/" + tenTo(299)
	for _, one := range []struct {
		name string
		p, q []impl.Fraction
		in   [][]bool
		want bool
	}{
		{"one state", fracs("1"), fracs("1"), orderOf("1"), true},
		{"the same", fracs("1/2", "1/4", "1/4"), fracs("1/2", "1/4", "1/4"), apart, true},
		{"others", fracs("1/2", "1/4", "1/4"), fracs("1/4", "1/2", "1/4"), apart, false},
		{"up the line", fracs("1/2", "1/4", "1/4"), fracs("1/4", "1/2", "1/4"), line, true},
		{"down the line", fracs("1/4", "1/2", "1/4"), fracs("1/2", "1/4", "1/4"), line, false},
		{"up and down", fracs("1/4", "1/2", "1/4"), fracs("1/2", "0", "1/2"), line, false},
		{"from the low end", fracs("1", "0", "0"), fracs("1/3", "1/3", "1/3"), fork, true},
		{"from one to the other", fracs("0", "1", "0"), fracs("0", "0", "1"), fork, false},
		{"to both", fracs("1/2", "1/2", "0"), fracs("0", "1/2", "1/2"), fork, true},
		{"too much for one", fracs("1/2", "1/2", "0"), fracs("1/4", "1/4", "1/2"), fork, false},
		{"a bit more below", fracs(tiny, rest), fracs("0", "1"), lineOf(t, 2), true},
		{"a bit less below", fracs("0", "1"), fracs(tiny, rest), lineOf(t, 2), false},
	} {
		is, got := impl.SpreadBelow(one.p, one.q, one.in)
		same(t, one.name, is, one.want)
		same(t, one.name+": code", got, int64(impl.OK))
	}
}

func TestSpreadBelowErrors(t *testing.T) {
	two, three := fracs("1/2", "1/2"), fracs("1/2", "1/4", "1/4")
	below := func(name string, want int64, p, q []impl.Fraction, in [][]bool) {
		t.Helper()
		is, got := impl.SpreadBelow(p, q, in)
		code(t, name, want, is, got)
	}
	for _, bad := range invalidSpreads() {
		for _, other := range [][]impl.Fraction{two, three, bad} {
			below("no spread", impl.ErrInvalid, bad, other, lineOf(t, 2))
			below("no spread", impl.ErrInvalid, other, bad, lineOf(t, 3))
			below("no spread", impl.ErrInvalid, bad, other, nil)
		}
	}
	for name, bad := range badOrders() {
		below(name, impl.ErrInvalid, two, two, bad)
		below(name, impl.ErrInvalid, two, three, bad)
		below(name, impl.ErrInvalid, three, three, bad)
	}
	below("another p", impl.ErrRange, three, two, lineOf(t, 2))
	below("another q", impl.ErrRange, two, three, lineOf(t, 2))
	below("another order", impl.ErrRange, two, two, lineOf(t, 3))
	below("a smaller order", impl.ErrRange, three, three, lineOf(t, 2))
	below("all others", impl.ErrRange, two, three, lineOf(t, 4))
	below("p and q, but not in the same way", impl.ErrRange, two, three, lineOf(t, 3))
}
