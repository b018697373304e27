package tests

import (
	"cmp"
	"math/big"
	"math/rand"
	"slices"
	"testing"

	"loop.example/g01118/impl"
)

// The tests of this file are about promise 8: what couplings cost, and which one
// is the cheapest.

// bargain keeps the cheapest parts that it has seen, and of several the one
// whose first list is the greatest, and so on; and how many there were.
type bargain struct {
	costs, parts [][]int64
	ties         int
}

func (b *bargain) see(parts [][]int64) {
	order := -1
	if b.parts != nil {
		order = cmp.Compare(costOf(parts, b.costs), costOf(b.parts, b.costs))
	}
	if order == 0 {
		order = -slices.CompareFunc(parts, b.parts, slices.Compare)
		if order != 0 {
			b.ties++
		}
	}
	if order >= 0 {
		return
	}
	b.parts = nil
	for _, row := range parts {
		b.parts = append(b.parts, slices.Clone(row))
	}
}

// fillAll calls see for all ways to fill in parts, pair by pair, always as much
// as possible. Among these are all corners of the set of all couplings: the
// pairs of a corner have no round trip, so some state is in one of them only.
func fillAll(left, right []int64, parts [][]int64, see func([][]int64)) {
	isFull := true
	for s := range left {
		for u := range right {
			n := min(left[s], right[u])
			if n == 0 {
				continue
			}
			isFull = false
			left[s], right[u], parts[s][u] = left[s]-n, right[u]-n, n
			fillAll(left, right, parts, see)
			left[s], right[u], parts[s][u] = left[s]+n, right[u]+n, 0
		}
	}
	if isFull {
		see(parts)
	}
}

func bargainOf(left, right []int64, costs [][]int64) *bargain {
	b := &bargain{costs: costs}
	fillAll(slices.Clone(left), slices.Clone(right), flatCosts(len(left), len(right), 0), b.see)
	return b
}

func TestCheapestOfAll(t *testing.T) {
	r := rand.New(rand.NewSource(91))
	ties := 0
	for _, size := range []struct {
		lefts, rights int64
		count         int
	}{
		{1, 1, 5}, {1, 6, 20}, {6, 1, 20}, {2, 2, 300}, {2, 3, 300}, {3, 2, 300}, {3, 3, 300}, {2, 6, 20}, {6, 2, 20}, {3, 4, 30}, {4, 3, 30}, {4, 4, 5},
	} {
		for range size.count {
			whole := 1 + r.Int63n(20)
			left, right := randomSides(r, size.lefts, size.rights, whole)
			costs := randomCosts(r, size.lefts, size.rights, 1+r.Int63n(4))
			b := bargainOf(left, right, costs)
			p, q := partsOf(left), partsOf(right)
			x, got := impl.LeastCost(p, q, costs)
			isFraction(t, "least cost", big.NewRat(costOf(b.parts, costs), whole), x, got)
			j, got := impl.CheapestJoint(p, q, costs)
			same(t, "cheapest", j, jointOfParts(b.parts, whole))
			same(t, "code", got, int64(impl.OK))
			isCoupling(t, "cheapest", j, p, q)
			ties += min(b.ties, 1)
		}
	}
	if ties < 100 {
		t.Error("too few cases with several cheapest couplings", ties)
	}
}

// partsOfJoint returns the parts of a joint spread with the given whole.
func partsOfJoint(t *testing.T, j [][]impl.Fraction, whole int64) [][]int64 {
	t.Helper()
	parts := [][]int64{}
	for _, row := range ratTable(j) {
		list := []int64{}
		for _, x := range row {
			n := new(big.Rat).Mul(x, big.NewRat(whole, 1))
			if !n.IsInt() {
				t.Fatal("a chance is no part of the whole", x)
			}
			list = append(list, n.Num().Int64())
		}
		parts = append(parts, list)
	}
	return parts
}

// exchanges looks for all round trips of pairs, each with the pair before it in
// one of both states, along which parts can be moved: from the odd pairs, which
// have some, to the even ones.
type exchanges struct {
	parts [][]int64
	see   func(trip [][2]int)
}

// extend goes on behind a trip that ends at a state on the left.
func (e exchanges) extend(trip [][2]int, at int) {
	for u := range e.parts[0] {
		if slices.ContainsFunc(trip, func(on [2]int) bool { return on[1] == u }) {
			continue
		}
		first := at
		if len(trip) > 0 {
			first = trip[0][0]
		}
		for s := first; s < len(e.parts); s++ {
			isBack := s == first && len(trip) > 0
			isUsed := s == at || slices.ContainsFunc(trip, func(on [2]int) bool { return on[0] == s })
			if e.parts[s][u] == 0 || isUsed && !isBack {
				continue
			}
			longer := append(slices.Clone(trip), [2]int{at, u}, [2]int{s, u})
			if isBack {
				e.see(longer)
			} else {
				e.extend(longer, s)
			}
		}
	}
}

// isCheapestByTrips fails the test if parts could be moved so that a coupling
// becomes cheaper, or costs the same and its first lists become greater. Any
// other coupling comes from such moves.
func isCheapestByTrips(t *testing.T, parts, costs [][]int64) {
	t.Helper()
	e := exchanges{parts, func(trip [][2]int) {
		change, first := int64(0), 0
		for i, on := range trip {
			if i%2 == 0 {
				change += costs[on[0]][on[1]]
			} else {
				change -= costs[on[0]][on[1]]
			}
			if slices.Compare(on[:], trip[first][:]) < 0 {
				first = i
			}
		}
		if change < 0 || change == 0 && first%2 == 0 {
			t.Errorf("%v with the costs %v: better along %v", parts, costs, trip)
		}
	}}
	for s := range parts {
		e.extend(nil, s)
	}
}

func TestCheapestOfMany(t *testing.T) {
	r := rand.New(rand.NewSource(92))
	for range 150 {
		lefts, rights, whole := 4+r.Int63n(3), 4+r.Int63n(3), int64(1000)
		left, right := randomSides(r, lefts, rights, whole)
		costs := randomCosts(r, lefts, rights, []int64{1, 2, 3, 5, 1001}[r.Intn(5)])
		p, q := partsOf(left), partsOf(right)
		j, got := impl.CheapestJoint(p, q, costs)
		same(t, "code", got, int64(impl.OK))
		isCoupling(t, "cheapest", j, p, q)
		parts := partsOfJoint(t, j, whole)
		isCheapestByTrips(t, parts, costs)
		x, got := impl.LeastCost(p, q, costs)
		isFraction(t, "least cost", big.NewRat(costOf(parts, costs), whole), x, got)
		for range 10 {
			other := jointOfParts(filledParts(r, left, right), whole)
			more, _ := impl.JointCost(other, costs)
			same(t, "no coupling costs less", ratOf(more).Cmp(ratOf(x)) >= 0, true)
		}
	}
}

func TestJointCost(t *testing.T) {
	r := rand.New(rand.NewSource(93))
	for range 300 {
		j := randomJoint(r, 1+r.Int63n(6), 1+r.Int63n(6))
		costs := randomCosts(r, int64(len(j)), int64(len(j[0])), 1+r.Int63n(1001))
		sum := new(big.Rat)
		for s, row := range ratTable(j) {
			for u, x := range row {
				sum.Add(sum, new(big.Rat).Mul(x, big.NewRat(costs[s][u], 1)))
			}
		}
		x, got := impl.JointCost(j, costs)
		isFraction(t, "cost", sum, x, got)
	}
	long := longJoint()
	x, got := impl.JointCost(long, flatCosts(2, 2, 1))
	isFraction(t, "the whole", big.NewRat(1, 1), x, got)
	x, got = impl.JointCost(long, [][]int64{{1, 1}, {0, 0}})
	code(t, "318 digits", impl.ErrLimit, x, got)
	x, got = impl.JointCost(long, [][]int64{{1, 1}, {0, impl.MaxCost + 1}})
	code(t, "318 digits and no costs", impl.ErrRange, x, got)
}

// TestDistanceAsCost asks for the distance in a second way.
func TestDistanceAsCost(t *testing.T) {
	for _, pair := range alikeSpreads(rand.New(rand.NewSource(94)), 200) {
		p, q := pair[0], pair[1]
		distance, _ := impl.DistanceOf(p, q)
		x, got := impl.LeastCost(p, q, apartCosts(len(p), 1))
		same(t, "distance", x, distance)
		same(t, "code", got, int64(impl.OK))
		j, _ := impl.CheapestJoint(p, q, apartCosts(len(p), 1))
		met, _ := impl.MeetChance(j)
		overlap, _ := impl.OverlapOf(p, q)
		same(t, "meets as often as it can", met, overlap)
		x, _ = impl.LeastCost(p, q, apartCosts(len(p), impl.MaxCost))
		isFraction(t, "greatest costs", new(big.Rat).Mul(ratOf(distance), big.NewRat(impl.MaxCost, 1)), x, got)
	}
}

func TestFlatCosts(t *testing.T) {
	r := rand.New(rand.NewSource(95))
	for _, cost := range []int64{0, 1, 7, impl.MaxCost} {
		for range 40 {
			left, right := randomSides(r, 1+r.Int63n(6), 1+r.Int63n(6), 1+r.Int63n(60))
			p, q := partsOf(left), partsOf(right)
			costs := flatCosts(len(left), len(right), cost)
			x, got := impl.LeastCost(p, q, costs)
			isFraction(t, "all equal", big.NewRat(cost, 1), x, got)
			// All couplings are cheapest: the greatest lists come first.
			j, got := impl.CheapestJoint(p, q, costs)
			stair, _ := impl.StairJoint(p, q)
			same(t, "first one", j, stair)
			same(t, "code", got, int64(impl.OK))
		}
	}
}

func TestCheapestEdges(t *testing.T) {
	half, thirds := fracs("1/2", "1/2"), fracs("1/3", "1/3", "1/3")
	for _, one := range []struct {
		name  string
		p, q  []impl.Fraction
		costs [][]int64
		want  [][]impl.Fraction
		cost  string
	}{
		{"one state", fracs("1"), fracs("1"), [][]int64{{impl.MaxCost}}, jointOf("1"), "1000"},
		{"one and three", fracs("1"), thirds, [][]int64{{0, 6, impl.MaxCost}}, jointOf("1/3 1/3 1/3"), "1006/3"},
		{"three and one", thirds, fracs("1"), [][]int64{{0}, {6}, {0}}, jointOf("1/3", "1/3", "1/3"), "2"},
		{"0 on one way, MaxCost on the other", half, half, [][]int64{{impl.MaxCost, 0}, {0, impl.MaxCost}}, jointOf("0 1/2", "1/2 0"), "0"},
		{"all at MaxCost but one", half, half, [][]int64{{impl.MaxCost, impl.MaxCost}, {impl.MaxCost, 0}}, jointOf("1/2 0", "0 1/2"), "500"},
		{"two cheapest", half, half, [][]int64{{1, 2}, {2, 3}}, jointOf("1/2 0", "0 1/2"), "2"},
		{"a list behind", half, thirds, [][]int64{{5, 0, 0}, {5, 0, 0}}, jointOf("1/3 1/6 0", "0 1/6 1/3"), "5/3"},
		{"the cost first", half, thirds, [][]int64{{5, 0, 0}, {4, 0, 0}}, jointOf("0 1/3 1/6", "1/3 0 1/6"), "4/3"},
		{"chances of 0", fracs("0", "1", "0"), fracs("1/4", "0", "3/4"), [][]int64{{0, 0, 0}, {4, 0, 8}, {0, 0, 0}}, jointOf("0 0 0", "1/4 0 3/4", "0 0 0"), "7"},
		{"equal, with many digits", longSpread(300), longSpread(300), apartCosts(2, 3), [][]impl.Fraction{{longSpread(300)[0], frac("0")}, {frac("0"), longSpread(300)[1]}}, "0"},
	} {
		j, got := impl.CheapestJoint(one.p, one.q, one.costs)
		same(t, one.name, j, one.want)
		same(t, one.name+": code", got, int64(impl.OK))
		x, got := impl.LeastCost(one.p, one.q, one.costs)
		isFraction(t, one.name+": cost", ratOf(frac(one.cost)), x, got)
	}
}

func TestCostErrors(t *testing.T) {
	noJoints, noSpreads := invalidJoints(), invalidSpreads()
	for _, size := range [][2]int{{2, 2}, {2, 3}, {3, 1}} {
		p, _ := impl.EvenSpread(int64(size[0]))
		q, _ := impl.EvenSpread(int64(size[1]))
		good, _ := impl.ApartJoint(p, q)
		for _, costs := range append(badCosts(size[0], size[1]), flatCosts(size[0], size[1], 1)) {
			for name, bad := range noJoints {
				x, got := impl.JointCost(bad, costs)
				code(t, name, impl.ErrInvalid, x, got)
			}
			for _, bad := range noSpreads {
				costCodes(t, "no spread", impl.ErrInvalid, bad, q, costs)
				costCodes(t, "no spread", impl.ErrInvalid, p, bad, costs)
			}
		}
		for _, costs := range badCosts(size[0], size[1]) {
			x, got := impl.JointCost(good, costs)
			code(t, "no costs", impl.ErrRange, x, got)
			costCodes(t, "no costs", impl.ErrRange, p, q, costs)
		}
		costCodes(t, "good", impl.OK, p, q, flatCosts(size[0], size[1], impl.MaxCost))
	}
}

// costCodes calls the functions that are given two spreads and costs.
func costCodes(t *testing.T, name string, want int64, p, q []impl.Fraction, costs [][]int64) {
	t.Helper()
	x, got := impl.LeastCost(p, q, costs)
	code(t, name+": LeastCost", want, x, got)
	j, got := impl.CheapestJoint(p, q, costs)
	code(t, name+": CheapestJoint", want, j, got)
	left, right, got := impl.FindPrices(p, q, costs)
	code(t, name+": FindPrices", want, left, right, got)
	x, got = impl.PriceBound(p, q, costs, make([]int64, len(p)), make([]int64, len(q)))
	code(t, name+": PriceBound", want, x, got)
}

func TestCostDigits(t *testing.T) {
	for _, one := range []struct {
		q    []impl.Fraction
		want int64
	}{{fracs("1/7", "6/7"), impl.OK}, {fracs("1/11", "10/11"), impl.ErrLimit}} {
		p, costs := longSpread(300), apartCosts(2, 1)
		x, got := impl.LeastCost(p, one.q, costs)
		code(t, "LeastCost", one.want, x, got)
		j, got := impl.CheapestJoint(p, one.q, costs)
		code(t, "CheapestJoint", one.want, j, got)
		left, right, got := impl.FindPrices(p, one.q, costs)
		code(t, "FindPrices", impl.OK, left, right, got)
		x, got = impl.PriceBound(p, one.q, costs, left, right)
		code(t, "PriceBound", one.want, x, got)
		x, got = impl.LeastCost(p, one.q, flatCosts(2, 2, 5))
		isFraction(t, "short again", big.NewRat(5, 1), x, got)
		x, got = impl.LeastCost(p, one.q, flatCosts(2, 2, impl.MaxCost+1))
		code(t, "no costs", impl.ErrRange, x, got)
	}
}
