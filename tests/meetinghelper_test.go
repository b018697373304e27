package tests

import (
	"math"
	"math/big"
	"math/rand"
	"slices"
	"testing"

	"loop.example/g01118/impl"
)

// What the tests of chapter 4 have in common: coupled chains of all kinds, and
// what is known of them by other ways than those of the program.

// coupling is a coupled chain, and the chain for which it is one.
type coupling struct {
	name string
	c    impl.Chain
	m    impl.Coupled
}

// pairChainOf returns the chain whose states are the numbers of the pairs.
func pairChainOf(m impl.Coupled) impl.Chain {
	return impl.Chain{States: m.States * m.States, Total: m.Total, Weights: m.Weights}
}

func pairNumber(m impl.Coupled, s, u int64) int64 { return s*m.States + u }

// metPairs returns the numbers of the pairs of equal states.
func metPairs(m impl.Coupled) []int64 {
	list := []int64{}
	for s := range m.States {
		list = append(list, pairNumber(m, s, s))
	}
	return list
}

// surePair returns the chances of two runs that are in s and u.
func surePair(m impl.Coupled, s, u int64) []*big.Rat {
	p := zeros(m.States * m.States)
	p[pairNumber(m, s, u)] = big.NewRat(1, 1)
	return p
}

// coupledOf makes a coupled chain of a way to join the rows of two states, which
// returns parts for each two states.
func coupledOf(c impl.Chain, total int64, join func(s, u int64) [][]int64) impl.Coupled {
	m := impl.Coupled{States: c.States, Total: total}
	for s := range c.States {
		for u := range c.States {
			m.Weights = append(m.Weights, slices.Concat(join(s, u)...))
		}
	}
	return m
}

// randomCoupled joins the rows of each two states in some random ways, which
// need not be the same for pairs the other way round.
func randomCoupled(r *rand.Rand, c impl.Chain) impl.Coupled {
	ways := 1 + r.Int63n(min(3, impl.MaxPairTotal/c.Total))
	return coupledOf(c, ways*c.Total, func(s, u int64) [][]int64 {
		sum := flatCosts(int(c.States), int(c.States), 0)
		for range ways {
			for v, row := range filledParts(r, c.Weights[s], c.Weights[u]) {
				for w, n := range row {
					sum[v][w] += n
				}
			}
		}
		return sum
	})
}

// splitChain returns a chain two states of which lead to themselves, or to each
// other, so that two runs may meet or may come to where they never do.
func splitChain(r *rand.Rand) impl.Chain {
	c := randomChainOf(r, 3+r.Int63n(impl.MaxMet-2), 1+r.Int63n(6))
	turn := r.Int63n(2)
	for s := range int64(2) {
		c.Weights[s] = make([]int64, c.States)
		c.Weights[s][(s+turn)%2] = c.Total
	}
	order := []int64{}
	for _, s := range r.Perm(int(c.States)) {
		order = append(order, int64(s))
	}
	c, _ = impl.RenameStates(c, order)
	return c
}

// smallChains returns chains of all kinds that have not too many states to be
// coupled.
func smallChains(r *rand.Rand, count int) []impl.Chain {
	list := []impl.Chain{}
	for _, c := range chainsOfAllKinds(r, 2*count) {
		if c.States <= impl.MaxMet && len(list) < count*3/4 {
			list = append(list, c)
		}
	}
	for len(list) < count {
		list = append(list, splitChain(r))
	}
	return list
}

// couplingsOf returns coupled chains for a chain: those that the program makes,
// sticky ones, and random ones.
func couplingsOf(t *testing.T, r *rand.Rand, c impl.Chain) []coupling {
	t.Helper()
	apart, one := impl.ApartCoupled(c)
	stair, two := impl.StairCoupled(c)
	best, three := impl.BestCoupled(c)
	random := randomCoupled(r, c)
	stickyApart, four := impl.StickyCoupled(c, apart)
	stickyRandom, five := impl.StickyCoupled(c, random)
	same(t, "codes", []int64{one, two, three, four, five}, make([]int64, 5))
	return []coupling{
		{"apart", c, apart}, {"stair", c, stair}, {"best", c, best}, {"random", c, random}, {"sticky apart", c, stickyApart}, {"sticky random", c, stickyRandom},
	}
}

// couplingsOfAllKinds returns coupled chains for chains of all kinds.
func couplingsOfAllKinds(t *testing.T, seed int64, count int) []coupling {
	t.Helper()
	r := rand.New(rand.NewSource(seed))
	list := []coupling{}
	for _, c := range smallChains(r, count) {
		list = append(list, couplingsOf(t, r, c)...)
	}
	return list
}

// isFor reports whether both runs of m go as the chain goes.
func isFor(c impl.Chain, m impl.Coupled) bool {
	for number, row := range m.Weights {
		table := zeroTable(int(c.States), int(c.States))
		for to, weight := range row {
			table[int64(to)/c.States][int64(to)%c.States].SetFrac64(weight, m.Total)
		}
		left, right := rowSums(table), rowSums(turnedTable(table))
		for v := range c.States {
			s, u := int64(number)/c.States, int64(number)%c.States
			if left[v].Cmp(chanceOf(c, s, v)) != 0 || right[v].Cmp(chanceOf(c, u, v)) != 0 {
				return false
			}
		}
	}
	return true
}

// withCell returns a copy of m with another number in one place.
func withCell(m impl.Coupled, row, place int, weight int64) impl.Coupled {
	n := impl.Coupled{States: m.States, Total: m.Total}
	for _, list := range m.Weights {
		n.Weights = append(n.Weights, slices.Clone(list))
	}
	n.Weights[row][place] = weight
	return n
}

// coupledChain is one for which invalidCoupled has coupled chains.
const coupledChain = "chain 2 3\nfrom 2 1\nfrom 1 2\n"

// invalidCoupled returns coupled chains that are not valid for coupledChain,
// each for one reason.
func invalidCoupled() map[string]impl.Coupled {
	const most = math.MaxInt64
	rows := func(rows ...[]int64) [][]int64 { return rows }
	best := impl.Coupled{States: 2, Total: 3, Weights: rows([]int64{2, 0, 0, 1}, []int64{1, 1, 0, 1}, []int64{1, 0, 1, 1}, []int64{1, 0, 0, 2})}
	with := func(states, total int64, weights [][]int64) impl.Coupled {
		return impl.Coupled{States: states, Total: total, Weights: weights}
	}
	scaled := func(factor int64) [][]int64 {
		list := [][]int64{}
		for _, row := range best.Weights {
			more := []int64{}
			for _, weight := range row {
				more = append(more, factor*weight)
			}
			list = append(list, more)
		}
		return list
	}
	four := slices.Repeat(rows(best.Weights[0]), 4)
	return map[string]impl.Coupled{
		"nothing":              {},
		"no states":            with(0, 3, nil),
		"one state":            with(1, 3, rows([]int64{3})),
		"three states":         with(3, 3, best.Weights),
		"many states":          with(most, 3, best.Weights),
		"negative states":      with(-2, 3, best.Weights),
		"total 0":              with(2, 0, rows(make([]int64, 4), make([]int64, 4), make([]int64, 4), make([]int64, 4))),
		"negative total":       with(2, -3, best.Weights),
		"total 3603":           with(2, 3603, scaled(1201)),
		"another total":        with(2, 6, best.Weights),
		"no rows":              with(2, 3, nil),
		"a row too few":        with(2, 3, best.Weights[:3]),
		"a row too many":       with(2, 3, append(slices.Clone(best.Weights), best.Weights[0])),
		"many rows":            with(2, 3, make([][]int64, 1000000)),
		"a short row":          with(2, 3, append(slices.Clone(best.Weights[:3]), []int64{1, 0, 2})),
		"a long row":           with(2, 3, append(slices.Clone(best.Weights[:3]), []int64{1, 0, 0, 2, 0})),
		"a row of many":        with(2, 3, append(slices.Clone(best.Weights[:3]), make([]int64, 1000000))),
		"a nil row":            with(2, 3, append(slices.Clone(best.Weights[:3]), nil)),
		"a negative weight":    with(2, 3, append(rows([]int64{3, -1, -1, 2}), best.Weights[1:]...)),
		"a sum too great":      withCell(best, 3, 3, 3),
		"a sum too small":      withCell(best, 3, 3, 1),
		"a wrapped sum":        with(2, 3, append(rows([]int64{most, most, 5, 0}), best.Weights[1:]...)),
		"the left one strays":  with(2, 3, append(rows([]int64{1, 0, 1, 1}), best.Weights[1:]...)),
		"the right one strays": with(2, 3, append(rows([]int64{1, 1, 0, 1}), best.Weights[1:]...)),
		"both go as from 1":    with(2, 3, append(rows([]int64{1, 0, 0, 2}), best.Weights[1:]...)),
		"all rows alike":       with(2, 3, four),
		"rows exchanged":       with(2, 3, rows(best.Weights[0], best.Weights[2], best.Weights[1], best.Weights[3])),
		"not whole for sticky": with(2, 4, rows([]int64{2, 0, 1, 1}, []int64{1, 2, 0, 1}, []int64{1, 0, 2, 1}, []int64{1, 1, 0, 2})),
	}
}

// bestFor returns BestCoupled of a chain that can be coupled.
func bestFor(t *testing.T, c impl.Chain) impl.Coupled {
	t.Helper()
	m, got := impl.BestCoupled(c)
	if got != impl.OK {
		t.Fatalf("%v cannot be coupled: %d", c, got)
	}
	return m
}
