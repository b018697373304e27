package tests

import (
	"math"
	"math/big"
	"math/rand"
	"slices"
	"strings"
	"testing"

	"loop.example/g01118/impl"
)

// What the tests of chapter 3 have in common: joint spreads and costs, and
// couplings that are made by other ways than those of the program.

// jointOf makes a joint spread of its lists, written as "1/2 1/4".
func jointOf(rows ...string) [][]impl.Fraction {
	j := [][]impl.Fraction{}
	for _, row := range rows {
		j = append(j, fracs(strings.Fields(row)...))
	}
	return j
}

func ratTable(j [][]impl.Fraction) [][]*big.Rat {
	table := [][]*big.Rat{}
	for _, row := range j {
		table = append(table, ratsOf(row))
	}
	return table
}

func zeroTable(lefts, rights int) [][]*big.Rat {
	table := [][]*big.Rat{}
	for range lefts {
		table = append(table, zeros(int64(rights)))
	}
	return table
}

func turnedTable(table [][]*big.Rat) [][]*big.Rat {
	turned := zeroTable(len(table[0]), len(table))
	for s, row := range table {
		for u, x := range row {
			turned[u][s] = x
		}
	}
	return turned
}

func rowSums(table [][]*big.Rat) []*big.Rat {
	list := []*big.Rat{}
	for _, row := range table {
		list = append(list, sumOf(row))
	}
	return list
}

// ofTable returns what a function has to return for a table of values.
func ofTable(table [][]*big.Rat) ([][]impl.Fraction, int64) {
	j := [][]impl.Fraction{}
	for _, row := range table {
		list, c := ofRats(row)
		if c != impl.OK {
			return [][]impl.Fraction{}, c
		}
		j = append(j, list)
	}
	return j, impl.OK
}

// isTable fails the test unless a function has returned the given values.
func isTable(t *testing.T, name string, want [][]*big.Rat, got [][]impl.Fraction, gotCode int64) {
	t.Helper()
	j, c := ofTable(want)
	same(t, name, got, j)
	same(t, name+": code", gotCode, c)
}

// isCoupling fails the test unless j is a coupling of p and q, as a table and
// for the program.
func isCoupling(t *testing.T, name string, j [][]impl.Fraction, p, q []impl.Fraction) {
	t.Helper()
	same(t, name+": valid", impl.ValidJoint(j), true)
	table := ratTable(j)
	isFractions(t, name+": left", rowSums(table), p, impl.OK)
	isFractions(t, name+": right", rowSums(turnedTable(table)), q, impl.OK)
	left, got := impl.LeftOf(j)
	same(t, name+": LeftOf", left, p)
	same(t, name+": code", got, int64(impl.OK))
	right, got := impl.RightOf(j)
	same(t, name+": RightOf", right, q)
	same(t, name+": code", got, int64(impl.OK))
}

// partsOf returns a spread with the given parts of their sum.
func partsOf(parts []int64) []impl.Fraction {
	whole, list := int64(0), []impl.Fraction{}
	for _, n := range parts {
		whole += n
	}
	for _, n := range parts {
		x, _ := impl.FractionOf(n, whole)
		list = append(list, x)
	}
	return list
}

// jointOfParts returns the joint spread with the given parts of a whole.
func jointOfParts(parts [][]int64, whole int64) [][]impl.Fraction {
	j := [][]impl.Fraction{}
	for _, row := range parts {
		list := []impl.Fraction{}
		for _, n := range row {
			x, _ := impl.FractionOf(n, whole)
			list = append(list, x)
		}
		j = append(j, list)
	}
	return j
}

func randomJoint(r *rand.Rand, lefts, rights int64) [][]impl.Fraction {
	whole := 1 + r.Int63n(60)
	parts := slices.Collect(slices.Chunk(randomParts(r, lefts*rights, whole), int(rights)))
	return jointOfParts(parts, whole)
}

// filledParts carries as much as possible from p to q for one pair of states
// after the other, in a random order.
func filledParts(r *rand.Rand, p, q []int64) [][]int64 {
	left, right, parts := slices.Clone(p), slices.Clone(q), [][]int64{}
	for range p {
		parts = append(parts, make([]int64, len(q)))
	}
	for _, at := range r.Perm(len(p) * len(q)) {
		s, u := at/len(q), at%len(q)
		n := min(left[s], right[u])
		parts[s][u] += n
		left[s] -= n
		right[u] -= n
	}
	return parts
}

// randomSides returns parts of the same whole for two spreads.
func randomSides(r *rand.Rand, lefts, rights, whole int64) ([]int64, []int64) {
	return randomParts(r, lefts, whole), randomParts(r, rights, whole)
}

// randomCosts returns costs with at most so many different numbers.
func randomCosts(r *rand.Rand, lefts, rights int64, different int64) [][]int64 {
	costs, scale := [][]int64{}, int64(impl.MaxCost)/max(different-1, 1)
	if r.Intn(2) == 0 {
		scale = 1
	}
	for range lefts {
		row := []int64{}
		for range rights {
			row = append(row, scale*r.Int63n(different))
		}
		costs = append(costs, row)
	}
	return costs
}

func costOf(parts, costs [][]int64) int64 {
	sum := int64(0)
	for s, row := range parts {
		for u, n := range row {
			sum += n * costs[s][u]
		}
	}
	return sum
}

func flatCosts(lefts, rights int, cost int64) [][]int64 {
	costs := [][]int64{}
	for range lefts {
		costs = append(costs, slices.Repeat([]int64{cost}, rights))
	}
	return costs
}

// apartCosts are 0 at equal states, and cost elsewhere.
func apartCosts(states int, cost int64) [][]int64 {
	costs := flatCosts(states, states, cost)
	for s := range costs {
		costs[s][s] = 0
	}
	return costs
}

// invalidJoints returns lists that are no joint spreads.
func invalidJoints() map[string][][]impl.Fraction {
	const million = 1000000
	long := slices.Repeat(fracs("0"), million)
	long[0] = frac("1")
	return map[string][][]impl.Fraction{
		"nothing":           nil,
		"no lists":          {},
		"an empty list":     {{}},
		"two empty lists":   {nil, {}},
		"empty at first":    {nil, fracs("1")},
		"empty at last":     {fracs("1"), nil},
		"a short list":      jointOf("1/2 1/4", "1/4"),
		"a long list":       jointOf("1/2 1/4", "1/4 0 0"),
		"seven lists":       jointOf("1", "0", "0", "0", "0", "0", "0"),
		"seven places":      jointOf("1 0 0 0 0 0 0"),
		"a sum of 1/2":      jointOf("1/4 0", "0 1/4"),
		"a sum of 0":        jointOf("0"),
		"a sum of 2":        jointOf("1 0", "0 1"),
		"a bit more than 1": jointOf("1/"+tenTo(299)+" 1/2", "1/2 0"),
		"not in lowest":     jointOf("2/4 0", "0 1/2"),
		"no numeral":        jointOf("1/2 x", "0 1/2"),
		"a zero too much":   jointOf("1/2 0", "00 1/2"),
		"over 0":            jointOf("1/2 1/0", "0 1/2"),
		"negative":          jointOf("3/2 -1/2"),
		"301 digits":        jointOf("1/" + tenTo(300) + " " + nines(300) + "/" + tenTo(300)),
		"empty fractions":   {{{}}},
		"many lists":        slices.Repeat([][]impl.Fraction{fracs("0")}, million),
		"many places":       {long},
		"many nils":         make([][]impl.Fraction, million),
	}
}

// badCosts returns lists that are no costs for so many states.
func badCosts(lefts, rights int) [][][]int64 {
	good := flatCosts(lefts, rights, 1)
	with := func(n int64) [][]int64 {
		costs := flatCosts(lefts, rights, 1)
		costs[lefts-1][rights-1] = n
		return costs
	}
	short, long := flatCosts(lefts, rights, 1), flatCosts(lefts, rights, 1)
	short[lefts-1] = short[lefts-1][1:]
	long[lefts-1] = append(long[lefts-1], 1)
	list := [][][]int64{
		nil, {}, good[1:], append(slices.Clone(good), good[0]), short, long, with(-1), with(impl.MaxCost + 1), with(math.MaxInt64), with(math.MinInt64),
		flatCosts(lefts+1, rights+1, 1), make([][]int64, lefts), make([][]int64, 1000000), {make([]int64, 999999)},
	}
	if lefts != rights {
		list = append(list, flatCosts(rights, lefts, 1))
	}
	return list
}
