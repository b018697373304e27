package tests

import (
	"math"
	"math/big"
	"math/rand"
	"slices"
	"testing"

	"loop.example/g01118/impl"
)

// What the tests of chapter 6 have in common: sets, values and paths of all
// kinds, and what is known of them by other ways than those of the program.

const exampleCuts = "chain 3 4\nfrom 2 2 0\nfrom 1 2 1\nfrom 0 2 2\n"

// ringChain returns a chain with a circle through all of its states, in a random
// order, and few steps besides.
func ringChain(r *rand.Rand, states int64) impl.Chain {
	c, order := impl.Chain{States: states, Total: 1 + r.Int63n(12)}, r.Perm(int(states))
	for range states {
		c.Weights = append(c.Weights, make([]int64, states))
	}
	for i, s := range order {
		ahead, others := 1+r.Int63n(c.Total), []int64{int64(s), int64(order[(i+len(order)-1)%len(order)]), r.Int63n(states)}
		c.Weights[s][order[(i+1)%len(order)]] += ahead
		c.Weights[s][others[r.Intn(len(others))]] += c.Total - ahead
	}
	return c
}

// connectedAndRings returns connected chains of all kinds, many of them with long
// paths.
func connectedAndRings(r *rand.Rand, count int) []impl.Chain {
	list := connectedChains(r, count/3)
	for len(list) < count {
		list = append(list, ringChain(r, 2+r.Int63n(impl.MaxStates-1)))
	}
	return list
}

// parted returns chains that are not connected: with several closed classes, with
// states outside of them, and with no steps between different states.
func parted(t *testing.T) []impl.Chain {
	t.Helper()
	list := []impl.Chain{}
	for _, text := range []string{
		twoEnds, "chain 2 1\nfrom 1 0\nfrom 0 1\n", "chain 2 2\nfrom 1 1\nfrom 0 2\n", "chain 2 2\nfrom 2 0\nfrom 1 1\n", "chain 3 1\nfrom 1 0 0\nfrom 0 1 0\nfrom 0 0 1\n",
		"chain 3 2\nfrom 1 1 0\nfrom 1 1 0\nfrom 0 1 1\n", "chain 4 3\nfrom 0 2 1 0\nfrom 1 0 2 0\nfrom 2 1 0 0\nfrom 1 1 0 1\n",
		"chain 6 1\nfrom 0 1 0 0 0 0\nfrom 0 0 1 0 0 0\nfrom 1 0 0 0 0 0\nfrom 0 0 0 0 1 0\nfrom 0 0 0 0 0 1\nfrom 0 0 0 1 0 0\n",
	} {
		list = append(list, readChain(t, text))
	}
	return list
}

// everySet returns all sets of so many states, the empty one, too, in
// lexicographic order.
func everySet(states int64) [][]int64 {
	list := append(setsOf(states), []int64{})
	slices.SortFunc(list, slices.Compare)
	return list
}

func restOf(set []int64, states int64) []int64 {
	rest := []int64{}
	for s := range states {
		if !slices.Contains(set, s) {
			rest = append(rest, s)
		}
	}
	return rest
}

func wholeOf(c impl.Chain) []int64 { return restOf(nil, c.States) }

// flowsIn returns the flows of all steps of a connected chain.
func flowsIn(c impl.Chain) [][]*big.Rat {
	flows := zeroTable(int(c.States), int(c.States))
	for s, p := range balanceOf(c) {
		for u := range c.States {
			flows[s][u].Mul(p, chanceOf(c, int64(s), u))
		}
	}
	return flows
}

func flowIn(flows [][]*big.Rat, a, b []int64) *big.Rat {
	sum := new(big.Rat)
	for _, s := range a {
		for _, u := range b {
			sum.Add(sum, flows[s][u])
		}
	}
	return sum
}

// leastCut looks at all sets in lexicographic order. It returns the least ratio
// of one with a chance of at most 1/2, the first set that has it, and how many
// have it.
func leastCut(c impl.Chain) (*big.Rat, []int64, int) {
	flows := flowsIn(c)
	var least *big.Rat
	first, count := []int64{}, 0
	for _, set := range everySet(c.States) {
		chance := flowIn(flows, set, wholeOf(c))
		if chance.Sign() == 0 || chance.Cmp(big.NewRat(1, 2)) > 0 {
			continue
		}
		x := new(big.Rat).Quo(flowIn(flows, set, restOf(set, c.States)), chance)
		switch {
		case least == nil || x.Cmp(least) < 0:
			least, first, count = x, set, 1
		case x.Cmp(least) == 0:
			count++
		}
	}
	return least, first, count
}

// digitsOf returns a fraction whose Num and Den have at most so many digits.
func digitsOf(r *rand.Rand, digits int) impl.Fraction {
	most, _ := new(big.Int).SetString(tenTo(digits), 10)
	num := new(big.Int).Rand(r, most)
	den := new(big.Int).Add(new(big.Int).Rand(r, new(big.Int).Sub(most, big.NewInt(1))), big.NewInt(1))
	if r.Intn(3) == 0 {
		den = big.NewInt(1)
	}
	x, _ := ofRat(new(big.Rat).SetFrac(num, den))
	return x
}

// randomValues returns a value for each state: small or long ones, ones that are
// all alike, or 1 on a set and 0 elsewhere.
func randomValues(r *rand.Rand, states int64) []impl.Fraction {
	digits := []int{1, 2, 10, 40, 60, 74, 75, 76, 99, 149, 150, 151, 300}
	list, kind, most := []impl.Fraction{}, r.Intn(10), digits[r.Intn(len(digits))]
	same := digitsOf(r, most)
	for range states {
		switch kind {
		case 0:
			list = append(list, same)
		case 1, 2:
			x, _ := impl.FractionOf(r.Int63n(2), 1)
			list = append(list, x)
		case 3, 4, 5, 6:
			x, _ := impl.FractionOf(r.Int63n(9), 1+r.Int63n(4))
			list = append(list, x)
		case 7:
			list = append(list, []impl.Fraction{same, frac("0")}[r.Intn(2)])
		default:
			list = append(list, digitsOf(r, most))
		}
	}
	return list
}

// onSet returns the values that are 1 on a set, and 0 elsewhere.
func onSet(set []int64, states int64) []impl.Fraction {
	list := slices.Repeat(fracs("0"), int(states))
	for _, s := range set {
		list[s] = frac("1")
	}
	return list
}

func meanIn(p, values []*big.Rat) *big.Rat {
	sum := new(big.Rat)
	for s, x := range values {
		sum.Add(sum, new(big.Rat).Mul(p[s], x))
	}
	return sum
}

// varianceIn sums up the squares of the differences from the mean.
func varianceIn(p, values []*big.Rat) *big.Rat {
	mean, squares := meanIn(p, values), []*big.Rat{}
	for _, x := range values {
		gap := less(x, mean)
		squares = append(squares, gap.Mul(gap, gap))
	}
	return meanIn(p, squares)
}

// formIn returns the mean of the values, each times what it is expected to lose
// by a step. As p is stationary, this is the form.
func formIn(c impl.Chain, p, values []*big.Rat) *big.Rat {
	products := []*big.Rat{}
	for s, x := range values {
		lost := less(x, stepped(c, int64(s), values))
		products = append(products, lost.Mul(lost, x))
	}
	return meanIn(p, products)
}

// badValues returns lists that are no values for three states: some fraction of
// them is not valid.
func badValues() [][]impl.Fraction {
	return [][]impl.Fraction{
		fracs("1", "1", "2/4"), fracs("2/2", "0", "0"), fracs("0", "x", "0"), fracs("0", "1/0", "0"), fracs("-1", "0", "0"), fracs("0", "01", "0"), fracs("0", "0", tenTo(300)),
		{{}, {}, {}}, {{Num: "1", Den: ""}}, fracs("2/4"), fracs("1", "1", "1", "1", "0/2"), slices.Repeat(fracs("0/7"), 1000), make([]impl.Fraction, 1000),
	}
}

// otherCounts returns lists of valid fractions that are not three.
func otherCounts() [][]impl.Fraction {
	return [][]impl.Fraction{
		nil, {}, fracs("1"), fracs("0", "1"), fracs("1/2", "1/2"), fracs("0", "0", "0", "0"), fracs("0", "1", "2", "3", "4", "5"), fracs("0", "1", "2", "3", "4", "5", "6"),
		fracs(nines(300), nines(300)), slices.Repeat(fracs("1"), 1000),
	}
}

// apartIn returns all pairs of two different states.
func apartIn(states int64) [][2]int64 {
	list := [][2]int64{}
	for s := range states {
		for u := range states {
			if s != u {
				list = append(list, [2]int64{s, u})
			}
		}
	}
	return list
}

// stepsIn returns the pairs of two different states between which there is a
// step.
func stepsIn(c impl.Chain) [][2]int64 {
	list := [][2]int64{}
	for _, at := range apartIn(c.States) {
		if c.Weights[at[0]][at[1]] > 0 {
			list = append(list, at)
		}
	}
	return list
}

// isPathIn tells whether a list, of any numbers, is a path.
func isPathIn(c impl.Chain, list []int64) bool {
	for i, s := range list {
		if s < 0 || s >= c.States || i > 0 && c.Weights[list[i-1]][s] == 0 {
			return false
		}
	}
	return len(list) > 0 && areDifferent(list)
}

func arePathsIn(c impl.Chain, ends [][2]int64, paths [][]int64) bool {
	if len(paths) != len(ends) {
		return false
	}
	for i, path := range paths {
		if !isPathIn(c, path) || path[0] != ends[i][0] || path[len(path)-1] != ends[i][1] {
			return false
		}
	}
	return true
}

// stepsTo returns how many steps it takes at least from each state to u.
func stepsTo(c impl.Chain, u int64) []int64 {
	far := slices.Repeat([]int64{math.MaxInt64}, int(c.States))
	far[u] = 0
	for round := range c.States {
		for s, row := range c.Weights {
			for v, weight := range row {
				if weight > 0 && far[v] == round {
					far[s] = min(far[s], round+1)
				}
			}
		}
	}
	return far
}

// firstIn goes from s to the least state that is nearer to u, until it is there.
func firstIn(c impl.Chain, s, u int64) []int64 {
	far, path := stepsTo(c, u), []int64{s}
	for s != u {
		next := 0
		for c.Weights[s][next] == 0 || far[next] != far[s]-1 {
			next++
		}
		s = int64(next)
		path = append(path, s)
	}
	return path
}

func firstsIn(c impl.Chain, ends [][2]int64) [][]int64 {
	paths := [][]int64{}
	for _, at := range ends {
		paths = append(paths, firstIn(c, at[0], at[1]))
	}
	return paths
}

// randomPath returns a path, mostly not a shortest one.
func randomPath(r *rand.Rand, c impl.Chain, path []int64, u int64) []int64 {
	last := path[len(path)-1]
	if last == u {
		return path
	}
	for _, next := range r.Perm(int(c.States)) {
		if c.Weights[last][next] > 0 && !slices.Contains(path, int64(next)) {
			if longer := randomPath(r, c, append(slices.Clone(path), int64(next)), u); longer != nil {
				return longer
			}
		}
	}
	return nil
}

func randomPaths(r *rand.Rand, c impl.Chain, ends [][2]int64) [][]int64 {
	paths := [][]int64{}
	for _, at := range ends {
		paths = append(paths, randomPath(r, c, at[:1:1], at[1]))
	}
	return paths
}

// greatestIn lets each path carry what is given for its ends, times its length,
// over all of its steps. It returns the greatest quotient of what is carried over
// a step of c and of its flow, the first step that has it, and how many have it.
func greatestIn(c impl.Chain, paths [][]int64, given func(s, u int64) *big.Rat) (*big.Rat, []int64, int) {
	flows, sums := flowsIn(c), zeroTable(int(c.States), int(c.States))
	for _, path := range paths {
		length := int64(len(path) - 1)
		amount := new(big.Rat).Mul(given(path[0], path[length]), big.NewRat(length, 1))
		for i := range length {
			sum := sums[path[i]][path[i+1]]
			sum.Add(sum, amount)
		}
	}
	greatest, first, count := new(big.Rat), []int64{}, 0
	for _, at := range stepsIn(c) {
		load := new(big.Rat).Quo(sums[at[0]][at[1]], flows[at[0]][at[1]])
		switch load.Cmp(greatest) {
		case 1:
			greatest, first, count = load, []int64{at[0], at[1]}, 1
		case 0:
			count++
		}
	}
	return greatest, first, count
}

// congestionIn returns what CongestionOf has to return, and how many steps have
// the greatest load.
func congestionIn(c impl.Chain, paths [][]int64) (*big.Rat, []int64, int) {
	p := balanceOf(c)
	return greatestIn(c, paths, func(s, u int64) *big.Rat { return new(big.Rat).Mul(p[s], p[u]) })
}

func comparisonIn(c, d impl.Chain, paths [][]int64) *big.Rat {
	flows := flowsIn(d)
	greatest, _, _ := greatestIn(c, paths, func(s, u int64) *big.Rat { return flows[s][u] })
	return greatest
}

// spoiltPaths returns lists that are not the given paths of a chain any more, or
// still are, by chance: one of them is changed, left out, added or exchanged.
func spoiltPaths(r *rand.Rand, c impl.Chain, paths [][]int64) [][][]int64 {
	list := [][][]int64{nil, append(slices.Clone(paths), []int64{0}), append(slices.Clone(paths), nil), slices.Repeat([][]int64{{0}}, 1000)}
	if len(paths) == 0 {
		return list
	}
	at, other := r.Intn(len(paths)), r.Intn(len(paths))
	path := paths[at]
	last := path[len(path)-1]
	put := func(path []int64) {
		changed := slices.Clone(paths)
		changed[at] = path
		list = append(list, changed)
	}
	list = append(list, slices.Delete(slices.Clone(paths), at, at+1), append(slices.Clone(paths), path))
	put(paths[other])
	for _, bad := range [][]int64{
		nil, {}, {-1}, {c.States}, {math.MaxInt64}, {math.MinInt64}, {path[0]}, {last}, {path[0], last}, {path[0], path[0], last}, {path[0], last, last}, {path[0], -1, last},
		{path[0], c.States, last}, {path[0], math.MaxInt64, last}, {path[0], r.Int63n(c.States), last}, append(slices.Clone(path), -1), append([]int64{math.MinInt64}, path...),
		path[1:], path[:len(path)-1], make([]int64, 1000), append(slices.Clone(path), path...), slices.Concat(path, path, path, path),
	} {
		put(bad)
	}
	back := slices.Clone(path)
	slices.Reverse(back)
	put(back)
	put(randomPath(r, c, path[:1:1], last))
	return list
}
