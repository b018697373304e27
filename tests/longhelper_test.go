package tests

import (
	"math"
	"math/big"
	"math/rand"
	"slices"
	"testing"

	"loop.example/g01118/impl"
)

// What the tests of chapter 2 have in common: chains of all kinds, and what is
// known of them by other ways than those of the program.

// sparseChain returns a chain with few steps from each state, and some states
// that stay.
func sparseChain(r *rand.Rand, states int64) impl.Chain {
	c := impl.Chain{States: states, Total: 1 + r.Int63n(6)}
	for s := range states {
		row := make([]int64, states)
		first := r.Int63n(c.Total + 1)
		one, other := r.Int63n(states), r.Int63n(states)
		if r.Intn(5) == 0 {
			one, other = s, s
		}
		row[one] += first
		row[other] += c.Total - first
		c.Weights = append(c.Weights, row)
	}
	return c
}

// walkOn returns a random walk on a circle of states with the given weights up
// and down.
func walkOn(states, up, down int64) impl.Chain {
	c := impl.Chain{States: states, Total: up + down}
	for s := range states {
		row := make([]int64, states)
		row[(s+1)%states] += up
		row[(s+states-1)%states] += down
		c.Weights = append(c.Weights, row)
	}
	return c
}

// chainsOfAllKinds returns connected chains and others: with several closed
// classes, with states outside of them, with one state, with long periods.
func chainsOfAllKinds(r *rand.Rand, count int) []impl.Chain {
	list := []impl.Chain{}
	for states := int64(1); states <= impl.MaxStates; states++ {
		stay, _ := impl.SkipChain(randomChainOf(r, states, 7), 0)
		list = append(list, stay, walkOn(states, 1, 0), walkOn(states, 1, 1), walkOn(states, 2, 1))
	}
	for len(list) < count {
		switch r.Intn(4) {
		case 0:
			list = append(list, randomChain(r))
		case 1:
			list = append(list, smallChain(r, 1+r.Int63n(4)))
		default:
			list = append(list, sparseChain(r, 1+r.Int63n(impl.MaxStates)))
		}
	}
	return list
}

// leads tells for each two states whether some number of steps, 0 or more,
// leads from the one to the other.
func leads(c impl.Chain) [][]bool {
	all := [][]bool{}
	for s := range c.States {
		seen := make([]bool, c.States)
		seen[s] = true
		for todo := []int64{s}; len(todo) > 0; todo = todo[1:] {
			for u, weight := range c.Weights[todo[0]] {
				if weight > 0 && !seen[u] {
					seen[u] = true
					todo = append(todo, int64(u))
				}
			}
		}
		all = append(all, seen)
	}
	return all
}

func isConnected(c impl.Chain) bool {
	for _, row := range leads(c) {
		if slices.Contains(row, false) {
			return false
		}
	}
	return true
}

// closedOf returns the closed classes of a chain.
func closedOf(c impl.Chain) [][]int64 {
	can := leads(c)
	list := [][]int64{}
	for s := range c.States {
		class, isLeast, isClosed := []int64{}, true, true
		for u := range c.States {
			if can[s][u] {
				class = append(class, u)
				isLeast = isLeast && u >= s
				isClosed = isClosed && can[u][s]
			}
		}
		if isLeast && isClosed {
			list = append(list, class)
		}
	}
	return list
}

func chanceOf(c impl.Chain, s, u int64) *big.Rat { return big.NewRat(c.Weights[s][u], c.Total) }

func sumOf(list []*big.Rat) *big.Rat {
	sum := new(big.Rat)
	for _, x := range list {
		sum.Add(sum, x)
	}
	return sum
}

func zeros(count int64) []*big.Rat {
	list := []*big.Rat{}
	for range count {
		list = append(list, new(big.Rat))
	}
	return list
}

// solve returns the only x for which each row of the table, times x, has the
// sum given in want.
func solve(table [][]*big.Rat, want []*big.Rat) []*big.Rat {
	rows := [][]*big.Rat{}
	for i, row := range table {
		copied := []*big.Rat{}
		for _, x := range append(slices.Clone(row), want[i]) {
			copied = append(copied, new(big.Rat).Set(x))
		}
		rows = append(rows, copied)
	}
	for k := range rows {
		first := k
		for rows[first][k].Sign() == 0 {
			first++
		}
		rows[k], rows[first] = rows[first], rows[k]
		pivot := new(big.Rat).Set(rows[k][k])
		for j := range rows[k] {
			rows[k][j].Quo(rows[k][j], pivot)
		}
		for i := range rows {
			factor := new(big.Rat).Set(rows[i][k])
			for j := range rows[i] {
				if i != k {
					rows[i][j].Sub(rows[i][j], new(big.Rat).Mul(factor, rows[k][j]))
				}
			}
		}
	}
	x := []*big.Rat{}
	for _, row := range rows {
		x = append(x, row[len(row)-1])
	}
	return x
}

// hopeful returns the states outside of a set from which it can be hit.
func hopeful(c impl.Chain, set []int64) []int64 {
	can := leads(c)
	list := []int64{}
	for s := range c.States {
		for _, u := range set {
			if can[s][u] && !slices.Contains(set, s) && !slices.Contains(list, s) {
				list = append(list, s)
			}
		}
	}
	return list
}

// gather solves the equations by which what is expected from a state, until a
// set is hit, is what is given there, and what is expected behind a step. It
// is 0 in the set, and where it cannot be hit.
func gather(c impl.Chain, set []int64, given func(s int64) *big.Rat) []*big.Rat {
	from := hopeful(c, set)
	table, want := [][]*big.Rat{}, []*big.Rat{}
	for i, s := range from {
		row := []*big.Rat{}
		for j, u := range from {
			x := new(big.Rat).Neg(chanceOf(c, s, u))
			if i == j {
				x.Add(x, big.NewRat(1, 1))
			}
			row = append(row, x)
		}
		table, want = append(table, row), append(want, given(s))
	}
	all := zeros(c.States)
	for i, x := range solve(table, want) {
		all[from[i]] = x
	}
	return all
}

// entriesOf returns, for each state, the chances of all states to be the one in
// which a set is hit from it.
func entriesOf(c impl.Chain, set []int64) [][]*big.Rat {
	table := [][]*big.Rat{}
	for range c.States {
		table = append(table, zeros(c.States))
	}
	for _, u := range set {
		for s, x := range gather(c, set, func(s int64) *big.Rat { return chanceOf(c, s, u) }) {
			table[s][u] = x
		}
		table[u][u] = big.NewRat(1, 1)
	}
	return table
}

// hitsOf returns, for each state, the chance to hit a set.
func hitsOf(c impl.Chain, set []int64) []*big.Rat {
	list := []*big.Rat{}
	for _, row := range entriesOf(c, set) {
		list = append(list, sumOf(row))
	}
	return list
}

func isOne(x *big.Rat) bool { return x.Cmp(big.NewRat(1, 1)) == 0 }

// timesTo returns, for each state, the expected number of steps to a set that
// is surely hit.
func timesTo(c impl.Chain, set []int64) []*big.Rat {
	return gather(c, set, func(int64) *big.Rat { return big.NewRat(1, 1) })
}

// balanceOf returns the only stationary chances of a chain.
func balanceOf(c impl.Chain) []*big.Rat {
	table, want := [][]*big.Rat{}, zeros(c.States)
	for u := range c.States {
		row := []*big.Rat{}
		for s := range c.States {
			x := chanceOf(c, s, u)
			if s == u {
				x.Sub(x, big.NewRat(1, 1))
			}
			if u == 0 {
				x = big.NewRat(1, 1)
			}
			row = append(row, x)
		}
		table = append(table, row)
	}
	want[0] = big.NewRat(1, 1)
	return solve(table, want)
}

// setsOf returns all sets of so many states with a state.
func setsOf(states int64) [][]int64 {
	list := [][]int64{}
	for bits := 1; bits < 1<<states; bits++ {
		set := []int64{}
		for s := range states {
			if bits>>s&1 == 1 {
				set = append(set, s)
			}
		}
		list = append(list, set)
	}
	return list
}

// badSets returns lists that are no sets of the states of a chain with three of
// them, or have none.
func badSets() [][]int64 {
	return [][]int64{
		nil, {}, {-1}, {3}, {0, 3}, {-1, 0}, {0, 0}, {1, 0}, {0, 2, 1}, {0, 1, 1, 2}, {0, 1, 2, 3}, {2, 2}, {math.MaxInt64}, {math.MinInt64, 0},
		{0, 1, math.MaxInt64}, make([]int64, 7), make([]int64, 1000000),
	}
}

// badStates returns numbers that are no states of a chain with three of them.
func badStates() []int64 { return []int64{-1, 3, 6, math.MaxInt64, math.MinInt64} }

// twoEnds has two closed classes, and a state outside of them.
const twoEnds = "chain 3 3\nfrom 1 1 1\nfrom 0 3 0\nfrom 0 0 3\n"

// leastOf fails the test unless a function has returned the chain with the
// given chances and the least Total, or ErrLimit if this is too great.
func leastOf(t *testing.T, name string, chances [][]*big.Rat, got impl.Chain, gotCode int64) {
	t.Helper()
	total := int64(1)
	for !allWhole(chances, total) {
		total++
		if total > impl.MaxTotal {
			break
		}
	}
	made(t, name, int64(len(chances)), total, func(s, u int64) int64 {
		return new(big.Rat).Mul(chances[s][u], big.NewRat(total, 1)).Num().Int64()
	}, got, gotCode)
}

func allWhole(chances [][]*big.Rat, total int64) bool {
	for _, row := range chances {
		for _, x := range row {
			if !new(big.Rat).Mul(x, big.NewRat(total, 1)).IsInt() {
				return false
			}
		}
	}
	return true
}
