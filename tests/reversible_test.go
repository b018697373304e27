package tests

import (
	"math/big"
	"math/rand"
	"slices"
	"testing"

	"loop.example/g01118/impl"
)

// The tests of this file are about promise 5: chains that run backwards.

// reversibleChain returns a reversible chain: the weight to a state is a part of
// its own, times one that is the same in both directions.
func reversibleChain(r *rand.Rand, states int64) impl.Chain {
	own, links := make([]int64, states), make([][]int64, states)
	for s := range states {
		own[s] = 1 + r.Int63n(3)
		links[s] = make([]int64, states)
		for u := range s {
			links[s][u] = r.Int63n(4)
			links[u][s] = links[s][u]
		}
	}
	c := impl.Chain{States: states, Total: impl.MaxTotal}
	for s := range states {
		row := make([]int64, states)
		row[s] = c.Total
		for u := range states {
			if u != s {
				row[u] = links[s][u] * own[u]
				row[s] -= row[u]
			}
		}
		c.Weights = append(c.Weights, row)
	}
	return c
}

// connectedChains returns connected chains, reversible and others.
func connectedChains(r *rand.Rand, count int) []impl.Chain {
	list := []impl.Chain{}
	for _, c := range chainsOfAllKinds(r, count) {
		other := reversibleChain(r, 1+r.Int63n(impl.MaxStates))
		order := []int64{}
		for _, s := range r.Perm(int(c.States)) {
			order = append(order, int64(s))
		}
		renamed, _ := impl.RenameStates(c, order)
		for _, d := range []impl.Chain{c, renamed, other} {
			if isConnected(d) {
				list = append(list, d)
			}
		}
	}
	return list
}

// isBalanced tells from the weights of trees whether a chain is reversible.
func isBalanced(c impl.Chain) bool {
	for s := range c.States {
		for u := range c.States {
			if treesOf(c, s)*c.Weights[s][u] != treesOf(c, u)*c.Weights[u][s] {
				return false
			}
		}
	}
	return true
}

// misfitOf looks at all lists of so many numbers, in lexicographic order.
func misfitOf(c impl.Chain) []int64 {
	for length := int64(3); length <= c.States; length++ {
		for trip := make([]int64, length); trip != nil; trip = nextList(trip, c.States) {
			there, back := int64(1), int64(1)
			for i, s := range trip {
				u := trip[(int64(i)+1)%length]
				there, back = there*c.Weights[s][u], back*c.Weights[u][s]
			}
			if there != back && slices.Min(trip) == trip[0] && areDifferent(trip) {
				return trip
			}
		}
	}
	return nil
}

func nextList(list []int64, states int64) []int64 {
	next := slices.Clone(list)
	for i := len(next) - 1; i >= 0; i-- {
		if next[i]++; next[i] < states {
			return next
		}
		next[i] = 0
	}
	return nil
}

func areDifferent(list []int64) bool {
	sorted := slices.Sorted(slices.Values(list))
	return len(slices.Compact(sorted)) == len(list)
}

func TestReversible(t *testing.T) {
	r := rand.New(rand.NewSource(41))
	yes, lengths := 0, map[int]int{}
	for _, c := range connectedChains(r, 500) {
		want := isBalanced(c)
		is, got := impl.IsReversible(c)
		same(t, "reversible", is, want)
		same(t, "code", got, int64(impl.OK))
		trip, got := impl.FirstMisfit(c)
		if want {
			code(t, "FirstMisfit", impl.ErrNotFound, trip, got)
			yes++
		} else {
			same(t, "misfit", trip, misfitOf(c))
			same(t, "code", got, int64(impl.OK))
			lengths[len(trip)]++
		}
		same(t, "no misfit", misfitOf(c) == nil, want)
	}
	if yes < 50 || lengths[3] < 50 || lengths[4] == 0 || lengths[5] == 0 || lengths[6] == 0 {
		t.Error("too few kinds of chains", yes, lengths)
	}
}

func TestFirstMisfit(t *testing.T) {
	for _, one := range []struct {
		text string
		want []int64
	}{
		{"chain 3 3\nfrom 0 2 1\nfrom 1 0 2\nfrom 2 1 0\n", []int64{0, 1, 2}},
		{"chain 3 3\nfrom 0 1 2\nfrom 2 0 1\nfrom 1 2 0\n", []int64{0, 1, 2}},
		{"chain 3 1\nfrom 0 0 1\nfrom 1 0 0\nfrom 0 1 0\n", []int64{0, 1, 2}},
		{"chain 4 3\nfrom 0 2 0 1\nfrom 1 0 2 0\nfrom 0 1 0 2\nfrom 2 0 1 0\n", []int64{0, 1, 2, 3}},
		{"chain 4 3\nfrom 0 0 2 1\nfrom 0 0 1 2\nfrom 1 2 0 0\nfrom 2 1 0 0\n", []int64{0, 2, 1, 3}},
		{"chain 4 6\nfrom 3 3 0 0\nfrom 1 2 2 1\nfrom 0 1 3 2\nfrom 0 2 1 3\n", []int64{1, 2, 3}},
		{"chain 4 2\nfrom 0 1 0 1\nfrom 0 0 2 0\nfrom 1 0 0 1\nfrom 2 0 0 0\n", []int64{0, 1, 2}},
		{"chain 4 2\nfrom 0 2 0 0\nfrom 0 0 1 1\nfrom 0 2 0 0\nfrom 2 0 0 0\n", []int64{0, 1, 3}},
	} {
		trip, got := impl.FirstMisfit(readChain(t, one.text))
		same(t, one.text, trip, one.want)
		same(t, "code", got, int64(impl.OK))
		is, got := impl.IsReversible(readChain(t, one.text))
		same(t, one.text, is || got != impl.OK, false)
	}
	for _, text := range []string{"chain 1 5\nfrom 5\n", "chain 2 5\nfrom 1 4\nfrom 5 0\n", "chain 3 4\nfrom 2 2 0\nfrom 1 2 1\nfrom 0 2 2\n"} {
		trip, got := impl.FirstMisfit(readChain(t, text))
		code(t, text, impl.ErrNotFound, trip, got)
		is, got := impl.IsReversible(readChain(t, text))
		same(t, text, is && got == impl.OK, true)
	}
}

func chancesOf(c impl.Chain) [][]*big.Rat {
	table := [][]*big.Rat{}
	for s := range c.States {
		row := []*big.Rat{}
		for u := range c.States {
			row = append(row, chanceOf(c, s, u))
		}
		table = append(table, row)
	}
	return table
}

func TestReversedChain(t *testing.T) {
	r := rand.New(rand.NewSource(42))
	made, same60, limits := 0, 0, 0
	for _, c := range connectedChains(r, 1000) {
		p := balanceOf(c)
		want := [][]*big.Rat{}
		for u := range c.States {
			row := []*big.Rat{}
			for s := range c.States {
				x := new(big.Rat).Mul(p[s], chanceOf(c, s, u))
				row = append(row, x.Quo(x, p[u]))
			}
			want = append(want, row)
		}
		d, got := impl.ReversedChain(c)
		leastOf(t, "reversed", want, d, got)
		if got != impl.OK {
			limits++
			continue
		}
		made++
		if d.Total == impl.MaxTotal {
			same60++
		}
		before, _ := impl.StationarySpread(c)
		after, _ := impl.StationarySpread(d)
		same(t, "the same stationary spread", after, before)
		back, got := impl.ReversedChain(d)
		leastOf(t, "back again", chancesOf(c), back, got)
		is, _ := impl.IsReversible(c)
		same(t, "reversible if the same", is, impl.SameChain(back, d))
	}
	if made < 100 || same60 < 5 || limits < 100 {
		t.Error("too few kinds of chains", made, same60, limits)
	}
}

func TestReversedChainTotals(t *testing.T) {
	for _, one := range []struct{ text, want string }{
		{"chain 1 60\nfrom 60\n", "chain 1 1\nfrom 1\n"},
		{"chain 2 6\nfrom 2 4\nfrom 4 2\n", "chain 2 3\nfrom 1 2\nfrom 2 1\n"},
		{"chain 2 6\nfrom 0 6\nfrom 6 0\n", "chain 2 1\nfrom 0 1\nfrom 1 0\n"},
		{"chain 3 4\nfrom 0 4 0\nfrom 0 0 4\nfrom 4 0 0\n", "chain 3 1\nfrom 0 0 1\nfrom 1 0 0\nfrom 0 1 0\n"},
		{"chain 3 3\nfrom 0 2 1\nfrom 1 0 2\nfrom 2 1 0\n", "chain 3 3\nfrom 0 1 2\nfrom 2 0 1\nfrom 1 2 0\n"},
		{"chain 3 4\nfrom 0 4 0\nfrom 2 0 2\nfrom 2 1 1\n", "chain 3 60\nfrom 0 36 24\nfrom 50 0 10\nfrom 0 45 15\n"},
	} {
		d, got := impl.ReversedChain(readChain(t, one.text))
		same(t, one.text, impl.ChainText(d), one.want)
		same(t, "code", got, int64(impl.OK))
	}
	for _, text := range []string{
		"chain 3 9\nfrom 2 5 2\nfrom 0 4 5\nfrom 5 0 4\n", // 63
		"chain 3 8\nfrom 0 3 5\nfrom 0 2 6\nfrom 5 0 3\n", // 64
	} {
		d, got := impl.ReversedChain(readChain(t, text))
		code(t, text, impl.ErrLimit, d, got)
	}
}

func TestReversibleErrors(t *testing.T) {
	for name, bad := range invalidChains() {
		reversibleCode(t, name, impl.ErrInvalid, bad)
	}
	for _, text := range []string{
		twoEnds, "chain 2 1\nfrom 1 0\nfrom 0 1\n", "chain 2 2\nfrom 1 1\nfrom 0 2\n",
		"chain 4 3\nfrom 0 2 1 0\nfrom 1 0 2 0\nfrom 2 1 0 0\nfrom 1 1 0 1\n",
	} {
		reversibleCode(t, text, impl.ErrState, readChain(t, text))
	}
}

func reversibleCode(t *testing.T, name string, want int64, c impl.Chain) {
	t.Helper()
	is, got := impl.IsReversible(c)
	code(t, name, want, is, got)
	trip, got := impl.FirstMisfit(c)
	code(t, name, want, trip, got)
	d, got := impl.ReversedChain(c)
	code(t, name, want, d, got)
}
