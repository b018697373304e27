package tests

import (
	"math/big"
	"math/rand"
	"slices"
	"testing"

	"loop.example/g01118/impl"
)

// The tests of this file are about promise 6: returns, passages and what is
// watched.

func TestReturnTime(t *testing.T) {
	r := rand.New(rand.NewSource(61))
	for _, c := range chainsOfAllKinds(r, 1000) {
		closed := slices.Concat(closedOf(c)...)
		for s := range c.States {
			time, got := impl.ReturnTime(c, s)
			if !slices.Contains(closed, s) {
				code(t, "outside", impl.ErrState, time, got)
				continue
			}
			want := stepped(c, s, timesTo(c, []int64{s}))
			isFraction(t, "return", want.Add(want, big.NewRat(1, 1)), time, got)
			if isConnected(c) {
				p, _ := impl.StationarySpread(c)
				one, _ := impl.MulFraction(p[s], time)
				same(t, "1 divided by the stationary chance", one, frac("1"))
			}
		}
	}
	for _, one := range []struct {
		text string
		s    int64
		want string
		code int64
	}{
		{twoEnds, 0, "", impl.ErrState},
		{twoEnds, 1, "1", impl.OK},
		{twoEnds, 2, "1", impl.OK},
		{"chain 4 4\nfrom 1 1 1 1\nfrom 0 4 0 0\nfrom 0 0 0 4\nfrom 0 0 2 2\n", 2, "3", impl.OK},
		{"chain 4 4\nfrom 1 1 1 1\nfrom 0 4 0 0\nfrom 0 0 0 4\nfrom 0 0 2 2\n", 3, "3/2", impl.OK},
		{"chain 2 60\nfrom 59 1\nfrom 0 60\n", 0, "", impl.ErrState},
		{"chain 2 60\nfrom 59 1\nfrom 60 0\n", 1, "61", impl.OK},
	} {
		time, got := impl.ReturnTime(readChain(t, one.text), one.s)
		same(t, one.text, impl.FractionText(time), one.want)
		code(t, one.text, one.code, time, got)
	}
}

func TestPassageTimes(t *testing.T) {
	r := rand.New(rand.NewSource(62))
	for _, c := range chainsOfAllKinds(r, 400) {
		table, got := impl.PassageTimes(c)
		if !isConnected(c) {
			code(t, "PassageTimes", impl.ErrState, table, got)
			time, got := impl.KemenyTime(c)
			code(t, "KemenyTime", impl.ErrState, time, got)
			continue
		}
		same(t, "code", got, int64(impl.OK))
		same(t, "rows", int64(len(table)), c.States)
		for u := range c.States {
			column, hits := []impl.Fraction{}, timesTo(c, []int64{u})
			for _, row := range table {
				column = append(column, row[u])
			}
			isFractions(t, "column", hits, column, impl.OK)
			times, _ := impl.HitTimes(c, []int64{u})
			same(t, "as HitTimes", column, times)
		}
		time, got := impl.KemenyTime(c)
		for _, row := range table {
			sum := new(big.Rat)
			for u, chance := range balanceOf(c) {
				sum.Add(sum, new(big.Rat).Mul(chance, ratOf(row[u])))
			}
			isFraction(t, "the same for all states", sum, time, got)
		}
	}
}

func TestWatchedChain(t *testing.T) {
	r := rand.New(rand.NewSource(63))
	made, states, limits := 0, 0, 0
	for _, c := range chainsOfAllKinds(r, 300) {
		for _, set := range setsOf(c.States) {
			entries, isSure := entriesOf(c, set), areSure(c, set)
			want, again := [][]*big.Rat{}, true
			for _, s := range set {
				row := []*big.Rat{}
				for _, u := range set {
					column := []*big.Rat{}
					for v := range c.States {
						column = append(column, entries[v][u])
					}
					row = append(row, stepped(c, s, column))
				}
				want = append(want, row)
				for u, weight := range c.Weights[s] {
					again = again && (weight == 0 || isSure[u])
				}
			}
			d, got := impl.WatchedChain(c, set)
			if !again {
				code(t, "WatchedChain", impl.ErrState, d, got)
				states++
				continue
			}
			leastOf(t, "watched", want, d, got)
			if got != impl.OK {
				limits++
				continue
			}
			made++
			if isConnected(c) {
				inProportion(t, c, d, set)
			}
		}
	}
	if made < 100 || states < 100 || limits < 100 {
		t.Error("too few kinds of chains", made, states, limits)
	}
}

// inProportion checks the stationary chances of a watched chain.
func inProportion(t *testing.T, c, d impl.Chain, set []int64) {
	t.Helper()
	p, _ := impl.StationarySpread(c)
	q, got := impl.StationarySpread(d)
	all, want := ratsOf(p), []*big.Rat{}
	sum := new(big.Rat)
	for _, s := range set {
		sum.Add(sum, all[s])
	}
	for _, s := range set {
		want = append(want, new(big.Rat).Quo(all[s], sum))
	}
	isFractions(t, "in proportion", want, q, got)
}

func TestWatchedChainEdges(t *testing.T) {
	for _, one := range []struct {
		text string
		set  []int64
		want string
		code int64
	}{
		{"chain 3 4\nfrom 2 2 0\nfrom 0 4 0\nfrom 2 0 2\n", []int64{0, 1, 2}, "chain 3 2\nfrom 1 1 0\nfrom 0 2 0\nfrom 1 0 1\n", impl.OK},
		{twoEnds, []int64{1}, "chain 1 1\nfrom 1\n", impl.OK},
		{twoEnds, []int64{1, 2}, "chain 2 1\nfrom 1 0\nfrom 0 1\n", impl.OK},
		{twoEnds, []int64{0}, "", impl.ErrState},
		{twoEnds, []int64{0, 1}, "", impl.ErrState},
		{twoEnds, []int64{0, 1, 2}, "chain 3 3\nfrom 1 1 1\nfrom 0 3 0\nfrom 0 0 3\n", impl.OK},
		{"chain 3 2\nfrom 0 1 1\nfrom 1 0 1\nfrom 0 0 2\n", []int64{0, 1}, "", impl.ErrState},
		{"chain 3 2\nfrom 0 1 1\nfrom 1 0 1\nfrom 0 0 2\n", []int64{2}, "chain 1 1\nfrom 1\n", impl.OK},
		{"chain 3 12\nfrom 11 0 1\nfrom 0 12 0\nfrom 4 1 7\n", []int64{0, 1}, "chain 2 60\nfrom 59 1\nfrom 0 60\n", impl.OK},
		{"chain 3 31\nfrom 30 0 1\nfrom 0 31 0\nfrom 1 1 29\n", []int64{0, 1}, "", impl.ErrLimit},
		{"chain 4 31\nfrom 30 0 1 0\nfrom 0 30 0 1\nfrom 1 1 29 0\nfrom 0 0 0 31\n", []int64{0, 1}, "", impl.ErrState},
		{"chain 6 60\nfrom 1 59 0 0 0 0\nfrom 1 0 59 0 0 0\nfrom 1 0 0 59 0 0\nfrom 1 0 0 0 59 0\nfrom 1 0 0 0 0 59\nfrom 1 0 0 0 0 59\n", []int64{0, 5}, "", impl.ErrLimit},
	} {
		d, got := impl.WatchedChain(readChain(t, one.text), one.set)
		same(t, one.text, impl.ChainText(d), one.want)
		code(t, one.text, one.code, d, got)
	}
}

func TestTimesErrors(t *testing.T) {
	for name, bad := range invalidChains() {
		for _, s := range []int64{0, -1, 7} {
			time, got := impl.ReturnTime(bad, s)
			code(t, name, impl.ErrInvalid, time, got)
		}
		table, got := impl.PassageTimes(bad)
		code(t, name, impl.ErrInvalid, table, got)
		time, got := impl.KemenyTime(bad)
		code(t, name, impl.ErrInvalid, time, got)
	}
	for _, c := range []impl.Chain{readChain(t, twoEnds), walkOn(3, 2, 1)} {
		for _, s := range badStates() {
			time, got := impl.ReturnTime(c, s)
			code(t, "ReturnTime", impl.ErrRange, time, got)
		}
	}
}
