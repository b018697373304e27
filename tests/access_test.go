package tests

import (
	"math/big"
	"math/rand"
	"testing"

	"loop.example/g01118/impl"
)

// The tests of this file are about promise 16: the bound of the time from a spread
// to another one.

// accessTo returns, for each state t, the sum over all states of the expected
// time to hit t, times what p has more than q.
func accessTo(c impl.Chain, p, q []impl.Fraction) []*big.Rat {
	list := []*big.Rat{}
	for u := range c.States {
		sum := new(big.Rat)
		for s, time := range timesTo(c, []int64{u}) {
			sum.Add(sum, new(big.Rat).Mul(time, less(ratOf(p[s]), ratOf(q[s]))))
		}
		list = append(list, sum)
	}
	return list
}

func greatestRat(list []*big.Rat) *big.Rat {
	greatest := list[0]
	for _, x := range list {
		if x.Cmp(greatest) > 0 {
			greatest = x
		}
	}
	return greatest
}

func TestAccessTime(t *testing.T) {
	r := rand.New(rand.NewSource(431))
	kinds := map[string]int{}
	for _, c := range connectedAndRings(r, 500) {
		p, q := startOf(r, c.States), startOf(r, c.States)
		switch r.Intn(6) {
		case 0:
			p, q = longStart(r, c.States, 140+r.Intn(20)), longStart(r, c.States, 140+r.Intn(20))
		case 1:
			q = p
		}
		sums := accessTo(c, p, q)
		time, got := impl.AccessTime(c, p, q)
		isFraction(t, "access", greatestRat(sums), time, got)
		same(t, "never less than 0", greatestRat(sums).Sign() >= 0, true)
		switch {
		case got != impl.OK:
			kinds["too long"]++
		case time == frac("0"):
			kinds["0"]++
		case leastRat(sums).Sign() < 0:
			kinds["less than 0"]++
		}
		if sums[0].Sign() < 0 && sums[len(sums)-1].Sign() < 0 {
			kinds["in the middle"]++
		}
	}
	for _, kind := range []string{"too long", "0", "less than 0", "in the middle"} {
		if kinds[kind] < 20 {
			t.Error("too few of one kind", kinds)
		}
	}
}

// TestAccessRules has sure spreads, and ways over a third spread.
func TestAccessRules(t *testing.T) {
	r := rand.New(rand.NewSource(432))
	for _, c := range connectedAndRings(r, 200) {
		table, _ := impl.PassageTimes(c)
		s, u := r.Int63n(c.States), r.Int63n(c.States)
		sureS, _ := impl.SureSpread(c.States, s)
		sureU, _ := impl.SureSpread(c.States, u)
		time, got := impl.AccessTime(c, sureS, sureU)
		same(t, "a passage", time, table[s][u])
		same(t, "code", got, int64(impl.OK))
		p, q, other := startOf(r, c.States), startOf(r, c.States), startOf(r, c.States)
		time, _ = impl.AccessTime(c, p, q)
		first, _ := impl.AccessTime(c, p, other)
		second, _ := impl.AccessTime(c, other, q)
		both, _ := impl.AddFraction(first, second)
		same(t, "over another one", ratOf(time).Cmp(ratOf(both)) <= 0, true)
		none, got := impl.AccessTime(c, p, p)
		same(t, "to itself", none, frac("0"))
		same(t, "code", got, int64(impl.OK))
		to, one := impl.AccessTime(c, p, sureU)
		sum := new(big.Rat)
		for v, chance := range p {
			sum.Add(sum, new(big.Rat).Mul(ratOf(chance), ratOf(table[v][u])))
		}
		isFraction(t, "to a state", sum, to, one)
	}
}

// TestNoneTakeLess has stops of all kinds that leave over nothing.
func TestNoneTakeLess(t *testing.T) {
	r := rand.New(rand.NewSource(433))
	kinds := map[int]int{}
	for _, c := range connectedAndRings(r, 800) {
		p, stops := startOf(r, c.States), surelyStopped(r, c.States)
		spread, one := impl.StopSpread(c, p, stops)
		time, two := impl.StopTime(c, p, stops)
		if one != impl.OK || two != impl.OK {
			continue
		}
		bound, got := impl.AccessTime(c, p, spread)
		if got != impl.OK {
			continue
		}
		compared := ratOf(time).Cmp(ratOf(bound))
		same(t, "not less", compared >= 0, true)
		kinds[compared]++
	}
	if kinds[0] < 50 || kinds[1] < 50 {
		t.Error("too few of one kind", kinds)
	}
}

func TestAccessEdges(t *testing.T) {
	long := fracTexts(longSpread(300))
	for _, one := range []struct{ name, text, p, target, want string }{
		{"the example", exampleStops, "1 0", "1/3 2/3", "2/3"},
		{"the example, the other way", exampleStops, "1/3 2/3", "1 0", "4/3"},
		{"to the other state", exampleStops, "1 0", "0 1", "1"},
		{"to 0", exampleStops, "0 1", "1 0", "2"},
		{"to itself", exampleStops, "1/2 1/2", "1/2 1/2", "0"},
		{"one state", "chain 1 5\nfrom 5\n", "1", "1", "0"},
		{"a circle one way", "chain 3 1\nfrom 0 1 0\nfrom 0 0 1\nfrom 1 0 0\n", "1/3 1/3 1/3", "0 0 1", "1"},
		{"a circle one way, all around", "chain 3 1\nfrom 0 1 0\nfrom 0 0 1\nfrom 1 0 0\n", "0 1 0", "1 0 0", "2"},
		{"a circle one way, together", "chain 3 1\nfrom 0 1 0\nfrom 0 0 1\nfrom 1 0 0\n", "1/2 1/2 0", "0 1/2 1/2", "1"},
		{"from both ends", exampleCuts, "1/2 0 1/2", "0 1 0", "2"},
		{"to both ends", exampleCuts, "0 1 0", "1/2 0 1/2", "2"},
		{"long spreads", exampleStops, long, "0 1", "1/" + tenTo(299)},
		{"too long", exampleStops, long, "1/21 20/21", "limit"},
		{"long, and the same", exampleStops, long, long, "0"},
	} {
		time, got := impl.AccessTime(readChain(t, one.text), rowsOf(one.p)[0], rowsOf(one.target)[0])
		hasOne(t, one.name, one.want, time, got)
	}
}

func TestAccessErrors(t *testing.T) {
	connected, ends, p := walkOn(3, 2, 1), readChain(t, twoEnds), fracs("1/3", "1/3", "1/3")
	for name, bad := range invalidChains() {
		for _, q := range append(spreadsOfOthers(), p, nil) {
			time, got := impl.AccessTime(bad, q, p)
			code(t, name, impl.ErrInvalid, time, got)
			time, got = impl.AccessTime(bad, p, q)
			code(t, name, impl.ErrInvalid, time, got)
		}
	}
	for _, c := range []impl.Chain{connected, ends} {
		for _, q := range invalidSpreads() {
			for _, other := range append(spreadsOfOthers(), p, q) {
				time, got := impl.AccessTime(c, q, other)
				code(t, "no spread", impl.ErrInvalid, time, got)
				time, got = impl.AccessTime(c, other, q)
				code(t, "no target", impl.ErrInvalid, time, got)
			}
		}
		for _, q := range spreadsOfOthers() {
			for _, other := range append(spreadsOfOthers(), p) {
				time, got := impl.AccessTime(c, q, other)
				code(t, "over other states", impl.ErrRange, time, got)
				time, got = impl.AccessTime(c, other, q)
				code(t, "a target over other states", impl.ErrRange, time, got)
			}
		}
	}
	r := rand.New(rand.NewSource(434))
	for _, c := range parted(t) {
		for _, q := range [][]impl.Fraction{startOf(r, c.States), longStart(r, c.States, 300)} {
			time, got := impl.AccessTime(c, q, startOf(r, c.States))
			code(t, "not connected", impl.ErrState, time, got)
			time, got = impl.AccessTime(c, q, q)
			code(t, "not connected, the same", impl.ErrState, time, got)
		}
	}
}
