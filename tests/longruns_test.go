package tests

import (
	"math"
	"math/big"
	"math/rand"
	"testing"

	"loop.example/g01118/impl"
)

// The tests of this file are about promise 4: trees, stationary spreads and what
// comes in the long run.

// treesOf sums up the weights of all trees towards a state: it chooses a step
// from each other state in all ways.
func treesOf(c impl.Chain, root int64) int64 {
	next := make([]int64, c.States)
	var choose func(s int64) int64
	choose = func(s int64) int64 {
		switch s {
		case c.States:
			if isTree(next, root) {
				return 1
			}
			return 0
		case root:
			return choose(s + 1)
		}
		sum := int64(0)
		for u, weight := range c.Weights[s] {
			if weight > 0 {
				next[s] = int64(u)
				sum += weight * choose(s+1)
			}
		}
		return sum
	}
	return choose(0)
}

func isTree(next []int64, root int64) bool {
	for s := range int64(len(next)) {
		for steps := 0; s != root; steps++ {
			if steps == len(next) {
				return false
			}
			s = next[s]
		}
	}
	return true
}

func TestTreeWeights(t *testing.T) {
	r := rand.New(rand.NewSource(31))
	for _, c := range chainsOfAllKinds(r, 800) {
		want := []*big.Rat{}
		for s := range c.States {
			want = append(want, big.NewRat(treesOf(c, s), 1))
		}
		weights, got := impl.TreeWeights(c)
		isFractions(t, "trees", want, weights, got)
	}
	weights, got := impl.TreeWeights(readChain(t, "chain 1 60\nfrom 60\n"))
	isFractions(t, "the only state", []*big.Rat{big.NewRat(1, 1)}, weights, got)
	weights, got = impl.TreeWeights(readChain(t, twoEnds))
	isFractions(t, "two ends", zeros(3), weights, got)
	weights, got = impl.TreeWeights(readChain(t, "chain 3 5\nfrom 1 4 0\nfrom 0 2 3\nfrom 0 1 4\n"))
	isFractions(t, "one end", []*big.Rat{new(big.Rat), big.NewRat(4, 1), big.NewRat(12, 1)}, weights, got)
	for name, bad := range invalidChains() {
		weights, got := impl.TreeWeights(bad)
		code(t, name, impl.ErrInvalid, weights, got)
	}
}

func TestStationarySpread(t *testing.T) {
	r := rand.New(rand.NewSource(32))
	connected, others := 0, 0
	for _, c := range chainsOfAllKinds(r, 1500) {
		p, got := impl.StationarySpread(c)
		if len(closedOf(c)) > 1 {
			code(t, "several closed classes", impl.ErrState, p, got)
			continue
		}
		isFractions(t, "stationary", balanceOf(c), p, got)
		same(t, "a spread", impl.ValidSpread(p), true)
		after, _ := impl.SpreadAfter(c, p, 1)
		same(t, "behind a step", after, p)
		weights, _ := impl.TreeWeights(c)
		trees := ratsOf(weights)
		sum := sumOf(trees)
		for s := range trees {
			trees[s].Quo(trees[s], sum)
		}
		isFractions(t, "in proportion to trees", trees, p, got)
		if isConnected(c) {
			connected++
		} else {
			others++
		}
	}
	if connected < 100 || others < 100 {
		t.Error("too few kinds of chains", connected, others)
	}
}

func TestStationarySpreadEdges(t *testing.T) {
	for _, one := range []struct{ text, want string }{
		{"chain 1 9\nfrom 9\n", "1"},
		{"chain 2 2\nfrom 1 1\nfrom 0 2\n", "0 1"},
		{"chain 2 2\nfrom 2 0\nfrom 1 1\n", "1 0"},
		{"chain 2 1\nfrom 0 1\nfrom 1 0\n", "1/2 1/2"},
		{"chain 4 6\nfrom 5 1 0 0\nfrom 0 0 6 0\nfrom 0 2 0 4\nfrom 0 0 3 3\n", "0 1/8 3/8 1/2"},
	} {
		p, got := impl.StationarySpread(readChain(t, one.text))
		same(t, one.text, fracTexts(p), one.want)
		same(t, "code", got, int64(impl.OK))
	}
	p, got := impl.StationarySpread(readChain(t, twoEnds))
	code(t, "two ends", impl.ErrState, p, got)
	p, got = impl.StationarySpread(readChain(t, "chain 2 1\nfrom 1 0\nfrom 0 1\n"))
	code(t, "two states that stay", impl.ErrState, p, got)
	for name, bad := range invalidChains() {
		p, got := impl.StationarySpread(bad)
		code(t, name, impl.ErrInvalid, p, got)
	}
}

func TestIsStationary(t *testing.T) {
	r := rand.New(rand.NewSource(33))
	yes := 0
	for _, c := range chainsOfAllKinds(r, 1000) {
		for _, total := range []int64{1, 2, 6, 1 << 40} {
			p := randomSpread(r, c.States, total)
			after, _ := impl.SpreadAfter(c, p, 1)
			is, got := impl.IsStationary(c, p)
			same(t, "stationary", is, fracTexts(after) == fracTexts(p))
			same(t, "code", got, int64(impl.OK))
			if is {
				yes++
			}
			long, _ := impl.LongSpread(c, p)
			is, got = impl.IsStationary(c, long)
			same(t, "in the long run", is && got == impl.OK, true)
		}
	}
	if yes < 50 {
		t.Error("too few spreads are stationary", yes)
	}
	is, got := impl.IsStationary(readChain(t, "chain 2 1\nfrom 1 0\nfrom 0 1\n"), longSpread(300))
	same(t, "300 digits", is && got == impl.OK, true)
	is, got = impl.IsStationary(readChain(t, "chain 2 1\nfrom 0 1\nfrom 1 0\n"), longSpread(300))
	same(t, "300 digits exchanged", is || got != impl.OK, false)
	is, got = impl.IsStationary(readChain(t, "chain 3 2\nfrom 2 0 0\nfrom 0 1 1\nfrom 0 0 2\n"), fracs("1/3", "1/3", "1/3"))
	same(t, "only the first chance stays", is || got != impl.OK, false)
}

// floatsAfter makes very many lazy steps, whose spread comes to the average of
// the spreads.
func floatsAfter(c impl.Chain) [][]float64 {
	table := [][]float64{}
	for s, weights := range c.Weights {
		row := []float64{}
		for _, weight := range weights {
			row = append(row, float64(weight)/float64(2*c.Total))
		}
		row[s] += 0.5
		table = append(table, row)
	}
	for range 40 {
		table = squareOf(table)
	}
	return table
}

func squareOf(table [][]float64) [][]float64 {
	square := [][]float64{}
	for s := range table {
		row, sum := make([]float64, len(table)), 0.0
		for u := range table {
			for v := range table {
				row[v] += table[s][u] * table[u][v]
				sum += table[s][u] * table[u][v]
			}
		}
		for v := range row {
			row[v] /= sum
		}
		square = append(square, row)
	}
	return square
}

func TestLongSpread(t *testing.T) {
	r := rand.New(rand.NewSource(34))
	for _, c := range chainsOfAllKinds(r, 1000) {
		p := randomSpread(r, c.States, 1+r.Int63n(1000))
		long, got := impl.LongSpread(c, p)
		same(t, "code", got, int64(impl.OK))
		same(t, "a spread", impl.ValidSpread(long), true)
		table := floatsAfter(c)
		for u, x := range ratsOf(long) {
			about := 0.0
			for s, chance := range ratsOf(p) {
				part, _ := chance.Float64()
				about += part * table[s][u]
			}
			exact, _ := x.Float64()
			if math.Abs(exact-about) > 1e-6 {
				t.Fatalf("%v from %v: got %v in the state %d, and about %v by steps", c, p, x, u, about)
			}
		}
		longChances(t, c, p, long)
		after, _ := impl.SpreadAfter(c, p, 1)
		again, _ := impl.LongSpread(c, after)
		same(t, "a step later", again, long)
		again, _ = impl.LongSpread(c, long)
		same(t, "from it on", again, long)
	}
}

// longChances checks that each closed class has the chance that the chain ends
// in it, times its own stationary spread.
func longChances(t *testing.T, c impl.Chain, p, long []impl.Fraction) {
	t.Helper()
	want := zeros(c.States)
	for i, class := range closedOf(c) {
		own := impl.Chain{States: int64(len(class)), Total: c.Total}
		for _, s := range class {
			row := []int64{}
			for _, u := range class {
				row = append(row, c.Weights[s][u])
			}
			own.Weights = append(own.Weights, row)
		}
		end := new(big.Rat)
		for s, chance := range ratsOf(p) {
			ends, _ := impl.EndChances(c, int64(s))
			end.Add(end, new(big.Rat).Mul(chance, ratOf(ends[i])))
		}
		for j, x := range balanceOf(own) {
			want[class[j]] = new(big.Rat).Mul(end, x)
		}
	}
	isFractions(t, "in the long run", want, long, impl.OK)
}

func TestLongSpreadEdges(t *testing.T) {
	for _, one := range []struct {
		text string
		p    []impl.Fraction
		want string
	}{
		{"chain 1 3\nfrom 3\n", fracs("1"), "1"},
		{"chain 2 1\nfrom 0 1\nfrom 1 0\n", fracs("1", "0"), "1/2 1/2"},
		{"chain 2 1\nfrom 1 0\nfrom 0 1\n", fracs("1/7", "6/7"), "1/7 6/7"},
		{twoEnds, fracs("1", "0", "0"), "0 1/2 1/2"},
		{twoEnds, fracs("1/2", "1/8", "3/8"), "0 3/8 5/8"},
		{twoEnds, fracs("0", "0", "1"), "0 0 1"},
		{"chain 3 2\nfrom 0 2 0\nfrom 2 0 0\nfrom 1 0 1\n", fracs("0", "0", "1"), "1/2 1/2 0"},
	} {
		p, got := impl.LongSpread(readChain(t, one.text), one.p)
		same(t, one.text, fracTexts(p), one.want)
		same(t, "code", got, int64(impl.OK))
	}
	c := readChain(t, "chain 2 1\nfrom 1 0\nfrom 0 1\n")
	p, got := impl.LongSpread(c, longSpread(300))
	isFractions(t, "300 digits", ratsOf(longSpread(300)), p, got)
	c = readChain(t, "chain 3 3\nfrom 3 0 0\nfrom 0 3 0\nfrom 1 1 1\n")
	p, got = impl.LongSpread(c, append(longSpread(299), frac("0")))
	code(t, "299 digits", impl.OK, p, got)
	c = readChain(t, "chain 3 11\nfrom 11 0 0\nfrom 0 11 0\nfrom 1 10 0\n")
	x := longSpread(300)
	p, got = impl.LongSpread(c, []impl.Fraction{frac("0"), x[1], x[0]})
	code(t, "a Den of 301 digits", impl.ErrLimit, p, got)
}

func TestLongRunErrors(t *testing.T) {
	good := fracs("1/2", "1/4", "1/4")
	for _, c := range []impl.Chain{readChain(t, twoEnds), walkOn(3, 2, 1)} {
		for _, bad := range invalidSpreads() {
			is, got := impl.IsStationary(c, bad)
			code(t, "no spread", impl.ErrInvalid, is, got)
			p, got := impl.LongSpread(c, bad)
			code(t, "no spread", impl.ErrInvalid, p, got)
		}
		for _, other := range [][]impl.Fraction{fracs("1"), fracs("1/2", "1/2"), longSpread(300), fracs("1", "0", "0", "0"), fracs("0", "0", "0", "0", "0", "1")} {
			is, got := impl.IsStationary(c, other)
			code(t, "other states", impl.ErrRange, is, got)
			p, got := impl.LongSpread(c, other)
			code(t, "other states", impl.ErrRange, p, got)
		}
	}
	for name, bad := range invalidChains() {
		for _, p := range [][]impl.Fraction{good, fracs("1"), fracs("1/2", "1/2"), nil, fracs("2/2")} {
			is, got := impl.IsStationary(bad, p)
			code(t, name, impl.ErrInvalid, is, got)
			long, got := impl.LongSpread(bad, p)
			code(t, name, impl.ErrInvalid, long, got)
		}
	}
}

// TestExampleOfChapter2 is the example of the document.
func TestExampleOfChapter2(t *testing.T) {
	c := readChain(t, "chain 3 2\nfrom 0 2 0\nfrom 1 0 1\nfrom 0 2 0\n")
	weights, got := impl.TreeWeights(c)
	same(t, "TreeWeights", fracTexts(weights), "2 4 2")
	same(t, "code", got, int64(impl.OK))
	p, got := impl.StationarySpread(c)
	same(t, "StationarySpread", fracTexts(p), "1/4 1/2 1/4")
	same(t, "code", got, int64(impl.OK))
	period, got := impl.PeriodOf(c)
	same(t, "PeriodOf", []int64{period, got}, []int64{2, impl.OK})
	times, got := impl.HitTimes(c, []int64{0})
	same(t, "HitTimes", fracTexts(times), "0 3 4")
	same(t, "code", got, int64(impl.OK))
	time, got := impl.ReturnTime(c, 0)
	same(t, "ReturnTime", impl.FractionText(time), "4")
	same(t, "code", got, int64(impl.OK))
	time, got = impl.KemenyTime(c)
	same(t, "KemenyTime", impl.FractionText(time), "3/2")
	same(t, "code", got, int64(impl.OK))
	d, got := impl.WatchedChain(c, []int64{0, 2})
	same(t, "WatchedChain", impl.ChainText(d), "chain 2 2\nfrom 1 1\nfrom 1 1\n")
	same(t, "code", got, int64(impl.OK))
}
