package tests

import (
	"math/big"
	"math/rand"
	"slices"
	"testing"

	"loop.example/g01118/impl"
)

// The tests of this file are about promise 13: loads of steps, and how they bound
// variances and the forms of other chains.

func TestCongestionOf(t *testing.T) {
	r := rand.New(rand.NewSource(331))
	kinds := map[string]int{}
	for _, c := range connectedAndRings(r, 300) {
		if c.States == 1 {
			continue
		}
		for _, paths := range [][][]int64{firstsIn(c, apartIn(c.States)), randomPaths(r, c, apartIn(c.States))} {
			want, first, count := congestionIn(c, paths)
			x, step, got := impl.CongestionOf(c, paths)
			isFraction(t, "congestion", want, x, got)
			same(t, "step", step, first)
			if count > 1 {
				kinds["several steps"]++
			}
			if first[0] > 0 {
				kinds["not the state 0"]++
			}
			back := c.Weights[step[1]][step[0]]
			if back == 0 || back != c.Weights[step[0]][step[1]] {
				kinds["not the same back"]++
			}
			boundsVariance(t, r, c, want)
		}
	}
	for _, kind := range []string{"several steps", "not the state 0", "not the same back"} {
		if kinds[kind] < 50 {
			t.Error("too few of one kind", kinds)
		}
	}
}

// boundsVariance checks that no variance is more than the congestion, times the
// form.
func boundsVariance(t *testing.T, r *rand.Rand, c impl.Chain, congestion *big.Rat) {
	t.Helper()
	for range 4 {
		values := randomValues(r, c.States)
		variance, one := impl.VarianceOf(c, values)
		form, two := impl.FormOf(c, values)
		if one == impl.OK && two == impl.OK {
			most := new(big.Rat).Mul(congestion, ratOf(form))
			same(t, "bounded", ratOf(variance).Cmp(most) <= 0, true)
		}
	}
}

func TestCongestionEdges(t *testing.T) {
	circle := "chain 3 3\nfrom 1 2 0\nfrom 0 1 2\nfrom 2 0 1\n"
	for _, one := range []struct {
		name, text string
		paths      [][]int64
		want       string
		step       []int64
	}{
		{"both steps alike", "chain 2 2\nfrom 1 1\nfrom 1 1\n", [][]int64{{0, 1}, {1, 0}}, "1", []int64{0, 1}},
		{"steps to itself do not count", "chain 2 60\nfrom 59 1\nfrom 1 59\n", [][]int64{{0, 1}, {1, 0}}, "30", []int64{0, 1}},
		{"not the same chances", "chain 2 4\nfrom 3 1\nfrom 3 1\n", [][]int64{{0, 1}, {1, 0}}, "1", []int64{0, 1}},
		// Each step has a path of one step, and two of two: 1/9 * (1 + 2 + 2), by 2/9.
		{"a circle one way", circle, [][]int64{{0, 1}, {0, 1, 2}, {1, 2, 0}, {1, 2}, {2, 0}, {2, 0, 1}}, "5/2", []int64{0, 1}},
		{"the example", exampleCuts, [][]int64{{0, 1}, {0, 1, 2}, {1, 0}, {1, 2}, {2, 1, 0}, {2, 1}}, "2", []int64{0, 1}},
		// The step from 1 to 2 has three of the paths: 1/9 * (1 + 2 + 2), by 1/6.
		{"one step has a detour", "chain 3 2\nfrom 0 1 1\nfrom 1 0 1\nfrom 1 1 0\n", [][]int64{{0, 1}, {0, 1, 2}, {1, 2, 0}, {1, 2}, {2, 0}, {2, 1}}, "10/3", []int64{1, 2}},
		{"a detour back", "chain 3 2\nfrom 0 1 1\nfrom 1 0 1\nfrom 1 1 0\n", [][]int64{{0, 1}, {0, 2}, {1, 0}, {1, 2}, {2, 1, 0}, {2, 1}}, "2", []int64{1, 0}},
	} {
		c := readChain(t, one.text)
		x, step, got := impl.CongestionOf(c, one.paths)
		same(t, one.name, impl.FractionText(x), one.want)
		same(t, one.name, step, one.step)
		same(t, one.name+": code", got, int64(impl.OK))
		want, first, _ := congestionIn(c, one.paths)
		same(t, one.name+": known", want.RatString(), one.want)
		same(t, one.name+": known", first, one.step)
	}
}

func TestCongestionProof(t *testing.T) {
	r := rand.New(rand.NewSource(332))
	kinds := map[bool]int{}
	for _, c := range connectedAndRings(r, 100) {
		ends := apartIn(c.States)
		for _, list := range spoiltPaths(r, c, randomPaths(r, c, ends)) {
			x, step, got := impl.CongestionOf(c, list)
			are := arePathsIn(c, ends, list)
			switch {
			case c.States == 1:
				code(t, "one state comes first", impl.ErrState, x, step, got)
			case !are:
				code(t, "no paths", impl.ErrProof, x, step, got)
			default:
				want, first, _ := congestionIn(c, list)
				isFraction(t, "other paths", want, x, got)
				same(t, "step", step, first)
			}
			kinds[are]++
		}
	}
	if kinds[true] < 50 || kinds[false] < 1000 {
		t.Error("too few of one kind", kinds)
	}
}

// twoChains returns a connected chain and another one with the same states.
func twoChains(r *rand.Rand, count int) [][2]impl.Chain {
	list := [][2]impl.Chain{}
	for _, c := range connectedAndRings(r, count) {
		for range 200 {
			d := sparseChain(r, c.States)
			if r.Intn(3) == 0 {
				d = randomChainOf(r, c.States, 1+r.Int63n(20))
			}
			if isConnected(d) {
				list = append(list, [2]impl.Chain{c, d})
				break
			}
		}
	}
	return list
}

func TestStepPaths(t *testing.T) {
	r := rand.New(rand.NewSource(333))
	for _, both := range twoChains(r, 300) {
		paths, got := impl.StepPaths(both[0], both[1])
		same(t, "paths", paths, firstsIn(both[0], stepsIn(both[1])))
		same(t, "code", got, int64(impl.OK))
	}
}

func TestComparisonOf(t *testing.T) {
	r := rand.New(rand.NewSource(334))
	compared := 0
	for _, both := range twoChains(r, 300) {
		c, d := both[0], both[1]
		for _, paths := range [][][]int64{firstsIn(c, stepsIn(d)), randomPaths(r, c, stepsIn(d))} {
			want := comparisonIn(c, d, paths)
			x, got := impl.ComparisonOf(c, d, paths)
			isFraction(t, "comparison", want, x, got)
			compared += boundsForm(t, r, c, d, want)
		}
	}
	if compared < 1000 {
		t.Error("too few functions", compared)
	}
}

// boundsForm checks that no form in d is more than the comparison, times the form
// in c. It returns how many forms it has compared.
func boundsForm(t *testing.T, r *rand.Rand, c, d impl.Chain, comparison *big.Rat) int {
	t.Helper()
	count := 0
	for range 4 {
		values := randomValues(r, c.States)
		inC, one := impl.FormOf(c, values)
		inD, two := impl.FormOf(d, values)
		if one == impl.OK && two == impl.OK {
			most := new(big.Rat).Mul(comparison, ratOf(inC))
			same(t, "bounded", ratOf(inD).Cmp(most) <= 0, true)
			count++
		}
	}
	return count
}

// TestComparisonWithItself has the steps of a chain as paths of it, so that each
// carries its own flow; and steps to all states alike, with which the comparison
// of a chain that is even is its congestion.
func TestComparisonWithItself(t *testing.T) {
	r := rand.New(rand.NewSource(335))
	even := 0
	for _, c := range connectedAndRings(r, 300) {
		paths, one := impl.StepPaths(c, c)
		x, two := impl.ComparisonOf(c, c, paths)
		same(t, "codes", []int64{one, two}, make([]int64, 2))
		if c.States == 1 {
			same(t, "no steps", impl.FractionText(x), "0")
			continue
		}
		same(t, "itself", impl.FractionText(x), "1")
		lazy, got := impl.LazyChain(c)
		if got == impl.OK {
			x, got = impl.ComparisonOf(lazy, c, paths)
			isFraction(t, "half as fast", big.NewRat(2, 1), x, got)
			x, got = impl.ComparisonOf(c, lazy, paths)
			isFraction(t, "twice as fast", big.NewRat(1, 2), x, got)
		}
		if isEven, _ := impl.IsEven(c); isEven {
			even++
			all := impl.Chain{States: c.States, Total: c.States, Weights: slices.Repeat([][]int64{slices.Repeat([]int64{1}, int(c.States))}, int(c.States))}
			routes := randomPaths(r, c, apartIn(c.States))
			want, _, three := impl.CongestionOf(c, routes)
			y, four := impl.ComparisonOf(c, all, routes)
			same(t, "as the congestion", y, want)
			same(t, "codes", []int64{three, four}, make([]int64, 2))
		}
	}
	if even < 10 {
		t.Error("too few even chains", even)
	}
}

func TestComparisonEdges(t *testing.T) {
	one := readChain(t, "chain 1 5\nfrom 5\n")
	paths, got := impl.StepPaths(one, one)
	same(t, "no steps", paths, [][]int64{})
	same(t, "code", got, int64(impl.OK))
	for _, list := range [][][]int64{nil, {}} {
		x, got := impl.ComparisonOf(one, readChain(t, "chain 1 1\nfrom 1\n"), list)
		isFraction(t, "no steps", new(big.Rat), x, got)
	}
	for _, list := range [][][]int64{{nil}, {{0}}, {{0, 0}}, {{-1}}, {{0}, {0}}} {
		x, got := impl.ComparisonOf(one, one, list)
		code(t, "too many", impl.ErrProof, x, got)
	}
	c, d := readChain(t, exampleCuts), readChain(t, "chain 3 2\nfrom 1 0 1\nfrom 1 1 0\nfrom 0 1 1\n")
	paths, got = impl.StepPaths(c, d)
	same(t, "steps one way", paths, [][]int64{{0, 1, 2}, {1, 0}, {2, 1}})
	same(t, "code", got, int64(impl.OK))
	x, got := impl.ComparisonOf(c, d, paths)
	isFraction(t, "steps one way", big.NewRat(8, 3), x, got)
	paths, got = impl.StepPaths(d, c)
	same(t, "around", paths, [][]int64{{0, 2, 1}, {1, 0}, {1, 0, 2}, {2, 1}})
	same(t, "code", got, int64(impl.OK))
	// From 0 to 2: 2 * 1/8 twice, by 1/6.
	x, got = impl.ComparisonOf(d, c, paths)
	isFraction(t, "around", big.NewRat(3, 1), x, got)
	// The paths of all pairs are too many, and those of fewer too few.
	all, _ := impl.PathsOf(c)
	for _, list := range [][][]int64{all, nil, {{0, 1, 2}, {1, 0}}, {{1, 0}, {0, 1, 2}, {2, 1}}, {{0, 1}, {1, 0}, {2, 1}}, {{0, 2}, {1, 0}, {2, 1}}} {
		x, got = impl.ComparisonOf(c, d, list)
		code(t, "not for the steps of d", impl.ErrProof, x, got)
	}
}

func TestComparisonProof(t *testing.T) {
	r := rand.New(rand.NewSource(336))
	kinds := map[bool]int{}
	for _, both := range twoChains(r, 100) {
		c, d := both[0], both[1]
		ends := stepsIn(d)
		for _, list := range spoiltPaths(r, c, randomPaths(r, c, ends)) {
			x, got := impl.ComparisonOf(c, d, list)
			are := arePathsIn(c, ends, list)
			kinds[are]++
			if are {
				isFraction(t, "other paths", comparisonIn(c, d, list), x, got)
			} else {
				code(t, "no paths", impl.ErrProof, x, got)
			}
		}
	}
	if kinds[true] < 50 || kinds[false] < 1000 {
		t.Error("too few of one kind", kinds)
	}
}

func comparisonCodes(t *testing.T, name string, want int64, c, d impl.Chain) {
	t.Helper()
	for _, both := range [][2]impl.Chain{{c, d}, {d, c}} {
		paths, got := impl.StepPaths(both[0], both[1])
		code(t, name, want, paths, got)
		for _, list := range [][][]int64{nil, {{0, 1}, {1, 0}}, {nil}, {{-1}}} {
			x, got := impl.ComparisonOf(both[0], both[1], list)
			code(t, name, want, x, got)
		}
	}
}

func TestCongestionErrors(t *testing.T) {
	two, three, other := readChain(t, "chain 2 3\nfrom 2 1\nfrom 1 2\n"), readChain(t, exampleCuts), readChain(t, twoEnds)
	for name, bad := range invalidChains() {
		for _, list := range [][][]int64{nil, {nil}, {{0, 1}, {1, 0}}, {{-1}}} {
			x, step, got := impl.CongestionOf(bad, list)
			code(t, name, impl.ErrInvalid, x, step, got)
		}
		for _, c := range []impl.Chain{two, three, other, bad} {
			comparisonCodes(t, name, impl.ErrInvalid, c, bad)
		}
	}
	comparisonCodes(t, "other states", impl.ErrRange, two, three)
	comparisonCodes(t, "other states", impl.ErrRange, readChain(t, "chain 1 1\nfrom 1\n"), two)
	comparisonCodes(t, "other states, not connected", impl.ErrRange, two, other)
	for _, c := range parted(t) {
		comparisonCodes(t, "not connected", impl.ErrState, c, walkOn(c.States, 1, 1))
		comparisonCodes(t, "not connected", impl.ErrState, c, c)
		for _, list := range [][][]int64{nil, {nil}, {{0, 1}, {1, 0}}, {{-1}}} {
			x, step, got := impl.CongestionOf(c, list)
			code(t, "not connected", impl.ErrState, x, step, got)
		}
	}
	one := readChain(t, "chain 1 1\nfrom 1\n")
	for _, list := range [][][]int64{nil, {}, {nil}, {{0}}, {{-1}}} {
		x, step, got := impl.CongestionOf(one, list)
		code(t, "one state", impl.ErrState, x, step, got)
	}
}
