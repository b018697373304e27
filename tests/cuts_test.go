package tests

import (
	"math/big"
	"math/rand"
	"slices"
	"testing"

	"loop.example/g01118/impl"
)

// The tests of this file are about promise 13: flows, ratios of sets, and the
// conductance.

// pairsOfSets returns all pairs of sets of few states, and some of more.
func pairsOfSets(r *rand.Rand, states int64) [][2][]int64 {
	sets, list := everySet(states), [][2][]int64{}
	if states > 3 {
		whole := sets[slices.IndexFunc(sets, func(set []int64) bool { return int64(len(set)) == states })]
		list = append(list, [2][]int64{nil, whole}, [2][]int64{whole, {}}, [2][]int64{whole, whole}, [2][]int64{nil, nil})
		for range 20 {
			list = append(list, [2][]int64{sets[r.Intn(len(sets))], sets[r.Intn(len(sets))]})
		}
		return list
	}
	for _, a := range sets {
		for _, b := range sets {
			list = append(list, [2][]int64{a, b})
		}
	}
	return list
}

func TestFlowBetween(t *testing.T) {
	r := rand.New(rand.NewSource(301))
	for _, c := range connectedAndRings(r, 150) {
		flows := flowsIn(c)
		for _, sets := range pairsOfSets(r, c.States) {
			x, got := impl.FlowBetween(c, sets[0], sets[1])
			isFraction(t, "flow", flowIn(flows, sets[0], sets[1]), x, got)
		}
	}
}

// TestFlowsAreBalanced compares what flows out of sets with what flows into them,
// and adds up what flows in all.
func TestFlowsAreBalanced(t *testing.T) {
	r := rand.New(rand.NewSource(302))
	for _, c := range connectedAndRings(r, 100) {
		p, _ := impl.StationarySpread(c)
		whole := wholeOf(c)
		for _, set := range everySet(c.States) {
			rest := restOf(set, c.States)
			out, one := impl.FlowBetween(c, set, rest)
			in, two := impl.FlowBetween(c, rest, set)
			same(t, "out and in", out, in)
			within, three := impl.FlowBetween(c, set, set)
			all, four := impl.AddFraction(within, out)
			isFraction(t, "within and out", sumIn(p, set), all, four)
			from, five := impl.FlowBetween(c, set, whole)
			isFraction(t, "from it", sumIn(p, set), from, five)
			to, six := impl.FlowBetween(c, whole, set)
			isFraction(t, "to it", sumIn(p, set), to, six)
			same(t, "codes", []int64{one, two, three}, make([]int64, 3))
		}
	}
}

func TestCutRatio(t *testing.T) {
	r := rand.New(rand.NewSource(303))
	for _, c := range connectedAndRings(r, 150) {
		flows := flowsIn(c)
		for _, set := range setsOf(c.States) {
			want := new(big.Rat).Quo(flowIn(flows, set, restOf(set, c.States)), flowIn(flows, set, wholeOf(c)))
			x, got := impl.CutRatio(c, set)
			isFraction(t, "ratio", want, x, got)
			if int64(len(set)) == c.States {
				same(t, "all states", impl.FractionText(x), "0")
			}
		}
	}
}

func TestConductance(t *testing.T) {
	r := rand.New(rand.NewSource(304))
	kinds := map[string]int{}
	for _, c := range connectedAndRings(r, 400) {
		x, set, got := impl.Conductance(c)
		if c.States == 1 {
			code(t, "one state", impl.ErrState, x, set, got)
			kinds["one state"]++
			continue
		}
		least, first, count := leastCut(c)
		isFraction(t, "conductance", least, x, got)
		same(t, "set", set, first)
		if count > 1 {
			kinds["several sets"]++
		}
		if flowIn(flowsIn(c), set, wholeOf(c)).Cmp(big.NewRat(1, 2)) == 0 {
			kinds["just 1/2"]++
		}
		if len(set) > 1 {
			kinds["several states"]++
		}
		ratio, _ := impl.CutRatio(c, set)
		same(t, "its ratio", ratio, x)
	}
	for _, kind := range []string{"one state", "several sets", "just 1/2", "several states"} {
		if kinds[kind] < 20 {
			t.Error("too few of one kind", kinds)
		}
	}
}

func TestConductanceEdges(t *testing.T) {
	for _, one := range []struct {
		name, text, want string
		set              []int64
	}{
		{"both just 1/2", "chain 2 2\nfrom 1 1\nfrom 1 1\n", "1/2", []int64{0}},
		{"both just 1/2, no step to itself", "chain 2 1\nfrom 0 1\nfrom 1 0\n", "1", []int64{0}},
		{"both just 1/2, few steps", "chain 2 60\nfrom 59 1\nfrom 1 59\n", "1/60", []int64{0}},
		{"0 is too likely", "chain 2 3\nfrom 2 1\nfrom 2 1\n", "2/3", []int64{1}},
		{"1 is too likely", "chain 2 3\nfrom 1 2\nfrom 1 2\n", "2/3", []int64{0}},
		{"a circle", "chain 4 2\nfrom 0 1 0 1\nfrom 1 0 1 0\nfrom 0 1 0 1\nfrom 1 0 1 0\n", "1/2", []int64{0, 1}},
		{"a circle one way", "chain 4 1\nfrom 0 1 0 0\nfrom 0 0 1 0\nfrom 0 0 0 1\nfrom 1 0 0 0\n", "1/2", []int64{0, 1}},
		{"a circle of six one way", "chain 6 1\nfrom 0 1 0 0 0 0\nfrom 0 0 1 0 0 0\nfrom 0 0 0 1 0 0\nfrom 0 0 0 0 1 0\nfrom 0 0 0 0 0 1\nfrom 1 0 0 0 0 0\n", "1/3", []int64{0, 1, 2}},
		{"a circle of six in another order", "chain 6 1\nfrom 0 0 0 0 0 1\nfrom 0 0 0 1 0 0\nfrom 0 0 0 0 1 0\nfrom 0 0 1 0 0 0\nfrom 1 0 0 0 0 0\nfrom 0 1 0 0 0 0\n", "1/3", []int64{0, 1, 5}},
		{"a circle of five", "chain 5 2\nfrom 0 1 0 0 1\nfrom 1 0 1 0 0\nfrom 0 1 0 1 0\nfrom 0 0 1 0 1\nfrom 1 0 0 1 0\n", "1/2", []int64{0, 1}},
		{"all go to all", "chain 4 4\nfrom 1 1 1 1\nfrom 1 1 1 1\nfrom 1 1 1 1\nfrom 1 1 1 1\n", "1/2", []int64{0, 1}},
		{"0 and 2 are near", "chain 4 10\nfrom 4 1 5 0\nfrom 1 4 0 5\nfrom 5 0 4 1\nfrom 0 5 1 4\n", "1/10", []int64{0, 2}},
		{"1 and 2 are near and rare", "chain 3 60\nfrom 58 1 1\nfrom 10 20 30\nfrom 10 30 20\n", "1/6", []int64{1, 2}},
		{"0 and 1 are near, but too likely", "chain 3 60\nfrom 30 29 1\nfrom 29 30 1\nfrom 30 30 0\n", "1/2", []int64{0}},
		{"the only state outside", "chain 3 3\nfrom 0 3 0\nfrom 1 1 1\nfrom 0 3 0\n", "1", []int64{0}},
		{"single states and two alike", "chain 3 2\nfrom 1 0 1\nfrom 1 1 0\nfrom 0 1 1\n", "1/2", []int64{0}},
		{"the example", exampleCuts, "1/2", []int64{0}},
	} {
		x, set, got := impl.Conductance(readChain(t, one.text))
		same(t, one.name, impl.FractionText(x), one.want)
		same(t, one.name, set, one.set)
		same(t, one.name+": code", got, int64(impl.OK))
		least, first, _ := leastCut(readChain(t, one.text))
		same(t, one.name+": known", least.RatString(), one.want)
		same(t, one.name+": known", first, one.set)
	}
}

func TestOneStateCuts(t *testing.T) {
	c := readChain(t, "chain 1 7\nfrom 7\n")
	for _, one := range []struct {
		a, b []int64
		want string
	}{
		{nil, nil, "0"}, {[]int64{0}, nil, "0"}, {nil, []int64{0}, "0"}, {[]int64{0}, []int64{0}, "1"},
	} {
		x, got := impl.FlowBetween(c, one.a, one.b)
		same(t, "flow", impl.FractionText(x), one.want)
		same(t, "code", got, int64(impl.OK))
	}
	x, got := impl.CutRatio(c, []int64{0})
	same(t, "ratio", impl.FractionText(x), "0")
	same(t, "code", got, int64(impl.OK))
	x, set, got := impl.Conductance(c)
	code(t, "Conductance", impl.ErrState, x, set, got)
	low, high, got := impl.GapRange(c)
	code(t, "GapRange", impl.ErrState, low, high, got)
}

// cutCodes calls the functions that are given sets, with two of them that are
// alike: none, or no sets.
func cutCodes(t *testing.T, name string, want int64, c impl.Chain, set []int64) {
	t.Helper()
	whole := wholeOf(impl.Chain{States: 3})
	for _, sets := range [][2][]int64{{set, set}, {set, whole}, {whole, set}, {set, nil}, {nil, set}} {
		x, got := impl.FlowBetween(c, sets[0], sets[1])
		code(t, name, want, x, got)
	}
	x, got := impl.CutRatio(c, set)
	code(t, name, want, x, got)
}

func TestCutErrors(t *testing.T) {
	notEmpty := slices.DeleteFunc(badSets(), func(set []int64) bool { return len(set) == 0 })
	for name, bad := range invalidChains() {
		for _, set := range append(badSets(), []int64{0}, []int64{0, 1}) {
			cutCodes(t, name, impl.ErrInvalid, bad, set)
		}
		x, set, got := impl.Conductance(bad)
		code(t, name, impl.ErrInvalid, x, set, got)
		low, high, got := impl.GapRange(bad)
		code(t, name, impl.ErrInvalid, low, high, got)
	}
	for _, c := range []impl.Chain{readChain(t, exampleCuts), readChain(t, twoEnds), walkOn(3, 2, 1)} {
		for _, set := range notEmpty {
			cutCodes(t, "no set", impl.ErrRange, c, set)
		}
		for _, set := range [][]int64{nil, {}} {
			x, got := impl.CutRatio(c, set)
			code(t, "empty set", impl.ErrRange, x, got)
		}
	}
	for _, c := range parted(t) {
		for _, sets := range pairsOfSets(rand.New(rand.NewSource(1)), c.States) {
			x, got := impl.FlowBetween(c, sets[0], sets[1])
			code(t, "FlowBetween", impl.ErrState, x, got)
		}
		for _, set := range setsOf(c.States) {
			x, got := impl.CutRatio(c, set)
			code(t, "CutRatio", impl.ErrState, x, got)
		}
		x, got := impl.CutRatio(c, nil)
		code(t, "an empty set comes first", impl.ErrRange, x, got)
		x, set, got := impl.Conductance(c)
		code(t, "Conductance", impl.ErrState, x, set, got)
		low, high, got := impl.GapRange(c)
		code(t, "GapRange", impl.ErrState, low, high, got)
	}
}

// TestExampleOfChapter6 is the example of the document.
func TestExampleOfChapter6(t *testing.T) {
	c, values := readChain(t, exampleCuts), fracs("0", "1", "2")
	p, got := impl.StationarySpread(c)
	same(t, "StationarySpread", fracTexts(p), "1/4 1/2 1/4")
	same(t, "code", got, int64(impl.OK))
	x, set, got := impl.Conductance(c)
	isFraction(t, "Conductance", big.NewRat(1, 2), x, got)
	same(t, "set", set, []int64{0})
	x, got = impl.VarianceOf(c, values)
	isFraction(t, "VarianceOf", big.NewRat(1, 2), x, got)
	x, got = impl.FormOf(c, values)
	isFraction(t, "FormOf", big.NewRat(1, 4), x, got)
	x, got = impl.GapQuotient(c, values)
	isFraction(t, "GapQuotient", big.NewRat(1, 2), x, got)
	low, high, got := impl.GapRange(c)
	isFraction(t, "GapRange", big.NewRat(1, 8), low, got)
	isFraction(t, "GapRange", big.NewRat(1, 1), high, got)
	paths, got := impl.PathsOf(c)
	same(t, "code", got, int64(impl.OK))
	x, step, got := impl.CongestionOf(c, paths)
	isFraction(t, "CongestionOf", big.NewRat(2, 1), x, got)
	same(t, "step", step, []int64{0, 1})
	x, got = impl.EscapeChance(c, 0, 2)
	isFraction(t, "EscapeChance", big.NewRat(1, 4), x, got)
	for _, ends := range [][2]int64{{0, 2}, {2, 0}} {
		x, got = impl.CommuteTime(c, ends[0], ends[1])
		isFraction(t, "CommuteTime", big.NewRat(16, 1), x, got)
	}
}
