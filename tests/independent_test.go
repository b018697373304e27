package tests

import (
	"math"
	"math/big"
	"math/rand"
	"slices"
	"testing"

	"loop.example/g01118/impl"
)

// The tests of this file are about promise 19: independent sets, their chances,
// and steps between them.

// weightIn returns the sum of the powers of the weight for sets.
func weightIn(sets [][]int64, weight int64) int64 {
	sum := int64(0)
	for _, set := range sets {
		sum += powerOf(weight, int64(len(set)))
	}
	return sum
}

// someWeights returns the least weight, the greatest one, and one between.
func someWeights(r *rand.Rand) []int64 {
	return []int64{1, 2 + r.Int63n(impl.MaxTotal-2), impl.MaxTotal}
}

// TestIsIndependent has all lists of up to three small numbers, and all sets.
func TestIsIndependent(t *testing.T) {
	r := rand.New(rand.NewSource(531))
	lists := [][]int64{}
	for length := range int64(4) {
		lists = append(lists, listsOf(length, -1, 5)...)
	}
	kinds := map[bool]int{}
	for _, g := range someGraphs(r, 20) {
		for _, list := range slices.Concat(lists, nodeSets(g.Nodes)) {
			isRising := slices.IsSorted(list) && len(slices.Compact(slices.Clone(list))) == len(list)
			is, got := impl.IsIndependent(g, list)
			if !isRising || len(list) > 0 && (list[0] < 0 || list[len(list)-1] >= g.Nodes) {
				code(t, "no set", impl.ErrRange, is, got)
				continue
			}
			if is != isApart(g, list) || got != impl.OK {
				t.Error("IsIndependent", g, list, is, got)
			}
			kinds[is]++
		}
		is, got := impl.IsIndependent(g, nil)
		same(t, "the empty set", is, true)
		same(t, "code", got, int64(impl.OK))
	}
	if kinds[true] < 500 || kinds[false] < 500 {
		t.Error("too few of one kind", kinds)
	}
}

func TestIndependentCounts(t *testing.T) {
	for _, g := range everyGraph() {
		want := make([]int64, g.Nodes+1)
		for _, set := range apartSets(g) {
			want[len(set)]++
		}
		counts, got := impl.IndependentCounts(g)
		same(t, "counts", counts, want)
		same(t, "code", got, int64(impl.OK))
	}
	for _, one := range []struct {
		text string
		want []int64
	}{
		{"graph 1\n", []int64{1, 1}},
		{"graph 2\n", []int64{1, 2, 1}},
		{"graph 5\n", []int64{1, 5, 10, 10, 5, 1}},
		{"graph 2\nedge 0 1\n", []int64{1, 2, 0}},
		{exampleGraph, []int64{1, 3, 1, 0}},
		{triangleAndOne, []int64{1, 4, 3, 0, 0}},
		{circleOfFive, []int64{1, 5, 5, 0, 0, 0}},
		{"graph 5\nedge 0 1\nedge 0 2\nedge 0 3\nedge 0 4\n", []int64{1, 5, 6, 4, 1, 0}},
		{allOfFive, []int64{1, 5, 0, 0, 0, 0}},
	} {
		counts, got := impl.IndependentCounts(readGraph(t, one.text))
		same(t, one.text, counts, one.want)
		same(t, "code", got, int64(impl.OK))
	}
}

// TestSetChance has all sets of all graphs.
func TestSetChance(t *testing.T) {
	r := rand.New(rand.NewSource(532))
	for _, g := range everyGraph() {
		all := apartSets(g)
		for _, weight := range someWeights(r) {
			whole, sum := weightIn(all, weight), new(big.Rat)
			for _, set := range nodeSets(g.Nodes) {
				x, got := impl.SetChance(g, weight, set)
				if !isApart(g, set) {
					code(t, "not independent", impl.ErrState, x, got)
					continue
				}
				isFraction(t, "chance", big.NewRat(powerOf(weight, int64(len(set))), whole), x, got)
				sum.Add(sum, ratOf(x))
			}
			same(t, "all", sum.RatString(), "1")
		}
	}
}

func TestNodeChance(t *testing.T) {
	r := rand.New(rand.NewSource(533))
	for _, g := range everyGraph() {
		all := apartSets(g)
		for _, weight := range someWeights(r) {
			for node := range g.Nodes {
				with := slices.DeleteFunc(slices.Clone(all), func(set []int64) bool { return !slices.Contains(set, node) })
				x, got := impl.NodeChance(g, weight, node)
				isFraction(t, "chance", big.NewRat(weightIn(with, weight), weightIn(all, weight)), x, got)
			}
		}
	}
}

// TestNodesAreSetChances adds up the chances of the sets with a node.
func TestNodesAreSetChances(t *testing.T) {
	r := rand.New(rand.NewSource(534))
	for _, g := range someGraphs(r, 50) {
		weight := 1 + r.Int63n(impl.MaxTotal)
		for node := range g.Nodes {
			sum := new(big.Rat)
			for _, set := range apartSets(g) {
				if slices.Contains(set, node) {
					x, _ := impl.SetChance(g, weight, set)
					sum.Add(sum, ratOf(x))
				}
			}
			x, got := impl.NodeChance(g, weight, node)
			isFraction(t, "chance", sum, x, got)
		}
	}
}

func TestSetEdges(t *testing.T) {
	for _, one := range []struct {
		text   string
		weight int64
		set    []int64
		want   string
	}{
		{"graph 1\n", 1, nil, "1/2"}, {"graph 1\n", 1, []int64{0}, "1/2"}, {"graph 1\n", impl.MaxTotal, []int64{0}, "60/61"}, {"graph 1\n", impl.MaxTotal, nil, "1/61"},
		{"graph 5\n", impl.MaxTotal, []int64{0, 1, 2, 3, 4}, "777600000/844596301"}, {"graph 5\n", impl.MaxTotal, nil, "1/844596301"}, {"graph 5\n", 1, []int64{2, 4}, "1/32"},
		{exampleGraph, 2, []int64{0, 2}, "4/11"}, {exampleGraph, 2, []int64{1}, "2/11"}, {exampleGraph, 1, []int64{}, "1/5"}, {exampleGraph, 1, []int64{0, 1}, "state"},
		{exampleGraph, 1, []int64{0, 1, 2}, "state"}, {exampleGraph, 0, []int64{0, 1}, "range"}, {exampleGraph, 61, []int64{0}, "range"}, {exampleGraph, 1, []int64{1, 0}, "range"},
		{exampleGraph, 1, []int64{0, 1, 3}, "range"}, {allOfFive, impl.MaxTotal, []int64{4}, "60/301"}, {allOfFive, 1, []int64{3, 4}, "state"},
	} {
		x, got := impl.SetChance(readGraph(t, one.text), one.weight, one.set)
		hasOne(t, one.text, one.want, x, got)
	}
	for _, one := range []struct {
		text         string
		weight, node int64
		want         string
	}{
		{"graph 1\n", 1, 0, "1/2"}, {"graph 1\n", 1, 1, "range"}, {"graph 5\n", impl.MaxTotal, 3, "60/61"}, {exampleGraph, 1, 1, "1/5"}, {exampleGraph, 1, 0, "2/5"},
		{exampleGraph, impl.MaxTotal, 1, "60/3781"}, {exampleGraph, 1, 3, "range"}, {exampleGraph, 1, -1, "range"}, {exampleGraph, 0, 0, "range"}, {allOfFive, 1, 2, "1/6"},
	} {
		x, got := impl.NodeChance(readGraph(t, one.text), one.weight, one.node)
		hasOne(t, one.text, one.want, x, got)
	}
}

// changedIn returns the set behind a step.
func changedIn(g impl.Graph, set []int64, node, draw int64) []int64 {
	next := slices.DeleteFunc(slices.Clone(set), func(other int64) bool { return other == node })
	isNear := func(other int64) bool { return areNear(g, node, other) }
	if draw > 0 && !slices.ContainsFunc(set, isNear) {
		next = append(next, node)
		slices.Sort(next)
	}
	return next
}

// TestChangeSet has all sets, nodes and draws of some graphs.
func TestChangeSet(t *testing.T) {
	r := rand.New(rand.NewSource(535))
	kinds := map[string]int{}
	for _, g := range someGraphs(r, 30) {
		for _, weight := range someWeights(r) {
			for _, set := range nodeSets(g.Nodes) {
				for node := range g.Nodes {
					for _, draw := range []int64{0, 1, weight / 2, weight} {
						next, got := impl.ChangeSet(g, weight, set, node, draw)
						if !isApart(g, set) {
							code(t, "not independent", impl.ErrState, next, got)
							continue
						}
						want := changedIn(g, set, node, draw)
						same(t, "set", next, want)
						same(t, "code", got, int64(impl.OK))
						same(t, "independent", isApart(g, next), true)
						kinds[[]string{"smaller", "alike", "greater"}[len(want)-len(set)+1]]++
					}
					for _, draw := range []int64{-1, weight + 1, math.MaxInt64, math.MinInt64} {
						next, got := impl.ChangeSet(g, weight, set, node, draw)
						code(t, "no draw", impl.ErrRange, next, got)
					}
				}
			}
		}
	}
	if kinds["smaller"] < 1000 || kinds["alike"] < 1000 || kinds["greater"] < 1000 {
		t.Error("too few of one kind", kinds)
	}
}

func TestChangeEdges(t *testing.T) {
	for _, one := range []struct {
		text               string
		weight             int64
		set                []int64
		node, draw         int64
		want, wantCodeName string
	}{
		{exampleGraph, 2, []int64{0}, 2, 1, "0 2", "ok"}, {exampleGraph, 2, []int64{0}, 2, 2, "0 2", "ok"}, {exampleGraph, 2, []int64{0}, 2, 0, "0", "ok"},
		{exampleGraph, 2, []int64{0}, 1, 2, "0", "ok"}, {exampleGraph, 2, []int64{0}, 1, 0, "0", "ok"}, {exampleGraph, 2, []int64{0}, 0, 0, "", "ok"},
		{exampleGraph, 2, []int64{0}, 0, 1, "0", "ok"}, {exampleGraph, 2, nil, 1, 1, "1", "ok"}, {exampleGraph, 2, nil, 1, 0, "", "ok"}, {exampleGraph, 2, []int64{2}, 0, 1, "0 2", "ok"},
		{exampleGraph, 2, []int64{0}, 2, 3, "", "range"}, {exampleGraph, 2, []int64{0}, 2, -1, "", "range"}, {exampleGraph, 2, []int64{0}, 3, 0, "", "range"},
		{exampleGraph, 2, []int64{0, 1}, 2, 3, "", "range"}, {exampleGraph, 2, []int64{0, 1}, 3, 0, "", "range"}, {exampleGraph, 2, []int64{0, 1}, 2, 0, "", "state"},
		{exampleGraph, 2, []int64{0, 1}, 0, 0, "", "state"}, {exampleGraph, 1, []int64{0}, 0, 2, "", "range"}, {exampleGraph, 60, []int64{1}, 1, 60, "1", "ok"},
		{exampleGraph, 60, []int64{1}, 1, 61, "", "range"}, {exampleGraph, 61, []int64{1}, 1, 0, "", "range"}, {exampleGraph, 0, []int64{1}, 1, 0, "", "range"},
		{"graph 1\n", 1, nil, 0, 1, "0", "ok"}, {"graph 1\n", 1, []int64{0}, 0, 0, "", "ok"}, {"graph 5\n", 1, []int64{0, 1, 3, 4}, 2, 1, "0 1 2 3 4", "ok"},
		{allOfFive, 1, []int64{4}, 0, 1, "4", "ok"}, {allOfFive, 1, nil, 4, 1, "4", "ok"},
	} {
		set, got := impl.ChangeSet(readGraph(t, one.text), one.weight, one.set, one.node, one.draw)
		same(t, one.text, numberTexts([][]int64{set}), one.want)
		same(t, "code", impl.CodeName(got), one.wantCodeName)
	}
}

// changesIn counts the nodes and draws that lead from a set to another one.
func changesIn(g impl.Graph, weight int64, from, to []int64) *big.Rat {
	count := int64(0)
	for node := range g.Nodes {
		for draw := range weight + 1 {
			if slices.Equal(changedIn(g, from, node, draw), to) {
				count++
			}
		}
	}
	return big.NewRat(count, g.Nodes*(weight+1))
}

// TestChangeChance has all pairs of sets of some graphs.
func TestChangeChance(t *testing.T) {
	r := rand.New(rand.NewSource(536))
	kinds := map[string]int{}
	for _, g := range someGraphs(r, 5) {
		weight := someWeights(r)[r.Intn(3)]
		if weight > 20 && r.Intn(4) > 0 {
			weight = 1 + r.Int63n(5)
		}
		for _, from := range nodeSets(g.Nodes) {
			for _, to := range nodeSets(g.Nodes) {
				x, got := impl.ChangeChance(g, weight, from, to)
				if !isApart(g, from) || !isApart(g, to) {
					code(t, "not independent", impl.ErrState, x, got)
					kinds["not independent"]++
					continue
				}
				isFraction(t, "chance", changesIn(g, weight, from, to), x, got)
				if x == frac("0") {
					kinds["never"]++
				} else {
					kinds["a step"]++
				}
			}
		}
	}
	if kinds["never"] < 100 || kinds["a step"] < 100 || kinds["not independent"] < 100 {
		t.Error("too few of one kind", kinds)
	}
}

// TestSetsStay makes a step of the spread of SetChance.
func TestSetsStay(t *testing.T) {
	r := rand.New(rand.NewSource(537))
	for _, g := range someGraphs(r, 20) {
		all, weight := apartSets(g), 1+r.Int63n(impl.MaxTotal)
		for _, to := range all {
			sum, leaving := new(big.Rat), new(big.Rat)
			for _, from := range all {
				x, one := impl.SetChance(g, weight, from)
				there, two := impl.ChangeChance(g, weight, from, to)
				back, three := impl.ChangeChance(g, weight, to, from)
				same(t, "codes", []int64{one, two, three}, make([]int64, 3))
				sum.Add(sum, new(big.Rat).Mul(ratOf(x), ratOf(there)))
				leaving.Add(leaving, ratOf(back))
			}
			x, got := impl.SetChance(g, weight, to)
			isFraction(t, "stays", sum, x, got)
			same(t, "all steps", leaving.RatString(), "1")
		}
	}
}

func TestChangeChanceEdges(t *testing.T) {
	for _, one := range []struct {
		text     string
		weight   int64
		from, to []int64
		want     string
	}{
		{exampleGraph, 2, []int64{0}, []int64{0, 2}, "2/9"}, {exampleGraph, 2, []int64{0}, []int64{0}, "2/3"}, {exampleGraph, 2, []int64{0}, nil, "1/9"}, {exampleGraph, 2, nil, nil, "1/3"},
		{exampleGraph, 2, nil, []int64{1}, "2/9"}, {exampleGraph, 2, []int64{0}, []int64{1}, "0"}, {exampleGraph, 2, []int64{0, 2}, nil, "0"}, {exampleGraph, 2, []int64{0, 2}, []int64{1}, "0"},
		{exampleGraph, 2, []int64{0, 2}, []int64{0, 2}, "7/9"}, {exampleGraph, 1, []int64{1}, []int64{1}, "5/6"}, {exampleGraph, 60, []int64{1}, nil, "1/183"},
		{exampleGraph, 2, []int64{0, 1}, nil, "state"}, {exampleGraph, 2, nil, []int64{0, 1}, "state"}, {exampleGraph, 2, []int64{1, 2}, []int64{1, 2}, "state"},
		{exampleGraph, 0, []int64{0, 1}, nil, "range"}, {exampleGraph, 61, nil, nil, "range"}, {exampleGraph, 2, []int64{0, 1}, []int64{3}, "range"}, {exampleGraph, 2, []int64{1, 0}, []int64{0, 1}, "range"},
		{"graph 1\n", 1, nil, []int64{0}, "1/2"}, {"graph 1\n", 60, nil, []int64{0}, "60/61"}, {"graph 1\n", 60, []int64{0}, []int64{0}, "60/61"}, {"graph 1\n", 60, nil, nil, "1/61"},
		{"graph 5\n", 60, []int64{0, 1, 2, 3, 4}, []int64{0, 1, 2, 3}, "1/305"}, {"graph 5\n", 1, []int64{0, 2}, []int64{0, 2}, "1/2"}, {allOfFive, 60, nil, []int64{4}, "12/61"},
		{allOfFive, 60, []int64{4}, []int64{4}, "304/305"},
	} {
		x, got := impl.ChangeChance(readGraph(t, one.text), one.weight, one.from, one.to)
		hasOne(t, one.text, one.want, x, got)
	}
}

// setCalls returns what the functions that are given a weight and a set return;
// the last result of each is the code.
func setCalls(g impl.Graph, weight int64, set []int64, node, draw int64) map[string][]any {
	of := func(results ...any) []any { return results }
	return map[string][]any{
		"ChangeSet":         of(impl.ChangeSet(g, weight, set, node, draw)),
		"ChangeChance from": of(impl.ChangeChance(g, weight, set, nil)),
		"ChangeChance to":   of(impl.ChangeChance(g, weight, nil, set)),
		"SetChance":         of(impl.SetChance(g, weight, set)),
	}
}

func TestSetErrors(t *testing.T) {
	for name, bad := range invalidGraphs() {
		for _, weight := range append(badWeights(), 1, impl.MaxTotal) {
			for _, set := range [][]int64{nil, {0}, {1, 0}, {0, 1}, {-1}, {7}} {
				for _, node := range []int64{-1, 0, 9} {
					for called, results := range setCalls(bad, weight, set, node, node) {
						code(t, called+": "+name, impl.ErrInvalid, results...)
					}
					x, got := impl.NodeChance(bad, weight, node)
					code(t, "NodeChance: "+name, impl.ErrInvalid, x, got)
				}
				is, got := impl.IsIndependent(bad, set)
				code(t, "IsIndependent: "+name, impl.ErrInvalid, is, got)
			}
		}
		counts, got := impl.IndependentCounts(bad)
		code(t, "IndependentCounts: "+name, impl.ErrInvalid, counts, got)
	}
	for _, g := range []impl.Graph{{Nodes: 1}, {Nodes: 5}, readGraph(t, exampleGraph), readGraph(t, allOfFive)} {
		for _, weight := range badWeights() {
			for _, set := range append(badNodeSets(g.Nodes), nil, []int64{0}) {
				for called, results := range setCalls(g, weight, set, 0, 0) {
					code(t, called+": weight", impl.ErrRange, results...)
				}
			}
			for _, node := range append(badNodes(g.Nodes), 0) {
				x, got := impl.NodeChance(g, weight, node)
				code(t, "NodeChance: weight", impl.ErrRange, x, got)
			}
		}
		for _, weight := range []int64{1, 7, impl.MaxTotal} {
			for _, set := range badNodeSets(g.Nodes) {
				for called, results := range setCalls(g, weight, set, 0, 0) {
					code(t, called+": no set", impl.ErrRange, results...)
				}
				is, got := impl.IsIndependent(g, set)
				code(t, "IsIndependent: no set", impl.ErrRange, is, got)
			}
			for _, node := range badNodes(g.Nodes) {
				x, got := impl.NodeChance(g, weight, node)
				code(t, "NodeChance: no node", impl.ErrRange, x, got)
				for _, set := range nodeSets(g.Nodes) {
					next, got := impl.ChangeSet(g, weight, set, node, 0)
					code(t, "ChangeSet: no node", impl.ErrRange, next, got)
				}
			}
		}
	}
}
