package tests

import (
	"slices"
	"testing"

	"loop.example/g01118/impl"
)

// The tests of this file are about promise 19: matchings and line graphs.

func haveCommonNode(a, b []int64) bool {
	return slices.ContainsFunc(a, func(node int64) bool { return slices.Contains(b, node) })
}

// matchingsIn counts all sets of edges without common nodes, by their numbers of
// edges.
func matchingsIn(g impl.Graph) []int64 {
	counts := make([]int64, g.Nodes/2+1)
	for _, set := range nodeSets(int64(len(g.Edges))) {
		nodes := []int64{}
		for _, i := range set {
			nodes = append(nodes, g.Edges[i]...)
		}
		slices.Sort(nodes)
		if len(slices.Compact(nodes)) == 2*len(set) {
			counts[len(set)]++
		}
	}
	return counts
}

func TestMatchingCounts(t *testing.T) {
	for _, g := range everyGraph() {
		counts, got := impl.MatchingCounts(g)
		same(t, "counts", counts, matchingsIn(g))
		same(t, "code", got, int64(impl.OK))
	}
	for _, one := range []struct {
		text string
		want []int64
	}{
		{"graph 1\n", []int64{1}}, {"graph 2\n", []int64{1, 0}}, {"graph 3\n", []int64{1, 0}}, {"graph 4\n", []int64{1, 0, 0}}, {"graph 5\n", []int64{1, 0, 0}},
		{"graph 2\nedge 0 1\n", []int64{1, 1}}, {exampleGraph, []int64{1, 2}}, {"graph 3\nedge 0 1\nedge 0 2\nedge 1 2\n", []int64{1, 3}}, {triangleAndOne, []int64{1, 3, 0}},
		{"graph 4\nedge 0 1\nedge 2 3\n", []int64{1, 2, 1}}, {"graph 4\nedge 0 1\nedge 0 2\nedge 0 3\nedge 1 2\nedge 1 3\nedge 2 3\n", []int64{1, 6, 3}},
		{circleOfFive, []int64{1, 5, 5}}, {"graph 5\nedge 0 1\nedge 0 2\nedge 0 3\nedge 0 4\n", []int64{1, 4, 0}}, {allOfFive, []int64{1, 10, 15}},
	} {
		counts, got := impl.MatchingCounts(readGraph(t, one.text))
		same(t, one.text, counts, one.want)
		same(t, "code", got, int64(impl.OK))
	}
	for name, g := range invalidGraphs() {
		counts, got := impl.MatchingCounts(g)
		code(t, name, impl.ErrInvalid, counts, got)
	}
}

// TestLineGraph has all graphs; the matchings are the independent sets.
func TestLineGraph(t *testing.T) {
	kinds := map[int64]int{}
	for _, g := range everyGraph() {
		line, got := impl.LineGraph(g)
		kinds[got]++
		switch {
		case len(g.Edges) == 0:
			code(t, "no edges", impl.ErrState, line.Nodes, line.Edges, got)
		case len(g.Edges) > impl.MaxNodes:
			code(t, "too many edges", impl.ErrLimit, line.Nodes, line.Edges, got)
		default:
			same(t, "code", got, int64(impl.OK))
			same(t, "valid", impl.ValidGraph(line), true)
			want := impl.Graph{Nodes: int64(len(g.Edges))}
			for i, a := range g.Edges {
				for j, b := range g.Edges {
					if i < j && haveCommonNode(a, b) {
						want.Edges = append(want.Edges, []int64{int64(i), int64(j)})
					}
				}
			}
			same(t, "graph", impl.GraphText(line), graphTextOf(want))
			counts, _ := impl.MatchingCounts(g)
			sets, _ := impl.IndependentCounts(line)
			for size := range max(len(counts), len(sets)) {
				same(t, "as many", at(counts, size), at(sets, size))
			}
		}
	}
	same(t, "kinds", kinds, map[int64]int{impl.OK: 1 + 7 + 62 + 637, impl.ErrState: 5, impl.ErrLimit: 1 + 386})
}

// at returns 0 behind the end of a list.
func at(list []int64, i int) int64 {
	if i < len(list) {
		return list[i]
	}
	return 0
}

func TestLineEdges(t *testing.T) {
	for _, one := range []struct {
		text, want string
	}{
		{"graph 2\nedge 0 1\n", "graph 1\n"}, {"graph 5\nedge 3 4\n", "graph 1\n"}, {exampleGraph, "graph 2\nedge 0 1\n"}, {"graph 4\nedge 0 1\nedge 2 3\n", "graph 2\n"},
		{triangleAndOne, "graph 3\nedge 0 1\nedge 0 2\nedge 1 2\n"}, {circleOfFive, "graph 5\nedge 0 1\nedge 0 2\nedge 1 4\nedge 2 3\nedge 3 4\n"},
		{"graph 4\nedge 0 3\nedge 1 2\nedge 2 3\n", "graph 3\nedge 0 2\nedge 1 2\n"},
		{"graph 5\nedge 0 1\nedge 0 2\nedge 0 3\nedge 0 4\n", "graph 4\nedge 0 1\nedge 0 2\nedge 0 3\nedge 1 2\nedge 1 3\nedge 2 3\n"},
	} {
		line, got := impl.LineGraph(readGraph(t, one.text))
		same(t, one.text, impl.GraphText(line), one.want)
		same(t, "code", got, int64(impl.OK))
	}
	for name, g := range invalidGraphs() {
		line, got := impl.LineGraph(g)
		code(t, name, impl.ErrInvalid, line.Nodes, line.Edges, got)
	}
	for _, one := range []struct {
		text string
		want int64
	}{
		{"graph 1\n", impl.ErrState}, {"graph 2\n", impl.ErrState}, {"graph 5\n", impl.ErrState}, {allOfFive, impl.ErrLimit},
		{"graph 4\nedge 0 1\nedge 0 2\nedge 0 3\nedge 1 2\nedge 1 3\nedge 2 3\n", impl.ErrLimit}, {"graph 5\nedge 0 1\nedge 0 2\nedge 0 3\nedge 0 4\nedge 1 2\nedge 1 3\n", impl.ErrLimit},
	} {
		line, got := impl.LineGraph(readGraph(t, one.text))
		code(t, one.text, one.want, line.Nodes, line.Edges, got)
	}
}
