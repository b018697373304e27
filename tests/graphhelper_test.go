package tests

import (
	"fmt"
	"math"
	"math/big"
	"math/rand"
	"slices"
	"strings"
	"testing"

	"loop.example/g01118/impl"
)

// What the tests of chapter 8 have in common: all graphs, and what is known of
// them by looking at all lists of numbers.

const exampleGraph = "graph 3\nedge 0 1\nedge 1 2\n"

// Some graphs: a triangle with a node beside it, a circle of five nodes, and all
// edges of five nodes.
const (
	triangleAndOne = "graph 4\nedge 0 1\nedge 0 2\nedge 1 2\n"
	circleOfFive   = "graph 5\nedge 0 1\nedge 0 4\nedge 1 2\nedge 2 3\nedge 3 4\n"
	allOfFive      = "graph 5\nedge 0 1\nedge 0 2\nedge 0 3\nedge 0 4\nedge 1 2\nedge 1 3\nedge 1 4\nedge 2 3\nedge 2 4\nedge 3 4\n"
)

func readGraph(t *testing.T, text string) impl.Graph {
	t.Helper()
	g, got := impl.ReadGraph(text)
	if got != impl.OK {
		t.Fatal("no graph", text, got)
	}
	return g
}

// graphTextOf writes any graph, valid or not.
func graphTextOf(g impl.Graph) string {
	var text strings.Builder
	fmt.Fprintf(&text, "graph %d\n", g.Nodes)
	for _, edge := range g.Edges {
		text.WriteString("edge")
		for _, node := range edge {
			fmt.Fprintf(&text, " %d", node)
		}
		text.WriteString("\n")
	}
	return text.String()
}

// allEdges returns all edges of so many nodes, in lexicographic order.
func allEdges(nodes int64) [][]int64 {
	edges := [][]int64{}
	for a := range nodes {
		for b := a + 1; b < nodes; b++ {
			edges = append(edges, []int64{a, b})
		}
	}
	return edges
}

// graphBy returns the graph whose edges are told by bits, one for each.
func graphBy(nodes int64, bits int) impl.Graph {
	g := impl.Graph{Nodes: nodes}
	for i, edge := range allEdges(nodes) {
		if bits>>i&1 == 1 {
			g.Edges = append(g.Edges, edge)
		}
	}
	return g
}

func numberOfGraphs(nodes int64) int { return 1 << len(allEdges(nodes)) }

// graphsOf returns all graphs with so many nodes: the first one has no edges, and
// the last one all.
func graphsOf(nodes int64) []impl.Graph {
	list := []impl.Graph{}
	for bits := range numberOfGraphs(nodes) {
		list = append(list, graphBy(nodes, bits))
	}
	return list
}

func everyGraph() []impl.Graph {
	list := []impl.Graph{}
	for nodes := int64(1); nodes <= impl.MaxNodes; nodes++ {
		list = append(list, graphsOf(nodes)...)
	}
	return list
}

// someGraphs returns all graphs of up to four nodes, and so many of five.
func someGraphs(r *rand.Rand, count int) []impl.Graph {
	list, five := []impl.Graph{}, numberOfGraphs(5)
	for nodes := int64(1); nodes < impl.MaxNodes; nodes++ {
		list = append(list, graphsOf(nodes)...)
	}
	for _, bits := range r.Perm(five)[:count] {
		list = append(list, graphBy(5, bits))
	}
	return append(list, graphBy(5, 0), graphBy(5, five-1))
}

func randomGraph(r *rand.Rand) impl.Graph {
	nodes := 1 + r.Int63n(impl.MaxNodes)
	return graphBy(nodes, r.Intn(numberOfGraphs(nodes)))
}

// invalidGraphs returns graphs that are not valid, each for one reason.
func invalidGraphs() map[string]impl.Graph {
	with := func(nodes int64, edges ...[]int64) impl.Graph { return impl.Graph{Nodes: nodes, Edges: edges} }
	list := func(numbers ...int64) []int64 { return numbers }
	more := func(edge []int64) [][]int64 { return append(allEdges(5), edge) }
	return map[string]impl.Graph{
		"nothing":                   {},
		"no nodes":                  with(0),
		"no nodes, an edge":         with(0, list(0, 1)),
		"negative nodes":            with(-1),
		"six nodes":                 with(6),
		"six nodes, an edge":        with(6, list(0, 1)),
		"many nodes":                with(math.MaxInt64, list(0, 1)),
		"few nodes":                 with(math.MinInt64),
		"the greater one first":     with(2, list(1, 0)),
		"the greater one later":     with(3, list(0, 1), list(2, 0)),
		"two equal nodes":           with(2, list(1, 1)),
		"two equal nodes, 0":        with(3, list(0, 0), list(0, 1)),
		"an edge of one node":       with(1, list(0, 0)),
		"an edge twice":             with(3, list(0, 1), list(0, 1)),
		"the last edge twice":       with(3, list(0, 1), list(0, 2), list(0, 2)),
		"falling edges":             with(3, list(1, 2), list(0, 1)),
		"falling second nodes":      with(3, list(0, 2), list(0, 1)),
		"the last one falls":        with(4, list(0, 1), list(2, 3), list(1, 3)),
		"node 2 of 2":               with(2, list(0, 2)),
		"node 1 of 1":               with(1, list(0, 1)),
		"node 5 of 5":               with(5, list(0, 1), list(4, 5)),
		"node -1":                   with(2, list(-1, 0)),
		"nodes -2 and -1":           with(2, list(-2, -1)),
		"a far node":                with(5, list(0, math.MaxInt64)),
		"another far node":          with(5, list(math.MinInt64, 0)),
		"an edge without numbers":   with(2, list()),
		"a nil edge":                with(2, nil),
		"a nil edge behind another": with(3, list(0, 1), nil),
		"an edge of one number":     with(2, list(0)),
		"an edge of three numbers":  with(3, list(0, 1, 2)),
		"a zero behind an edge":     with(3, list(0, 1, 0)),
		"an edge too much":          with(5, more(list(3, 4))...),
		"an edge far too much":      with(5, more(list(4, 5))...),
		"many edges":                with(5, make([][]int64, 100000)...),
		"a long edge":               with(5, make([]int64, 100000)),
	}
}

// changedGraph returns an invalid graph that comes of an edge of a valid one, or
// of a graph without edges.
func changedGraph(r *rand.Rand, g impl.Graph) impl.Graph {
	h := impl.Graph{Nodes: g.Nodes}
	for _, edge := range g.Edges {
		h.Edges = append(h.Edges, slices.Clone(edge))
	}
	if len(h.Edges) == 0 {
		h.Edges = [][]int64{{0}, {0, g.Nodes}, {g.Nodes - 1, 0}, {-1, 0}, nil}[r.Intn(5):][:1]
		return h
	}
	i := r.Intn(len(h.Edges))
	edge := h.Edges[i]
	switch r.Intn(6) {
	case 0:
		slices.Reverse(edge)
	case 1:
		edge[r.Intn(2)] = []int64{-1, g.Nodes, math.MaxInt64, math.MinInt64}[r.Intn(4)]
	case 2:
		edge[0] = edge[1]
	case 3:
		h.Edges[i] = edge[:r.Intn(2)]
	case 4:
		h.Edges[i] = append(edge, r.Int63n(g.Nodes))
	case 5:
		h.Edges = slices.Insert(h.Edges, r.Intn(len(h.Edges)+1), slices.Clone(edge))
	}
	return h
}

// listsOf returns all lists of so many numbers from least to most, in
// lexicographic order.
func listsOf(length, least, most int64) [][]int64 {
	lists := [][]int64{{}}
	for range length {
		longer := [][]int64{}
		for _, list := range lists {
			for n := least; n <= most; n++ {
				longer = append(longer, append(slices.Clone(list), n))
			}
		}
		lists = longer
	}
	return lists
}

func areNear(g impl.Graph, a, b int64) bool {
	return slices.ContainsFunc(g.Edges, func(edge []int64) bool {
		return edge[0] == a && edge[1] == b || edge[0] == b && edge[1] == a
	})
}

// isColoured reports whether no edge has the same number at both ends.
func isColoured(g impl.Graph, colours []int64) bool {
	return !slices.ContainsFunc(g.Edges, func(edge []int64) bool { return colours[edge[0]] == colours[edge[1]] })
}

// has reports whether a list has the numbers of a part that are not -1.
func has(list, part []int64) bool {
	for i, n := range part {
		if n != -1 && list[i] != n {
			return false
		}
	}
	return true
}

// colouringsIn returns all lists that are colourings.
func colouringsIn(g impl.Graph, q int64) [][]int64 {
	return slices.DeleteFunc(listsOf(g.Nodes, 0, q-1), func(list []int64) bool { return !isColoured(g, list) })
}

// freeIn returns the colours with which the neighbours of a node let it be.
func freeIn(g impl.Graph, q int64, colours []int64, node int64) []int64 {
	list := []int64{}
	for colour := range q {
		isTaken := false
		for other, taken := range colours {
			isTaken = isTaken || taken == colour && areNear(g, node, int64(other))
		}
		if !isTaken {
			list = append(list, colour)
		}
	}
	return list
}

// differing returns the places at which two lists differ.
func differing(a, b []int64) []int64 {
	places := []int64{}
	for i := range a {
		if a[i] != b[i] {
			places = append(places, int64(i))
		}
	}
	return places
}

// recolouredIn adds up the chances of all nodes and colours that lead from a
// colouring to another one.
func recolouredIn(g impl.Graph, q int64, from, to []int64) *big.Rat {
	sum := new(big.Rat)
	for node := range g.Nodes {
		free := freeIn(g, q, from, node)
		for _, colour := range free {
			next := slices.Clone(from)
			next[node] = colour
			if slices.Equal(next, to) {
				sum.Add(sum, big.NewRat(1, g.Nodes*int64(len(free))))
			}
		}
	}
	return sum
}

func powerOf(n, power int64) int64 {
	product := int64(1)
	for range power {
		product *= n
	}
	return product
}

// nodeSets returns all sets of nodes, in lexicographic order.
func nodeSets(nodes int64) [][]int64 {
	sets := [][]int64{}
	for bits := range 1 << nodes {
		set := []int64{}
		for node := range nodes {
			if bits>>node&1 == 1 {
				set = append(set, node)
			}
		}
		sets = append(sets, set)
	}
	slices.SortFunc(sets, slices.Compare)
	return sets
}

// isApart reports whether no edge has both ends in a set.
func isApart(g impl.Graph, set []int64) bool {
	return !slices.ContainsFunc(g.Edges, func(edge []int64) bool {
		return slices.Contains(set, edge[0]) && slices.Contains(set, edge[1])
	})
}

// apartSets returns all independent sets.
func apartSets(g impl.Graph) [][]int64 {
	return slices.DeleteFunc(nodeSets(g.Nodes), func(set []int64) bool { return !isApart(g, set) })
}

// badColours returns lists that have not a number from least to q - 1 for each of
// so many nodes.
func badColours(nodes, least, q int64) [][]int64 {
	lists := [][]int64{slices.Repeat([]int64{0}, int(nodes-1)), slices.Repeat([]int64{0}, int(nodes+1)), make([]int64, 100000)}
	if nodes > 1 {
		lists = append(lists, nil)
	}
	for _, n := range []int64{least - 1, q, q + 1, math.MaxInt64, math.MinInt64} {
		for _, place := range []int64{0, nodes - 1} {
			list := make([]int64, nodes)
			list[place] = n
			lists = append(lists, list)
		}
	}
	return lists
}

func badNumbersOfColours() []int64 {
	return []int64{0, -1, impl.MaxColours + 1, math.MaxInt64, math.MinInt64}
}

// badNodes returns numbers that are no nodes of a graph.
func badNodes(nodes int64) []int64 {
	return []int64{-1, nodes, nodes + 1, math.MaxInt64, math.MinInt64}
}

// badNodeSets returns lists that are no sets of so many nodes.
func badNodeSets(nodes int64) [][]int64 {
	lists := [][]int64{{-1}, {nodes}, {0, 0}, {nodes - 1, nodes - 1}, {0, nodes}, {-1, 0}, {math.MaxInt64}, {math.MinInt64}, {math.MinInt64, 0}, make([]int64, 100000)}
	if nodes > 1 {
		lists = append(lists, []int64{1, 0}, []int64{0, 1, 0}, []int64{0, 1, 1}, []int64{nodes - 1, 0})
	}
	return lists
}

// badWeights returns numbers that are no weights.
func badWeights() []int64 { return []int64{0, -1, impl.MaxTotal + 1, math.MaxInt64, math.MinInt64} }

// numberTexts writes lists as "0 1 0; 0 2 0".
func numberTexts(lists [][]int64) string {
	texts := []string{}
	for _, list := range lists {
		texts = append(texts, strings.Trim(fmt.Sprint(list), "[]"))
	}
	return strings.Join(texts, "; ")
}
