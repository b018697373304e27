package tests

import (
	"math"
	"math/rand"
	"slices"
	"strings"
	"testing"

	"loop.example/g01118/impl"
)

// The tests of this file are about promise 18: graphs and their texts.

// TestGraphLimits has the numbers of the document.
func TestGraphLimits(t *testing.T) {
	same(t, "limits", []int64{impl.MaxNodes, impl.MaxColours, impl.MaxListed, impl.MaxGraphText}, []int64{5, 4, 260, 2000})
}

func TestValidGraph(t *testing.T) {
	graphs := everyGraph()
	same(t, "all graphs", len(graphs), 1+2+8+64+1024)
	for _, g := range graphs {
		same(t, "valid", impl.ValidGraph(g), true)
	}
	for nodes := int64(1); nodes <= impl.MaxNodes; nodes++ {
		same(t, "no edges", impl.ValidGraph(impl.Graph{Nodes: nodes}), true)
		same(t, "no edges", impl.ValidGraph(impl.Graph{Nodes: nodes, Edges: [][]int64{}}), true)
	}
	for name, g := range invalidGraphs() {
		same(t, name, impl.ValidGraph(g), false)
	}
}

// TestValidGraphChanged changes an edge of a valid graph, or adds one again.
func TestValidGraphChanged(t *testing.T) {
	r := rand.New(rand.NewSource(501))
	for _, g := range everyGraph() {
		for range 5 {
			h := changedGraph(r, g)
			same(t, "changed", impl.ValidGraph(h), false)
			same(t, "not the same", impl.SameGraph(g, h) || impl.SameGraph(h, g), false)
			same(t, "no text", impl.GraphText(h), "")
			other, got := impl.ReadGraph(graphTextOf(h))
			code(t, graphTextOf(h), impl.ErrSyntax, other, got)
		}
	}
}

// TestShortEdges looks at all graphs with up to two edges of small numbers, most
// of which are not valid.
func TestShortEdges(t *testing.T) {
	edges := [][]int64{nil}
	for length := int64(1); length <= 3; length++ {
		edges = append(edges, listsOf(length, -1, 3)...)
	}
	isEdge := func(edge []int64, nodes int64) bool {
		return len(edge) == 2 && 0 <= edge[0] && edge[0] < edge[1] && edge[1] < nodes
	}
	valid := 0
	for nodes := int64(-1); nodes <= 7; nodes++ {
		areNodes := 1 <= nodes && nodes <= 5
		for _, first := range edges {
			isValid := areNodes && isEdge(first, nodes)
			same(t, "one edge", impl.ValidGraph(impl.Graph{Nodes: nodes, Edges: [][]int64{first}}), isValid)
			for _, second := range edges {
				g := impl.Graph{Nodes: nodes, Edges: [][]int64{first, second}}
				isValid := areNodes && isEdge(first, nodes) && isEdge(second, nodes)
				isValid = isValid && (first[0] < second[0] || first[0] == second[0] && first[1] < second[1])
				if impl.ValidGraph(g) != isValid {
					t.Error("two edges", g)
				}
				if isValid {
					valid++
				}
			}
		}
	}
	same(t, "valid ones with two edges", valid, 3+15+15)
}

func TestSameGraph(t *testing.T) {
	list := []impl.Graph{{Nodes: 1, Edges: [][]int64{{}, {}}}, {Nodes: 2, Edges: make([][]int64, 1000)}, {Nodes: math.MaxInt64}, {Edges: [][]int64{{0, 1}}}}
	for name, g := range invalidGraphs() {
		if !slices.Contains([]string{"nothing", "no nodes", "no nodes, an edge", "many edges", "a long edge", "a nil edge", "a nil edge behind another"}, name) {
			list = append(list, g)
		}
	}
	for nodes := int64(1); nodes <= 4; nodes++ {
		list = append(list, graphsOf(nodes)...)
	}
	for i, g := range list {
		for j, h := range list {
			same(t, "the same", impl.SameGraph(g, h), i == j)
		}
	}
	for _, g := range everyGraph() {
		h := impl.Graph{Nodes: g.Nodes}
		for _, edge := range g.Edges {
			h.Edges = append(h.Edges, slices.Clone(edge))
		}
		same(t, "a copy", impl.SameGraph(g, h) && impl.SameGraph(h, g), true)
		if len(h.Edges) > 0 {
			h.Edges[len(h.Edges)-1][1]++
			same(t, "another node", impl.SameGraph(g, h) || impl.SameGraph(h, g), false)
		}
	}
	same(t, "nil and empty", impl.SameGraph(impl.Graph{}, impl.Graph{Edges: [][]int64{}}), true)
	same(t, "nil and empty", impl.SameGraph(impl.Graph{Edges: [][]int64{{}}}, impl.Graph{Edges: [][]int64{nil}}), true)
	same(t, "nil and empty", impl.SameGraph(impl.Graph{Edges: [][]int64{nil, nil}}, impl.Graph{Edges: [][]int64{nil}}), false)
}

func TestGraphText(t *testing.T) {
	for _, g := range everyGraph() {
		text := graphTextOf(g)
		same(t, "text", impl.GraphText(g), text)
		h, got := impl.ReadGraph(text)
		same(t, "code", got, int64(impl.OK))
		same(t, "graph", impl.SameGraph(g, h), true)
	}
	for name, g := range invalidGraphs() {
		same(t, name, impl.GraphText(g), "")
		if text := graphTextOf(g); len(text) <= impl.MaxGraphText {
			h, got := impl.ReadGraph(text)
			code(t, name, impl.ErrSyntax, h, got)
		}
	}
	same(t, "no edges", impl.GraphText(impl.Graph{Nodes: 4}), "graph 4\n")
	same(t, "all edges", impl.GraphText(graphBy(5, 1023)), allOfFive)
}

func TestReadGraphSyntax(t *testing.T) {
	for _, text := range []string{
		"", "\n", "graph", "graph ", "graph\n", "graph \n", "graph 1", "graph 1 ", "graph 1 \n", "graph  1\n", " graph 1\n", "\ngraph 1\n", "graph 1\n\n", "graph 1\n ", "graph 1\r\n",
		"graph\t1\n", "graph 1\nx", "graph 1\x00\n", "graph 1\n\x00", "Graph 1\n", "graphs 1\n", "grap 1\n", "graph1\n", "graph one\n", "graph 1.0\n", "graph 0x1\n", "graph \u0661\n",
		"graph 0\n", "graph 6\n", "graph 10\n", "graph -1\n", "graph +1\n", "graph 01\n", "graph 00\n", "graph 1 1\n", "graph 18446744073709551617\n", "graph 99999999999999999999999999\n",
		"graph 2\nedge", "graph 2\nedge\n", "graph 2\nedge 0", "graph 2\nedge 0\n", "graph 2\nedge 0 ", "graph 2\nedge 0 1", "graph 2\nedge 0 1 \n", "graph 2\nedge 0 1 0\n",
		"graph 2\nedge 0  1\n", "graph 2\nedge  0 1\n", "graph 2\n edge 0 1\n", "graph 2\n\nedge 0 1\n", "graph 2\nedge 0 1\n\n", "graph 2 edge 0 1\n", "graph 2\nedge 0,1\n", "graph 2\nedge01\n",
		"graph 2\nedge 0 01\n", "graph 2\nedge 00 1\n", "graph 2\nedge +0 1\n", "graph 2\nedge -0 1\n", "graph 2\nedge 0 +1\n", "graph 2\nedge 0 -1\n", "graph 2\nedge -1 0\n", "graph 2\nedge 0\t1\n",
		"graph 2\nedge 1 0\n", "graph 2\nedge 0 0\n", "graph 2\nedge 1 1\n", "graph 2\nedge 0 2\n", "graph 1\nedge 0 1\n", "graph 1\nedge 0 0\n", "graph 2\nedge 0 1\nedge 0 1\n",
		"graph 3\nedge 0 2\nedge 0 1\n", "graph 3\nedge 1 2\nedge 0 1\n", "graph 3\nedge 0 1\nedge 1 2", "graph 3\nedge 0 1\nedge", "graph 3\nedge 0 1 edge 1 2\n", "graph 3\nedge 0 1 1 2\n",
		"graph 2\nEdge 0 1\n", "graph 2\nedges 0 1\n", "graph 2\nedge 0 18446744073709551617\n", "graph 2\nedge 18446744073709551616 1\n", "edge 0 1\ngraph 2\n", "edge 0 1\n", "graph 2\ngraph 2\n",
		"chain 2\nedge 0 1\n", "graph 2\nfrom 0 1\n", "chain 1 1\nfrom 1\n", "maps 1 1\nmap 1 : 0\n", "graph 6\nedge 0 1\n", "graph 5\nedge 4 5\n", "graph 2\nedge 0 1\r\n", exampleGraph + "edge 2 3\n",
	} {
		g, got := impl.ReadGraph(text)
		code(t, text, impl.ErrSyntax, g, got)
	}
}

// TestReadGraphChanged changes a byte of a text: what is read has this text.
func TestReadGraphChanged(t *testing.T) {
	r := rand.New(rand.NewSource(502))
	const alphabet = "0123456 \n-+graphed"
	read := 0
	for range 20000 {
		text := changedText(r, graphTextOf(randomGraph(r)), alphabet)
		g, got := impl.ReadGraph(text)
		if got == impl.OK {
			same(t, "valid", impl.ValidGraph(g), true)
			same(t, "text", impl.GraphText(g), text)
			read++
		} else {
			code(t, text, impl.ErrSyntax, g, got)
		}
	}
	if read < 100 {
		t.Error("too few changed texts were those of graphs", read)
	}
}

func TestReadGraphLength(t *testing.T) {
	line := "edge 0 1\n"
	for _, one := range []struct {
		text string
		want int64
	}{
		{strings.Repeat("x", impl.MaxGraphText), impl.ErrSyntax},
		{strings.Repeat("x", impl.MaxGraphText+1), impl.ErrRange},
		{exampleGraph + strings.Repeat("\n", impl.MaxGraphText-len(exampleGraph)), impl.ErrSyntax},
		{exampleGraph + strings.Repeat("\n", impl.MaxGraphText+1-len(exampleGraph)), impl.ErrRange},
		{allOfFive, impl.OK},
		{allOfFive + "edge 3 4\n", impl.ErrSyntax},
		{"graph 2\n" + line, impl.OK},
		{"graph 2\n" + strings.Repeat(line, 221), impl.ErrSyntax},
		{"graph 2\n" + strings.Repeat(line, 222), impl.ErrRange},
		{"graph " + strings.Repeat("9", 1900), impl.ErrSyntax},
		{"graph " + strings.Repeat("9", 2000), impl.ErrRange},
		{strings.Repeat("graph 1\n", 250), impl.ErrSyntax},
		{strings.Repeat("graph 1\n", 251), impl.ErrRange},
		{strings.Repeat("1", 1000000), impl.ErrRange},
	} {
		g, got := impl.ReadGraph(one.text)
		code(t, "a long text", one.want, g, got)
	}
}

// TestExampleOfChapter8 is the example of the document.
func TestExampleOfChapter8(t *testing.T) {
	g := readGraph(t, "graph 3\nedge 0 1\nedge 1 2\n")
	count, got := impl.CountColourings(g, 3)
	same(t, "colourings", count, int64(12))
	same(t, "code", got, int64(impl.OK))
	polynomial, got := impl.ColourPolynomial(g)
	same(t, "polynomial", polynomial, []int64{0, 1, -2, 1})
	same(t, "code", got, int64(impl.OK))
	for i := range int64(2) {
		x, got := impl.EdgeRatio(g, 3, i)
		hasOne(t, "ratio", "2/3", x, got)
	}
	x, got := impl.RecolourChance(g, 3, []int64{0, 1, 0}, []int64{2, 1, 0})
	hasOne(t, "step", "1/6", x, got)
	counts, got := impl.IndependentCounts(g)
	same(t, "sets", counts, []int64{1, 3, 1, 0})
	same(t, "code", got, int64(impl.OK))
	x, got = impl.NodeChance(g, 1, 1)
	hasOne(t, "node", "1/5", x, got)
}
