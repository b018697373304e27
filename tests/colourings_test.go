package tests

import (
	"math"
	"math/big"
	"math/rand"
	"slices"
	"testing"

	"loop.example/g01118/impl"
)

// The tests of this file are about promise 18: colourings, the ways to count them,
// and the chances of colours.

// valueAt returns the value of a polynomial.
func valueAt(coefficients []int64, q int64) int64 {
	sum := int64(0)
	for power, coefficient := range coefficients {
		sum += coefficient * powerOf(q, int64(power))
	}
	return sum
}

// ratiosOf returns q to the power of the number of nodes, times the ratios of all
// edges up to one that leaves none.
func ratiosOf(t *testing.T, g impl.Graph, q int64) *big.Rat {
	t.Helper()
	product := big.NewRat(powerOf(q, g.Nodes), 1)
	for i := range g.Edges {
		x, got := impl.EdgeRatio(g, q, int64(i))
		if product.Sign() == 0 {
			code(t, "nothing to divide by", impl.ErrState, x, got)
			continue
		}
		same(t, "code", got, int64(impl.OK))
		product.Mul(product, ratOf(x))
	}
	return product
}

// TestCountsOfAllGraphs counts the colourings of all graphs in all ways.
func TestCountsOfAllGraphs(t *testing.T) {
	none, some := 0, 0
	for _, g := range everyGraph() {
		polynomial, got := impl.ColourPolynomial(g)
		same(t, "code", got, int64(impl.OK))
		for q := int64(1); q <= impl.MaxColours; q++ {
			want := int64(len(colouringsIn(g, q)))
			count, got := impl.CountColourings(g, q)
			same(t, "count", count, want)
			same(t, "code", got, int64(impl.OK))
			same(t, "by the polynomial", valueAt(polynomial, q), want)
			same(t, "by the edges", ratiosOf(t, g, q).RatString(), big.NewInt(want).String())
			byChances, got := impl.CountByChances(g, q)
			if want == 0 {
				code(t, "no colouring", impl.ErrState, byChances, got)
				none++
			} else {
				same(t, "by chances", byChances, want)
				same(t, "code", got, int64(impl.OK))
				some++
			}
		}
	}
	if none < 1000 || some < 1000 {
		t.Error("too few of one kind", none, some)
	}
}

func TestCountEdges(t *testing.T) {
	for _, one := range []struct {
		text string
		want [impl.MaxColours]int64
	}{
		{"graph 1\n", [4]int64{1, 2, 3, 4}},
		{"graph 2\n", [4]int64{1, 4, 9, 16}},
		{"graph 5\n", [4]int64{1, 32, 243, 1024}},
		{"graph 2\nedge 0 1\n", [4]int64{0, 2, 6, 12}},
		{exampleGraph, [4]int64{0, 2, 12, 36}},
		{triangleAndOne, [4]int64{0, 0, 18, 96}},
		{circleOfFive, [4]int64{0, 0, 30, 240}},
		{"graph 4\nedge 0 1\nedge 0 2\nedge 0 3\nedge 1 2\nedge 1 3\nedge 2 3\n", [4]int64{0, 0, 0, 24}},
		{allOfFive, [4]int64{0, 0, 0, 0}},
	} {
		g := readGraph(t, one.text)
		for i, want := range one.want {
			q := int64(i + 1)
			count, got := impl.CountColourings(g, q)
			same(t, "count", count, want)
			same(t, "code", got, int64(impl.OK))
			count, got = impl.CountByChances(g, q)
			if want == 0 {
				code(t, "no colouring", impl.ErrState, count, got)
			} else {
				same(t, "by chances", count, want)
				same(t, "code", got, int64(impl.OK))
			}
		}
	}
}

func TestColourPolynomial(t *testing.T) {
	for _, one := range []struct {
		text string
		want []int64
	}{
		{"graph 1\n", []int64{0, 1}},
		{"graph 2\n", []int64{0, 0, 1}},
		{"graph 3\n", []int64{0, 0, 0, 1}},
		{"graph 5\n", []int64{0, 0, 0, 0, 0, 1}},
		{"graph 2\nedge 0 1\n", []int64{0, -1, 1}},
		{"graph 5\nedge 2 3\n", []int64{0, 0, 0, 0, -1, 1}},
		{exampleGraph, []int64{0, 1, -2, 1}},
		{"graph 3\nedge 0 1\nedge 0 2\nedge 1 2\n", []int64{0, 2, -3, 1}},
		{triangleAndOne, []int64{0, 0, 2, -3, 1}},
		{"graph 4\nedge 0 3\nedge 1 2\n", []int64{0, 0, 1, -2, 1}},
		{"graph 5\nedge 0 1\nedge 0 2\nedge 0 3\nedge 0 4\n", []int64{0, 1, -4, 6, -4, 1}},
		{circleOfFive, []int64{0, 4, -10, 10, -5, 1}},
		{allOfFive, []int64{0, 24, -50, 35, -10, 1}},
	} {
		polynomial, got := impl.ColourPolynomial(readGraph(t, one.text))
		same(t, one.text, polynomial, one.want)
		same(t, "code", got, int64(impl.OK))
	}
	for name, g := range invalidGraphs() {
		polynomial, got := impl.ColourPolynomial(g)
		code(t, name, impl.ErrInvalid, polynomial, got)
	}
}

// paintedWith counts the colourings by any number of colours, node by node.
func paintedWith(g impl.Graph, q int64, colours []int64) int64 {
	if !slices.ContainsFunc(colours, func(colour int64) bool { return colour < 0 }) {
		return 1
	}
	node, sum := slices.Index(colours, -1), int64(0)
	for _, colour := range freeIn(g, q, colours, int64(node)) {
		next := slices.Clone(colours)
		next[node] = colour
		sum += paintedWith(g, q, next)
	}
	return sum
}

// TestPolynomialOfMore looks at more colours than there can be elsewhere, and at
// the signs.
func TestPolynomialOfMore(t *testing.T) {
	r := rand.New(rand.NewSource(511))
	negative := 0
	for _, g := range someGraphs(r, 10) {
		polynomial, _ := impl.ColourPolynomial(g)
		same(t, "length", int64(len(polynomial)), g.Nodes+1)
		same(t, "the highest one", polynomial[g.Nodes], int64(1))
		same(t, "the next one", polynomial[g.Nodes-1], -int64(len(g.Edges)))
		same(t, "the lowest one", polynomial[0], int64(0))
		for power, coefficient := range polynomial {
			isOdd := (g.Nodes-int64(power))%2 == 1
			if isOdd && coefficient > 0 || !isOdd && coefficient < 0 {
				t.Error("a wrong sign", g, polynomial)
			}
			if coefficient < 0 {
				negative++
			}
		}
		for q := int64(5); q <= 6; q++ {
			same(t, "value", valueAt(polynomial, q), paintedWith(g, q, slices.Repeat([]int64{-1}, int(g.Nodes))))
		}
	}
	if negative < 50 {
		t.Error("too few negative coefficients", negative)
	}
}

func TestIsColouring(t *testing.T) {
	r := rand.New(rand.NewSource(512))
	kinds := map[bool]int{}
	for _, g := range someGraphs(r, 10) {
		for q := int64(1); q <= impl.MaxColours; q++ {
			for _, list := range listsOf(g.Nodes, 0, q-1) {
				is, got := impl.IsColouring(g, q, list)
				if is != isColoured(g, list) || got != impl.OK {
					t.Error("IsColouring", g, q, list, is, got)
				}
				kinds[is]++
			}
		}
	}
	if kinds[true] < 1000 || kinds[false] < 1000 {
		t.Error("too few of one kind", kinds)
	}
}

// randomPart returns a part: of a colouring, if there is one, or of any list.
func randomPart(r *rand.Rand, g impl.Graph, q int64) []int64 {
	lists := listsOf(g.Nodes, 0, q-1)
	if colourings := colouringsIn(g, q); len(colourings) > 0 && r.Intn(3) > 0 {
		lists = colourings
	}
	part, keep := slices.Clone(lists[r.Intn(len(lists))]), r.Intn(11)
	for node := range part {
		if r.Intn(10) >= keep {
			part[node] = -1
		}
	}
	return part
}

func TestColouringsOf(t *testing.T) {
	r := rand.New(rand.NewSource(513))
	kinds := map[string]int{}
	for _, g := range someGraphs(r, 100) {
		for q := int64(1); q <= impl.MaxColours; q++ {
			all := colouringsIn(g, q)
			for range 6 {
				part := randomPart(r, g, q)
				want := slices.DeleteFunc(slices.Clone(all), func(list []int64) bool { return !has(list, part) })
				list, got := impl.ColouringsOf(g, q, part)
				if len(want) > impl.MaxListed {
					code(t, "too many", impl.ErrLimit, list, got)
				} else {
					same(t, "colourings", append([][]int64{}, list...), want)
					same(t, "code", got, int64(impl.OK))
				}
				for name, is := range map[string]bool{
					"too many": len(want) > impl.MaxListed, "none": len(want) == 0, "one": len(want) == 1, "many": len(want) > 50,
					"nowhere": !slices.Contains(part, -1), "everywhere": len(slices.Compact(slices.Clone(part))) == 1 && part[0] == -1,
				} {
					if is {
						kinds[name]++
					}
				}
			}
		}
	}
	for _, kind := range []string{"too many", "none", "one", "many", "nowhere", "everywhere"} {
		if kinds[kind] < 10 {
			t.Error("too few of one kind", kinds)
		}
	}
}

func TestPartEdges(t *testing.T) {
	for _, one := range []struct {
		text string
		q    int64
		part []int64
		want string
	}{
		{exampleGraph, 3, []int64{0, -1, 0}, "0 1 0; 0 2 0"},
		{exampleGraph, 3, []int64{0, -1, 1}, "0 2 1"},
		{exampleGraph, 2, []int64{-1, -1, -1}, "0 1 0; 1 0 1"},
		{exampleGraph, 2, []int64{0, -1, 1}, ""},
		{exampleGraph, 2, []int64{1, 0, 1}, "1 0 1"},
		{exampleGraph, 2, []int64{0, 0, 1}, ""},
		{exampleGraph, 2, []int64{-1, 1, 1}, ""},
		{exampleGraph, 2, []int64{1, 1, -1}, ""},
		{exampleGraph, 1, []int64{-1, -1, -1}, ""},
		{exampleGraph, 1, []int64{0, 0, 0}, ""},
		{"graph 3\n", 1, []int64{-1, -1, -1}, "0 0 0"},
		{"graph 3\n", 1, []int64{0, 0, 0}, "0 0 0"},
		{"graph 1\n", 4, []int64{-1}, "0; 1; 2; 3"},
		{"graph 1\n", 4, []int64{3}, "3"},
		{"graph 2\n", 2, []int64{-1, -1}, "0 0; 0 1; 1 0; 1 1"},
		{"graph 2\n", 3, []int64{-1, 1}, "0 1; 1 1; 2 1"},
		{triangleAndOne, 3, []int64{2, -1, -1, 1}, "2 0 1 1; 2 1 0 1"},
		{allOfFive, 4, []int64{-1, -1, -1, -1, -1}, ""},
		{allOfFive, 4, []int64{0, 1, 2, 3, 3}, ""},
	} {
		g := readGraph(t, one.text)
		list, got := impl.ColouringsOf(g, one.q, one.part)
		same(t, one.text, numberTexts(list), one.want)
		same(t, "code", got, int64(impl.OK))
	}
}

// TestListedLimit looks at how many colourings there are at most for a list: no
// graph has from 257 to 287 of them, so that there is none with just MaxListed.
func TestListedLimit(t *testing.T) {
	least, most := int64(math.MaxInt64), int64(0)
	for _, g := range everyGraph() {
		for q := int64(1); q <= impl.MaxColours; q++ {
			blank := slices.Repeat([]int64{-1}, int(g.Nodes))
			count, _ := impl.CountColourings(g, q)
			list, got := impl.ColouringsOf(g, q, blank)
			can, canGot := impl.CanRecolour(g, q)
			if count > impl.MaxListed {
				least = min(least, count)
				code(t, "too many", impl.ErrLimit, list, got)
				code(t, "too many", impl.ErrLimit, can, canGot)
				continue
			}
			most = max(most, count)
			same(t, "all", int64(len(list)), count)
			same(t, "codes", []int64{got, canGot}, make([]int64, 2))
		}
	}
	same(t, "the numbers next to the limit", []int64{most, least}, []int64{256, 288})
	five := impl.Graph{Nodes: 5}
	for node := range five.Nodes {
		part := slices.Repeat([]int64{-1}, 5)
		list, got := impl.ColouringsOf(five, 4, part)
		code(t, "too many", impl.ErrLimit, list, got)
		part[node] = 3
		list, got = impl.ColouringsOf(five, 4, part)
		same(t, "a part of them", len(list), 256)
		same(t, "code", got, int64(impl.OK))
	}
}

func TestEdgeRatio(t *testing.T) {
	r := rand.New(rand.NewSource(514))
	none, nothing := 0, 0
	for _, g := range someGraphs(r, 150) {
		for q := int64(1); q <= impl.MaxColours; q++ {
			for i := range g.Edges {
				before := len(colouringsIn(impl.Graph{Nodes: g.Nodes, Edges: g.Edges[:i]}, q))
				behind := len(colouringsIn(impl.Graph{Nodes: g.Nodes, Edges: g.Edges[:i+1]}, q))
				x, got := impl.EdgeRatio(g, q, int64(i))
				if before == 0 {
					code(t, "nothing to divide by", impl.ErrState, x, got)
					none++
					continue
				}
				isFraction(t, "ratio", big.NewRat(int64(behind), int64(before)), x, got)
				if behind == 0 {
					nothing++
				}
			}
		}
	}
	if none < 100 || nothing < 100 {
		t.Error("too few of one kind", none, nothing)
	}
}

func TestRatioEdges(t *testing.T) {
	for _, one := range []struct {
		text string
		q, i int64
		want string
	}{
		{"graph 2\nedge 0 1\n", 1, 0, "0"}, {"graph 2\nedge 0 1\n", 2, 0, "1/2"}, {"graph 2\nedge 0 1\n", 4, 0, "3/4"}, {exampleGraph, 1, 0, "0"}, {exampleGraph, 1, 1, "state"},
		{exampleGraph, 2, 1, "1/2"}, {exampleGraph, 3, 2, "range"}, {exampleGraph, 3, -1, "range"}, {exampleGraph, 1, 2, "range"}, {allOfFive, 4, 0, "3/4"}, {allOfFive, 4, 9, "0"},
		{allOfFive, 4, 8, "1/2"}, {allOfFive, 4, 10, "range"}, {allOfFive, 3, 9, "state"}, {allOfFive, 1, 9, "state"}, {circleOfFive, 2, 4, "0"}, {circleOfFive, 3, 4, "5/8"},
		{triangleAndOne, 3, 2, "1/2"}, {triangleAndOne, 2, 2, "0"},
	} {
		x, got := impl.EdgeRatio(readGraph(t, one.text), one.q, one.i)
		hasOne(t, one.text, one.want, x, got)
	}
	for _, g := range append(everyGraph()[:20], impl.Graph{Nodes: 5}) {
		for _, i := range []int64{-1, int64(len(g.Edges)), int64(len(g.Edges)) + 1, math.MaxInt64, math.MinInt64} {
			for q := int64(1); q <= impl.MaxColours; q++ {
				x, got := impl.EdgeRatio(g, q, i)
				code(t, "no such edge", impl.ErrRange, x, got)
			}
		}
	}
}

// TestColourChances counts those of all colourings with a part.
func TestColourChances(t *testing.T) {
	r := rand.New(rand.NewSource(515))
	none, fixed := 0, 0
	for _, g := range someGraphs(r, 60) {
		for q := int64(1); q <= impl.MaxColours; q++ {
			all := colouringsIn(g, q)
			for range 3 {
				part, node := randomPart(r, g, q), r.Int63n(g.Nodes)
				counts, sum := make([]int64, q), int64(0)
				for _, list := range all {
					if has(list, part) {
						counts[list[node]]++
						sum++
					}
				}
				chances, got := impl.ColourChances(g, q, part, node)
				if sum == 0 {
					code(t, "no colouring", impl.ErrState, chances, got)
					none++
					continue
				}
				want := []*big.Rat{}
				for _, count := range counts {
					want = append(want, big.NewRat(count, sum))
				}
				isFractions(t, "chances", want, chances, got)
				if part[node] != -1 {
					same(t, "the colour of the part", chances[part[node]], frac("1"))
					fixed++
				}
			}
		}
	}
	if none < 50 || fixed < 50 {
		t.Error("too few of one kind", none, fixed)
	}
}

func TestChanceEdges(t *testing.T) {
	for _, one := range []struct {
		text string
		q    int64
		part []int64
		node int64
		want string
	}{
		{"graph 1\n", 1, []int64{-1}, 0, "1"},
		{"graph 1\n", 4, []int64{-1}, 0, "1/4 1/4 1/4 1/4"},
		{"graph 1\n", 4, []int64{2}, 0, "0 0 1 0"},
		{"graph 5\n", 4, []int64{-1, -1, -1, -1, -1}, 4, "1/4 1/4 1/4 1/4"},
		{"graph 5\n", 3, []int64{0, 1, 2, 0, -1}, 4, "1/3 1/3 1/3"},
		{exampleGraph, 3, []int64{0, -1, -1}, 2, "1/2 1/4 1/4"},
		{exampleGraph, 3, []int64{0, -1, -1}, 1, "0 1/2 1/2"},
		{exampleGraph, 3, []int64{0, -1, 1}, 1, "0 0 1"},
		{exampleGraph, 2, []int64{0, -1, -1}, 2, "1 0"},
		{exampleGraph, 2, []int64{0, -1, 1}, 1, "state"},
		{exampleGraph, 2, []int64{0, 0, 1}, 2, "state"},
		{exampleGraph, 1, []int64{-1, -1, -1}, 0, "state"},
		{exampleGraph, 4, []int64{1, 0, 1}, 0, "0 1 0 0"},
		{allOfFive, 4, []int64{-1, -1, -1, -1, -1}, 0, "state"},
	} {
		chances, got := impl.ColourChances(readGraph(t, one.text), one.q, one.part, one.node)
		hasRow(t, one.text, one.want, chances, got)
	}
}

// colouringCall is a function of the colourings of a graph, which may be given a
// list of colours, or a part, and a node. The last result is the code.
type colouringCall struct {
	name             string
	least            int64
	hasList, hasNode bool
	call             func(g impl.Graph, q int64, list []int64, node int64) []any
}

// colouringCalls returns all functions of the section that are given colours.
func colouringCalls() []colouringCall {
	of := func(results ...any) []any { return results }
	zeros := func(g impl.Graph) []int64 { return make([]int64, max(0, min(g.Nodes, 9))) }
	return []colouringCall{
		{"IsColouring", 0, true, false, func(g impl.Graph, q int64, list []int64, _ int64) []any { return of(impl.IsColouring(g, q, list)) }},
		{"CountColourings", 0, false, false, func(g impl.Graph, q int64, _ []int64, _ int64) []any { return of(impl.CountColourings(g, q)) }},
		{"ColouringsOf", -1, true, false, func(g impl.Graph, q int64, list []int64, _ int64) []any { return of(impl.ColouringsOf(g, q, list)) }},
		{"FreeColours", 0, true, true, func(g impl.Graph, q int64, list []int64, node int64) []any {
			return of(impl.FreeColours(g, q, list, node))
		}},
		{"Recolour", 0, true, true, func(g impl.Graph, q int64, list []int64, node int64) []any {
			return of(impl.Recolour(g, q, list, node, 0))
		}},
		{"Recolour, no draw", 0, true, true, func(g impl.Graph, q int64, list []int64, node int64) []any {
			return of(impl.Recolour(g, q, list, node, -1))
		}},
		{"RecolourChance from", 0, true, false, func(g impl.Graph, q int64, list []int64, _ int64) []any {
			return of(impl.RecolourChance(g, q, list, zeros(g)))
		}},
		{"RecolourChance to", 0, true, false, func(g impl.Graph, q int64, list []int64, _ int64) []any {
			return of(impl.RecolourChance(g, q, zeros(g), list))
		}},
		{"SpreadOfColourings", 0, true, false, func(g impl.Graph, q int64, list []int64, _ int64) []any {
			return of(impl.SpreadOfColourings(g, q, list, 1))
		}},
		{"SpreadOfColourings, no steps", 0, true, false, func(g impl.Graph, q int64, list []int64, _ int64) []any {
			return of(impl.SpreadOfColourings(g, q, list, -1))
		}},
		{"CanRecolour", 0, false, false, func(g impl.Graph, q int64, _ []int64, _ int64) []any { return of(impl.CanRecolour(g, q)) }},
		{"ColourChances", -1, true, true, func(g impl.Graph, q int64, list []int64, node int64) []any {
			return of(impl.ColourChances(g, q, list, node))
		}},
		{"CountByChances", 0, false, false, func(g impl.Graph, q int64, _ []int64, _ int64) []any { return of(impl.CountByChances(g, q)) }},
		{"EdgeRatio", 0, false, false, func(g impl.Graph, q int64, _ []int64, node int64) []any { return of(impl.EdgeRatio(g, q, node)) }},
	}
}

// TestColouringErrors has one argument that is wrong, and others that are wrong in
// a way that is found out later.
func TestColouringErrors(t *testing.T) {
	graphs := []impl.Graph{{Nodes: 1}, {Nodes: 5}, readGraph(t, exampleGraph), readGraph(t, allOfFive)}
	numbers := append(badNumbersOfColours(), 1, 2, 4)
	for _, one := range colouringCalls() {
		for name, bad := range invalidGraphs() {
			for _, q := range numbers {
				for _, list := range [][]int64{nil, {0}, {-2}, {0, 1}, {0, 1, 2}, {0, 1, 0, 1, 4}, make([]int64, 6)} {
					for _, node := range []int64{-1, 0, 1} {
						code(t, one.name+": "+name, impl.ErrInvalid, one.call(bad, q, list, node)...)
					}
				}
			}
		}
		for _, g := range graphs {
			good := make([]int64, g.Nodes)
			for _, q := range badNumbersOfColours() {
				for _, list := range append(badColours(g.Nodes, one.least, 2), good) {
					for _, node := range []int64{-1, 0, g.Nodes} {
						code(t, one.name+": number of colours", impl.ErrRange, one.call(g, q, list, node)...)
					}
				}
			}
			for q := int64(1); q <= impl.MaxColours; q++ {
				for _, list := range badColours(g.Nodes, one.least, q) {
					for _, node := range append(badNodes(g.Nodes), 0) {
						if one.hasList {
							code(t, one.name+": no colours", impl.ErrRange, one.call(g, q, list, node)...)
						}
					}
				}
				for _, node := range badNodes(g.Nodes) {
					if one.hasNode {
						code(t, one.name+": no node", impl.ErrRange, one.call(g, q, good, node)...)
					}
				}
			}
		}
	}
}
