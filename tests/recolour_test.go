package tests

import (
	"math"
	"math/big"
	"math/rand"
	"slices"
	"testing"

	"loop.example/g01118/impl"
)

// The tests of this file are about promise 18: free colours, and steps between
// colourings.

// TestFreeColours has lists that are colourings, and others.
func TestFreeColours(t *testing.T) {
	r := rand.New(rand.NewSource(521))
	none, proper := 0, 0
	for _, g := range someGraphs(r, 100) {
		for q := int64(1); q <= impl.MaxColours; q++ {
			lists := listsOf(g.Nodes, 0, q-1)
			for range 10 {
				list := lists[r.Intn(len(lists))]
				for node := range g.Nodes {
					free, got := impl.FreeColours(g, q, list, node)
					same(t, "free", free, freeIn(g, q, list, node))
					same(t, "code", got, int64(impl.OK))
					other := slices.Clone(list)
					other[node] = r.Int63n(q)
					again, got := impl.FreeColours(g, q, other, node)
					same(t, "its own colour", again, free)
					same(t, "code", got, int64(impl.OK))
					if len(free) == 0 {
						none++
					}
				}
				if isColoured(g, list) {
					proper++
				}
			}
		}
	}
	if none < 100 || proper < 100 {
		t.Error("too few of one kind", none, proper)
	}
}

func TestFreeEdges(t *testing.T) {
	for _, one := range []struct {
		text    string
		q       int64
		colours []int64
		node    int64
		want    []int64
	}{
		{"graph 1\n", 1, []int64{0}, 0, []int64{0}},
		{"graph 5\n", 4, []int64{0, 1, 2, 3, 0}, 2, []int64{0, 1, 2, 3}},
		{exampleGraph, 3, []int64{0, 1, 2}, 1, []int64{1}},
		{exampleGraph, 3, []int64{0, 2, 2}, 1, []int64{1}},
		{exampleGraph, 3, []int64{0, 0, 0}, 1, []int64{1, 2}},
		{exampleGraph, 3, []int64{0, 0, 0}, 0, []int64{1, 2}},
		{exampleGraph, 1, []int64{0, 0, 0}, 0, nil},
		{exampleGraph, 2, []int64{0, 0, 1}, 1, nil},
		{exampleGraph, 2, []int64{0, 1, 0}, 1, []int64{1}},
		{exampleGraph, 4, []int64{3, 0, 1}, 1, []int64{0, 2}},
		{allOfFive, 4, []int64{0, 1, 2, 3, 0}, 4, nil},
		{allOfFive, 4, []int64{0, 1, 2, 3, 0}, 0, nil},
		{allOfFive, 4, []int64{0, 1, 2, 0, 0}, 1, []int64{1, 3}},
		{triangleAndOne, 3, []int64{0, 1, 2, 2}, 0, []int64{0}},
		{triangleAndOne, 3, []int64{0, 1, 2, 2}, 3, []int64{0, 1, 2}},
	} {
		free, got := impl.FreeColours(readGraph(t, one.text), one.q, one.colours, one.node)
		same(t, one.text, free, one.want)
		same(t, "code", got, int64(impl.OK))
	}
}

// TestRecolour has all nodes of some colourings, and all draws.
func TestRecolour(t *testing.T) {
	r := rand.New(rand.NewSource(522))
	only := 0
	for _, g := range someGraphs(r, 100) {
		for q := int64(1); q <= impl.MaxColours; q++ {
			lists := listsOf(g.Nodes, 0, q-1)
			if colourings := colouringsIn(g, q); len(colourings) > 0 && r.Intn(5) > 0 {
				lists = colourings
			}
			list := lists[r.Intn(len(lists))]
			for node := range g.Nodes {
				free := freeIn(g, q, list, node)
				for draw := int64(-1); draw <= int64(len(free)); draw++ {
					next, got := impl.Recolour(g, q, list, node, draw)
					switch {
					case !isColoured(g, list):
						code(t, "no colouring", impl.ErrState, next, got)
					case draw < 0 || draw >= int64(len(free)):
						code(t, "no draw", impl.ErrRange, next, got)
					default:
						want := slices.Clone(list)
						want[node] = free[draw]
						same(t, "recoloured", next, want)
						same(t, "code", got, int64(impl.OK))
						same(t, "a colouring", isColoured(g, next), true)
					}
				}
				if isColoured(g, list) && len(free) == 1 {
					same(t, "its own colour", free[0], list[node])
					only++
				}
			}
		}
	}
	if only < 100 {
		t.Error("too few nodes without another free colour", only)
	}
}

func TestRecolourEdges(t *testing.T) {
	for _, one := range []struct {
		text       string
		q          int64
		colours    []int64
		node, draw int64
		want       string
	}{
		{exampleGraph, 3, []int64{0, 1, 0}, 0, 1, "2 1 0"},
		{exampleGraph, 3, []int64{0, 1, 0}, 0, 0, "0 1 0"},
		{exampleGraph, 3, []int64{0, 1, 0}, 0, 2, "range"},
		{exampleGraph, 3, []int64{0, 1, 0}, 1, 1, "0 2 0"},
		{exampleGraph, 3, []int64{0, 1, 2}, 1, 0, "0 1 2"},
		{exampleGraph, 3, []int64{0, 1, 2}, 1, 1, "range"},
		{exampleGraph, 3, []int64{0, 1, 0}, 0, -1, "range"},
		{exampleGraph, 3, []int64{0, 1, 0}, 0, math.MaxInt64, "range"},
		{exampleGraph, 3, []int64{0, 1, 0}, 0, math.MinInt64, "range"},
		{exampleGraph, 3, []int64{0, 0, 1}, 0, 0, "state"},
		{exampleGraph, 3, []int64{0, 0, 1}, 0, -1, "state"},
		{exampleGraph, 3, []int64{0, 0, 1}, 2, 9, "state"},
		{exampleGraph, 3, []int64{0, 0, 1}, 3, 0, "range"},
		{exampleGraph, 1, []int64{0, 0, 0}, 0, 0, "state"},
		{"graph 1\n", 1, []int64{0}, 0, 0, "0"},
		{"graph 1\n", 1, []int64{0}, 0, 1, "range"},
		{"graph 1\n", 4, []int64{0}, 0, 3, "3"},
		{"graph 5\n", 4, []int64{1, 1, 1, 1, 1}, 4, 3, "1 1 1 1 3"},
		{"graph 5\n", 4, []int64{1, 1, 1, 1, 1}, 4, 4, "range"},
	} {
		next, got := impl.Recolour(readGraph(t, one.text), one.q, one.colours, one.node, one.draw)
		if got != impl.OK {
			code(t, one.text, got, next, got)
			same(t, one.text, impl.CodeName(got), one.want)
			continue
		}
		same(t, one.text, numberTexts([][]int64{next}), one.want)
	}
}

// TestRecolourChance has all pairs of colourings of some graphs.
func TestRecolourChance(t *testing.T) {
	r := rand.New(rand.NewSource(523))
	kinds := map[int]int{}
	for _, g := range someGraphs(r, 6) {
		for q := int64(1); q <= impl.MaxColours; q++ {
			all := colouringsIn(g, q)
			if len(all) > 100 {
				r.Shuffle(len(all), func(i, j int) { all[i], all[j] = all[j], all[i] })
				all = all[:30]
			}
			for _, from := range all {
				for _, to := range all {
					x, got := impl.RecolourChance(g, q, from, to)
					isFraction(t, "chance", recolouredIn(g, q, from, to), x, got)
					back, got := impl.RecolourChance(g, q, to, from)
					same(t, "there and back", back, x)
					same(t, "code", got, int64(impl.OK))
					places := len(differing(from, to))
					same(t, "a step", x != frac("0"), places < 2)
					kinds[places]++
				}
			}
		}
	}
	for places := range 6 {
		if kinds[places] < 10 {
			t.Error("too few that differ like this", kinds)
		}
	}
}

// TestRecolourAsDrawn counts the nodes and draws by which Recolour leads to each
// colouring.
func TestRecolourAsDrawn(t *testing.T) {
	r := rand.New(rand.NewSource(524))
	for _, g := range someGraphs(r, 20) {
		q := 1 + r.Int63n(impl.MaxColours)
		all := colouringsIn(g, q)
		if len(all) == 0 {
			continue
		}
		from, sums := all[r.Intn(len(all))], map[string]*big.Rat{}
		for node := range g.Nodes {
			free, _ := impl.FreeColours(g, q, from, node)
			for draw := range int64(len(free)) {
				to, _ := impl.Recolour(g, q, from, node, draw)
				name := numberTexts([][]int64{to})
				if sums[name] == nil {
					sums[name] = new(big.Rat)
				}
				sums[name].Add(sums[name], big.NewRat(1, g.Nodes*int64(len(free))))
			}
		}
		after, _ := impl.SpreadOfColourings(g, q, from, 1)
		for i, to := range all {
			want := sums[numberTexts([][]int64{to})]
			if want == nil {
				want = new(big.Rat)
			}
			x, got := impl.RecolourChance(g, q, from, to)
			isFraction(t, "chance", want, x, got)
			if len(all) <= impl.MaxListed {
				same(t, "after a step", after[i], x)
			}
		}
	}
}

func TestRecolourChanceEdges(t *testing.T) {
	for _, one := range []struct {
		text     string
		q        int64
		from, to []int64
		want     string
	}{
		{exampleGraph, 3, []int64{0, 1, 0}, []int64{2, 1, 0}, "1/6"},
		{exampleGraph, 3, []int64{0, 1, 0}, []int64{0, 1, 0}, "1/2"},
		{exampleGraph, 3, []int64{0, 1, 2}, []int64{0, 1, 2}, "2/3"},
		{exampleGraph, 3, []int64{0, 1, 0}, []int64{2, 1, 2}, "0"},
		{exampleGraph, 3, []int64{0, 1, 0}, []int64{1, 0, 1}, "0"},
		{exampleGraph, 2, []int64{0, 1, 0}, []int64{0, 1, 0}, "1"},
		{exampleGraph, 2, []int64{0, 1, 0}, []int64{1, 0, 1}, "0"},
		{exampleGraph, 3, []int64{0, 0, 1}, []int64{0, 1, 0}, "state"},
		{exampleGraph, 3, []int64{0, 1, 0}, []int64{0, 1, 1}, "state"},
		{exampleGraph, 3, []int64{0, 0, 0}, []int64{0, 0, 0}, "state"},
		{exampleGraph, 1, []int64{0, 0, 0}, []int64{0, 0, 0}, "state"},
		{exampleGraph, 3, []int64{0, 0, 1}, []int64{0, 1, 3}, "range"},
		{exampleGraph, 3, []int64{0, 1}, []int64{0, 0, 1}, "range"},
		{"graph 1\n", 1, []int64{0}, []int64{0}, "1"},
		{"graph 1\n", 4, []int64{0}, []int64{3}, "1/4"},
		{"graph 1\n", 4, []int64{2}, []int64{2}, "1/4"},
		{"graph 5\n", 4, []int64{0, 0, 0, 0, 0}, []int64{0, 0, 0, 0, 3}, "1/20"},
		{"graph 5\n", 4, []int64{0, 1, 2, 3, 0}, []int64{0, 1, 2, 3, 0}, "1/4"},
		{"graph 5\n", 1, []int64{0, 0, 0, 0, 0}, []int64{0, 0, 0, 0, 0}, "1"},
	} {
		x, got := impl.RecolourChance(readGraph(t, one.text), one.q, one.from, one.to)
		hasOne(t, one.text, one.want, x, got)
	}
}

// spreadIn counts in how many ways steps lead to each colouring, each step having
// as many as 12 times the number of nodes.
func spreadIn(g impl.Graph, q int64, all [][]int64, from []int64, steps int64) []*big.Rat {
	ways, whole := make([]*big.Int, len(all)), big.NewInt(12*g.Nodes)
	single := make([][][2]int64, len(all))
	for i, list := range all {
		ways[i] = new(big.Int)
		if slices.Equal(list, from) {
			ways[i] = big.NewInt(1)
		}
		for j, to := range all {
			if x := recolouredIn(g, q, list, to); len(differing(list, to)) < 2 && x.Sign() > 0 {
				x.Mul(x, new(big.Rat).SetInt(whole))
				single[i] = append(single[i], [2]int64{int64(j), x.Num().Int64()})
			}
		}
	}
	for range steps {
		next := make([]*big.Int, len(all))
		for j := range next {
			next[j] = new(big.Int)
		}
		for i, count := range ways {
			for _, to := range single[i] {
				next[to[0]].Add(next[to[0]], new(big.Int).Mul(count, big.NewInt(to[1])))
			}
		}
		ways = next
	}
	chances := []*big.Rat{}
	for _, count := range ways {
		chances = append(chances, new(big.Rat).SetFrac(count, new(big.Int).Exp(whole, big.NewInt(steps), nil)))
	}
	return chances
}

func TestSpreadOfColourings(t *testing.T) {
	r := rand.New(rand.NewSource(525))
	kinds := map[string]int{}
	for _, g := range someGraphs(r, 40) {
		q := 1 + r.Int63n(impl.MaxColours)
		all, steps := colouringsIn(g, q), []int64{0, 1, 2, r.Int63n(impl.MaxSteps + 1), impl.MaxSteps}[r.Intn(5)]
		if len(all) == 0 || len(all) > 90 {
			continue
		}
		from := all[r.Intn(len(all))]
		want := spreadIn(g, q, all, from, steps)
		spread, got := impl.SpreadOfColourings(g, q, from, steps)
		isFractions(t, "spread", want, spread, got)
		same(t, "all", sumFractions(spread).RatString(), "1")
		can, _ := impl.CanRecolour(g, q)
		for name, is := range map[string]bool{
			"0 steps": steps == 0, "all steps": steps == impl.MaxSteps, "not everywhere": !can && steps == impl.MaxSteps && slices.Contains(spread, frac("0")),
			"everywhere": can && steps == impl.MaxSteps && !slices.Contains(spread, frac("0")), "one": len(all) == 1, "many": len(all) > 30,
		} {
			if is {
				kinds[name]++
			}
		}
	}
	for _, kind := range []string{"0 steps", "all steps", "not everywhere", "everywhere", "one", "many"} {
		if kinds[kind] == 0 {
			t.Error("none of one kind", kinds)
		}
	}
}

// TestLongestSpread has nearly as many colourings as can be, and as many steps.
func TestLongestSpread(t *testing.T) {
	for _, one := range []struct {
		text string
		q    int64
		want int
	}{{circleOfFive, 4, 240}, {"graph 4\n", 4, 256}, {"graph 5\n", 3, 243}} {
		g := readGraph(t, one.text)
		all := colouringsIn(g, one.q)
		same(t, "colourings", len(all), one.want)
		spread, got := impl.SpreadOfColourings(g, one.q, all[7], impl.MaxSteps)
		isFractions(t, "spread", spreadIn(g, one.q, all, all[7], impl.MaxSteps), spread, got)
	}
}

// TestStepsAreEven adds up the chances to come to each colouring from all of them.
func TestStepsAreEven(t *testing.T) {
	r := rand.New(rand.NewSource(526))
	for _, g := range someGraphs(r, 12) {
		for q := int64(1); q <= impl.MaxColours; q++ {
			all := colouringsIn(g, q)
			if len(all) > 100 {
				continue
			}
			sums, steps := zeros(int64(len(all))), 1+r.Int63n(3)
			for _, from := range all {
				spread, got := impl.SpreadOfColourings(g, q, from, steps)
				same(t, "code", got, int64(impl.OK))
				same(t, "as many", len(spread), len(all))
				sums = addRats(sums, ratsOf(spread))
			}
			for _, sum := range sums {
				same(t, "even", sum.RatString(), "1")
			}
		}
	}
}

func TestSpreadOfColouringsEdges(t *testing.T) {
	five := func(n int64) []int64 { return []int64{0, n, 0, 0, 0} }
	for _, one := range []struct {
		text  string
		q     int64
		from  []int64
		steps int64
		want  string
	}{
		{"graph 2\nedge 0 1\n", 3, []int64{0, 1}, 1, "1/2 1/4 0 0 0 1/4"},
		{"graph 2\nedge 0 1\n", 3, []int64{0, 1}, 0, "1 0 0 0 0 0"},
		{"graph 2\nedge 0 1\n", 2, []int64{0, 1}, impl.MaxSteps, "1 0"},
		{"graph 2\nedge 0 1\n", 2, []int64{1, 0}, impl.MaxSteps, "0 1"},
		{"graph 1\n", 1, []int64{0}, impl.MaxSteps, "1"},
		{"graph 1\n", 4, []int64{3}, 1, "1/4 1/4 1/4 1/4"},
		{"graph 1\n", 4, []int64{3}, 0, "0 0 0 1"},
		{"graph 1\n", 4, []int64{3}, impl.MaxSteps, "1/4 1/4 1/4 1/4"},
		{"graph 2\n", 2, []int64{0, 0}, 1, "1/2 1/4 1/4 0"},
		{"graph 2\n", 2, []int64{0, 0}, 2, "3/8 1/4 1/4 1/8"},
		{exampleGraph, 2, []int64{1, 0, 1}, 3, "0 1"},
		{exampleGraph, 3, []int64{0, 1, 0}, -1, "range"},
		{exampleGraph, 3, []int64{0, 1, 0}, impl.MaxSteps + 1, "range"},
		{exampleGraph, 3, []int64{0, 1, 0}, math.MaxInt64, "range"},
		{exampleGraph, 3, []int64{0, 1, 0}, math.MinInt64, "range"},
		{exampleGraph, 3, []int64{0, 0, 1}, 1, "state"},
		{exampleGraph, 3, []int64{0, 0, 1}, -1, "range"},
		{exampleGraph, 1, []int64{0, 0, 0}, 1, "state"},
		{"graph 5\nedge 0 1\n", 4, five(0), 1, "state"},
		{"graph 5\nedge 0 1\n", 4, five(0), -1, "range"},
		{"graph 5\nedge 0 1\n", 4, five(1), -1, "range"},
		{"graph 5\nedge 0 1\n", 4, five(1), 0, "limit"},
		{"graph 5\nedge 0 1\n", 4, five(1), impl.MaxSteps, "limit"},
		{"graph 5\n", 4, five(0), 1, "limit"},
		{allOfFive, 4, []int64{0, 1, 2, 3, 0}, 1, "state"},
	} {
		spread, got := impl.SpreadOfColourings(readGraph(t, one.text), one.q, one.from, one.steps)
		hasRow(t, one.text, one.want, spread, got)
	}
}

// isLinked reports whether all lists can be reached from the first one by changing
// one number after the other; so also if there are none.
func isLinked(all [][]int64) bool {
	found := make([]bool, len(all))
	for open := []int{0}; len(all) > 0 && len(open) > 0; open = open[1:] {
		found[open[0]] = true
		for i, list := range all {
			if !found[i] && len(differing(all[open[0]], list)) == 1 {
				found[i] = true
				open = append(open, i)
			}
		}
	}
	return !slices.Contains(found, false)
}

func TestCanRecolour(t *testing.T) {
	r := rand.New(rand.NewSource(527))
	kinds := map[bool]int{}
	for _, g := range someGraphs(r, 120) {
		for q := int64(1); q <= impl.MaxColours; q++ {
			all := colouringsIn(g, q)
			can, got := impl.CanRecolour(g, q)
			if len(all) > impl.MaxListed {
				code(t, "too many", impl.ErrLimit, can, got)
				continue
			}
			same(t, "can", can, isLinked(all))
			same(t, "code", got, int64(impl.OK))
			if len(all) > 1 {
				kinds[can]++
			}
		}
	}
	if kinds[true] < 30 || kinds[false] < 30 {
		t.Error("too few of one kind", kinds)
	}
}

func TestCanRecolourEdges(t *testing.T) {
	for _, one := range []struct {
		text string
		q    int64
		want bool
	}{
		{"graph 1\n", 1, true}, {"graph 1\n", 4, true}, {"graph 5\n", 1, true}, {"graph 5\n", 3, true}, {"graph 4\n", 4, true}, {"graph 2\nedge 0 1\n", 1, true}, {"graph 2\nedge 0 1\n", 2, false},
		{"graph 2\nedge 0 1\n", 3, true}, {exampleGraph, 1, true}, {exampleGraph, 2, false}, {exampleGraph, 3, true}, {triangleAndOne, 2, true}, {triangleAndOne, 3, false},
		{triangleAndOne, 4, true}, {circleOfFive, 2, true}, {circleOfFive, 3, false}, {circleOfFive, 4, true}, {allOfFive, 4, true},
		{"graph 4\nedge 0 1\nedge 0 2\nedge 0 3\nedge 1 2\nedge 1 3\nedge 2 3\n", 4, false},
	} {
		can, got := impl.CanRecolour(readGraph(t, one.text), one.q)
		same(t, one.text, can, one.want)
		same(t, "code", got, int64(impl.OK))
	}
}
