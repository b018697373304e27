package tests

import (
	"fmt"
	"math/big"
	"math/rand"
	"slices"
	"testing"

	"loop.example/g01118/impl"
)

// The tests of this file are about promise 24: the chain whose states are the
// colourings of a graph that has few of them, looked at with all chapters.

// few is a graph with as many colourings as a chain has states, these, and the
// chain that makes a step from one to another.
type few struct {
	g         impl.Graph
	q         int64
	all       [][]int64
	c         impl.Chain
	connected bool
}

// fewOf returns this; the chance of a step is a number of parts, of which each
// node has twelve.
func fewOf(t *testing.T, g impl.Graph, q int64) few {
	t.Helper()
	all, got := impl.ColouringsOf(g, q, slices.Repeat([]int64{-1}, int(g.Nodes)))
	same(t, "code", got, int64(impl.OK))
	f := few{g: g, q: q, all: all, c: impl.Chain{States: int64(len(all)), Total: 12 * g.Nodes}}
	for _, from := range all {
		row := []int64{}
		for _, to := range all {
			x, got := impl.RecolourChance(g, q, from, to)
			same(t, "code", got, int64(impl.OK))
			parts := new(big.Rat).Mul(ratOf(x), big.NewRat(f.c.Total, 1))
			same(t, "whole parts", parts.IsInt(), true)
			row = append(row, parts.Num().Int64())
		}
		f.c.Weights = append(f.c.Weights, row)
	}
	f.connected, got = impl.CanRecolour(g, q)
	same(t, "code", got, int64(impl.OK))
	return f
}

// allFew returns those of all graphs.
func allFew(t *testing.T) []few {
	t.Helper()
	list := []few{}
	for _, g := range everyGraph() {
		for q := int64(1); q <= impl.MaxColours; q++ {
			count, got := impl.CountColourings(g, q)
			same(t, "code", got, int64(impl.OK))
			if 1 <= count && count <= impl.MaxStates {
				list = append(list, fewOf(t, g, q))
			}
		}
	}
	return list
}

// someFew returns a sample of those with each number of colourings, connected and
// not.
func someFew(t *testing.T, seed int64, most int) []few {
	t.Helper()
	list, counts := []few{}, map[string]int{}
	all := allFew(t)
	for _, i := range rand.New(rand.NewSource(seed)).Perm(len(all)) {
		kind := fmt.Sprint(all[i].c.States, all[i].connected)
		if counts[kind]++; counts[kind] <= most {
			list = append(list, all[i])
		}
	}
	sawAll(t, counts, "1 true", "2 true", "2 false", "3 true", "4 true", "4 false", "6 true", "6 false")
	return list
}

func sureOf(t *testing.T, c impl.Chain, s int64) []impl.Fraction {
	t.Helper()
	p, got := impl.SureSpread(c.States, s)
	same(t, "code", got, int64(impl.OK))
	return p
}

// TestFewAreEven has all of them.
func TestFewAreEven(t *testing.T) {
	for _, f := range allFew(t) {
		same(t, "valid", impl.ValidChain(f.c), true)
		isEven, got := impl.IsEven(f.c)
		same(t, "even", []any{isEven, got}, []any{true, int64(impl.OK)})
		even, _ := impl.EvenSpread(f.c.States)
		stays, got := impl.IsStationary(f.c, even)
		same(t, "stays even", []any{stays, got}, []any{true, int64(impl.OK)})
		connected, _ := impl.IsConnected(f.c)
		same(t, "connected", connected, f.connected)
		again, got := impl.ReadChain(impl.ChainText(f.c))
		same(t, "read again", []any{impl.SameChain(again, f.c), got}, []any{true, int64(impl.OK)})
		for s := range f.c.States {
			for u := range f.c.States {
				same(t, "there and back", f.c.Weights[s][u], f.c.Weights[u][s])
			}
		}
	}
}

// TestFewInTheLongRun compares the steps of both chapters, and what comes of them
// in the long run.
func TestFewInTheLongRun(t *testing.T) {
	r := rand.New(rand.NewSource(661))
	for _, f := range someFew(t, 1, 12) {
		even, _ := impl.EvenSpread(f.c.States)
		s, steps := r.Int63n(f.c.States), r.Int63n(impl.MaxSteps+1)
		after, got := impl.SpreadAfter(f.c, sureOf(t, f.c, s), steps)
		same(t, "code", got, int64(impl.OK))
		colourings, got := impl.SpreadOfColourings(f.g, f.q, f.all[s], steps)
		same(t, "the same steps", colourings, after)
		same(t, "code", got, int64(impl.OK))
		stationary, got := impl.StationarySpread(f.c)
		if !f.connected {
			code(t, "several classes", impl.ErrState, stationary, got)
			long, got := impl.LongSpread(f.c, even)
			same(t, "even for ever", []any{long, got}, []any{even, int64(impl.OK)})
			continue
		}
		same(t, "stationary", []any{stationary, got}, []any{even, int64(impl.OK)})
		reversible, got := impl.IsReversible(f.c)
		same(t, "reversible", []any{reversible, got}, []any{true, int64(impl.OK)})
		period, got := impl.PeriodOf(f.c)
		same(t, "period", []int64{period, got}, []int64{1, impl.OK})
		back, got := impl.ReturnTime(f.c, s)
		isFraction(t, "return", big.NewRat(f.c.States, 1), back, got)
		trees, got := impl.TreeWeights(f.c)
		same(t, "code", got, int64(impl.OK))
		same(t, "as many trees", trees, slices.Repeat(trees[:1], int(f.c.States)))
		stops, got := impl.StrongStops(f.c, sureOf(t, f.c, s), 3)
		if got == impl.OK {
			left, _ := impl.LeftOver(f.c, sureOf(t, f.c, s), stops)
			later, _ := impl.SpreadAfter(f.c, sureOf(t, f.c, s), 2)
			separation, got := impl.SeparationOf(later, even)
			isFraction(t, "left over", sumFractions(left), separation, got)
		}
	}
}

// TestFewCouple couples two of them in all ways.
func TestFewCouple(t *testing.T) {
	r := rand.New(rand.NewSource(662))
	coupled := 0
	for _, f := range someFew(t, 2, 6) {
		if f.c.States > impl.MaxMet {
			m, got := impl.BestCoupled(f.c)
			code(t, "too many", impl.ErrLimit, m, got)
			continue
		}
		apart, got := impl.ApartCoupled(f.c)
		same(t, "code", got, int64(impl.OK))
		best, got := impl.BestCoupled(f.c)
		same(t, "code", got, int64(impl.OK))
		stair, got := impl.StairCoupled(f.c)
		same(t, "code", got, int64(impl.OK))
		sticky, got := impl.StickyCoupled(f.c, apart)
		same(t, "code", got, int64(impl.OK))
		s, u, steps := r.Int63n(f.c.States), r.Int63n(f.c.States), r.Int63n(impl.MaxSteps+1)
		for _, m := range []impl.Coupled{apart, best, stair, sticky} {
			same(t, "valid", impl.ValidCoupled(f.c, m), true)
			notMet, got := impl.NotMetAfter(f.c, m, s, u, steps)
			same(t, "code", got, int64(impl.OK))
			distance, got := impl.RowDistance(f.c, s, u, steps)
			same(t, "code", got, int64(impl.OK))
			same(t, "not farther", ratOf(distance).Cmp(ratOf(notMet)) <= 0, true)
			coupled++
		}
		first, _ := impl.NotMetAfter(f.c, best, s, u, 1)
		distance, _ := impl.RowDistance(f.c, s, u, 1)
		same(t, "as near as can be", first, distance)
		// Each step may stay, so that two runs of one class meet at last.
		meets, got := impl.SurelyMeets(f.c, apart, s, u)
		reached, _ := impl.CanReach(f.c, s)
		same(t, "meets", []any{meets, got}, []any{slices.Contains(reached, u), int64(impl.OK)})
	}
	if coupled < 40 {
		t.Error("too few", coupled)
	}
}

// TestFewRoads has a road between colourings that differ at one node.
func TestFewRoads(t *testing.T) {
	for _, f := range someFew(t, 3, 6) {
		roads := []impl.Road{}
		for s := range f.c.States {
			for u := range s {
				if len(differing(f.all[s], f.all[u])) == 1 {
					roads = append(roads, impl.Road{A: u, B: s, Length: 1})
				}
			}
		}
		lengths, got := impl.RoadLengths(f.c.States, roads)
		if !f.connected {
			code(t, "not connected", impl.ErrState, lengths, got)
			continue
		}
		same(t, "code", got, int64(impl.OK))
		for _, steps := range []int64{0, 1, 2, 7, impl.MaxSteps} {
			bound, got := impl.RoadBound(f.c, roads, steps)
			same(t, "code", got, int64(impl.OK))
			worst, got := impl.WorstDistance(f.c, steps)
			same(t, "code", got, int64(impl.OK))
			same(t, "bounded", ratOf(worst).Cmp(ratOf(bound)) <= 0, true)
		}
		if f.c.States > 1 {
			paths, got := impl.PathsOf(f.c)
			same(t, "code", got, int64(impl.OK))
			congestion, _, got := impl.CongestionOf(f.c, paths)
			same(t, "code", got, int64(impl.OK))
			values := sureOf(t, f.c, 0)
			variance, _ := impl.VarianceOf(f.c, values)
			form, _ := impl.FormOf(f.c, values)
			same(t, "flows", ratOf(variance).Cmp(new(big.Rat).Mul(ratOf(congestion), ratOf(form))) <= 0, true)
		}
	}
}

// mapsByNodes returns the maps of all nodes and parts: the node gets one of its
// free colours, each one for as many parts.
func (f few) mapsByNodes(t *testing.T) impl.Maps {
	t.Helper()
	m := impl.Maps{States: f.c.States, Total: f.c.Total}
	for node := range f.g.Nodes {
		for part := range int64(12) {
			to := []int64{}
			for _, colours := range f.all {
				free, _ := impl.FreeColours(f.g, f.q, colours, node)
				next, got := impl.Recolour(f.g, f.q, colours, node, part*int64(len(free))/12)
				same(t, "code", got, int64(impl.OK))
				isNext := func(other []int64) bool { return slices.Equal(other, next) }
				to = append(to, int64(slices.IndexFunc(f.all, isNext)))
			}
			m.List = append(m.List, impl.Map{Weight: 1, To: to})
		}
	}
	return m
}

// TestFewOutOfThePast lets all go on together, by the draws of the chain and by
// nodes that get colours.
func TestFewOutOfThePast(t *testing.T) {
	r := rand.New(rand.NewSource(663))
	kinds := map[bool]int{}
	for _, f := range someFew(t, 4, 5) {
		byDraws, got := impl.MapsByDraws(f.c)
		same(t, "code", got, int64(impl.OK))
		chance := big.NewRat(1, f.c.States)
		for _, m := range []impl.Maps{byDraws, f.mapsByNodes(t)} {
			are, got := impl.AreMapsOf(f.c, m)
			same(t, "maps", []any{are, got}, []any{true, int64(impl.OK)})
			can, got := impl.CanCoalesce(m)
			same(t, "code", got, int64(impl.OK))
			same(t, "only if connected", can && !f.connected, false)
			kinds[can]++
			steps := r.Int63n(impl.MaxSteps + 1)
			past, got := impl.PastChances(m, steps)
			same(t, "code", got, int64(impl.OK))
			for _, x := range past {
				same(t, "not too often", ratOf(x).Cmp(chance) <= 0, true)
			}
			coalesced, got := impl.CoalescedAfter(m, steps)
			isFraction(t, "all", sumFractions(past), coalesced, got)
			picks := randomPicks(r, m, impl.MaxPicks)
			s, _, got := impl.PastRun(m, picks)
			u, _, windowGot := impl.WindowRun(m, picks)
			same(t, "the same state", windowGot != impl.OK || u == s && got == impl.OK, true)
			same(t, "only if they can", got == impl.OK && !can, false)
		}
	}
	if kinds[true] < 20 || kinds[false] < 5 {
		t.Error("too few of one kind", kinds)
	}
}

// TestFewWindows has windows of all draws, and some of many.
func TestFewWindows(t *testing.T) {
	r := rand.New(rand.NewSource(664))
	even := 0
	for _, f := range someFew(t, 5, 2) {
		m, _ := impl.MapsByDraws(f.c)
		for length := range int64(3) {
			past, got := impl.PastChances(m, length)
			isFractions(t, "shares", allWindows(t, f.c, length), past, got)
		}
		const count = 2000
		met, counts := 0, make([]int, f.c.States)
		for range count {
			draws := []int64{}
			for range impl.MaxWindow {
				draws = append(draws, r.Int63n(f.c.Total))
			}
			if isMet, s, _ := impl.WindowByDraws(f.c, draws); isMet {
				counts[s]++
				met++
			}
		}
		same(t, "only if connected", met > 0 && !f.connected, false)
		coalesced, _ := impl.CoalescedAfter(m, impl.MaxSteps)
		if lacking := less(big.NewRat(1, 1), ratOf(coalesced)); lacking.Cmp(big.NewRat(1, 1000)) > 0 {
			continue
		}
		even++
		for _, one := range counts {
			if want := count / len(counts); one < want*3/4 || one > want*5/4 {
				t.Error("not even", f, counts)
			}
		}
	}
	if even < 5 {
		t.Error("too few that surely meet", even)
	}
}

// TestFewServed lets a service hand them out.
func TestFewServed(t *testing.T) {
	r := rand.New(rand.NewSource(665))
	kinds := map[string]int{}
	for _, f := range someFew(t, 6, 5) {
		v := impl.Service{Chain: f.c, Base: r.Int63n(impl.MaxSeed - impl.MaxSamples), Samples: 1 + r.Int63n(impl.MaxSamples), Workers: 1 + r.Int63n(impl.MaxWorkers)}
		deeds, k := someDeeds(r, v, r.Intn(100))
		isFinished(t, v, deeds, k)
		plan, got := impl.FinishDeeds(v, nil)
		same(t, "code", got, int64(impl.OK))
		for _, s := range isHandedOut(t, v, plan) {
			if s == -2 {
				kinds["in vain"]++
				continue
			}
			kinds["found"]++
			same(t, "only if connected", f.connected, true)
			isColouring, got := impl.IsColouring(f.g, f.q, f.all[s])
			same(t, "a colouring", []any{isColouring, got}, []any{true, int64(impl.OK)})
		}
	}
	sawAll(t, kinds, "in vain", "found")
}
