package tests

import (
	"math"
	"math/big"
	"math/rand"
	"slices"
	"testing"

	"loop.example/g01118/impl"
)

// The tests of this file are about promise 20: draws of seeds, windows, and the
// samples in which they meet.

// TestSamplerLimits has the numbers of the document.
func TestSamplerLimits(t *testing.T) {
	limits := []int64{
		impl.MaxSeed, impl.MaxWindow, impl.MaxLevels, impl.MaxSamples, impl.MaxWorkers, impl.MaxWire, impl.MaxDeeds, impl.MaxJournal,
		impl.MaxScriptText, impl.MaxScriptLines,
	}
	same(t, "limits", limits, []int64{1000000000, 64, 7, 8, 4, 12, 400, 20000, 20000, 120})
	kinds := []int64{
		impl.DdGive, impl.DdWork, impl.DdDeliver, impl.DdCopy, impl.DdDrop, impl.DdSync, impl.DdOut, impl.DdCrash, impl.DdTear, impl.DdQuit,
	}
	same(t, "deeds", kinds, []int64{1, 2, 3, 4, 5, 6, 7, 8, 9, 10})
	same(t, "records", []int64{impl.RcUp, impl.RcGot, impl.RcOut}, []int64{1, 2, 3})
}

func TestDrawsOf(t *testing.T) {
	r := rand.New(rand.NewSource(601))
	seeds := []int64{0, 1, 2, impl.MaxSeed - 1, impl.MaxSeed}
	for range 40 {
		seeds = append(seeds, r.Int63n(impl.MaxSeed+1))
	}
	for _, seed := range seeds {
		for _, total := range []int64{1, 2, 3, 10, 59, impl.MaxTotal, 1 + r.Int63n(impl.MaxTotal)} {
			want := drawsIn(seed, total, impl.MaxWindow)
			for _, count := range []int64{0, 1, 2, r.Int63n(impl.MaxWindow + 1), impl.MaxWindow - 1, impl.MaxWindow} {
				draws, got := impl.DrawsOf(seed, total, count)
				same(t, "draws", draws, want[:count])
				same(t, "code", got, int64(impl.OK))
			}
		}
	}
}

func TestDrawsOfEdges(t *testing.T) {
	for _, one := range []struct {
		seed, total, count int64
		want               string
	}{
		{1, 10, 3, "8 8 3"}, {0, 10, 5, "0 8 8 7 8"}, {0, 60, 3, "0 48 28"}, {0, 1, 4, "0 0 0 0"}, {7, 10, 0, ""}, {impl.MaxSeed, 60, 1, "36"},
		{impl.MaxSeed, 1, 2, "0 0"},
	} {
		draws, got := impl.DrawsOf(one.seed, one.total, one.count)
		same(t, "code", got, int64(impl.OK))
		same(t, "draws", numberTexts([][]int64{draws}), one.want)
		same(t, "known", draws, drawsIn(one.seed, one.total, int(one.count)))
	}
}

func TestDrawsOfErrors(t *testing.T) {
	for _, seed := range append(badSeeds(), 0, 5, impl.MaxSeed) {
		for _, total := range []int64{1, 7, impl.MaxTotal, 0, -1, impl.MaxTotal + 1, math.MaxInt64, math.MinInt64} {
			for _, count := range []int64{0, 3, impl.MaxWindow, -1, impl.MaxWindow + 1, math.MaxInt64, math.MinInt64} {
				want := int64(impl.OK)
				if slices.Contains(badSeeds(), seed) || total < 1 || total > 60 || count < 0 || count > 64 {
					want = impl.ErrRange
				}
				draws, got := impl.DrawsOf(seed, total, count)
				code(t, "DrawsOf", want, draws, got)
			}
		}
	}
}

// isWindow fails the test unless a window has met just if it should have.
func isWindow(t *testing.T, c impl.Chain, draws []int64) bool {
	t.Helper()
	want, state := metIn(c, draws)
	met, s, got := impl.WindowByDraws(c, draws)
	if met != want || s != state || got != impl.OK {
		t.Errorf("%v by %v: got %v, %d and the code %d, want %v, %d", c, draws, met, s, got, want, state)
	}
	return met
}

// TestWindowByDraws has windows of all lengths.
func TestWindowByDraws(t *testing.T) {
	r := rand.New(rand.NewSource(602))
	kinds := map[bool]int{}
	for range 300 {
		c := someChain(t, r)
		for _, count := range []int{0, 1, 2, 3, 4, r.Intn(impl.MaxWindow), impl.MaxWindow - 1, impl.MaxWindow} {
			kinds[isWindow(t, c, drawsIn(someSeed(r), c.Total, count))]++
		}
	}
	if kinds[true] < 500 || kinds[false] < 500 {
		t.Error("too few of one kind", kinds)
	}
}

// TestWindowsAreRuns compares with the runs of chapter 1 from all states.
func TestWindowsAreRuns(t *testing.T) {
	r := rand.New(rand.NewSource(603))
	for range 400 {
		c := someChain(t, r)
		draws, _ := impl.DrawsOf(someSeed(r), c.Total, r.Int63n(20))
		backwards, ends := slices.Clone(draws), []int64{}
		slices.Reverse(backwards)
		for s := range c.States {
			run, got := impl.RunByDraws(c, s, backwards)
			same(t, "code", got, int64(impl.OK))
			ends = append(ends, run[len(run)-1])
		}
		met, s, got := impl.WindowByDraws(c, draws)
		same(t, "code", got, int64(impl.OK))
		same(t, "met", met, areOne(ends))
		if met {
			same(t, "state", s, ends[0])
		}
	}
}

func TestWindowByDrawsEdges(t *testing.T) {
	longest := slices.Repeat([]int64{1}, impl.MaxWindow)
	for _, one := range []struct {
		text  string
		draws []int64
		met   bool
		state int64
	}{
		{fairCoin, []int64{0}, true, 0}, {fairCoin, []int64{1}, true, 1}, {fairCoin, nil, false, 0}, {fairCoin, []int64{0, 1}, true, 0}, {fairCoin, []int64{1, 0}, true, 1},
		{fairCoin, longest, true, 1}, {oneState, nil, true, 0}, {oneState, []int64{0}, true, 0}, {oneState, make([]int64, impl.MaxWindow), true, 0},
		{neverMeets, nil, false, 0}, {neverMeets, []int64{0}, false, 0}, {neverMeets, make([]int64, impl.MaxWindow), false, 0},
		{seldomMeets, []int64{0}, true, 0}, {seldomMeets, []int64{59}, true, 1}, {seldomMeets, []int64{1}, false, 0}, {seldomMeets, []int64{58}, false, 0},
		{seldomMeets, []int64{30, 59, 30, 0}, true, 1}, {seldomMeets, append(slices.Repeat([]int64{30}, impl.MaxWindow-1), 0), true, 0},
		{alongFive, []int64{0, 0, 0, 0}, true, 0}, {alongFive, []int64{2, 2, 1, 1}, true, 4}, {alongFive, []int64{1, 0, 0, 0, 0}, true, 1}, {alongFive, []int64{0, 0, 0, 0, 1}, true, 0},
		{alongFive, []int64{0, 0, 0}, false, 0}, {alongFive, longest, true, 4}, {"chain 1 60\nfrom 60\n", []int64{59}, true, 0},
		// The last draw is taken first: all go to 0 and then to 2, or to 2 at first.
		{"chain 3 2\nfrom 1 0 1\nfrom 1 1 0\nfrom 1 0 1\n", []int64{1, 0}, true, 2}, {"chain 3 2\nfrom 1 0 1\nfrom 1 1 0\nfrom 1 0 1\n", []int64{0, 1}, true, 0},
		{"chain 3 2\nfrom 1 0 1\nfrom 1 1 0\nfrom 1 0 1\n", []int64{1}, false, 0},
	} {
		met, s, got := impl.WindowByDraws(readChain(t, one.text), one.draws)
		same(t, one.text, []any{met, s, got}, []any{one.met, one.state, int64(impl.OK)})
	}
}

func TestWindowByDrawsErrors(t *testing.T) {
	for _, c := range chainsThatMeet(t) {
		lastBad := make([]int64, impl.MaxWindow)
		lastBad[impl.MaxWindow-1] = c.Total
		for _, draws := range [][]int64{
			{-1}, {c.Total}, {0, 0, c.Total, 0}, {0, -1}, {math.MaxInt64}, {math.MinInt64}, lastBad, make([]int64, impl.MaxWindow+1), make([]int64, 1000),
		} {
			met, s, got := impl.WindowByDraws(c, draws)
			code(t, "draws", impl.ErrRange, met, s, got)
		}
		met, s, got := impl.WindowByDraws(c, slices.Repeat([]int64{c.Total - 1}, impl.MaxWindow))
		code(t, "the last draw", impl.OK, met, s, got)
	}
	for name, c := range invalidChains() {
		for _, draws := range [][]int64{nil, {0}, {-1}, {math.MaxInt64}, make([]int64, 1000)} {
			met, s, got := impl.WindowByDraws(c, draws)
			code(t, name, impl.ErrInvalid, met, s, got)
		}
	}
}

// TestLongerWindows has more draws behind those with which a window has met: it
// has met in the same state.
func TestLongerWindows(t *testing.T) {
	r := rand.New(rand.NewSource(604))
	longer, late := 0, 0
	for range 300 {
		c := someChain(t, r)
		draws, _ := impl.DrawsOf(someSeed(r), c.Total, impl.MaxWindow)
		hasMet, state := false, int64(0)
		for count := range impl.MaxWindow + 1 {
			met, s, got := impl.WindowByDraws(c, draws[:count])
			same(t, "code", got, int64(impl.OK))
			if hasMet {
				same(t, "longer", []any{met, s}, []any{true, state})
				longer++
			}
			if met && !hasMet && count > 4 {
				late++
			}
			hasMet, state = met, s
		}
	}
	if longer < 5000 || late < 20 {
		t.Error("too few", longer, late)
	}
}

// allWindows counts, for each state, the windows of a length that meet in it.
func allWindows(t *testing.T, c impl.Chain, length int64) []*big.Rat {
	t.Helper()
	shares := zeros(c.States)
	windows := listsOf(length, 0, c.Total-1)
	if length == 0 {
		windows = [][]int64{nil}
	}
	for _, draws := range windows {
		if met, s, _ := impl.WindowByDraws(c, draws); met {
			shares[s].Add(shares[s], big.NewRat(1, int64(len(windows))))
		}
	}
	return shares
}

// TestNotTooOften looks at all windows of some lengths: their shares are those of
// the maps of all draws (chapter 5), and at most the stationary chances.
func TestNotTooOften(t *testing.T) {
	r := rand.New(rand.NewSource(605))
	most, total := map[int64]int64{1: 6, 2: 6, 3: 5, 4: 4, 5: 3, 6: 3}, new(big.Rat)
	for range 60 {
		c := randomChainOf(r, 1+r.Int63n(impl.MaxStates), 1+r.Int63n(6))
		m, _ := impl.MapsByDraws(c)
		stationary, stationaryGot := impl.StationarySpread(c)
		for length := range most[c.Total] + 1 {
			shares := allWindows(t, c, length)
			past, got := impl.PastChances(m, length)
			isFractions(t, "shares", shares, past, got)
			if stationaryGot != impl.OK {
				// Runs in different closed classes never meet.
				same(t, "none", sumOf(shares).Sign(), 0)
				continue
			}
			for s, share := range shares {
				same(t, "too often", share.Cmp(ratOf(stationary[s])) <= 0, true)
			}
			total.Add(total, sumOf(shares))
		}
	}
	if total.Cmp(big.NewRat(50, 1)) < 0 {
		t.Error("too few have met", total)
	}
}

func TestWindowOf(t *testing.T) {
	r := rand.New(rand.NewSource(606))
	kinds := map[bool]int{}
	for range 300 {
		c, seed := someChain(t, r), someSeed(r)
		for level := range int64(impl.MaxLevels) {
			want, state := windowIn(c, seed, level)
			met, s, got := impl.WindowOf(c, seed, level)
			same(t, "window", []any{met, s, got}, []any{want, state, int64(impl.OK)})
			draws, _ := impl.DrawsOf(seed, c.Total, 1<<level)
			met, s, got = impl.WindowByDraws(c, draws)
			same(t, "by draws", []any{met, s, got}, []any{want, state, int64(impl.OK)})
			kinds[met]++
		}
	}
	if kinds[true] < 500 || kinds[false] < 500 {
		t.Error("too few of one kind", kinds)
	}
}

// TestSampleOf has seeds for which windows meet at each level, and at none.
func TestSampleOf(t *testing.T) {
	r := rand.New(rand.NewSource(607))
	levels := map[int64]int{}
	for i := range int64(600) {
		c, seed := someChain(t, r), someSeed(r)
		if i < 200 {
			c, seed = readChain(t, seldomMeets), i
		}
		s, level, got := impl.SampleOf(c, seed)
		state, first := sampleIn(c, seed)
		levels[first]++
		if first == impl.MaxLevels {
			code(t, "none", impl.ErrNotFound, s, level, got)
			continue
		}
		same(t, "sample", []int64{s, level, got}, []int64{state, first, impl.OK})
		for at := range int64(impl.MaxLevels) {
			met, u, _ := impl.WindowOf(c, seed, at)
			same(t, "met", met, at >= first)
			same(t, "in the same state", !met || u == s, true)
		}
		m, _ := impl.MapsByDraws(c)
		draws, _ := impl.DrawsOf(seed, c.Total, impl.MaxWindow)
		u, k, got := impl.WindowRun(m, draws)
		if c.States > 1 {
			same(t, "a run by windows", []int64{u, k, got}, []int64{s, 1 << level, impl.OK})
		}
	}
	for level := range int64(impl.MaxLevels + 1) {
		if levels[level] < 5 {
			t.Error("too few of one level", levels)
		}
	}
}

func TestSampleOfEdges(t *testing.T) {
	for _, one := range []struct {
		text               string
		seed, state, level int64
		code               int64
	}{
		{fairCoin, 1, 0, 0, impl.OK}, {fairCoin, 0, 0, 0, impl.OK}, {fairCoin, impl.MaxSeed, 0, 0, impl.OK}, {fairCoin, 2, 0, 0, impl.OK}, {fairCoin, 3, 1, 0, impl.OK}, {oneState, 0, 0, 0, impl.OK},
		{oneState, impl.MaxSeed, 0, 0, impl.OK}, {neverMeets, 0, 0, 0, impl.ErrNotFound}, {neverMeets, impl.MaxSeed, 0, 0, impl.ErrNotFound},
		{seldomMeets, 0, 0, 0, impl.OK}, {"chain 2 3\nfrom 3 0\nfrom 0 3\n", 5, 0, 0, impl.ErrNotFound},
	} {
		s, level, got := impl.SampleOf(readChain(t, one.text), one.seed)
		same(t, one.text, []int64{s, level, got}, []int64{one.state, one.level, one.code})
	}
}

func TestWindowErrors(t *testing.T) {
	for _, c := range chainsThatMeet(t) {
		for _, seed := range append(badSeeds(), 0, impl.MaxSeed) {
			isBad := slices.Contains(badSeeds(), seed)
			for _, level := range append(badLevels(), 0, 3, impl.MaxLevels-1) {
				want := int64(impl.OK)
				if isBad || slices.Contains(badLevels(), level) {
					want = impl.ErrRange
				}
				met, s, got := impl.WindowOf(c, seed, level)
				code(t, "WindowOf", want, met, s, got)
			}
			if isBad {
				s, level, got := impl.SampleOf(c, seed)
				code(t, "SampleOf", impl.ErrRange, s, level, got)
			}
		}
	}
	for name, c := range invalidChains() {
		for _, seed := range append(badSeeds(), 0, 1) {
			for _, level := range append(badLevels(), 0, 1) {
				met, s, got := impl.WindowOf(c, seed, level)
				code(t, name, impl.ErrInvalid, met, s, got)
			}
			s, level, got := impl.SampleOf(c, seed)
			code(t, name, impl.ErrInvalid, s, level, got)
		}
	}
}
