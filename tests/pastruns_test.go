package tests

import (
	"math/big"
	"math/rand"
	"slices"
	"testing"

	"loop.example/g01118/impl"
)

// The tests of this file are about promise 12: runs from the past and forward.

// pastEnd returns where the maps of the last k times lead all states, and
// whether this is one state. The first pick is the map of the last time.
func pastEnd(m impl.Maps, picks []int64, k int) (int64, bool) {
	last := slices.Clone(picks[:k])
	slices.Reverse(last)
	to := applied(m, last)
	return to[0], areOne(to)
}

// isRun fails the test unless a function has returned the first one of some
// numbers k for which end finds a state, and this state.
func isRun(t *testing.T, name string, numbers []int, end func(k int) (int64, bool), s, k, got int64) {
	t.Helper()
	for _, number := range numbers {
		if want, found := end(number); found {
			same(t, name, []int64{s, k, got}, []int64{want, int64(number), impl.OK})
			return
		}
	}
	code(t, name, impl.ErrNotFound, s, k, got)
}

// upTo returns the numbers from 0 to most.
func upTo(most int) []int {
	list := []int{}
	for k := range most + 1 {
		list = append(list, k)
	}
	return list
}

// windowsIn returns 0 and the windows that have at most so many picks.
func windowsIn(most int) []int {
	list := []int{0}
	for k := 1; k <= most; k *= 2 {
		list = append(list, k)
	}
	return list
}

func TestRuns(t *testing.T) {
	r := rand.New(rand.NewSource(231))
	found := map[string]int{}
	for _, m := range mapsOfAllKinds(r, 500) {
		for _, count := range []int{0, 1, 2, 3, 4, r.Intn(16), r.Intn(impl.MaxPicks + 1)} {
			picks := randomPicks(r, m, count)
			past := func(k int) (int64, bool) { return pastEnd(m, picks, k) }
			s, k, got := impl.PastRun(m, picks)
			isRun(t, "PastRun", upTo(count), past, s, k, got)
			u, window, windowGot := impl.WindowRun(m, picks)
			isRun(t, "WindowRun", windowsIn(count), past, u, window, windowGot)
			forward := func(k int) (int64, bool) {
				to := applied(m, picks[:k])
				return to[0], areOne(to)
			}
			v, first, forwardGot := impl.ForwardRun(m, picks)
			isRun(t, "ForwardRun", upTo(count), forward, v, first, forwardGot)
			if windowGot == impl.OK {
				same(t, "the same state", []int64{u, got}, []int64{s, impl.OK})
				same(t, "not later", k <= window, true)
				found["window"]++
			} else if got == impl.OK {
				found["past alone"]++
			}
			if forwardGot == impl.OK && (v != s || first != k) {
				found["forward elsewhere"]++
			}
		}
	}
	if found["window"] < 500 || found["past alone"] < 20 || found["forward elsewhere"] < 100 {
		t.Error("too few of one kind", found)
	}
}

// TestRunsGoOn has more picks behind those that were enough: they do not matter
// for a run from the past, which has come to the same state.
func TestRunsGoOn(t *testing.T) {
	r := rand.New(rand.NewSource(232))
	longer := 0
	for _, m := range mapsOfAllKinds(r, 200) {
		picks := randomPicks(r, m, 40)
		s, k, got := impl.PastRun(m, picks)
		if got != impl.OK {
			continue
		}
		for count := range 41 {
			u, at, gotThen := impl.PastRun(m, picks[:count])
			if int64(count) < k {
				code(t, "too few", impl.ErrNotFound, u, at, gotThen)
			} else {
				same(t, "enough", []int64{u, at, gotThen}, []int64{s, k, impl.OK})
				longer++
			}
		}
	}
	if longer < 1000 {
		t.Error("too few that are enough", longer)
	}
}

// chancesOfRuns returns, for each state, the chance of the picks of some length
// by which a run leads to it.
func chancesOfRuns(t *testing.T, m impl.Maps, length int, run func(impl.Maps, []int64) (int64, int64, int64)) []*big.Rat {
	t.Helper()
	chances := zeros(m.States)
	whole := new(big.Int).Exp(big.NewInt(m.Total), big.NewInt(int64(length)), nil)
	allPicks(m, length, func(picks []int64, weight int64) {
		s, k, got := run(m, picks)
		if got == impl.OK {
			chances[s].Add(chances[s], new(big.Rat).SetFrac(big.NewInt(weight), whole))
			return
		}
		code(t, "not found", impl.ErrNotFound, s, k, got)
	})
	return chances
}

// TestRunsByAllPicks compares the chances of all picks with PastChances and
// ForwardChances.
func TestRunsByAllPicks(t *testing.T) {
	r := rand.New(rand.NewSource(233))
	for range 80 {
		count := 1 + r.Int63n(4)
		m := randomMaps(r, 1+r.Int63n(impl.MaxStates), count, count+r.Int63n(6))
		for length := range 6 {
			past, got := impl.PastChances(m, int64(length))
			isFractions(t, "PastRun", chancesOfRuns(t, m, length, impl.PastRun), past, got)
			forward, got := impl.ForwardChances(m, int64(length))
			isFractions(t, "ForwardRun", chancesOfRuns(t, m, length, impl.ForwardRun), forward, got)
			window := 0
			for k := 1; k <= length; k *= 2 {
				window = k
			}
			past, got = impl.PastChances(m, int64(window))
			isFractions(t, "WindowRun", chancesOfRuns(t, m, length, impl.WindowRun), past, got)
		}
	}
}

// TestWindows has maps that need just so many picks: 1 leads all states to one,
// and 0 leaves them.
func TestWindows(t *testing.T) {
	m := readMaps(t, "maps 3 2\nmap 1 : 0 1 2\nmap 1 : 2 2 2\n")
	for need := 1; need <= impl.MaxPicks; need++ {
		window := 1
		for window < need {
			window *= 2
		}
		for _, count := range []int{need - 1, need, window - 1, window, window + 1, impl.MaxPicks} {
			if count < 0 || count > impl.MaxPicks {
				continue
			}
			picks := make([]int64, count)
			if count >= need {
				picks[need-1] = 1
			}
			s, k, got := impl.PastRun(m, picks)
			u, w, windowGot := impl.WindowRun(m, picks)
			if count >= need {
				same(t, "PastRun", []int64{s, k, got}, []int64{2, int64(need), impl.OK})
			} else {
				code(t, "PastRun", impl.ErrNotFound, s, k, got)
			}
			if count >= window {
				same(t, "WindowRun", []int64{u, w, windowGot}, []int64{2, int64(window), impl.OK})
			} else {
				code(t, "WindowRun", impl.ErrNotFound, u, w, windowGot)
			}
		}
	}
}

func TestRunEdges(t *testing.T) {
	const none = -1
	one, down, turn := "maps 1 3\nmap 1 : 0\nmap 2 : 0\n", "maps 4 2\nmap 1 : 0 0 1 2\nmap 1 : 1 2 3 3\n", "maps 2 2\nmap 1 : 1 0\nmap 1 : 0 1\n"
	mixed := "maps 3 2\nmap 1 : 1 1 1\nmap 1 : 1 2 0\n"
	// Each list has the state and k, for PastRun, WindowRun and ForwardRun.
	for _, x := range []struct {
		name, text string
		picks      []int64
		want       [3][2]int64
	}{
		{"one state, no picks", one, nil, [3][2]int64{{0, 0}, {0, 0}, {0, 0}}},
		{"one state", one, []int64{1, 0, 1}, [3][2]int64{{0, 0}, {0, 0}, {0, 0}}},
		{"no picks", down, nil, [3][2]int64{{none}, {none}, {none}}},
		{"two steps down", down, []int64{0, 0}, [3][2]int64{{none}, {none}, {none}}},
		{"three steps down", down, []int64{0, 0, 0}, [3][2]int64{{0, 3}, {none}, {0, 3}}},
		{"four steps down", down, []int64{0, 0, 0, 0}, [3][2]int64{{0, 3}, {0, 4}, {0, 3}}},
		{"up and down", down, []int64{0, 1, 1, 1}, [3][2]int64{{2, 4}, {2, 4}, {3, 4}}},
		{"down and up", down, []int64{1, 0, 0, 0, 1}, [3][2]int64{{1, 4}, {1, 4}, {0, 4}}},
		{"turning", turn, slices.Repeat([]int64{0, 1, 0}, 60), [3][2]int64{{none}, {none}, {none}}},
		{"the last map is enough", mixed, []int64{0, 1, 1, 1}, [3][2]int64{{1, 1}, {1, 1}, {1, 1}}},
		{"the map before it", mixed, []int64{1, 0, 1}, [3][2]int64{{2, 2}, {2, 2}, {1, 2}}},
		{"the third one", mixed, []int64{1, 1, 0}, [3][2]int64{{0, 3}, {none}, {1, 3}}},
		{"the third one of four", mixed, []int64{1, 1, 0, 1}, [3][2]int64{{0, 3}, {0, 4}, {1, 3}}},
		{"the fifth one", mixed, []int64{1, 1, 1, 1, 0, 0, 0, 0}, [3][2]int64{{2, 5}, {2, 8}, {1, 5}}},
	} {
		m := readMaps(t, x.text)
		for i, run := range []func(impl.Maps, []int64) (int64, int64, int64){impl.PastRun, impl.WindowRun, impl.ForwardRun} {
			s, k, got := run(m, x.picks)
			if x.want[i][0] == none {
				code(t, x.name, impl.ErrNotFound, s, k, got)
			} else {
				same(t, x.name, []int64{s, k, got}, []int64{x.want[i][0], x.want[i][1], impl.OK})
			}
		}
	}
}

// runCodesOf calls the runs, and checks their codes.
func runCodesOf(t *testing.T, name string, want int64, m impl.Maps, picks []int64) {
	t.Helper()
	for _, run := range []func(impl.Maps, []int64) (int64, int64, int64){impl.PastRun, impl.WindowRun, impl.ForwardRun} {
		s, k, got := run(m, picks)
		code(t, name, want, s, k, got)
	}
}

func TestRunErrors(t *testing.T) {
	for _, m := range []impl.Maps{readMaps(t, exampleMaps), readMaps(t, "maps 2 2\nmap 1 : 1 0\nmap 1 : 0 1\n"), readMaps(t, "maps 1 2\nmap 1 : 0\nmap 1 : 0\n")} {
		for _, picks := range badPicks(2) {
			runCodesOf(t, "no picks", impl.ErrRange, m, picks)
		}
	}
	// All picks are looked at, also those behind what is enough.
	runCodesOf(t, "enough", impl.ErrRange, readMaps(t, exampleMaps), []int64{0, 0, 0, 2})
	runCodesOf(t, "all picks", impl.OK, readMaps(t, exampleMaps), make([]int64, impl.MaxPicks))
	runCodesOf(t, "all picks", impl.ErrNotFound, readMaps(t, "maps 2 1\nmap 1 : 1 0\n"), make([]int64, impl.MaxPicks))
	for name, bad := range invalidMaps() {
		for _, picks := range append(badPicks(1), nil, []int64{0}) {
			runCodesOf(t, name, impl.ErrInvalid, bad, picks)
		}
	}
}
