package tests

import (
	"math/big"
	"math/rand"
	"slices"
	"testing"

	"loop.example/g01118/impl"
)

// The tests of this file are about promise 11: what comes out of the past, and
// what has coalesced.

// fewMaps returns maps of all kinds that do not lead to too many together.
func fewMaps(r *rand.Rand, count int) []impl.Maps {
	list := []impl.Maps{}
	for _, m := range mapsOfAllKinds(r, 2*count) {
		if (m.States <= 4 || len(m.List) <= 2) && len(list) < count {
			list = append(list, m)
		}
	}
	return list
}

func TestCanCoalesce(t *testing.T) {
	r := rand.New(rand.NewSource(221))
	kinds := map[bool]int{}
	for _, m := range mapsOfAllKinds(r, 800) {
		can, got := impl.CanCoalesce(m)
		same(t, impl.MapsText(m), can, canMeetAll(m))
		same(t, "code", got, int64(impl.OK))
		kinds[can]++
	}
	if kinds[true] < 200 || kinds[false] < 200 {
		t.Error("too few of one kind", kinds)
	}
}

// TestCanCoalesceLate has maps that need many picks: turning six states, and
// leading one of them to the next one, it takes 25.
func TestCanCoalesceLate(t *testing.T) {
	m := readMaps(t, "maps 6 2\nmap 1 : 1 2 3 4 5 0\nmap 1 : 0 1 2 3 4 0\n")
	can, got := impl.CanCoalesce(m)
	same(t, "late", can, true)
	same(t, "code", got, int64(impl.OK))
	for steps := int64(20); steps <= 30; steps++ {
		x, got := impl.CoalescedAfter(m, steps)
		same(t, "after 25 maps", x != frac("0"), steps >= 25)
		same(t, "code", got, int64(impl.OK))
	}
}

func TestCoalescedAfter(t *testing.T) {
	r := rand.New(rand.NewSource(222))
	for _, m := range fewMaps(r, 60) {
		all, last := noneComposed(m), new(big.Rat)
		for steps := range int64(impl.MaxSteps + 1) {
			if steps > 12 && steps < impl.MaxSteps-1 {
				all = all.later()
				continue
			}
			want := sumOf(all.ends())
			x, got := impl.CoalescedAfter(m, steps)
			isFraction(t, impl.MapsText(m), want, x, got)
			same(t, "never less", want.Cmp(last) >= 0, true)
			same(t, "one state only", steps == 0 && x == frac("1"), steps == 0 && m.States == 1)
			all, last = all.later(), want
		}
	}
}

func TestPastChances(t *testing.T) {
	r := rand.New(rand.NewSource(223))
	for _, m := range fewMaps(r, 60) {
		all, last := noneComposed(m), zeros(m.States)
		for steps := range int64(impl.MaxSteps + 1) {
			if steps > 12 && steps < impl.MaxSteps-1 {
				all = all.earlier()
				continue
			}
			want := all.ends()
			list, got := impl.PastChances(m, steps)
			isFractions(t, impl.MapsText(m), want, list, got)
			for s, x := range want {
				same(t, "never less", x.Cmp(last[s]) >= 0, true)
			}
			all, last = all.earlier(), want
		}
	}
}

// TestPastChancesAreStationary has the guarantee: no stationary spread has less,
// and what is lacking has not coalesced.
func TestPastChancesAreStationary(t *testing.T) {
	r := rand.New(rand.NewSource(224))
	several := 0
	for _, m := range mapsOfAllKinds(r, 120) {
		c, _ := impl.ChainOfMaps(m)
		steps := r.Int63n(impl.MaxSteps + 1)
		list, got := impl.PastChances(m, steps)
		same(t, "code", got, int64(impl.OK))
		x, _ := impl.CoalescedAfter(m, steps)
		same(t, "coalesced", sumFractions(list).Cmp(ratOf(x)), 0)
		closed, _ := impl.ClosedClasses(c)
		if len(closed) > 1 {
			several++
			same(t, "never coalesced", x, frac("0"))
		}
		for s := range c.States {
			sure, _ := impl.SureSpread(c.States, s)
			p, _ := impl.LongSpread(c, sure)
			isStationary, _ := impl.IsStationary(c, p)
			same(t, "stationary", isStationary, true)
			for u, chance := range p {
				same(t, "at most", ratOf(list[u]).Cmp(ratOf(chance)) <= 0, true)
			}
		}
	}
	if several < 10 {
		t.Error("too few chains with several closed classes", several)
	}
}

func TestForwardChances(t *testing.T) {
	r := rand.New(rand.NewSource(225))
	differ := 0
	for _, m := range fewMaps(r, 60) {
		rest, want := noneComposed(m), zeros(m.States)
		for steps := range int64(impl.MaxSteps + 1) {
			want = addRats(want, rest.ends())
			rest = rest.withoutEnds().later()
			if steps > 12 && steps < impl.MaxSteps-1 {
				continue
			}
			list, got := impl.ForwardChances(m, steps)
			isFractions(t, impl.MapsText(m), want, list, got)
			x, _ := impl.CoalescedAfter(m, steps)
			same(t, "coalesced", sumOf(want).Cmp(ratOf(x)), 0)
			past, _ := impl.PastChances(m, steps)
			if fracTexts(past) != fracTexts(list) {
				differ++
			}
		}
	}
	if differ < 40 {
		t.Error("too few differ from PastChances", differ)
	}
}

// TestPastAndForwardDiffer has maps by which all states are in the state 1 when
// they coalesce, though it has less than half of the stationary chance.
func TestPastAndForwardDiffer(t *testing.T) {
	m := readMaps(t, "maps 3 4\nmap 1 : 1 1 1\nmap 3 : 1 2 0\n")
	for _, one := range []struct {
		steps         int64
		past, forward string
	}{
		{0, "0 0 0", "0 0 0"}, {1, "0 1/4 0", "0 1/4 0"}, {2, "0 1/4 3/16", "0 7/16 0"}, {3, "9/64 1/4 3/16", "0 37/64 0"}, {4, "9/64 91/256 3/16", "0 175/256 0"},
	} {
		past, got := impl.PastChances(m, one.steps)
		same(t, "past", fracTexts(past), one.past)
		same(t, "code", got, int64(impl.OK))
		forward, got := impl.ForwardChances(m, one.steps)
		same(t, "forward", fracTexts(forward), one.forward)
		same(t, "code", got, int64(impl.OK))
	}
	c, _ := impl.ChainOfMaps(m)
	p, _ := impl.StationarySpread(c)
	same(t, "stationary", fracTexts(p), "9/37 16/37 12/37")
}

// imageTimes returns the expected number of maps until all states are one, by
// the equations of all lists of states that can come.
func imageTimes(m impl.Maps) *big.Rat {
	lists := [][]int64{stayingTo(m.States)}
	for i := 0; i < len(lists); i++ {
		for _, one := range m.List {
			if to := imageOf(lists[i], one.To); !slices.ContainsFunc(lists, func(list []int64) bool { return slices.Equal(list, to) }) {
				lists = append(lists, to)
			}
		}
	}
	c, ends := impl.Chain{States: int64(len(lists)), Total: m.Total}, []int64{}
	for i, list := range lists {
		row := make([]int64, len(lists))
		for _, one := range m.List {
			to := imageOf(list, one.To)
			row[slices.IndexFunc(lists, func(list []int64) bool { return slices.Equal(list, to) })] += one.Weight
		}
		c.Weights = append(c.Weights, row)
		if len(list) == 1 {
			ends = append(ends, int64(i))
		}
	}
	return timesTo(c, ends)[0]
}

// imageOf returns where a map leads a list of states, as such a list.
func imageOf(list, to []int64) []int64 {
	image := []int64{}
	for _, s := range list {
		image = append(image, to[s])
	}
	slices.Sort(image)
	return slices.Compact(image)
}

func TestExpectedCoalescence(t *testing.T) {
	r := rand.New(rand.NewSource(226))
	kinds := map[int64]int{}
	for _, m := range mapsOfAllKinds(r, 500) {
		x, got := impl.ExpectedCoalescence(m)
		kinds[got]++
		switch {
		case m.States > impl.MaxSolved:
			code(t, "many states", impl.ErrLimit, x, got)
		case !canMeetAll(m):
			code(t, "never", impl.ErrState, x, got)
		default:
			isFraction(t, impl.MapsText(m), imageTimes(m), x, got)
		}
	}
	if kinds[impl.OK] < 80 || kinds[impl.ErrLimit] < 80 || kinds[impl.ErrState] < 50 {
		t.Error("too few of one kind", kinds)
	}
}

// TestExpectedCoalescenceBySteps adds up the chances that maps are not coalesced
// behind each number of them: the expected number is what this sum comes to.
func TestExpectedCoalescenceBySteps(t *testing.T) {
	r := rand.New(rand.NewSource(227))
	for _, m := range fewMaps(r, 60) {
		time, got := impl.ExpectedCoalescence(m)
		if got != impl.OK {
			continue
		}
		one, sum, last := big.NewRat(1, 1), new(big.Rat), new(big.Rat)
		for steps := range int64(impl.MaxSteps) {
			x, _ := impl.CoalescedAfter(m, steps)
			last = less(one, ratOf(x))
			sum.Add(sum, last)
		}
		x, _ := impl.CoalescedAfter(m, impl.MaxSteps)
		rest, left := less(ratOf(time), sum), less(one, ratOf(x))
		// Behind these maps, what is left needs no longer than all states do.
		most := new(big.Rat).Mul(left, ratOf(time))
		same(t, "the rest", rest.Cmp(left) >= 0 && rest.Cmp(most) <= 0, true)
	}
}

func TestCoalescenceEdges(t *testing.T) {
	const never = "never"
	for _, one := range []struct {
		name, text string
		// The chances to be coalesced behind 0, 1, 2 and so on maps.
		chances []string
		time    string
	}{
		{"one state", "maps 1 7\nmap 7 : 0\n", []string{"1", "1", "1"}, "0"},
		{"one state, many maps", "maps 1 60\nmap 30 : 0\nmap 30 : 0\n", []string{"1", "1"}, "0"},
		{"at once", "maps 3 2\nmap 1 : 2 2 2\nmap 1 : 0 0 0\n", []string{"0", "1", "1"}, "1"},
		{"staying", "maps 2 1\nmap 1 : 0 1\n", []string{"0", "0", "0"}, never},
		{"turning", "maps 3 2\nmap 1 : 1 2 0\nmap 1 : 2 0 1\n", []string{"0", "0", "0"}, never},
		{"two of three", "maps 3 1\nmap 1 : 0 0 2\n", []string{"0", "0", "0"}, never},
		{"two ends", "maps 4 2\nmap 1 : 0 0 3 3\nmap 1 : 0 0 0 3\n", []string{"0", "0", "0"}, never},
		{"down", "maps 4 1\nmap 1 : 0 0 1 2\n", []string{"0", "0", "0", "1", "1"}, "3"},
		{"down or not", "maps 3 2\nmap 1 : 0 0 1\nmap 1 : 0 1 2\n", []string{"0", "0", "1/4", "1/2", "11/16"}, "4"},
		{"one in sixty", "maps 2 60\nmap 1 : 0 0\nmap 59 : 1 0\n", []string{"0", "1/60", "119/3600"}, "60"},
		{"equal maps", "maps 2 4\nmap 1 : 0 0\nmap 1 : 1 0\nmap 1 : 0 0\nmap 1 : 1 0\n", []string{"0", "1/2", "3/4"}, "2"},
	} {
		m := readMaps(t, one.text)
		for steps, want := range one.chances {
			x, got := impl.CoalescedAfter(m, int64(steps))
			isFraction(t, one.name, ratOf(frac(want)), x, got)
		}
		can, got := impl.CanCoalesce(m)
		same(t, one.name+": can", can, one.time != never)
		same(t, one.name+": code", got, int64(impl.OK))
		time, got := impl.ExpectedCoalescence(m)
		if one.time == never {
			code(t, one.name+": time", impl.ErrState, time, got)
		} else {
			isFraction(t, one.name+": time", ratOf(frac(one.time)), time, got)
		}
		for _, steps := range []int64{0, 1, impl.MaxSteps} {
			past, one := impl.PastChances(m, steps)
			forward, two := impl.ForwardChances(m, steps)
			same(t, "codes", []int64{one, two}, []int64{impl.OK, impl.OK})
			if m.States == 1 {
				same(t, "one state", fracTexts(past)+" "+fracTexts(forward), "1 1")
			} else if steps == 0 {
				same(t, "0 steps", slices.Concat(past, forward), slices.Repeat(fracs("0"), 2*int(m.States)))
			}
		}
	}
}

// stepCodes calls the functions that are given a number of steps, and checks
// their codes.
func stepCodes(t *testing.T, name string, want int64, m impl.Maps, steps int64) {
	t.Helper()
	x, got := impl.CoalescedAfter(m, steps)
	code(t, name+": CoalescedAfter", want, x, got)
	list, got := impl.PastChances(m, steps)
	code(t, name+": PastChances", want, list, got)
	list, got = impl.ForwardChances(m, steps)
	code(t, name+": ForwardChances", want, list, got)
}

func TestCoalescenceErrors(t *testing.T) {
	r := rand.New(rand.NewSource(228))
	for _, m := range []impl.Maps{readMaps(t, exampleMaps), readMaps(t, "maps 1 1\nmap 1 : 0\n"), readMaps(t, "maps 6 1\nmap 1 : 1 2 3 4 5 0\n")} {
		for _, steps := range noMapSteps() {
			stepCodes(t, "no steps", impl.ErrRange, m, steps)
		}
		for _, steps := range []int64{0, 1, impl.MaxSteps} {
			stepCodes(t, "steps", impl.OK, m, steps)
		}
	}
	for name, bad := range invalidMaps() {
		for _, steps := range append(noMapSteps(), 0, 1) {
			stepCodes(t, name, impl.ErrInvalid, bad, steps)
		}
		can, got := impl.CanCoalesce(bad)
		code(t, name, impl.ErrInvalid, can, got)
		x, got := impl.ExpectedCoalescence(bad)
		code(t, name, impl.ErrInvalid, x, got)
	}
	// ErrLimit comes before ErrState.
	for states := int64(1); states <= impl.MaxStates; states++ {
		turn := weighted(r, states, 2, [][]int64{randomTurn(r, states)})
		x, got := impl.ExpectedCoalescence(turn)
		switch {
		case states > impl.MaxSolved:
			code(t, "turning", impl.ErrLimit, x, got)
		case states > 1:
			code(t, "turning", impl.ErrState, x, got)
		default:
			code(t, "one state", impl.OK, x, got)
		}
		sure := weighted(r, states, 2, [][]int64{make([]int64, states)})
		x, got = impl.ExpectedCoalescence(sure)
		if states > impl.MaxSolved {
			code(t, "at once", impl.ErrLimit, x, got)
		} else {
			isFraction(t, "at once", big.NewRat(min(states-1, 1), 1), x, got)
		}
	}
}

// TestCoalescenceDigits has the greatest numbers of digits that can come: they
// are far from MaxDigits.
func TestCoalescenceDigits(t *testing.T) {
	m := readMaps(t, "maps 2 59\nmap 1 : 0 0\nmap 58 : 1 0\n")
	x, got := impl.CoalescedAfter(m, impl.MaxSteps)
	same(t, "code", got, int64(impl.OK))
	same(t, "long", len(x.Den), 71)
	r := rand.New(rand.NewSource(229))
	for range 5 {
		lists := [][]int64{make([]int64, impl.MaxStates)}
		for range 58 {
			lists = append(lists, nearTo(r, impl.MaxStates))
		}
		m := weighted(r, impl.MaxStates, 59, lists)
		list, one := impl.PastChances(m, impl.MaxSteps)
		more, two := impl.ForwardChances(m, impl.MaxSteps)
		same(t, "codes", []int64{one, two}, []int64{impl.OK, impl.OK})
		same(t, "sums", sumFractions(list).Cmp(sumFractions(more)), 0)
		lists = lists[:1]
		lists[0] = make([]int64, impl.MaxSolved)
		for range 40 {
			lists = append(lists, nearTo(r, impl.MaxSolved))
		}
		time, got := impl.ExpectedCoalescence(weighted(r, impl.MaxSolved, 59, lists))
		code(t, "ExpectedCoalescence", impl.OK, time, got)
		same(t, "long", len(time.Den) > 4, true)
	}
}

func TestExampleOfChapter5(t *testing.T) {
	m := readMaps(t, "maps 2 2\nmap 1 : 0 0\nmap 1 : 0 1\n")
	x, got := impl.CoalescedAfter(m, 2)
	isFraction(t, "CoalescedAfter", big.NewRat(3, 4), x, got)
	s, k, got := impl.PastRun(m, []int64{1, 0})
	same(t, "PastRun", []int64{s, k, got}, []int64{0, 2, impl.OK})
	list, got := impl.PastChances(m, 2)
	same(t, "PastChances", fracTexts(list), "3/4 0")
	same(t, "code", got, int64(impl.OK))
	list, got = impl.ForwardChances(m, 2)
	same(t, "ForwardChances", fracTexts(list), "3/4 0")
	same(t, "code", got, int64(impl.OK))
}
