package tests

import (
	"math/big"
	"math/rand"
	"slices"
	"testing"

	"loop.example/g01118/impl"
)

// The tests of this file are about promise 15: strong stops leave over the
// separation, and none leave over less.

// weakIn returns the first time and the least state with another quotient than
// the state 0, and whether there is one.
func weakIn(c impl.Chain, x taken) (time, s int64, found bool) {
	chances := balanceOf(c)
	for time, stopped := range x.stopped {
		quotients := sharesOf(stopped, chances)
		for s, quotient := range quotients {
			if quotient.Cmp(quotients[0]) != 0 {
				return int64(time), int64(s), true
			}
		}
	}
	return 0, 0, false
}

// isWeakAt fails the test unless IsStrong and FirstWeak tell what is known.
func isWeakAt(t *testing.T, name string, c impl.Chain, p []impl.Fraction, stops [][]impl.Fraction) bool {
	t.Helper()
	time, s, found := weakIn(c, takenByStops(c, p, stops))
	want := int64(impl.ErrNotFound)
	if found {
		want = impl.OK
	}
	isStrong, got := impl.IsStrong(c, p, stops)
	same(t, name+": strong", isStrong, !found)
	same(t, name+": code", got, int64(impl.OK))
	gotTime, gotState, got := impl.FirstWeak(c, p, stops)
	same(t, name+": weak", []int64{gotTime, gotState, got}, []int64{time, s, want})
	return found
}

// halfStrong returns strong stops that stop a part, from nothing to everything,
// of what they can.
func halfStrong(r *rand.Rand, c impl.Chain, p []impl.Fraction, times int64) ([][]impl.Fraction, int64) {
	return takenStrong(c, p, times, func() *big.Rat { return big.NewRat(r.Int63n(4), 3) }).stops()
}

func TestIsStrong(t *testing.T) {
	r := rand.New(rand.NewSource(411))
	kinds := map[string]int{}
	for _, c := range connectedAndRings(r, 600) {
		p, times := startOf(r, c.States), r.Int63n(impl.MaxTimes+1)
		isWeakAt(t, "any", c, p, randomStops(r, c.States, times))
		stops, got := halfStrong(r, c, p, times)
		if got != impl.OK {
			continue
		}
		same(t, "strong", isWeakAt(t, "strong", c, p, stops), false)
		kinds["strong"]++
		if times == 0 || c.States == 1 {
			continue
		}
		time, s := r.Int63n(times), r.Int63n(c.States)
		spoilt := copyStops(stops)
		spoilt[time][s] = randomStop(r, 2)
		if !isWeakAt(t, "spoilt", c, p, spoilt) {
			kinds["still strong"]++
			continue
		}
		kinds["spoilt"]++
		if s == 0 {
			kinds["spoilt at 0"]++
		}
		if time > 0 {
			kinds["spoilt later"]++
		}
	}
	for _, kind := range []string{"strong", "still strong", "spoilt", "spoilt at 0", "spoilt later"} {
		if kinds[kind] < 20 {
			t.Error("too few of one kind", kinds)
		}
	}
}

func copyStops(stops [][]impl.Fraction) [][]impl.Fraction {
	list := [][]impl.Fraction{}
	for _, row := range stops {
		list = append(list, slices.Clone(row))
	}
	return list
}

func TestStrongStops(t *testing.T) {
	r := rand.New(rand.NewSource(412))
	kinds := map[string]int{}
	for _, c := range connectedAndRings(r, 800) {
		p, times := startOf(r, c.States), r.Int63n(impl.MaxTimes+1)
		if r.Intn(5) == 0 {
			p = longStart(r, c.States, 5+r.Intn(40))
		}
		x := takenStrong(c, p, times, wholeShare)
		want, wantCode := x.stops()
		stops, got := impl.StrongStops(c, p, times)
		same(t, "stops", rowTexts(stops), rowTexts(want))
		same(t, "code", got, wantCode)
		if got != impl.OK {
			kinds["too long"]++
			continue
		}
		same(t, "times", int64(len(stops)), times)
		same(t, "valid", impl.ValidStops(c, stops), true)
		same(t, "strong", isWeakAt(t, "strong", c, p, stops), false)
		at, got := impl.StoppedAt(c, p, stops)
		isTable(t, "stopped", x.stopped, at, got)
		left, got := impl.LeftOver(c, p, stops)
		isFractions(t, "left", x.left, left, got)
		rest := sumFractions(left)
		switch {
		case times == 0:
			kinds["no times"]++
		case times == impl.MaxTimes:
			kinds["all times"]++
		case rest.Sign() == 0:
			kinds["nothing left"]++
			spread, got := impl.StopSpread(c, p, stops)
			isFractions(t, "stationary", balanceOf(c), spread, got)
		case isOne(rest):
			kinds["all left"]++
		default:
			kinds["some left"]++
		}
	}
	for _, kind := range []string{"too long", "no times", "all times", "nothing left", "all left", "some left"} {
		if kinds[kind] < 20 {
			t.Error("too few of one kind", kinds)
		}
	}
}

// TestStrongStopsLeaveSeparation looks at the stops up to each time.
func TestStrongStopsLeaveSeparation(t *testing.T) {
	r := rand.New(rand.NewSource(413))
	count := 0
	for _, c := range connectedAndRings(r, 300) {
		p := startOf(r, c.States)
		chances := balanceOf(c)
		stationary, _ := impl.StationarySpread(c)
		for times := int64(1); times <= impl.MaxTimes; times++ {
			stops, got := impl.StrongStops(c, p, times)
			if got != impl.OK {
				break
			}
			left, one := impl.LeftOver(c, p, stops)
			after, two := impl.SpreadAfter(c, p, times-1)
			separation, three := impl.SeparationOf(after, stationary)
			same(t, "separation", sumFractions(left).RatString(), impl.FractionText(separation))
			isFraction(t, "known separation", separationIn(ratsOf(after), chances), separation, three)
			same(t, "codes", []int64{one, two}, make([]int64, 2))
			if times > 1 {
				before, got := impl.StrongStops(c, p, times-1)
				same(t, "the first times", stops[:times-1], before)
				same(t, "code", got, int64(impl.OK))
			}
			count++
		}
	}
	if count < 1000 {
		t.Error("too few", count)
	}
}

// TestNoStrongStopsLeaveLess has strong stops of all kinds.
func TestNoStrongStopsLeaveLess(t *testing.T) {
	r := rand.New(rand.NewSource(414))
	kinds := map[int]int{}
	for _, c := range connectedAndRings(r, 400) {
		p, times := startOf(r, c.States), 1+r.Int63n(impl.MaxTimes)
		stops, got := halfStrong(r, c, p, times)
		if got != impl.OK {
			continue
		}
		isStrong, _ := impl.IsStrong(c, p, stops)
		same(t, "strong", isStrong, true)
		left, got := impl.LeftOver(c, p, stops)
		same(t, "code", got, int64(impl.OK))
		after, _ := impl.SpreadAfter(c, p, times-1)
		compared := sumFractions(left).Cmp(separationIn(ratsOf(after), balanceOf(c)))
		same(t, "not less", compared >= 0, true)
		kinds[compared]++
		if best, got := impl.StrongStops(c, p, times); got == impl.OK {
			least, _ := impl.LeftOver(c, p, best)
			same(t, "not less", sumFractions(left).Cmp(sumFractions(least)) >= 0, true)
		}
	}
	if kinds[0] < 50 || kinds[1] < 50 {
		t.Error("too few of one kind", kinds)
	}
}

func TestStrongEdges(t *testing.T) {
	const fourth = "chain 3 4\nfrom 2 2 0\nfrom 1 2 1\nfrom 0 2 2\n"
	for _, one := range []struct {
		name, text, p string
		times         int64
		want, left    string
	}{
		{"the example", exampleStops, "1 0", 3, "0 0; 0 0; 1/2 1", "1/4 0"},
		{"no times", exampleStops, "1 0", 0, "", "1 0"},
		{"stationary", exampleStops, "1/3 2/3", 1, "1 1", "0 0"},
		{"stationary, and nothing is there any more", exampleStops, "1/3 2/3", 3, "1 1; 0 0; 0 0", "0 0"},
		{"nothing is there any more, all times", exampleStops, "1/3 2/3", 8, "1 1; 0 0; 0 0; 0 0; 0 0; 0 0; 0 0; 0 0", "0 0"},
		{"it cannot be in one of them, ever", turnTwo, "1 0", 8, "0 0; 0 0; 0 0; 0 0; 0 0; 0 0; 0 0; 0 0", "0 1"},
		{"all in two steps", evenTwo, "1 0", 2, "0 0; 1 1", "0 0"},
		{"all in two steps, one more", evenTwo, "1 0", 3, "0 0; 1 1; 0 0", "0 0"},
		{"a part at once", evenTwo, "1/4 3/4", 1, "1 1/3", "0 1/2"},
		{"a part at once, and the rest", evenTwo, "1/4 3/4", 2, "1 1/3; 1 1", "0 0"},
		{"stopped in one of them for sure", turnTwo, "1/4 3/4", 2, "1 1/3; 0 0", "1/2 0"},
		{"one state", "chain 1 5\nfrom 5\n", "1", 2, "1; 0", "0"},
		{"far apart", fourth, "1 0 0", 3, "0 0 0; 0 0 0; 1/3 1/2 1", "1/4 1/4 0"},
		{"far apart, one more", fourth, "1 0 0", 4, "0 0 0; 0 0 0; 1/3 1/2 1; 1/3 1/2 1", "1/8 1/8 0"},
		{"from the middle", fourth, "0 1 0", 2, "0 0 0; 1 1 1", "0 0 0"},
		{"even", fourth, "1/3 1/3 1/3", 1, "1/2 1 1/2", "1/6 0 1/6"},
	} {
		c, p := readChain(t, one.text), rowsOf(one.p)[0]
		stops, got := impl.StrongStops(c, p, one.times)
		hasRows(t, one.name, one.want, stops, got)
		left, got := impl.LeftOver(c, p, stops)
		hasRow(t, one.name+": left", one.left, left, got)
	}
}

func TestWeakEdges(t *testing.T) {
	for _, one := range []struct {
		name, text, p, stops string
		time, s              int64
		want                 int64
	}{
		{"no times", exampleStops, "1 0", "", 0, 0, impl.ErrNotFound},
		{"never", exampleStops, "1 0", "0 0; 0 0", 0, 0, impl.ErrNotFound},
		{"chances where it cannot be", turnTwo, "1 0", "0 1; 1 0; 0 1/2", 0, 0, impl.ErrNotFound},
		{"at once, stationary", exampleStops, "1/3 2/3", "1 1", 0, 0, impl.ErrNotFound},
		{"a part, stationary", exampleStops, "1/3 2/3", "1/7 1/7; 2/5 2/5", 0, 0, impl.ErrNotFound},
		{"at once, not stationary", exampleStops, "1/2 1/2", "1 1", 0, 1, impl.OK},
		{"only in 0", exampleStops, "1 0", "1 0", 0, 1, impl.OK},
		{"at the time 1", exampleStops, "1 0", "0 1; 0 1", 1, 1, impl.OK},
		{"behind strong ones", exampleStops, "1/3 2/3", "1/2 1/2; 1/2 1/2; 1/2 1/3", 2, 1, impl.OK},
		{"before strong ones", exampleStops, "1/3 2/3", "1/2 1/3; 0 0", 0, 1, impl.OK},
		{"only in the last state", exampleCuts, "1/4 1/2 1/4", "1/2 1/2 1/3", 0, 2, impl.OK},
		{"only in 0, of three", exampleCuts, "1/4 1/2 1/4", "0 0 0; 1/2 1/3 1/3", 1, 1, impl.OK},
		{"the same chances to be stopped", exampleCuts, "1/4 1/2 1/4", "1 1/2 1", 0, 1, impl.OK},
		{"nothing is there any more", exampleCuts, "1/4 1/2 1/4", "1 1 1; 1 0 0; 0 1/2 1", 0, 0, impl.ErrNotFound},
		{"one state", "chain 1 5\nfrom 5\n", "1", "1/2; 1/3; 0; 1", 0, 0, impl.ErrNotFound},
	} {
		c, p, stops := readChain(t, one.text), rowsOf(one.p)[0], rowsOf(one.stops)
		time, s, got := impl.FirstWeak(c, p, stops)
		same(t, one.name, []int64{time, s, got}, []int64{one.time, one.s, one.want})
		isStrong, got := impl.IsStrong(c, p, stops)
		same(t, one.name+": strong", isStrong, one.want == impl.ErrNotFound)
		same(t, one.name+": code", got, int64(impl.OK))
		isWeakAt(t, one.name, c, p, stops)
	}
}

// TestStrongDigits has stops with just as many digits as they can have, and one
// more.
func TestStrongDigits(t *testing.T) {
	c := readChain(t, evenTwo)
	for _, one := range []struct {
		name  string
		p     []impl.Fraction
		times int64
		want  string
	}{
		{"30 digits", longSpread(31), 2, "1 1/" + nines(30) + "; 1 1"},
		{"31 digits", longSpread(32), 2, "limit"},
		{"31 digits, no times", longSpread(32), 0, ""},
		{"300 digits", longSpread(300), 8, "limit"},
		{"300 digits, no times", longSpread(300), 0, ""},
	} {
		stops, got := impl.StrongStops(c, one.p, one.times)
		hasRows(t, one.name, one.want, stops, got)
	}
	// The digits are those of the stops, not those of what is stopped.
	stops, got := impl.StrongStops(readChain(t, turnTwo), longSpread(300), 0)
	hasRows(t, "no times", "", stops, got)
	stops, got = impl.StrongStops(readChain(t, "chain 2 60\nfrom 59 1\nfrom 1 59\n"), fracs("1", "0"), 8)
	same(t, "code", got, int64(impl.OK))
	same(t, "times", len(stops), 8)
}

func TestStrongErrors(t *testing.T) {
	connected, ends, p := walkOn(3, 2, 1), readChain(t, twoEnds), fracs("1/3", "1/3", "1/3")
	for _, n := range append(badTimes(), 0, 1, impl.MaxTimes) {
		for name, bad := range invalidChains() {
			for _, q := range append(spreadsOfOthers(), p, nil) {
				stops, got := impl.StrongStops(bad, q, n)
				code(t, name, impl.ErrInvalid, stops, got)
			}
		}
		for _, c := range []impl.Chain{connected, ends} {
			for _, q := range invalidSpreads() {
				stops, got := impl.StrongStops(c, q, n)
				code(t, "no spread", impl.ErrInvalid, stops, got)
			}
			for _, q := range spreadsOfOthers() {
				stops, got := impl.StrongStops(c, q, n)
				code(t, "over other states", impl.ErrRange, stops, got)
			}
		}
	}
	r := rand.New(rand.NewSource(415))
	for _, n := range badTimes() {
		for _, c := range []impl.Chain{connected, ends} {
			for _, q := range [][]impl.Fraction{p, longStart(r, 3, 300)} {
				stops, got := impl.StrongStops(c, q, n)
				code(t, "times", impl.ErrRange, stops, got)
			}
		}
	}
	for _, c := range parted(t) {
		for times := range int64(impl.MaxTimes + 1) {
			for _, q := range [][]impl.Fraction{startOf(r, c.States), longStart(r, c.States, 300)} {
				stops, got := impl.StrongStops(c, q, times)
				code(t, "not connected", impl.ErrState, stops, got)
				given := randomStops(r, c.States, times)
				isStrong, got := impl.IsStrong(c, q, given)
				code(t, "not connected", impl.ErrState, isStrong, got)
				time, s, got := impl.FirstWeak(c, q, given)
				code(t, "not connected", impl.ErrState, time, s, got)
			}
		}
	}
}
