package tests

import (
	"math/big"
	"math/rand"
	"slices"
	"testing"

	"loop.example/g01118/impl"
)

// The tests of this file are about promise 16: where and when a chain is stopped,
// and stops that fill a spread.

// TestStopSpreadAndTime compares with the steps of chances, for chains of all
// kinds.
func TestStopSpreadAndTime(t *testing.T) {
	r := rand.New(rand.NewSource(421))
	kinds := map[string]int{}
	for _, c := range chainsOfAllKinds(r, 500) {
		p, stops := startOf(r, c.States), surelyStopped(r, c.States)
		switch r.Intn(5) {
		case 0:
			stops = randomStops(r, c.States, r.Int63n(impl.MaxTimes+1))
		case 1:
			p = longStart(r, c.States, 200+r.Intn(80))
		}
		x := takenByStops(c, p, stops)
		spread, one := impl.StopSpread(c, p, stops)
		time, two := impl.StopTime(c, p, stops)
		if sumOf(x.left).Sign() != 0 {
			code(t, "left over", impl.ErrState, spread, one)
			code(t, "left over", impl.ErrState, time, two)
			kinds["left"]++
			continue
		}
		isFractions(t, "spread", x.spread(c.States), spread, one)
		isFraction(t, "time", x.time(), time, two)
		if one == impl.OK {
			same(t, "a spread", impl.ValidSpread(spread), true)
		}
		for name, is := range map[string]bool{"long spread": one != impl.OK, "long time": two != impl.OK, "at once": time == frac("0"), "all times": len(stops) == impl.MaxTimes, "both": one == two} {
			if is {
				kinds[name]++
			}
		}
	}
	for _, kind := range []string{"left", "long spread", "long time", "at once", "all times", "both"} {
		if kinds[kind] < 10 {
			t.Error("too few of one kind", kinds)
		}
	}
}

// TestStopTimeByChances lets the last time take all: the time is the sum of the
// chances not to have been stopped.
func TestStopTimeByChances(t *testing.T) {
	r := rand.New(rand.NewSource(422))
	for _, c := range chainsOfAllKinds(r, 150) {
		p := startOf(r, c.States)
		stops := append(shortStops(r, c.States, r.Int63n(impl.MaxTimes)), flatStops(c.States, 1, "1")...)
		time, got := impl.StopTime(c, p, stops)
		sum := new(big.Rat)
		for times := range len(stops) - 1 {
			left, _ := impl.LeftOver(c, p, stops[:times+1])
			sum.Add(sum, sumFractions(left))
		}
		isFraction(t, "time", sum, time, got)
	}
}

// targetOf returns a spread that stops can fill, or some other one.
func targetOf(t *testing.T, r *rand.Rand, c impl.Chain, p []impl.Fraction) []impl.Fraction {
	t.Helper()
	if r.Intn(4) == 0 {
		return startOf(r, c.States)
	}
	stops := append(shortStops(r, c.States, r.Int63n(5)), flatStops(c.States, 1, "1")...)
	target, got := impl.StopSpread(c, p, stops)
	same(t, "code", got, int64(impl.OK))
	return target
}

func TestFillingStops(t *testing.T) {
	r := rand.New(rand.NewSource(423))
	kinds := map[string]int{}
	for _, c := range chainsOfAllKinds(r, 1000) {
		p, times := startOf(r, c.States), r.Int63n(impl.MaxTimes+1)
		if r.Intn(4) == 0 {
			p = longStart(r, c.States, 5+r.Intn(60))
		}
		target := targetOf(t, r, c, p)
		x := takenFilling(c, p, target, times)
		want, wantCode := x.stops()
		stops, got := impl.FillingStops(c, p, target, times)
		same(t, "stops", rowTexts(stops), rowTexts(want))
		same(t, "code", got, wantCode)
		if got != impl.OK {
			kinds["too long"]++
			continue
		}
		same(t, "times", int64(len(stops)), times)
		same(t, "valid", impl.ValidStops(c, stops), true)
		at, atCode := impl.StoppedAt(c, p, stops)
		isTable(t, "stopped", x.stopped, at, atCode)
		left, leftCode := impl.LeftOver(c, p, stops)
		isFractions(t, "left", x.left, left, leftCode)
		isFilled(t, x, ratsOf(target))
		for name, is := range map[string]bool{
			"no times": times == 0, "all times": times == impl.MaxTimes, "filled": sumOf(x.left).Sign() == 0, "not filled": sumOf(x.left).Sign() > 0,
			"filled early": times > 2 && sumOf(x.stopped[times-1]).Sign() == 0 && sumOf(x.left).Sign() == 0, "not connected": !isConnected(c),
		} {
			if is {
				kinds[name]++
			}
		}
	}
	for _, kind := range []string{"too long", "no times", "all times", "filled", "not filled", "filled early", "not connected"} {
		if kinds[kind] < 20 {
			t.Error("too few of one kind", kinds)
		}
	}
}

// isFilled fails the test unless at each time, for each state, all is stopped
// that is there, or the target is full.
func isFilled(t *testing.T, x taken, target []*big.Rat) {
	t.Helper()
	sums := zeros(int64(len(target)))
	for time, stopped := range x.stopped {
		sums = addRats(sums, stopped)
		for s, sum := range sums {
			if sum.Cmp(target[s]) > 0 || sum.Cmp(target[s]) < 0 && stopped[s].Cmp(x.there[time][s]) != 0 {
				t.Error("not filled as soon as can be", sum, target[s])
			}
		}
	}
}

// TestFillingStopsFill has targets that are full at last: the chain is stopped
// with them, and in the time of the bound, as in the state that is full last it
// never goes on.
func TestFillingStopsFill(t *testing.T) {
	r := rand.New(rand.NewSource(424))
	kinds := map[string]int{}
	for _, c := range slices.Concat(chainsOfAllKinds(r, 300), connectedAndRings(r, 900)) {
		p := startOf(r, c.States)
		target := targetOf(t, r, c, p)
		stops, got := impl.FillingStops(c, p, target, impl.MaxTimes)
		if got != impl.OK {
			continue
		}
		left, _ := impl.LeftOver(c, p, stops)
		spread, one := impl.StopSpread(c, p, stops)
		time, two := impl.StopTime(c, p, stops)
		if sumFractions(left).Sign() > 0 {
			code(t, "spread", impl.ErrState, spread, one)
			code(t, "time", impl.ErrState, time, two)
			kinds["left"]++
			continue
		}
		same(t, "codes", []int64{one, two}, make([]int64, 2))
		same(t, "target", spread, target)
		kinds["full"]++
		if isConnected(c) {
			bound, got := impl.AccessTime(c, p, target)
			same(t, "bound", bound, time)
			same(t, "code", got, int64(impl.OK))
			kinds["bound"]++
			if time != frac("0") {
				kinds["late"]++
			}
		}
	}
	for _, kind := range []string{"left", "full", "bound", "late"} {
		if kinds[kind] < 50 {
			t.Error("too few of one kind", kinds)
		}
	}
}

func TestFillingEdges(t *testing.T) {
	for _, one := range []struct {
		name, text, p, target string
		times                 int64
		want, left            string
	}{
		{"the example", exampleStops, "1 0", "1/3 2/3", 2, "1/3 0; 0 1", "0 0"},
		{"the example, more times", exampleStops, "1 0", "1/3 2/3", 4, "1/3 0; 0 1; 0 0; 0 0", "0 0"},
		{"the example, one time", exampleStops, "1 0", "1/3 2/3", 1, "1/3 0", "2/3 0"},
		{"no times", exampleStops, "1 0", "1/3 2/3", 0, "", "1 0"},
		{"full at once", exampleStops, "1/3 2/3", "1/3 2/3", 8, "1 1; 0 0; 0 0; 0 0; 0 0; 0 0; 0 0; 0 0", "0 0"},
		{"never there", stayTwo, "1 0", "0 1", 3, "0 0; 0 0; 0 0", "1 0"},
		{"never there, for a part", stayTwo, "3/4 1/4", "1/4 3/4", 3, "1/3 1; 0 0; 0 0", "1/2 0"},
		{"nothing is wanted there", turnTwo, "1 0", "0 1", 2, "0 0; 0 1", "0 0"},
		{"it cannot be there", turnTwo, "1 0", "0 1", 4, "0 0; 0 1; 0 0; 0 0", "0 0"},
		{"to one state, never all", evenTwo, "1 0", "0 1", 3, "0 0; 0 1; 0 1", "1/4 0"},
		{"to the other one", evenTwo, "1/2 1/2", "1 0", 2, "1 0; 1 0", "0 1/4"},
		{"full in part", evenTwo, "1 0", "1/2 1/2", 3, "1/2 0; 0 1; 0 1", "1/8 0"},
		{"a lesser part in the end", evenTwo, "1 0", "5/8 3/8", 3, "5/8 0; 0 1; 0 1", "3/32 0"},
		{"less than is there", evenTwo, "1 0", "3/4 1/4", 3, "3/4 0; 0 1; 0 1", "1/16 0"},
		{"all of them less than there is", "chain 2 2\nfrom 0 2\nfrom 2 0\n", "2/3 1/3", "1/3 2/3", 2, "1/2 1; 0 1", "0 0"},
		{"not connected", twoEnds, "1 0 0", "0 1/2 1/2", 3, "0 0 0; 0 1 1; 0 1 1", "1/9 0 0"},
		{"not connected, full", twoEnds, "1 0 0", "1/3 1/3 1/3", 2, "1/3 0 0; 0 1 1", "2/9 0 0"},
		{"one state", "chain 1 5\nfrom 5\n", "1", "1", 2, "1; 0", "0"},
	} {
		c, p, target := readChain(t, one.text), rowsOf(one.p)[0], rowsOf(one.target)[0]
		stops, got := impl.FillingStops(c, p, target, one.times)
		hasRows(t, one.name, one.want, stops, got)
		left, got := impl.LeftOver(c, p, stops)
		hasRow(t, one.name+": left", one.left, left, got)
	}
}

// TestFillingDigits has stops with just as many digits as they can have, and one
// more.
func TestFillingDigits(t *testing.T) {
	stay, turn := readChain(t, stayTwo), readChain(t, turnTwo)
	sure := fracs("1", "0")
	for _, one := range []struct {
		name      string
		c         impl.Chain
		p, target []impl.Fraction
		times     int64
		want      string
	}{
		{"30 digits", turn, sure, longSpread(30), 2, "1/" + tenTo(29) + " 0; 0 1"},
		{"31 digits", turn, sure, longSpread(31), 2, "limit"},
		{"31 digits, no times", turn, sure, longSpread(31), 0, ""},
		{"300 digits", turn, sure, longSpread(300), 1, "limit"},
		{"300 digits, all of them stopped", stay, longSpread(300), longSpread(300), 2, "1 1; 0 0"},
		{"300 digits, one of them stopped", stay, longSpread(300), sure, 1, "1 0"},
		{"300 digits, a part of them", stay, longSpread(300), fracs("0", "1"), 8, "0 1; 0 0; 0 0; 0 0; 0 0; 0 0; 0 0; 0 0"},
		{"more than 300 digits", stay, longSpread(300), fracs("2/3", "1/3"), 1, "limit"},
	} {
		stops, got := impl.FillingStops(one.c, one.p, one.target, one.times)
		hasRows(t, one.name, one.want, stops, got)
	}
}

func TestFillingErrors(t *testing.T) {
	connected, ends, p := walkOn(3, 2, 1), readChain(t, twoEnds), fracs("1/3", "1/3", "1/3")
	for _, n := range append(badTimes(), 0, 1, impl.MaxTimes) {
		for name, bad := range invalidChains() {
			for _, q := range append(spreadsOfOthers(), p, nil) {
				stops, got := impl.FillingStops(bad, q, p, n)
				code(t, name, impl.ErrInvalid, stops, got)
				stops, got = impl.FillingStops(bad, p, q, n)
				code(t, name, impl.ErrInvalid, stops, got)
			}
		}
		for _, c := range []impl.Chain{connected, ends} {
			for _, q := range invalidSpreads() {
				for _, other := range append(spreadsOfOthers(), p, q) {
					stops, got := impl.FillingStops(c, q, other, n)
					code(t, "no spread", impl.ErrInvalid, stops, got)
					stops, got = impl.FillingStops(c, other, q, n)
					code(t, "no target", impl.ErrInvalid, stops, got)
				}
			}
			for _, q := range spreadsOfOthers() {
				for _, other := range append(spreadsOfOthers(), p) {
					stops, got := impl.FillingStops(c, q, other, n)
					code(t, "over other states", impl.ErrRange, stops, got)
					stops, got = impl.FillingStops(c, other, q, n)
					code(t, "a target over other states", impl.ErrRange, stops, got)
				}
			}
		}
	}
	r := rand.New(rand.NewSource(425))
	for _, n := range badTimes() {
		for _, q := range [][]impl.Fraction{p, longStart(r, 3, 300)} {
			stops, got := impl.FillingStops(connected, q, p, n)
			code(t, "times", impl.ErrRange, stops, got)
			stops, got = impl.FillingStops(ends, p, q, n)
			code(t, "times", impl.ErrRange, stops, got)
		}
	}
	for _, c := range parted(t) {
		even, _ := impl.EvenSpread(c.States)
		stops, got := impl.FillingStops(c, even, even, 1)
		same(t, "not connected", slices.Equal(stops[0], flatStops(c.States, 1, "1")[0]), true)
		same(t, "not connected: code", got, int64(impl.OK))
	}
}

// TestLeftOverErrors asks for where and when, though there is a chance not to be
// stopped.
func TestLeftOverErrors(t *testing.T) {
	for _, one := range []struct{ text, p, stops string }{
		{exampleStops, "1 0", ""}, {exampleStops, "1 0", "0 0"}, {exampleStops, "1 0", "0 1"}, {exampleStops, "1/2 1/2", "1 1/2"}, {exampleStops, "1 0", "1/2 1; 1/2 1/2"},
		{exampleStops, "1 0", "1/2 1; 1 0"}, {evenTwo, "1 0", "0 0; 1 0; 1 0; 1 0; 1 0; 1 0; 1 0; 1 0"}, {twoEnds, "1 0 0", "0 1 1; 0 1 1"},
	} {
		c, p, stops := readChain(t, one.text), rowsOf(one.p)[0], rowsOf(one.stops)
		spread, got := impl.StopSpread(c, p, stops)
		code(t, one.stops, impl.ErrState, spread, got)
		time, got := impl.StopTime(c, p, stops)
		code(t, one.stops, impl.ErrState, time, got)
	}
	for _, one := range []struct{ text, p, stops, spread, time string }{
		{exampleStops, "1 0", "1 0", "1 0", "0"}, {exampleStops, "1 0", "0 0; 0 1", "0 1", "1"}, {exampleStops, "1 0", "1/2 0; 1/2 1", "1/2 1/2", "1/2"},
		{turnTwo, "1 0", "0 0; 1 0; 0 0; 0 1", "0 1", "3"}, {turnTwo, "1/2 1/2", "0 0; 0 0; 0 0; 0 0; 0 0; 0 0; 0 0; 1 1", "1/2 1/2", "7"},
		{exampleStops, "1/4 3/4", "1 0; 0 1; 1 1", "1/4 3/4", "9/8"},
	} {
		c, p, stops := readChain(t, one.text), rowsOf(one.p)[0], rowsOf(one.stops)
		spread, got := impl.StopSpread(c, p, stops)
		hasRow(t, one.stops, one.spread, spread, got)
		time, got := impl.StopTime(c, p, stops)
		hasOne(t, one.stops, one.time, time, got)
	}
}
