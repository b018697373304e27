package tests

import (
	"math/big"
	"math/rand"
	"slices"
	"testing"

	"loop.example/g01118/impl"
)

// The tests of this file are about promise 15: what is stopped, and what is left
// over.

// TestStopLimits has the numbers of the document.
func TestStopLimits(t *testing.T) {
	same(t, "limits", []int64{impl.MaxTimes, impl.MaxStopDigits, impl.MaxCards, impl.MaxKinds}, []int64{8, 30, 3, 12})
	same(t, "kinds", []int64{impl.ShTop, impl.ShSwap, impl.ShSide, impl.ShCut, impl.ShRiffle}, []int64{1, 2, 3, 4, 5})
}

func TestValidStops(t *testing.T) {
	c := readChain(t, twoEnds)
	for _, stops := range [][][]impl.Fraction{
		nil, {}, flatStops(3, 1, "0"), flatStops(3, 1, "1"), flatStops(3, impl.MaxTimes, "0"), flatStops(3, impl.MaxTimes, "1"), flatStops(3, impl.MaxTimes, "1/"+nines(30)),
		rowsOf("0 1 1/2"), rowsOf("1/" + tenTo(29) + " " + nines(29) + "8/" + nines(30) + " 1"),
	} {
		same(t, rowTexts(stops), impl.ValidStops(c, stops), true)
	}
	for name, stops := range invalidStops() {
		same(t, name, impl.ValidStops(c, stops), false)
	}
	for name, bad := range invalidChains() {
		for _, stops := range [][][]impl.Fraction{nil, flatStops(1, 1, "0"), flatStops(2, 1, "0"), flatStops(7, 1, "0")} {
			same(t, name, impl.ValidStops(bad, stops), false)
		}
	}
	r := rand.New(rand.NewSource(401))
	for range 500 {
		d := randomChain(r)
		stops := randomStops(r, d.States, r.Int63n(impl.MaxTimes+1))
		same(t, "valid", impl.ValidStops(d, stops), true)
		if len(stops) == 0 {
			continue
		}
		time, s := r.Intn(len(stops)), r.Int63n(d.States)
		stops[time][s] = frac([]string{"2", "01", "1/" + tenTo(30), "2/2", "1000001/1000000", ""}[r.Intn(6)])
		same(t, rowTexts(stops), impl.ValidStops(d, stops), false)
		stops[time] = stops[time][1:]
		same(t, "a short list", impl.ValidStops(d, stops), false)
	}
}

// TestStopped compares with the steps of chances, for chains of all kinds.
func TestStopped(t *testing.T) {
	r := rand.New(rand.NewSource(402))
	kinds := map[string]int{}
	for _, c := range chainsOfAllKinds(r, 600) {
		times := r.Int63n(impl.MaxTimes + 1)
		p, stops := startOf(r, c.States), randomStops(r, c.States, times)
		if r.Intn(4) == 0 {
			p = longStart(r, c.States, 150+r.Intn(130))
		}
		x := takenByStops(c, p, stops)
		at, got := impl.StoppedAt(c, p, stops)
		isTable(t, "stopped", x.stopped, at, got)
		left, leftCode := impl.LeftOver(c, p, stops)
		isFractions(t, "left", x.left, left, leftCode)
		for name, is := range map[string]bool{
			"no times": times == 0, "all times": times == impl.MaxTimes, "too long": got == impl.ErrLimit, "left too long": leftCode == impl.ErrLimit,
			"nothing left": leftCode == impl.OK && sumFractions(left).Sign() == 0, "not connected": !isConnected(c), "one state": c.States == 1,
		} {
			if is {
				kinds[name]++
			}
		}
	}
	for _, kind := range []string{"no times", "all times", "too long", "left too long", "nothing left", "not connected", "one state"} {
		if kinds[kind] < 10 {
			t.Error("too few of one kind", kinds)
		}
	}
}

// stoppedRuns sums up the chances of all runs, one by one.
func stoppedRuns(c impl.Chain, p []impl.Fraction, stops [][]impl.Fraction) taken {
	x := taken{stopped: zeroTable(len(stops), int(c.States)), left: zeros(c.States)}
	var run func(time int, s int64, chance *big.Rat)
	run = func(time int, s int64, chance *big.Rat) {
		stop := ratOf(stops[time][s])
		x.stopped[time][s].Add(x.stopped[time][s], new(big.Rat).Mul(chance, stop))
		rest := new(big.Rat).Mul(chance, less(big.NewRat(1, 1), stop))
		if time == len(stops)-1 {
			x.left[s].Add(x.left[s], rest)
			return
		}
		for u, weight := range c.Weights[s] {
			if weight > 0 {
				run(time+1, int64(u), new(big.Rat).Mul(rest, chanceOf(c, s, int64(u))))
			}
		}
	}
	for s, chance := range ratsOf(p) {
		run(0, int64(s), chance)
	}
	return x
}

func TestStoppedRuns(t *testing.T) {
	r := rand.New(rand.NewSource(403))
	for range 150 {
		c := smallChain(r, 1+r.Int63n(3))
		p, stops := startOf(r, c.States), randomStops(r, c.States, 1+r.Int63n(5))
		x := stoppedRuns(c, p, stops)
		at, got := impl.StoppedAt(c, p, stops)
		isTable(t, "stopped", x.stopped, at, got)
		left, got := impl.LeftOver(c, p, stops)
		isFractions(t, "left", x.left, left, got)
	}
}

// shortStops are short enough for all results of any chain.
func shortStops(r *rand.Rand, states, times int64) [][]impl.Fraction {
	stops := [][]impl.Fraction{}
	for range times {
		row := []impl.Fraction{}
		for range states {
			row = append(row, []impl.Fraction{frac("0"), frac("1"), frac("1/2"), frac("1/3"), frac("2/5")}[r.Intn(5)])
		}
		stops = append(stops, row)
	}
	return stops
}

// TestStoppedAndLeft adds up what is stopped and what is left over, and lets what
// has been stopped go on up to the last time.
func TestStoppedAndLeft(t *testing.T) {
	r := rand.New(rand.NewSource(404))
	for _, c := range chainsOfAllKinds(r, 300) {
		p, times := startOf(r, c.States), 1+r.Int63n(impl.MaxTimes)
		stops := shortStops(r, c.States, times)
		at, one := impl.StoppedAt(c, p, stops)
		left, two := impl.LeftOver(c, p, stops)
		same(t, "codes", []int64{one, two}, make([]int64, 2))
		sum, all := sumFractions(left), ratsOf(left)
		for time, row := range at {
			sum.Add(sum, sumFractions(row))
			all = addRats(all, ratsAfter(c, ratsOf(row), times-1-int64(time)))
		}
		same(t, "all", sum.RatString(), "1")
		after, got := impl.SpreadAfter(c, p, times-1)
		isFractions(t, "going on", all, after, got)
		whole, three := impl.StoppedAt(c, p, nil)
		rest, four := impl.LeftOver(c, p, nil)
		same(t, "without times", len(whole), 0)
		same(t, "without times", rest, p)
		same(t, "codes", []int64{three, four}, make([]int64, 2))
	}
}

// TestStoppedLater never stops a chain before some time: what follows is as if it
// had begun then.
func TestStoppedLater(t *testing.T) {
	r := rand.New(rand.NewSource(405))
	for _, c := range chainsOfAllKinds(r, 200) {
		wait := r.Int63n(impl.MaxTimes)
		p, stops := startOf(r, c.States), shortStops(r, c.States, 1+r.Int63n(impl.MaxTimes-wait))
		none := flatStops(c.States, wait, "0")
		later := slices.Concat(none, stops)
		q, _ := impl.SpreadAfter(c, p, wait)
		at, one := impl.StoppedAt(c, q, stops)
		waited, two := impl.StoppedAt(c, p, later)
		same(t, "stopped", waited, slices.Concat(none, at))
		left, three := impl.LeftOver(c, q, stops)
		rest, four := impl.LeftOver(c, p, later)
		same(t, "left", rest, left)
		same(t, "codes", []int64{one, two, three, four}, make([]int64, 4))
	}
}

func TestStopEdges(t *testing.T) {
	const seventh = "chain 1 7\nfrom 7\n"
	for _, one := range []struct {
		name, text, p, stops, stopped, left string
	}{
		{"no times", exampleStops, "1/3 2/3", "", "", "1/3 2/3"},
		{"at once", exampleStops, "1/3 2/3", "1 1", "1/3 2/3", "0 0"},
		{"never", exampleStops, "1/3 2/3", "0 0", "0 0", "1/3 2/3"},
		{"never, two times", exampleStops, "1 0", "0 0; 0 0", "0 0; 0 0", "0 1"},
		{"the last step is not made", exampleStops, "1 0", "0 0; 0 1/2", "0 0; 0 1/2", "0 1/2"},
		{"only one state", evenTwo, "1/2 1/2", "1/3 0; 0 1/4", "1/6 0; 0 5/48", "5/12 15/48"},
		{"it cannot be there", turnTwo, "1 0", "0 1; 1 0; 0 1; 1/2 0", "0 0; 0 0; 0 0; 0 0", "0 1"},
		{"it cannot be there any more", stayTwo, "1/2 1/2", "1 0; 1 1/2; 1 0", "1/2 0; 0 1/4; 0 0", "0 1/4"},
		{"stopped on the way", "chain 3 1\nfrom 0 1 0\nfrom 0 0 1\nfrom 0 0 1\n", "1 0 0", "0 0 1; 0 1 1; 1 1 1", "0 0 0; 0 1 0; 0 0 0", "0 0 0"},
		{"stopped long ago", evenTwo, "1 0", "1 0; 1 1; 1/2 1/2", "1 0; 0 0; 0 0", "0 0"},
		{"stopped in part", evenTwo, "1 0", "1/2 1; 1/2 1; 1 1", "1/2 0; 1/8 1/4; 1/16 1/16", "0 0"},
		{"not connected", twoEnds, "1 0 0", "0 0 0; 1/3 1 0", "0 0 0; 1/9 1/3 0", "2/9 0 1/3"},
		{"one state", seventh, "1", "1/2; 1/2; 1/2; 1/2; 1/2; 1/2; 1/2; 1/2", "1/2; 1/4; 1/8; 1/16; 1/32; 1/64; 1/128; 1/256", "1/256"},
		{"one state, at the last time", seventh, "1", "0; 0; 0; 0; 0; 0; 0; 1", "0; 0; 0; 0; 0; 0; 0; 1", "0"},
	} {
		c, p, stops := readChain(t, one.text), rowsOf(one.p)[0], rowsOf(one.stops)
		at, got := impl.StoppedAt(c, p, stops)
		same(t, one.name+": stopped", rowTexts(at), one.stopped)
		same(t, one.name+": code", got, int64(impl.OK))
		left, got := impl.LeftOver(c, p, stops)
		want := []string{}
		for _, x := range rowsOf(one.left)[0] {
			y, _ := ofRat(ratOf(x))
			want = append(want, impl.FractionText(y))
		}
		hasRow(t, one.name+": left", fracTexts(fracs(want...)), left, got)
	}
}

// TestStopDigits has results with just as many digits as they can have, and one
// more.
func TestStopDigits(t *testing.T) {
	c := readChain(t, stayTwo)
	long, longest := "1/"+tenTo(299), nines(299)+"/"+tenTo(299)
	p := longSpread(300)
	half := func(num string) string { return num + "/2" + tenTo(299)[1:] }
	for _, one := range []struct {
		name, stops, stopped, left, spread, time string
	}{
		{"as long as p", "1 1", long + " " + longest, "0 0", long + " " + longest, "0"},
		{"not stopped", "0 0", "0 0", long + " " + longest, "state", "state"},
		{"half of it", "1/2 1/2; 1 1", half("1") + " " + half(nines(299)) + "; " + half("1") + " " + half(nines(299)), "0 0", long + " " + longest, "1/2"},
		{"half of it is left", "1/2 1/2", half("1") + " " + half(nines(299)), half("1") + " " + half(nines(299)), "state", "state"},
		{"an 11th of it", "1/11 0", "limit", "1/11" + tenTo(298)[1:] + " " + longest, "state", "state"},
		{"three 14ths of it", "3/14 0", "limit", "limit", "state", "state"},
		{"an 11th of it, and the rest", "1/11 0; 1 1", "limit", "0 0", long + " " + longest, "limit"},
		{"a bit later", "1 0; 1 1", long + " 0; 0 " + longest, "0 0", long + " " + longest, longest},
		{"a 7th later", "1/7 1; 1 1", "1/7" + tenTo(299)[1:] + " " + longest + "; 3/35" + tenTo(298)[1:] + " 0", "0 0", long + " " + longest, "3/35" + tenTo(298)[1:]},
	} {
		stops := rowsOf(one.stops)
		at, got := impl.StoppedAt(c, p, stops)
		hasRows(t, one.name+": stopped", one.stopped, at, got)
		left, got := impl.LeftOver(c, p, stops)
		hasRow(t, one.name+": left", one.left, left, got)
		spread, got := impl.StopSpread(c, p, stops)
		hasRow(t, one.name+": spread", one.spread, spread, got)
		time, got := impl.StopTime(c, p, stops)
		hasOne(t, one.name+": time", one.time, time, got)
	}
	// The chances come together in a state, and are short again.
	even := readChain(t, evenTwo)
	left, got := impl.LeftOver(even, p, flatStops(2, 2, "0"))
	hasRow(t, "short again", "1/2 1/2", left, got)
	left, got = impl.LeftOver(even, p, rowsOf("1/11 1/11; 1/3 1"))
	hasRow(t, "short again", "10/33 0", left, got)
	// The spread is too long.
	spread, got := impl.StopSpread(readChain(t, "chain 2 11\nfrom 9 2\nfrom 0 11\n"), p, rowsOf("0 0; 1 1"))
	hasRow(t, "a long spread", "limit", spread, got)
}

func TestStopErrors(t *testing.T) {
	good, p := flatStops(3, 2, "1/2"), fracs("1/3", "1/3", "1/3")
	connected, ends := walkOn(3, 2, 1), readChain(t, twoEnds)
	for _, c := range []impl.Chain{connected, ends} {
		for name, stops := range invalidStops() {
			for _, q := range append(spreadsOfOthers(), p, nil, fracs("1", "1", "1")) {
				stopCodes(t, name, impl.ErrInvalid, c, q, stops)
			}
		}
		for _, q := range invalidSpreads() {
			stopCodes(t, "no spread", impl.ErrInvalid, c, q, good)
		}
		for _, q := range spreadsOfOthers() {
			stopCodes(t, "over other states", impl.ErrRange, c, q, good)
			stopCodes(t, "over other states, no times", impl.ErrRange, c, q, nil)
			stopCodes(t, "over other states, too long", impl.ErrRange, c, q, flatStops(3, 8, "1/"+nines(30)))
		}
	}
	for name, bad := range invalidChains() {
		for _, q := range append(spreadsOfOthers(), p) {
			for _, stops := range [][][]impl.Fraction{nil, good, flatStops(2, 1, "1"), flatStops(1, 1, "1")} {
				stopCodes(t, name, impl.ErrInvalid, bad, q, stops)
			}
		}
	}
}

// TestExampleOfChapter7 is the example of the document.
func TestExampleOfChapter7(t *testing.T) {
	c := readChain(t, exampleStops)
	p, got := impl.StationarySpread(c)
	hasRow(t, "StationarySpread", "1/3 2/3", p, got)
	sure, got := impl.SureSpread(2, 0)
	same(t, "code", got, int64(impl.OK))
	stops, got := impl.StrongStops(c, sure, 3)
	hasRows(t, "StrongStops", "0 0; 0 0; 1/2 1", stops, got)
	left, got := impl.LeftOver(c, sure, stops)
	hasRow(t, "LeftOver", "1/4 0", left, got)
	time, got := impl.AccessTime(c, sure, p)
	hasOne(t, "AccessTime", "2/3", time, got)
	riffle, got := impl.ShuffleChain(2, impl.ShRiffle)
	same(t, "ShuffleChain", impl.ChainText(riffle), "chain 2 4\nfrom 3 1\nfrom 1 3\n")
	same(t, "code", got, int64(impl.OK))
	x, got := impl.RiffleChance([]int64{1, 0}, 1)
	hasOne(t, "RiffleChance", "1/4", x, got)
	x, got = impl.CollectorTime(3)
	hasOne(t, "CollectorTime", "11/2", x, got)
}
