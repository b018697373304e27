package tests

import (
	"math/big"
	"math/rand"
	"testing"

	"loop.example/g01118/impl"
)

// The tests of this file are about promise 14: escapes and commute times.

// escapeIn solves the equations of being in u before s, and makes a step from s.
func escapeIn(c impl.Chain, s, u int64) *big.Rat {
	column := []*big.Rat{}
	for _, row := range entriesOf(c, []int64{min(s, u), max(s, u)}) {
		column = append(column, row[u])
	}
	return stepped(c, s, column)
}

func commuteIn(c impl.Chain, s, u int64) *big.Rat {
	return new(big.Rat).Add(timesTo(c, []int64{u})[s], timesTo(c, []int64{s})[u])
}

func TestEscapeChance(t *testing.T) {
	r := rand.New(rand.NewSource(341))
	kinds := map[string]int{}
	for _, c := range connectedAndRings(r, 250) {
		for _, at := range apartIn(c.States) {
			x, got := impl.EscapeChance(c, at[0], at[1])
			isFraction(t, "escape", escapeIn(c, at[0], at[1]), x, got)
			if isOne(ratOf(x)) {
				kinds["for sure"]++
			}
			if c.Weights[at[0]][at[0]] > 0 {
				kinds["may stay"]++
			}
			if c.Weights[at[0]][at[1]] == 0 {
				kinds["not at once"]++
			}
		}
	}
	for _, kind := range []string{"for sure", "may stay", "not at once"} {
		if kinds[kind] < 50 {
			t.Error("too few of one kind", kinds)
		}
	}
}

func TestCommuteTime(t *testing.T) {
	r := rand.New(rand.NewSource(342))
	for _, c := range connectedAndRings(r, 250) {
		for _, at := range apartIn(c.States) {
			x, got := impl.CommuteTime(c, at[0], at[1])
			isFraction(t, "commute", commuteIn(c, at[0], at[1]), x, got)
		}
	}
}

// TestEscapesThereAndBack compares escapes with those back, with commute times,
// with visits, and with those of the chain that runs backwards.
func TestEscapesThereAndBack(t *testing.T) {
	r := rand.New(rand.NewSource(343))
	lopsided, backwards := 0, 0
	for _, c := range connectedAndRings(r, 200) {
		p, _ := impl.StationarySpread(c)
		reversed, reversedCode := impl.ReversedChain(c)
		for _, at := range apartIn(c.States) {
			s, u := at[0], at[1]
			there, one := impl.EscapeChance(c, s, u)
			back, two := impl.EscapeChance(c, u, s)
			time, three := impl.CommuteTime(c, s, u)
			again, four := impl.CommuteTime(c, u, s)
			same(t, "codes", []int64{one, two, three, four}, make([]int64, 4))
			same(t, "commute times", again, time)
			outOfS, _ := impl.MulFraction(p[s], there)
			outOfU, _ := impl.MulFraction(p[u], back)
			same(t, "there and back", outOfU, outOfS)
			product, _ := impl.MulFraction(outOfS, time)
			same(t, "1 divided by the commute time", product, frac("1"))
			visits, _ := impl.VisitsBefore(c, s, []int64{u})
			product, _ = impl.MulFraction(visits[s], there)
			same(t, "1 divided by the visits", product, frac("1"))
			if there != back {
				lopsided++
			}
			if reversedCode == impl.OK {
				x, got := impl.EscapeChance(reversed, s, u)
				same(t, "backwards", x, there)
				same(t, "code", got, int64(impl.OK))
				backwards++
			}
		}
	}
	if lopsided < 500 || backwards < 500 {
		t.Error("too few of one kind", lopsided, backwards)
	}
}

// TestEscapesOfTwo has chains of two states: an escape is just a step, and the
// steps in which the chain stays count for the time.
func TestEscapesOfTwo(t *testing.T) {
	for _, total := range []int64{1, 2, 3, 59, 60} {
		for up := int64(1); up <= total; up++ {
			for down := int64(1); down <= total; down++ {
				c := impl.Chain{States: 2, Total: total, Weights: [][]int64{{total - up, up}, {down, total - down}}}
				x, got := impl.EscapeChance(c, 0, 1)
				isFraction(t, "up", big.NewRat(up, total), x, got)
				x, got = impl.EscapeChance(c, 1, 0)
				isFraction(t, "down", big.NewRat(down, total), x, got)
				want := new(big.Rat).Add(big.NewRat(total, up), big.NewRat(total, down))
				x, got = impl.CommuteTime(c, 0, 1)
				isFraction(t, "both", want, x, got)
			}
		}
	}
}

func TestEscapeEdges(t *testing.T) {
	circle := "chain 4 1\nfrom 0 1 0 0\nfrom 0 0 1 0\nfrom 0 0 0 1\nfrom 1 0 0 0\n"
	for _, one := range []struct {
		name, text   string
		s, u         int64
		chance, time string
	}{
		{"a circle one way", circle, 0, 1, "1", "4"},
		{"a circle one way, the other way", circle, 1, 0, "1", "4"},
		{"a circle one way, further", circle, 3, 1, "1", "4"},
		{"a line with both ends", "chain 3 2\nfrom 0 2 0\nfrom 1 0 1\nfrom 0 2 0\n", 0, 2, "1/2", "8"},
		{"a line from its middle", "chain 3 2\nfrom 0 2 0\nfrom 1 0 1\nfrom 0 2 0\n", 1, 2, "1/2", "4"},
		{"a line to its middle", "chain 3 2\nfrom 0 2 0\nfrom 1 0 1\nfrom 0 2 0\n", 2, 1, "1", "4"},
		{"staying in between", "chain 3 60\nfrom 0 60 0\nfrom 1 58 1\nfrom 0 60 0\n", 0, 2, "1/2", "124"},
		{"staying in the end", "chain 3 2\nfrom 1 1 0\nfrom 1 0 1\nfrom 0 2 0\n", 0, 2, "1/4", "10"},
		{"the example", exampleCuts, 0, 2, "1/4", "16"},
		{"the example, back", exampleCuts, 2, 0, "1/4", "16"},
		{"the example, half the way", exampleCuts, 0, 1, "1/2", "8"},
		{"the example, from the middle", exampleCuts, 1, 0, "1/4", "8"},
	} {
		c := readChain(t, one.text)
		x, got := impl.EscapeChance(c, one.s, one.u)
		same(t, one.name, impl.FractionText(x), one.chance)
		same(t, one.name+": code", got, int64(impl.OK))
		x, got = impl.CommuteTime(c, one.s, one.u)
		same(t, one.name, impl.FractionText(x), one.time)
		same(t, one.name+": code", got, int64(impl.OK))
	}
}

func escapeCodes(t *testing.T, name string, want int64, c impl.Chain, s, u int64) {
	t.Helper()
	x, got := impl.EscapeChance(c, s, u)
	code(t, name, want, x, got)
	x, got = impl.CommuteTime(c, s, u)
	code(t, name, want, x, got)
}

func TestEscapeErrors(t *testing.T) {
	for name, bad := range invalidChains() {
		for _, s := range append(badStates(), 0, 1) {
			for _, u := range append(badStates(), 0, 1) {
				escapeCodes(t, name, impl.ErrInvalid, bad, s, u)
			}
		}
	}
	for _, c := range []impl.Chain{readChain(t, exampleCuts), readChain(t, twoEnds), walkOn(3, 2, 1)} {
		for _, s := range badStates() {
			for u := range c.States {
				escapeCodes(t, "no state", impl.ErrRange, c, s, u)
				escapeCodes(t, "no state", impl.ErrRange, c, u, s)
			}
			escapeCodes(t, "no states", impl.ErrRange, c, s, s)
		}
		for s := range c.States {
			escapeCodes(t, "the same", impl.ErrRange, c, s, s)
		}
	}
	escapeCodes(t, "one state", impl.ErrRange, readChain(t, "chain 1 1\nfrom 1\n"), 0, 0)
	for _, c := range parted(t) {
		for _, at := range apartIn(c.States) {
			escapeCodes(t, "not connected", impl.ErrState, c, at[0], at[1])
		}
	}
}
