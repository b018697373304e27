package tests

import (
	"math"
	"math/big"
	"math/rand"
	"slices"
	"strings"
	"testing"

	"loop.example/g01118/impl"
)

// The tests of this file are about promise 11: maps, their texts, and the chains
// of which they are maps.

const exampleMaps = "maps 2 2\nmap 1 : 0 0\nmap 1 : 0 1\n"

func TestValidMaps(t *testing.T) {
	r := rand.New(rand.NewSource(201))
	for _, m := range mapsOfAllKinds(r, 300) {
		same(t, "valid", impl.ValidMaps(m), true)
	}
	for states := int64(1); states <= impl.MaxStates; states++ {
		same(t, "60 maps", impl.ValidMaps(randomMaps(r, states, impl.MaxMaps, impl.MaxTotal)), true)
		same(t, "one map", impl.ValidMaps(randomMaps(r, states, 1, 1)), true)
		same(t, "one great weight", impl.ValidMaps(randomMaps(r, states, 1, impl.MaxTotal)), true)
	}
	for name, m := range invalidMaps() {
		same(t, name, impl.ValidMaps(m), false)
	}
}

// copyMaps returns maps that share nothing with the given ones.
func copyMaps(m impl.Maps) impl.Maps {
	n := impl.Maps{States: m.States, Total: m.Total}
	for _, one := range m.List {
		n.List = append(n.List, impl.Map{Weight: one.Weight, To: slices.Clone(one.To)})
	}
	return n
}

// TestValidMapsChanged changes one number of valid maps.
func TestValidMapsChanged(t *testing.T) {
	r := rand.New(rand.NewSource(202))
	for _, m := range mapsOfAllKinds(r, 500) {
		n := copyMaps(m)
		one := &n.List[r.Intn(len(n.List))]
		change := []int64{-1, 1, math.MaxInt64, math.MinInt64}[r.Intn(4)]
		switch r.Intn(5) {
		case 0:
			one.Weight += change
		case 1:
			n.Total += change
		case 2:
			n.States += change
		case 3:
			one.To[r.Int63n(n.States)] = []int64{-1, n.States, math.MaxInt64, math.MinInt64}[r.Intn(4)]
		case 4:
			n.List = append(n.List, impl.Map{Weight: 0, To: one.To})
		}
		same(t, "changed", impl.ValidMaps(n), false)
		same(t, "not the same", impl.SameMaps(m, n) || impl.SameMaps(n, m), false)
		same(t, "no text", impl.MapsText(n), "")
	}
}

func TestSameMaps(t *testing.T) {
	list := []impl.Maps{{Total: 1}, {States: math.MaxInt64, Total: -1, List: make([]impl.Map, 100000)}}
	for _, m := range invalidMaps() {
		list = append(list, m)
	}
	one := func(weight int64, to ...int64) impl.Map { return impl.Map{Weight: weight, To: to} }
	for _, maps := range [][]impl.Map{
		{one(1, 0, 1), one(1, 0, 0)}, {one(1, 0, 0), one(1, 0, 1)}, {one(1, 0, 1), one(1, 0, 1)}, {one(2, 0, 1)}, {one(2, 0, 0)}, {one(2, 0, 0), {}}, {one(2, 0, 0), {}, {}},
	} {
		list = append(list, impl.Maps{States: 2, Total: 2, List: maps})
	}
	for i, m := range list {
		for j, n := range list {
			same(t, "the same", impl.SameMaps(m, n), i == j)
		}
		same(t, "a copy", impl.SameMaps(m, copyMaps(m)) && impl.SameMaps(copyMaps(m), m), true)
	}
	same(t, "nil and empty", impl.SameMaps(impl.Maps{}, impl.Maps{List: []impl.Map{}}), true)
	same(t, "nil and empty", impl.SameMaps(impl.Maps{List: []impl.Map{{}}}, impl.Maps{List: []impl.Map{{To: []int64{}}}}), true)
}

func TestMapsText(t *testing.T) {
	r := rand.New(rand.NewSource(203))
	for _, m := range mapsOfAllKinds(r, 1000) {
		same(t, "text", impl.MapsText(m), mapsTextOf(m))
		n, got := impl.ReadMaps(mapsTextOf(m))
		same(t, "code", got, int64(impl.OK))
		same(t, "maps", impl.SameMaps(m, n), true)
	}
	for name, m := range invalidMaps() {
		same(t, name, impl.MapsText(m), "")
		n, got := impl.ReadMaps(mapsTextOf(m))
		code(t, name, impl.ErrSyntax, n, got)
	}
	full := randomMaps(r, impl.MaxStates, impl.MaxMaps, impl.MaxTotal)
	same(t, "60 maps", impl.SameMaps(readMaps(t, mapsTextOf(full)), full), true)
}

func TestReadMapsSyntax(t *testing.T) {
	for _, text := range []string{
		"", "\n", "maps", "maps ", "maps 1", "maps 1 1", "maps 1 1\n", "maps 1 1\nmap", "maps 1 1\nmap 1", "maps 1 1\nmap 1 :", "maps 1 1\nmap 1 : 0",
		"maps 1 1\nmap 1 :\n", "maps 1 1\nmap 1 0\n", "maps 1 1\nmap 1: 0\n", "maps 1 1\nmap 1 :0\n", "maps 1 1\nmap 1  : 0\n", "maps 1 1\nmap 1 :  0\n",
		"maps 1 1\nmap  1 : 0\n", "maps 1 1\nmap 1 : 0 \n", "maps 1 1\nmap 1 : 0\n\n", "maps 1 1\n\nmap 1 : 0\n", "\nmaps 1 1\nmap 1 : 0\n", "maps 1 1 \nmap 1 : 0\n",
		" maps 1 1\nmap 1 : 0\n", "maps  1 1\nmap 1 : 0\n", "maps 1  1\nmap 1 : 0\n", "maps\t1 1\nmap 1 : 0\n", "maps 1 1\n map 1 : 0\n", "maps 1 1\r\nmap 1 : 0\r\n",
		"maps 1 1\nmap 1 : 0\n ", "maps 1 1 map 1 : 0\n", "maps 01 1\nmap 1 : 0\n", "maps 1 01\nmap 1 : 0\n", "maps 1 1\nmap 01 : 0\n", "maps 1 1\nmap 1 : 00\n",
		"maps +1 1\nmap 1 : 0\n", "maps 1 1\nmap +1 : 0\n", "maps 1 1\nmap 1 : +0\n", "maps 1 1\nmap 1 : -0\n", "maps -1 1\nmap 1 : 0\n", "maps 1 1\nmap 1 : 0x0\n",
		"Maps 1 1\nmap 1 : 0\n", "maps 1 1\nMap 1 : 0\n", "map 1 1\nmap 1 : 0\n", "maps 1 1\nmaps 1 : 0\n", "maps 1 1\nmap 1 ; 0\n", "maps 1 1\nmap 1 : 0\x00\n",
		"maps 0 1\nmap 1 :\n", "maps 1 0\n", "maps 1 0\nmap 0 : 0\n", "maps 7 1\nmap 1 : 0 1 2 3 4 5 6\n", "maps 1 61\nmap 61 : 0\n", "maps 1 1\nmap 1 : 1\n",
		"maps 2 1\nmap 1 : 0\n", "maps 2 1\nmap 1 : 0 1 0\n", "maps 2 1\nmap 1 : 0 2\n", "maps 2 1\nmap 1 : 0 -1\n", "maps 2 2\nmap 1 : 0 0\n", "maps 2 2\nmap 1 : 0 0\nmap 2 : 0 1\n",
		"maps 2 2\nmap 2 : 0 0\nmap 0 : 0 1\n", "maps 2 2\nmap 3 : 0 0\nmap -1 : 0 1\n", "maps 2 2\nmap 1 : 0 0\nmap 1 : 0 1\nmap 1 : 0 1\n",
		"maps 2 2\nmap 1 : 0 0\nmap 1 : 0 1", "maps 2 2\nmap 1 : 0 0\nmap 1 : 0 1\nmap", "maps 18446744073709551617 1\nmap 1 : 0\n", "maps 1 18446744073709551617\nmap 1 : 0\n",
		"maps 1 1\nmap 18446744073709551617 : 0\n", "maps 1 1\nmap 1 : 18446744073709551616\n", "maps 99999999999999999999999999 1\nmap 1 : 0\n", "maps 9223372036854775807 1\n",
		"map 1 : 0\nmaps 1 1\n", "chain 1 1\nmap 1 : 0\n", "maps 1 1\nfrom 1 : 0\n", "chain 1 1\nfrom 1\n", "maps \u0661 1\nmap 1 : 0\n",
	} {
		m, got := impl.ReadMaps(text)
		code(t, text, impl.ErrSyntax, m, got)
	}
}

// TestReadMapsChanged changes a byte of a text: what is read has this text.
func TestReadMapsChanged(t *testing.T) {
	r := rand.New(rand.NewSource(204))
	const alphabet = "0123456789 \n-+:maps"
	read := 0
	for range 20000 {
		text := changedText(r, mapsTextOf(randomMaps(r, 1+r.Int63n(3), 1+r.Int63n(3), 3+r.Int63n(9))), alphabet)
		m, got := impl.ReadMaps(text)
		if got == impl.OK {
			same(t, "text", impl.MapsText(m), text)
			read++
		} else {
			code(t, text, impl.ErrSyntax, m, got)
		}
	}
	if read < 100 {
		t.Error("too few changed texts were those of maps", read)
	}
}

func TestReadMapsLength(t *testing.T) {
	line := "map 1 : 0 1\n"
	many := "maps 2 60\n" + strings.Repeat(line, 600)
	for _, one := range []struct {
		text string
		want int64
	}{
		{strings.Repeat("x", impl.MaxMapsText), impl.ErrSyntax},
		{strings.Repeat("x", impl.MaxMapsText+1), impl.ErrRange},
		{exampleMaps + strings.Repeat("\n", impl.MaxMapsText-len(exampleMaps)), impl.ErrSyntax},
		{exampleMaps + strings.Repeat("\n", impl.MaxMapsText+1-len(exampleMaps)), impl.ErrRange},
		{"maps 2 60\n" + strings.Repeat(line, 60), impl.OK},
		{"maps 2 60\n" + strings.Repeat(line, 61), impl.ErrSyntax},
		{many, impl.ErrSyntax},
		{strings.Repeat(line, 700), impl.ErrRange},
		{"maps " + strings.Repeat("9", 2000), impl.ErrSyntax},
		{strings.Repeat("maps 1 1\n", 100000), impl.ErrRange},
		{strings.Repeat("1", 1000000), impl.ErrRange},
	} {
		m, got := impl.ReadMaps(one.text)
		code(t, "a long text", one.want, m, got)
	}
}

func TestChainOfMaps(t *testing.T) {
	r := rand.New(rand.NewSource(205))
	for _, m := range mapsOfAllKinds(r, 400) {
		want := impl.Chain{States: m.States, Total: m.Total}
		for s := range m.States {
			row := make([]int64, m.States)
			for i, one := range m.List {
				to, got := impl.ApplyPicks(m, []int64{int64(i)})
				same(t, "code", got, int64(impl.OK))
				row[to[s]] += one.Weight
			}
			want.Weights = append(want.Weights, row)
		}
		c, got := impl.ChainOfMaps(m)
		same(t, "chain", c, want)
		same(t, "code", got, int64(impl.OK))
		same(t, "valid", impl.ValidChain(c), true)
		are, got := impl.AreMapsOf(c, m)
		same(t, "maps of it", are, true)
		same(t, "code", got, int64(impl.OK))
	}
	// Weights are added up, and nothing is reduced.
	c, got := impl.ChainOfMaps(readMaps(t, "maps 3 8\nmap 2 : 0 0 2\nmap 4 : 0 1 2\nmap 2 : 0 2 2\n"))
	same(t, "text", impl.ChainText(c), "chain 3 8\nfrom 8 0 0\nfrom 2 4 2\nfrom 0 0 8\n")
	same(t, "code", got, int64(impl.OK))
}

func TestAreMapsOf(t *testing.T) {
	r := rand.New(rand.NewSource(206))
	kinds := map[bool]int{}
	for _, m := range mapsOfAllKinds(r, 600) {
		alone, _ := impl.ChainOfMaps(m)
		c := alone
		switch r.Intn(4) {
		case 0:
			c = randomChainOf(r, m.States, m.Total)
		case 1:
			// The same chances with another Total.
			stay, _ := impl.SkipChain(alone, 0)
			stay.Total *= 3
			for s := range stay.Weights {
				stay.Weights[s][s] *= 3
			}
			if both, got := impl.ThenChain(alone, stay); got == impl.OK {
				c = both
			}
		case 2:
			c, _ = impl.LazyChain(alone)
			if !impl.ValidChain(c) {
				c = alone
			}
		}
		isSame := c.States == m.States
		for s := range m.States {
			for u := range m.States {
				isSame = isSame && chanceOf(c, s, u).Cmp(chanceOf(alone, s, u)) == 0
			}
		}
		are, got := impl.AreMapsOf(c, m)
		same(t, "maps of it", are, isSame)
		same(t, "code", got, int64(impl.OK))
		kinds[are]++
		more, _ := impl.BesideChain(randomChainOf(r, 1+r.Int63n(2), 1), alone)
		if impl.ValidChain(more) && more.States != m.States {
			are, got = impl.AreMapsOf(more, m)
			same(t, "more states", are, false)
			same(t, "code", got, int64(impl.OK))
			fewer := randomChainOf(r, m.States, 1)
			bigger, _ := impl.MapsByDraws(more)
			are, got = impl.AreMapsOf(fewer, bigger)
			same(t, "fewer states", are, false)
			same(t, "code", got, int64(impl.OK))
		}
	}
	if kinds[true] < 100 || kinds[false] < 100 {
		t.Error("too few of one kind", kinds)
	}
}

// TestAreMapsOfMoved moves one part of a row: only this row differs then.
func TestAreMapsOfMoved(t *testing.T) {
	r := rand.New(rand.NewSource(207))
	for _, m := range mapsOfAllKinds(r, 200) {
		c, _ := impl.ChainOfMaps(m)
		s := r.Int63n(m.States)
		from := slices.IndexFunc(c.Weights[s], func(weight int64) bool { return weight > 0 })
		to := r.Intn(int(m.States))
		c.Weights[s][from]--
		c.Weights[s][to]++
		are, got := impl.AreMapsOf(c, m)
		same(t, "moved", are, from == to)
		same(t, "code", got, int64(impl.OK))
	}
}

func TestMapsByDraws(t *testing.T) {
	r := rand.New(rand.NewSource(208))
	for _, c := range chainsOfAllKinds(r, 200) {
		m, got := impl.MapsByDraws(c)
		same(t, "code", got, int64(impl.OK))
		same(t, "valid", impl.ValidMaps(m), true)
		want := impl.Maps{States: c.States, Total: c.Total}
		for draw := range c.Total {
			one := impl.Map{Weight: 1}
			for s := range c.States {
				to, _ := impl.StepByDraw(c, s, draw)
				one.To = append(one.To, to)
			}
			want.List = append(want.List, one)
		}
		same(t, "maps", m, want)
		back, got := impl.ChainOfMaps(m)
		same(t, "back", back, c)
		same(t, "code", got, int64(impl.OK))
	}
}

func TestTidyMaps(t *testing.T) {
	r := rand.New(rand.NewSource(209))
	shorter := 0
	for _, m := range mapsOfAllKinds(r, 400) {
		want := impl.Maps{States: m.States, Total: m.Total}
		for _, one := range m.List {
			isLike := func(other impl.Map) bool { return slices.Equal(other.To, one.To) }
			if at := slices.IndexFunc(want.List, isLike); at >= 0 {
				want.List[at].Weight += one.Weight
				shorter++
			} else {
				want.List = append(want.List, impl.Map{Weight: one.Weight, To: one.To})
			}
		}
		tidy, got := impl.TidyMaps(m)
		same(t, "tidy", tidy, want)
		same(t, "code", got, int64(impl.OK))
		same(t, "valid", impl.ValidMaps(tidy), true)
		again, _ := impl.TidyMaps(tidy)
		same(t, "twice", again, tidy)
		one, _ := impl.ChainOfMaps(m)
		other, _ := impl.ChainOfMaps(tidy)
		same(t, "the same chain", one, other)
		x, _ := impl.CoalescedAfter(m, 3)
		y, _ := impl.CoalescedAfter(tidy, 3)
		same(t, "coalesced alike", x, y)
	}
	if shorter < 100 {
		t.Error("too few equal maps", shorter)
	}
	tidy, got := impl.TidyMaps(readMaps(t, "maps 2 9\nmap 1 : 1 0\nmap 2 : 0 0\nmap 1 : 1 0\nmap 3 : 0 1\nmap 2 : 0 0\n"))
	same(t, "places", impl.MapsText(tidy), "maps 2 9\nmap 2 : 1 0\nmap 4 : 0 0\nmap 3 : 0 1\n")
	same(t, "code", got, int64(impl.OK))
}

func TestThenMaps(t *testing.T) {
	r := rand.New(rand.NewSource(210))
	made := map[int64]int{}
	for range 600 {
		states := 1 + r.Int63n(impl.MaxStates)
		count, other := 1+r.Int63n(6), 1+r.Int63n(6)
		m, n := randomMaps(r, states, count, count+r.Int63n(8)), randomMaps(r, states, other, other+r.Int63n(8))
		both, got := impl.ThenMaps(m, n)
		made[got]++
		if m.Total*n.Total > impl.MaxTotal {
			code(t, "too great a total", impl.ErrLimit, both, got)
			continue
		}
		want := impl.Maps{States: states, Total: m.Total * n.Total}
		for _, first := range m.List {
			for _, second := range n.List {
				want.List = append(want.List, impl.Map{Weight: first.Weight * second.Weight, To: after(first.To, second.To)})
			}
		}
		same(t, "both", both, want)
		same(t, "code", got, int64(impl.OK))
		same(t, "valid", impl.ValidMaps(both), true)
		c, _ := impl.ChainOfMaps(m)
		d, _ := impl.ChainOfMaps(n)
		then, _ := impl.ThenChain(c, d)
		chain, _ := impl.ChainOfMaps(both)
		same(t, "the chain of both steps", chain, then)
	}
	if made[impl.OK] < 100 || made[impl.ErrLimit] < 50 {
		t.Error("too few of one kind", made)
	}
	full, one := randomMaps(r, 3, impl.MaxMaps, impl.MaxTotal), randomMaps(r, 3, 1, 1)
	both, got := impl.ThenMaps(full, one)
	code(t, "60 maps", impl.OK, both, got)
	both, got = impl.ThenMaps(one, full)
	code(t, "60 maps", impl.OK, both, got)
	both, got = impl.ThenMaps(randomMaps(r, 3, 1, 30), randomMaps(r, 3, 1, 2))
	code(t, "a total of 60", impl.OK, both, got)
	both, got = impl.ThenMaps(randomMaps(r, 3, 1, 31), randomMaps(r, 3, 1, 2))
	code(t, "a total of 62", impl.ErrLimit, both, got)
	both, got = impl.ThenMaps(full, full)
	code(t, "3600 maps", impl.ErrLimit, both, got)
}

// TestThenMapsOrder has two maps for which it matters which one comes first.
func TestThenMapsOrder(t *testing.T) {
	up, down := readMaps(t, "maps 3 1\nmap 1 : 1 2 2\n"), readMaps(t, "maps 3 1\nmap 1 : 0 0 1\n")
	both, got := impl.ThenMaps(up, down)
	same(t, "up and down", impl.MapsText(both), "maps 3 1\nmap 1 : 0 1 1\n")
	same(t, "code", got, int64(impl.OK))
	both, got = impl.ThenMaps(down, up)
	same(t, "down and up", impl.MapsText(both), "maps 3 1\nmap 1 : 1 1 2\n")
	same(t, "code", got, int64(impl.OK))
}

func TestApplyPicks(t *testing.T) {
	r := rand.New(rand.NewSource(211))
	for _, m := range mapsOfAllKinds(r, 300) {
		for _, count := range []int{0, 1, 2, 3, r.Intn(20), impl.MaxPicks} {
			picks := randomPicks(r, m, count)
			to, got := impl.ApplyPicks(m, picks)
			same(t, "code", got, int64(impl.OK))
			for s := range m.States {
				at := s
				for _, number := range picks {
					at = m.List[number].To[at]
				}
				same(t, "state", to[s], at)
			}
			same(t, "states", len(to), int(m.States))
		}
	}
	m := readMaps(t, "maps 3 2\nmap 1 : 1 2 2\nmap 1 : 0 0 1\n")
	for _, one := range []struct{ picks, want []int64 }{
		{nil, []int64{0, 1, 2}}, {[]int64{}, []int64{0, 1, 2}}, {[]int64{0, 1}, []int64{0, 1, 1}}, {[]int64{1, 0}, []int64{1, 1, 2}}, {[]int64{0, 0}, []int64{2, 2, 2}},
		{[]int64{0, 0, 1}, []int64{1, 1, 1}}, {[]int64{1, 1, 1}, []int64{0, 0, 0}},
	} {
		to, got := impl.ApplyPicks(m, one.picks)
		same(t, "picked", to, one.want)
		same(t, "code", got, int64(impl.OK))
	}
}

// TestApplyPicksChances compares the chances of all picks with those of chains.
func TestApplyPicksChances(t *testing.T) {
	r := rand.New(rand.NewSource(212))
	for range 60 {
		count := 1 + r.Int63n(4)
		m := randomMaps(r, 1+r.Int63n(impl.MaxStates), count, count+r.Int63n(5))
		c, _ := impl.ChainOfMaps(m)
		s, whole := r.Int63n(m.States), big.NewInt(1)
		for steps := range 5 {
			chances := zeros(m.States)
			allPicks(m, steps, func(picks []int64, weight int64) {
				to, _ := impl.ApplyPicks(m, picks)
				chances[to[s]].Add(chances[to[s]], new(big.Rat).SetFrac(big.NewInt(weight), whole))
			})
			for u, want := range chances {
				x, got := impl.ChanceAfter(c, s, int64(u), int64(steps))
				isFraction(t, "as the chain", want, x, got)
			}
			whole.Mul(whole, big.NewInt(m.Total))
		}
	}
}

func TestMapsErrors(t *testing.T) {
	r := rand.New(rand.NewSource(213))
	c, two, three := readChain(t, exampleText), readMaps(t, exampleMaps), randomMaps(r, 3, 2, 5)
	full2, full3 := randomMaps(r, 2, 3, impl.MaxTotal), randomMaps(r, 3, 3, impl.MaxTotal)
	for name, bad := range invalidMaps() {
		d, got := impl.ChainOfMaps(bad)
		code(t, name, impl.ErrInvalid, d, got)
		are, got := impl.AreMapsOf(c, bad)
		code(t, name, impl.ErrInvalid, are, got)
		tidy, got := impl.TidyMaps(bad)
		code(t, name, impl.ErrInvalid, tidy, got)
		for _, other := range []impl.Maps{two, three, full2, full3, bad} {
			for _, both := range [][2]impl.Maps{{bad, other}, {other, bad}} {
				m, got := impl.ThenMaps(both[0], both[1])
				code(t, name, impl.ErrInvalid, m, got)
			}
		}
		for _, picks := range append(badPicks(2), nil, []int64{0}) {
			to, got := impl.ApplyPicks(bad, picks)
			code(t, name, impl.ErrInvalid, to, got)
		}
	}
	for name, bad := range invalidChains() {
		m, got := impl.MapsByDraws(bad)
		code(t, name, impl.ErrInvalid, m, got)
		for _, n := range []impl.Maps{two, three, {}} {
			are, got := impl.AreMapsOf(bad, n)
			code(t, name, impl.ErrInvalid, are, got)
		}
	}
	// ErrRange comes before ErrLimit.
	for _, both := range [][2]impl.Maps{{two, three}, {three, two}, {full2, full3}, {full3, two}, {two, full3}} {
		m, got := impl.ThenMaps(both[0], both[1])
		code(t, "other states", impl.ErrRange, m, got)
	}
	for _, picks := range badPicks(2) {
		to, got := impl.ApplyPicks(two, picks)
		code(t, "no picks", impl.ErrRange, to, got)
	}
}
