package tests

import (
	"math"
	"math/big"
	"math/rand"
	"slices"
	"strings"
	"testing"

	"loop.example/g01118/impl"
)

// What the tests of chapter 7 have in common: stops of all kinds, and what is
// known of them by other ways than those of the program.

const exampleStops = "chain 2 2\nfrom 0 2\nfrom 1 1\n"

// evenTwo goes to each of two states with the same chance.
const evenTwo = "chain 2 2\nfrom 1 1\nfrom 1 1\n"

// stayTwo and turnTwo have no choice.
const (
	stayTwo = "chain 2 1\nfrom 1 0\nfrom 0 1\n"
	turnTwo = "chain 2 1\nfrom 0 1\nfrom 1 0\n"
)

// rowTexts writes lists as "1/2 0; 1 1".
func rowTexts(rows [][]impl.Fraction) string {
	texts := []string{}
	for _, row := range rows {
		texts = append(texts, fracTexts(row))
	}
	return strings.Join(texts, "; ")
}

// rowsOf makes lists of a text as that of rowTexts, and none of the empty text.
func rowsOf(text string) [][]impl.Fraction {
	if text == "" {
		return nil
	}
	return jointOf(strings.Split(text, "; ")...)
}

// hasRows fails the test unless a function has returned lists with a text, or the
// code with a name.
func hasRows(t *testing.T, name, want string, got [][]impl.Fraction, gotCode int64) {
	t.Helper()
	for _, c := range []int64{impl.ErrInvalid, impl.ErrRange, impl.ErrLimit, impl.ErrState} {
		if want == impl.CodeName(c) {
			code(t, name, c, got, gotCode)
			return
		}
	}
	same(t, name, rowTexts(got), want)
	same(t, name+": code", gotCode, int64(impl.OK))
}

// hasRow does the same for one list, and for one fraction if it has one.
func hasRow(t *testing.T, name, want string, got []impl.Fraction, gotCode int64) {
	t.Helper()
	if gotCode != impl.OK && len(got) == 0 {
		hasRows(t, name, want, nil, gotCode)
		return
	}
	hasRows(t, name, want, [][]impl.Fraction{got}, gotCode)
}

func hasOne(t *testing.T, name, want string, got impl.Fraction, gotCode int64) {
	t.Helper()
	if gotCode != impl.OK && got == (impl.Fraction{}) {
		hasRows(t, name, want, nil, gotCode)
		return
	}
	hasRows(t, name, want, [][]impl.Fraction{{got}}, gotCode)
}

// sharesOf returns what is known of parts of the whole that is there: 0 of
// nothing.
func sharesOf(parts, wholes []*big.Rat) []*big.Rat {
	list := []*big.Rat{}
	for s, part := range parts {
		share := new(big.Rat)
		if wholes[s].Sign() != 0 {
			share.Quo(part, wholes[s])
		}
		list = append(list, share)
	}
	return list
}

func lessRats(a, b []*big.Rat) []*big.Rat {
	list := []*big.Rat{}
	for i := range a {
		list = append(list, less(a[i], b[i]))
	}
	return list
}

func scaledRats(list []*big.Rat, by *big.Rat) []*big.Rat {
	scaled := []*big.Rat{}
	for _, x := range list {
		scaled = append(scaled, new(big.Rat).Mul(x, by))
	}
	return scaled
}

func leastRat(list []*big.Rat) *big.Rat {
	return slices.MinFunc(list, func(x, y *big.Rat) int { return x.Cmp(y) })
}

// taken is how a chain goes on that is stopped.
type taken struct {
	there, stopped [][]*big.Rat
	left           []*big.Rat
}

// takenBy stops a chain at so many times as it is told for the chances to be
// there, not having been stopped.
func takenBy(c impl.Chain, p []*big.Rat, times int64, stop func(time int64, there []*big.Rat) []*big.Rat) taken {
	x := taken{left: p}
	for time := range times {
		there := x.left
		if time > 0 {
			there = ratsAfter(c, there, 1)
		}
		stopped := stop(time, there)
		x.there, x.stopped = append(x.there, there), append(x.stopped, stopped)
		x.left = lessRats(there, stopped)
	}
	return x
}

func takenByStops(c impl.Chain, p []impl.Fraction, stops [][]impl.Fraction) taken {
	return takenBy(c, ratsOf(p), int64(len(stops)), func(time int64, there []*big.Rat) []*big.Rat {
		stopped := []*big.Rat{}
		for s, chance := range ratsOf(stops[time]) {
			stopped = append(stopped, chance.Mul(chance, there[s]))
		}
		return stopped
	})
}

// takenStrong stops as much as strong stops can, times what share tells.
func takenStrong(c impl.Chain, p []impl.Fraction, times int64, share func() *big.Rat) taken {
	chances := balanceOf(c)
	return takenBy(c, ratsOf(p), times, func(_ int64, there []*big.Rat) []*big.Rat {
		least := leastRat(sharesOf(there, chances))
		return scaledRats(chances, new(big.Rat).Mul(least, share()))
	})
}

func wholeShare() *big.Rat { return big.NewRat(1, 1) }

func takenFilling(c impl.Chain, p, target []impl.Fraction, times int64) taken {
	lacking := ratsOf(target)
	return takenBy(c, ratsOf(p), times, func(_ int64, there []*big.Rat) []*big.Rat {
		stopped := []*big.Rat{}
		for s := range there {
			stopped = append(stopped, lesserRat(there[s], lacking[s]))
		}
		lacking = lessRats(lacking, stopped)
		return stopped
	})
}

// stops returns the stops by which a chain goes on like this, or ErrLimit if their
// numerals are too long.
func (x taken) stops() ([][]impl.Fraction, int64) {
	list := [][]impl.Fraction{}
	for time, stopped := range x.stopped {
		row, got := ofRats(sharesOf(stopped, x.there[time]))
		isLong := func(x impl.Fraction) bool { return max(len(x.Num), len(x.Den)) > impl.MaxStopDigits }
		if got != impl.OK || slices.ContainsFunc(row, isLong) {
			return [][]impl.Fraction{}, impl.ErrLimit
		}
		list = append(list, row)
	}
	return list, impl.OK
}

// spread returns the chance to be stopped in each state.
func (x taken) spread(states int64) []*big.Rat {
	sums := zeros(states)
	for _, stopped := range x.stopped {
		sums = addRats(sums, stopped)
	}
	return sums
}

func (x taken) time() *big.Rat {
	sum := new(big.Rat)
	for time, stopped := range x.stopped {
		sum.Add(sum, new(big.Rat).Mul(sumOf(stopped), big.NewRat(int64(time), 1)))
	}
	return sum
}

// separationIn returns the separation of chances from others, all of which are
// more than 0.
func separationIn(p, q []*big.Rat) *big.Rat { return less(big.NewRat(1, 1), leastRat(sharesOf(p, q))) }

// randomStop returns a chance with at most so many digits.
func randomStop(r *rand.Rand, digits int) impl.Fraction {
	x := digitsOf(r, digits)
	if ratOf(x).Cmp(big.NewRat(1, 1)) > 0 {
		x = impl.Fraction{Num: x.Den, Den: x.Num}
	}
	return x
}

// randomStops returns stops for so many times: never, for sure, with short or
// with long chances.
func randomStops(r *rand.Rand, states, times int64) [][]impl.Fraction {
	stops, digits := [][]impl.Fraction{}, []int{1, 1, 2, impl.MaxStopDigits}[r.Intn(4)]
	for range times {
		row := []impl.Fraction{}
		for range states {
			switch r.Intn(4) {
			case 0:
				row = append(row, frac("0"))
			case 1:
				row = append(row, []impl.Fraction{frac("0"), frac("1"), randomStop(r, digits)}[r.Intn(3)])
			default:
				row = append(row, randomStop(r, digits))
			}
		}
		stops = append(stops, row)
	}
	return stops
}

func flatStops(states, times int64, chance string) [][]impl.Fraction {
	stops := [][]impl.Fraction{}
	for range times {
		stops = append(stops, slices.Repeat(fracs(chance), int(states)))
	}
	return stops
}

// surelyStopped returns stops that leave over nothing: behind others, all states
// are stopped for sure.
func surelyStopped(r *rand.Rand, states int64) [][]impl.Fraction {
	return append(randomStops(r, states, r.Int63n(impl.MaxTimes)), flatStops(states, 1, "1")...)
}

// startOf returns a spread: a sure one, the even one, or others.
func startOf(r *rand.Rand, states int64) []impl.Fraction {
	switch r.Intn(6) {
	case 0, 1:
		p, _ := impl.SureSpread(states, r.Int63n(states))
		return p
	case 2:
		p, _ := impl.EvenSpread(states)
		return p
	default:
		return randomSpread(r, states, 1+r.Int63n(30))
	}
}

// longStart returns a spread whose chances have so many digits.
func longStart(r *rand.Rand, states int64, digits int) []impl.Fraction {
	most, _ := new(big.Int).SetString(tenTo(digits-1), 10)
	whole, edges := new(big.Int).Add(most, new(big.Int).Rand(r, most)), []*big.Int{new(big.Int)}
	for range states - 1 {
		edges = append(edges, new(big.Int).Rand(r, whole))
	}
	edges = append(edges, whole)
	slices.SortFunc(edges, (*big.Int).Cmp)
	p := []*big.Rat{}
	for s := range states {
		p = append(p, new(big.Rat).SetFrac(new(big.Int).Sub(edges[s+1], edges[s]), whole))
	}
	list, _ := ofRats(p)
	return list
}

// invalidStops returns stops that are not valid for a chain with three states,
// each for one reason.
func invalidStops() map[string][][]impl.Fraction {
	with := func(text string) [][]impl.Fraction {
		stops := flatStops(3, 3, "1/2")
		stops[2][2] = frac(text)
		return stops
	}
	short, long, none := flatStops(3, 2, "0"), flatStops(3, 2, "0"), flatStops(3, 2, "0")
	short[1], long[1], none[0] = short[1][:2], append(long[1], frac("0")), nil
	return map[string][][]impl.Fraction{
		"nine times":         flatStops(3, impl.MaxTimes+1, "0"),
		"nine empty times":   make([][]impl.Fraction, impl.MaxTimes+1),
		"many times":         make([][]impl.Fraction, 1000000),
		"a short list":       short,
		"a long list":        long,
		"no list":            none,
		"an empty list":      {{}},
		"a nil list":         {nil},
		"a list of many":     {make([]impl.Fraction, 999999)},
		"two states":         flatStops(2, 2, "1/2"),
		"four states":        flatStops(4, 2, "1/2"),
		"more than 1":        with("2"),
		"a bit more than 1":  with(nines(30) + "/" + nines(29) + "8"),
		"3/2":                with("3/2"),
		"a Den of 31 digits": with("1/" + tenTo(30)),
		"two of 31 digits":   with(tenTo(30) + "/" + tenTo(30)[:30] + "1"),
		"a Num of 31 digits": with(tenTo(30)),
		"300 digits":         with("1/" + nines(300)),
		"301 digits":         with("1/" + tenTo(300)),
		"not lowest":         with("2/4"),
		"1 as 2/2":           with("2/2"),
		"0 as 0/2":           with("0/2"),
		"over 0":             with("1/0"),
		"negative":           with("-1/2"),
		"no numeral":         with("x"),
		"a zero too much":    with("01/2"),
		"a zero fraction":    {{{}, {}, {}}},
		"an empty Den":       {fracs("0", "0", "0"), {{Num: "1"}, frac("0"), frac("0")}},
	}
}

// badTimes returns numbers that are no numbers of times.
func badTimes() []int64 { return []int64{-1, impl.MaxTimes + 1, math.MaxInt64, math.MinInt64} }

// spreadsOfOthers returns spreads that are not over three states.
func spreadsOfOthers() [][]impl.Fraction {
	return [][]impl.Fraction{fracs("1"), fracs("1/2", "1/2"), longSpread(300), fracs("1", "0", "0", "0"), fracs("0", "0", "0", "0", "0", "1")}
}

// stopping is a function that is given stops.
type stopping struct {
	name string
	call func(c impl.Chain, p []impl.Fraction, stops [][]impl.Fraction) []any
}

// stoppings returns all functions that are given a chain, a spread and stops. The
// last result of each is the code.
func stoppings() []stopping {
	return []stopping{
		{"StoppedAt", func(c impl.Chain, p []impl.Fraction, stops [][]impl.Fraction) []any {
			x, got := impl.StoppedAt(c, p, stops)
			return []any{x, got}
		}},
		{"LeftOver", func(c impl.Chain, p []impl.Fraction, stops [][]impl.Fraction) []any {
			x, got := impl.LeftOver(c, p, stops)
			return []any{x, got}
		}},
		{"StopSpread", func(c impl.Chain, p []impl.Fraction, stops [][]impl.Fraction) []any {
			x, got := impl.StopSpread(c, p, stops)
			return []any{x, got}
		}},
		{"StopTime", func(c impl.Chain, p []impl.Fraction, stops [][]impl.Fraction) []any {
			x, got := impl.StopTime(c, p, stops)
			return []any{x, got}
		}},
		{"IsStrong", func(c impl.Chain, p []impl.Fraction, stops [][]impl.Fraction) []any {
			x, got := impl.IsStrong(c, p, stops)
			return []any{x, got}
		}},
		{"FirstWeak", func(c impl.Chain, p []impl.Fraction, stops [][]impl.Fraction) []any {
			x, y, got := impl.FirstWeak(c, p, stops)
			return []any{x, y, got}
		}},
	}
}

// stopCodes calls all functions that are given stops, which have to return the
// same code.
func stopCodes(t *testing.T, name string, want int64, c impl.Chain, p []impl.Fraction, stops [][]impl.Fraction) {
	t.Helper()
	for _, one := range stoppings() {
		code(t, one.name+": "+name, want, one.call(c, p, stops)...)
	}
}
