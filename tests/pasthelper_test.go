package tests

import (
	"math"
	"math/big"
	"math/rand"
	"slices"
	"strconv"
	"testing"

	"loop.example/g01118/impl"
)

// What the tests of chapter 5 have in common: maps and orders of all kinds, and
// what is known of them by other ways than those of the program.

func readMaps(t *testing.T, text string) impl.Maps {
	t.Helper()
	m, got := impl.ReadMaps(text)
	if got != impl.OK {
		t.Fatalf("%q are no maps: %d", text, got)
	}
	return m
}

// mapsTextOf writes the text of maps, valid or not.
func mapsTextOf(m impl.Maps) string {
	text := "maps " + strconv.FormatInt(m.States, 10) + " " + strconv.FormatInt(m.Total, 10) + "\n"
	for _, one := range m.List {
		text += "map " + strconv.FormatInt(one.Weight, 10) + " :"
		for _, to := range one.To {
			text += " " + strconv.FormatInt(to, 10)
		}
		text += "\n"
	}
	return text
}

// weighted gives weights with the sum total to lists, which are not more.
func weighted(r *rand.Rand, states, total int64, lists [][]int64) impl.Maps {
	m := impl.Maps{States: states, Total: total}
	for i, more := range randomParts(r, int64(len(lists)), total-int64(len(lists))) {
		m.List = append(m.List, impl.Map{Weight: 1 + more, To: lists[i]})
	}
	return m
}

func randomTo(r *rand.Rand, states int64) []int64 {
	to := []int64{}
	for range states {
		to = append(to, r.Int63n(states))
	}
	return to
}

func randomTurn(r *rand.Rand, states int64) []int64 {
	to := []int64{}
	for _, s := range r.Perm(int(states)) {
		to = append(to, int64(s))
	}
	return to
}

// nearTo leads most states to themselves.
func nearTo(r *rand.Rand, states int64) []int64 {
	to := stayingTo(states)
	to[r.Int63n(states)] = r.Int63n(states)
	return to
}

// partedTo leads the states below half and the others each among themselves.
func partedTo(r *rand.Rand, states int64) []int64 {
	to, half := []int64{}, states/2
	for s := range states {
		if s < half {
			to = append(to, r.Int63n(half))
		} else {
			to = append(to, half+r.Int63n(states-half))
		}
	}
	return to
}

func stayingTo(states int64) []int64 {
	to := []int64{}
	for s := range states {
		to = append(to, s)
	}
	return to
}

// downTo leads each state to the one before it, and 0 to itself.
func downTo(states int64) []int64 {
	to := []int64{}
	for s := range states {
		to = append(to, max(s-1, 0))
	}
	return to
}

// randomMaps returns so many maps of a random kind.
func randomMaps(r *rand.Rand, states, count, total int64) impl.Maps {
	kinds := []func(*rand.Rand, int64) []int64{randomTo, randomTurn, nearTo, partedTo}
	kind, lists := kinds[r.Intn(len(kinds))], [][]int64{}
	for range count {
		lists = append(lists, kind(r, states))
		if r.Intn(6) == 0 {
			lists[len(lists)-1] = slices.Clone(lists[r.Intn(len(lists))])
		}
	}
	return weighted(r, states, total, lists)
}

// mapsOfAllKinds returns maps that can coalesce, soon or late, and others.
func mapsOfAllKinds(r *rand.Rand, count int) []impl.Maps {
	list := []impl.Maps{}
	for states := int64(1); states <= impl.MaxStates; states++ {
		for _, lists := range [][][]int64{{stayingTo(states)}, {downTo(states)}, {stayingTo(states), downTo(states)}, {make([]int64, states)}} {
			list = append(list, weighted(r, states, 5, lists))
		}
	}
	for len(list) < count {
		states, number := 1+r.Int63n(impl.MaxStates), 1+r.Int63n(5)
		switch r.Intn(8) {
		case 0:
			m, _ := impl.MapsByDraws(sparseChain(r, states))
			list = append(list, m)
		case 1:
			list = append(list, randomMaps(r, states, 1+r.Int63n(20), 20+r.Int63n(41)))
		default:
			list = append(list, randomMaps(r, states, number, number+r.Int63n(20)))
		}
	}
	return list
}

// after returns where one map leads behind another one.
func after(first, second []int64) []int64 {
	to := []int64{}
	for _, s := range first {
		to = append(to, second[s])
	}
	return to
}

// applied returns where picked maps lead, the first one first.
func applied(m impl.Maps, picks []int64) []int64 {
	to := stayingTo(m.States)
	for _, number := range picks {
		to = after(to, m.List[number].To)
	}
	return to
}

// areOne tells whether all numbers are the same.
func areOne(to []int64) bool { return len(slices.Compact(slices.Clone(to))) == 1 }

// composed has the chances of all that random maps lead to together, in parts of
// the Total to the power of their number.
type composed struct {
	m     impl.Maps
	parts map[[impl.MaxStates]int64]*big.Int
	whole *big.Int
}

func noneComposed(m impl.Maps) composed {
	key := [impl.MaxStates]int64{}
	copy(key[:], stayingTo(m.States))
	return composed{m, map[[impl.MaxStates]int64]*big.Int{key: big.NewInt(1)}, big.NewInt(1)}
}

// add puts one more random map to those that are there: join tells where.
func (c composed) add(join func(all, one []int64) []int64) composed {
	next := composed{c.m, map[[impl.MaxStates]int64]*big.Int{}, new(big.Int).Mul(c.whole, big.NewInt(c.m.Total))}
	for all, parts := range c.parts {
		for _, one := range c.m.List {
			key := [impl.MaxStates]int64{}
			copy(key[:], join(all[:c.m.States], one.To))
			if next.parts[key] == nil {
				next.parts[key] = new(big.Int)
			}
			next.parts[key].Add(next.parts[key], new(big.Int).Mul(parts, big.NewInt(one.Weight)))
		}
	}
	return next
}

// later puts a map behind those that are there, and earlier puts it before them.
func (c composed) later() composed { return c.add(after) }
func (c composed) earlier() composed {
	return c.add(func(all, one []int64) []int64 { return after(one, all) })
}

// ends returns the chances of each state to be where all are led.
func (c composed) ends() []*big.Rat {
	ends := zeros(c.m.States)
	for to, parts := range c.parts {
		if areOne(to[:c.m.States]) {
			ends[to[0]].Add(ends[to[0]], new(big.Rat).SetFrac(parts, c.whole))
		}
	}
	return ends
}

// withoutEnds leaves out what leads all states to one.
func (c composed) withoutEnds() composed {
	rest := composed{c.m, map[[impl.MaxStates]int64]*big.Int{}, c.whole}
	for to, parts := range c.parts {
		if !areOne(to[:c.m.States]) {
			rest.parts[to] = parts
		}
	}
	return rest
}

func addRats(a, b []*big.Rat) []*big.Rat {
	sums := []*big.Rat{}
	for i := range a {
		sums = append(sums, new(big.Rat).Add(a[i], b[i]))
	}
	return sums
}

// sumFractions returns the sum of chances.
func sumFractions(list []impl.Fraction) *big.Rat { return sumOf(ratsOf(list)) }

// canMeetAll tells whether some maps lead all states to one. They do just if any
// two states can be led to one, as then one can be left out after the other.
func canMeetAll(m impl.Maps) bool {
	meets := map[[2]int64]bool{}
	for s := range m.States {
		meets[[2]int64{s, s}] = true
	}
	for range m.States * m.States {
		for s := range m.States {
			for u := range m.States {
				for _, one := range m.List {
					if meets[[2]int64{one.To[s], one.To[u]}] {
						meets[[2]int64{s, u}] = true
					}
				}
			}
		}
	}
	return int64(len(meets)) == m.States*m.States
}

// allPicks calls see for each list of so many picks, with the product of the
// weights of the maps.
func allPicks(m impl.Maps, length int, see func(picks []int64, weight int64)) {
	var extend func(picks []int64, weight int64)
	extend = func(picks []int64, weight int64) {
		if len(picks) == length {
			see(picks, weight)
			return
		}
		for i, one := range m.List {
			extend(append(slices.Clone(picks), int64(i)), weight*one.Weight)
		}
	}
	extend(nil, 1)
}

func randomPicks(r *rand.Rand, m impl.Maps, count int) []int64 {
	picks := []int64{}
	for range count {
		picks = append(picks, r.Int63n(int64(len(m.List))))
	}
	return picks
}

// invalidMaps returns maps that are not valid, each for one reason.
func invalidMaps() map[string]impl.Maps {
	const most = math.MaxInt64
	with := func(states, total int64, list ...impl.Map) impl.Maps {
		return impl.Maps{States: states, Total: total, List: list}
	}
	one := func(weight int64, to ...int64) impl.Map { return impl.Map{Weight: weight, To: to} }
	return map[string]impl.Maps{
		"nothing":           {},
		"no states":         with(0, 1, one(1)),
		"negative states":   with(-1, 1, one(1)),
		"seven states":      with(7, 1, one(1, 0, 1, 2, 3, 4, 5, 6)),
		"many states":       with(most, 1, one(1, 0, 0)),
		"total 0":           with(1, 0, one(0, 0)),
		"total 0, no maps":  with(1, 0),
		"total 61":          with(1, 61, one(61, 0)),
		"negative total":    with(1, -1, one(-1, 0)),
		"no maps":           with(2, 1),
		"61 maps":           with(1, 60, slices.Repeat([]impl.Map{one(1, 0)}, 61)...),
		"61 maps, total 61": with(1, 61, slices.Repeat([]impl.Map{one(1, 0)}, 61)...),
		"a short map":       with(2, 2, one(1, 0, 1), one(1, 0)),
		"a long map":        with(2, 2, one(1, 0, 1, 0), one(1, 0, 1)),
		"a nil map":         with(2, 2, one(1, 0, 1), one(1)),
		"state 2 of 2":      with(2, 2, one(1, 0, 1), one(1, 0, 2)),
		"state -1":          with(2, 2, one(1, -1, 1), one(1, 0, 1)),
		"a far state":       with(2, 2, one(1, 0, most), one(1, 0, math.MinInt64)),
		"weight 0":          with(2, 2, one(2, 0, 1), one(0, 0, 0)),
		"a negative weight": with(2, 2, one(3, 0, 1), one(-1, 0, 0)),
		"a sum too small":   with(2, 3, one(1, 0, 1), one(1, 0, 0)),
		"a sum too great":   with(2, 3, one(1, 0, 1), one(3, 0, 0)),
		"a wrapped sum":     with(2, 4, one(most, 0, 1), one(most, 0, 0), one(6, 0, 1)),
	}
}

// badPicks returns lists that are no picks of so many maps.
func badPicks(count int64) [][]int64 {
	lastBad := make([]int64, impl.MaxPicks)
	lastBad[impl.MaxPicks-1] = count
	return [][]int64{
		{-1}, {count}, {0, count}, {-1, 0}, {0, 0, 0, 0, count}, {math.MaxInt64}, {math.MinInt64}, lastBad, make([]int64, impl.MaxPicks+1), make([]int64, 1000000),
	}
}

// noMapSteps returns numbers that are no numbers of steps.
func noMapSteps() []int64 { return []int64{-1, impl.MaxSteps + 1, math.MaxInt64, math.MinInt64} }

// orderOf makes an order of its rows, written as "110": '1' where the state of
// the row is below that of the column.
func orderOf(rows ...string) [][]bool {
	below := [][]bool{}
	for _, row := range rows {
		list := []bool{}
		for _, x := range row {
			list = append(list, x == '1')
		}
		below = append(below, list)
	}
	return below
}

func lineOf(t *testing.T, states int64) [][]bool {
	t.Helper()
	below, got := impl.LineOrder(states)
	same(t, "code", got, int64(impl.OK))
	return below
}

// isAnOrder tells whether a relation is an order.
func isAnOrder(below [][]bool) bool {
	for s := range below {
		for u := range below {
			if s == u && !below[s][u] || s != u && below[s][u] && below[u][s] {
				return false
			}
			for v := range below {
				if below[s][u] && below[u][v] && !below[s][v] {
					return false
				}
			}
		}
	}
	return true
}

// randomOrder returns an order of so many states: one in hundred parts of the
// pairs are related at first, and what follows from them.
func randomOrder(r *rand.Rand, states int64, parts int) [][]bool {
	names, below := r.Perm(int(states)), [][]bool{}
	for range states {
		below = append(below, make([]bool, states))
	}
	for i, s := range names {
		below[s][s] = true
		for _, u := range names[i+1:] {
			below[s][u] = r.Intn(100) < parts
		}
	}
	for range states {
		for s := range states {
			for u := range states {
				for v := range states {
					below[s][v] = below[s][v] || below[s][u] && below[u][v]
				}
			}
		}
	}
	return below
}

// randomEnded returns an order with both ends.
func randomEnded(r *rand.Rand, states int64) [][]bool {
	for {
		below := randomOrder(r, states, 20+r.Intn(80))
		low, high := endsIn(below)
		if low >= 0 && high >= 0 {
			return below
		}
	}
}

// endsIn returns the ends of an order, -1 for one that does not exist.
func endsIn(below [][]bool) (low, high int64) {
	low, high = -1, -1
	for s := range below {
		isLow, isHigh := true, true
		for u := range below {
			isLow = isLow && below[s][u]
			isHigh = isHigh && below[u][s]
		}
		if isLow {
			low = int64(s)
		}
		if isHigh {
			high = int64(s)
		}
	}
	return low, high
}

func isMonotoneMap(to []int64, below [][]bool) bool {
	for s := range below {
		for u := range below {
			if below[s][u] && !below[to[s]][to[u]] {
				return false
			}
		}
	}
	return true
}

// monotoneTo returns a random monotone map: it begins with one, and moves single
// states as long as it stays one.
func monotoneTo(r *rand.Rand, below [][]bool) []int64 {
	states := int64(len(below))
	to := stayingTo(states)
	for range 3 * r.Intn(int(4*states)) {
		moved := slices.Clone(to)
		moved[r.Int63n(states)] = r.Int63n(states)
		if isMonotoneMap(moved, below) {
			to = moved
		}
	}
	return to
}

func monotoneMaps(r *rand.Rand, below [][]bool) impl.Maps {
	lists := [][]int64{}
	for range 1 + r.Intn(5) {
		lists = append(lists, monotoneTo(r, below))
	}
	return weighted(r, int64(len(below)), int64(len(lists))+r.Int63n(10), lists)
}

// badOrders returns relations that are no orders.
func badOrders() map[string][][]bool {
	return map[string][][]bool{
		"nothing":              nil,
		"no rows":              {},
		"an empty row":         {{}},
		"not below itself":     orderOf("0"),
		"one not below itself": orderOf("110", "010", "000"),
		"both below the other": orderOf("11", "11"),
		"a gap":                orderOf("110", "011", "001"),
		"a circle":             orderOf("110", "011", "101"),
		"a short row":          orderOf("11", "0"),
		"a long row":           orderOf("11", "010"),
		"a row too few":        orderOf("110", "010"),
		"a row too many":       orderOf("11", "01", "00"),
		"a nil row":            {{true, true}, nil},
		"seven states":         randomOrder(rand.New(rand.NewSource(1)), 7, 100),
		"many rows":            make([][]bool, 1000000),
		"a row of many":        {make([]bool, 999999)},
	}
}
