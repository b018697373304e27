package tests

import (
	"math"
	"math/big"
	"slices"
	"testing"

	"loop.example/g01118/impl"
)

// The tests of this file are about promise 17: shuffles, and the chances of decks
// after riffles.

// turns are the ways of a shuffle that put the cards to the same places, and how
// many there are: the card at the place i comes from the place from[i].
type turns struct {
	ways int64
	from []int64
}

// knownShuffles has the ways of each kind for one, two and three cards, written
// down one by one.
func knownShuffles() map[int64][3][]turns {
	one, stay, turn := []int64{0}, []int64{0, 1}, []int64{1, 0}
	id, first, last := []int64{0, 1, 2}, []int64{1, 0, 2}, []int64{0, 2, 1}
	ends, topDown, bottomUp := []int64{2, 1, 0}, []int64{1, 2, 0}, []int64{2, 0, 1}
	return map[int64][3][]turns{
		impl.ShTop:    {{{1, one}}, {{1, stay}, {1, turn}}, {{1, id}, {1, first}, {1, topDown}}},
		impl.ShSwap:   {{{1, one}}, {{2, stay}, {2, turn}}, {{3, id}, {2, first}, {2, last}, {2, ends}}},
		impl.ShSide:   {{{2, one}}, {{3, stay}, {1, turn}}, {{4, id}, {1, first}, {1, last}}},
		impl.ShCut:    {{{1, one}}, {{1, stay}, {1, turn}}, {{1, id}, {1, topDown}, {1, bottomUp}}},
		impl.ShRiffle: {{{2, one}}, {{3, stay}, {1, turn}}, {{4, id}, {1, first}, {1, last}, {1, topDown}, {1, bottomUp}}},
	}
}

// totalOf is the Total of the table.
func totalOf(cards, kind int64) int64 {
	switch kind {
	case impl.ShSwap:
		return cards * cards
	case impl.ShSide:
		return 2 * cards
	case impl.ShRiffle:
		return []int64{1, 2, 4, 8}[cards]
	default:
		return cards
	}
}

func TestShuffleChain(t *testing.T) {
	decks := knownDecks()
	for kind, known := range knownShuffles() {
		for i, list := range known {
			cards, numbers := int64(i+1), decks[i]
			want := impl.Chain{States: int64(len(numbers)), Total: totalOf(cards, kind)}
			for _, deck := range numbers {
				row := make([]int64, len(numbers))
				for _, turn := range list {
					to := after(turn.from, deck)
					row[slices.IndexFunc(numbers, func(deck []int64) bool { return slices.Equal(deck, to) })] += turn.ways
				}
				want.Weights = append(want.Weights, row)
			}
			c, got := impl.ShuffleChain(cards, kind)
			same(t, "shuffle", c, want)
			same(t, "code", got, int64(impl.OK))
			same(t, "valid", impl.ValidChain(c), true)
		}
	}
}

// TestShuffleText has all chains of the decks of two cards, and the first rows of
// those of three.
func TestShuffleText(t *testing.T) {
	for _, one := range []struct {
		kind  int64
		two   string
		three []int64
	}{
		{impl.ShTop, "chain 2 2\nfrom 1 1\nfrom 1 1\n", []int64{1, 0, 1, 1, 0, 0}},
		{impl.ShSwap, "chain 2 4\nfrom 2 2\nfrom 2 2\n", []int64{3, 2, 2, 0, 0, 2}},
		{impl.ShSide, "chain 2 4\nfrom 3 1\nfrom 1 3\n", []int64{4, 1, 1, 0, 0, 0}},
		{impl.ShCut, "chain 2 2\nfrom 1 1\nfrom 1 1\n", []int64{1, 0, 0, 1, 1, 0}},
		{impl.ShRiffle, "chain 2 4\nfrom 3 1\nfrom 1 3\n", []int64{4, 1, 1, 1, 1, 0}},
	} {
		c, _ := impl.ShuffleChain(2, one.kind)
		same(t, "two cards", impl.ChainText(c), one.two)
		c, _ = impl.ShuffleChain(3, one.kind)
		same(t, "three cards", c.Weights[0], one.three)
	}
	c, _ := impl.ShuffleChain(3, impl.ShTop)
	same(t, "from the last deck", c.Weights[5], []int64{0, 0, 1, 1, 0, 1})
}

// TestShufflesLeaveAlike begins with all decks alike, and looks at the long run.
func TestShufflesLeaveAlike(t *testing.T) {
	for kind := int64(impl.ShTop); kind <= impl.ShRiffle; kind++ {
		for cards := int64(1); cards <= impl.MaxCards; cards++ {
			c, got := impl.ShuffleChain(cards, kind)
			same(t, "code", got, int64(impl.OK))
			isEven, got := impl.IsEven(c)
			same(t, "even", isEven, true)
			same(t, "code", got, int64(impl.OK))
			even, _ := impl.EvenSpread(c.States)
			for _, steps := range []int64{0, 1, 2, impl.MaxSteps} {
				after, got := impl.SpreadAfter(c, even, steps)
				same(t, "all alike", after, even)
				same(t, "code", got, int64(impl.OK))
			}
			all, _ := impl.IsConnected(c)
			same(t, "connected", all, kind != impl.ShCut || cards < 3)
			if all {
				p, got := impl.StationarySpread(c)
				same(t, "in the long run", p, even)
				same(t, "code", got, int64(impl.OK))
			}
		}
	}
}

func TestShuffleErrors(t *testing.T) {
	for _, cards := range append(badCards(), 1, 2, 3) {
		for _, kind := range []int64{0, -1, 1, 2, 3, 4, 5, 6, 7, math.MaxInt64, math.MinInt64} {
			if cards >= 1 && cards <= impl.MaxCards && kind >= 1 && kind <= 5 {
				continue
			}
			c, got := impl.ShuffleChain(cards, kind)
			code(t, "ShuffleChain", impl.ErrRange, c.States, c.Total, c.Weights, got)
		}
	}
}

// dealtRiffles counts, for each deck, in how many ways its places get one of so
// many piles, from the top on those with the first pile getting the first cards,
// those with the second one the next ones, and so on.
func dealtRiffles(cards, piles int64) map[[impl.MaxCards]int64]int64 {
	counts := map[[impl.MaxCards]int64]int64{}
	var deal func(places []int64)
	deal = func(places []int64) {
		if int64(len(places)) < cards {
			for pile := range piles {
				deal(append(slices.Clone(places), pile))
			}
			return
		}
		deck, card := [impl.MaxCards]int64{}, int64(0)
		for pile := range piles {
			for place, at := range places {
				if at == pile {
					deck[place] = card
					card++
				}
			}
		}
		counts[deck]++
	}
	deal(nil)
	return counts
}

func TestRiffleChanceByPiles(t *testing.T) {
	for i, decks := range knownDecks() {
		cards := int64(i + 1)
		for shuffles := range int64(5) {
			piles := int64(1) << shuffles
			whole := int64(1)
			for range cards {
				whole *= piles
			}
			counts := dealtRiffles(cards, piles)
			for _, deck := range decks {
				key := [impl.MaxCards]int64{}
				copy(key[:], deck)
				x, got := impl.RiffleChance(deck, shuffles)
				isFraction(t, "piles", big.NewRat(counts[key], whole), x, got)
			}
		}
	}
}

// TestRiffleChance compares with the chain of riffles, from all decks: what comes
// of a deck is where its cards come.
func TestRiffleChance(t *testing.T) {
	for i, decks := range knownDecks() {
		c, _ := impl.ShuffleChain(int64(i+1), impl.ShRiffle)
		for shuffles := range int64(impl.MaxSteps + 1) {
			sum := new(big.Rat)
			for number, deck := range decks {
				x, got := impl.RiffleChance(deck, shuffles)
				same(t, "code", got, int64(impl.OK))
				sum.Add(sum, ratOf(x))
				for s, from := range decks {
					to, _ := impl.DeckNumber(after(deck, from))
					y, got := impl.ChanceAfter(c, int64(s), to, shuffles)
					same(t, "as the chain", x, y)
					same(t, "code", got, int64(impl.OK))
				}
				runs, _ := impl.RisingRuns(deck)
				isFraction(t, "by runs", byRuns(int64(len(deck)), runs, shuffles), x, got)
				if number == 0 {
					same(t, "the likeliest one", runs, int64(1))
				}
			}
			same(t, "all", sum.RatString(), "1")
		}
	}
}

// byRuns is the number of ways to choose some things, which does not care for how
// many there are.
func byRuns(cards, runs, shuffles int64) *big.Rat {
	piles := new(big.Int).Lsh(big.NewInt(1), uint(shuffles))
	things := new(big.Int).Add(piles, big.NewInt(cards-runs))
	ways := new(big.Int)
	if things.IsInt64() {
		ways.Binomial(things.Int64(), cards)
	}
	return new(big.Rat).SetFrac(ways, new(big.Int).Exp(piles, big.NewInt(cards), nil))
}

func TestRiffleEdges(t *testing.T) {
	for _, one := range []struct {
		name     string
		deck     []int64
		shuffles int64
		want     string
	}{
		{"the example", []int64{1, 0}, 1, "1/4"},
		{"no shuffle", []int64{0, 1, 2}, 0, "1"},
		{"no shuffle, two runs", []int64{1, 2, 0}, 0, "0"},
		{"no shuffle, three runs", []int64{2, 1, 0}, 0, "0"},
		{"no shuffle, two cards", []int64{1, 0}, 0, "0"},
		{"one card", []int64{0}, 0, "1"},
		{"one card, many shuffles", []int64{0}, impl.MaxSteps, "1"},
		{"one shuffle", []int64{0, 1, 2}, 1, "1/2"},
		{"one shuffle, two runs", []int64{2, 0, 1}, 1, "1/8"},
		{"one shuffle, three runs", []int64{2, 1, 0}, 1, "0"},
		{"two shuffles, three runs", []int64{2, 1, 0}, 2, "1/16"},
		{"two shuffles, one run", []int64{0, 1, 2}, 2, "5/16"},
		{"many shuffles, one run", []int64{0, 1}, impl.MaxSteps, "1099511627777/2199023255552"},
		{"many shuffles, two runs", []int64{1, 0}, impl.MaxSteps, "1099511627775/2199023255552"},
	} {
		x, got := impl.RiffleChance(one.deck, one.shuffles)
		hasOne(t, one.name, one.want, x, got)
	}
	for _, shuffles := range []int64{-1, impl.MaxSteps + 1, 63, 64, math.MaxInt64, math.MinInt64} {
		for _, deck := range append(slices.Concat(knownDecks()...), badDecks()...) {
			x, got := impl.RiffleChance(deck, shuffles)
			code(t, "shuffles", impl.ErrRange, x, got)
		}
	}
	for _, bad := range badDecks() {
		for _, shuffles := range []int64{0, 1, impl.MaxSteps} {
			x, got := impl.RiffleChance(bad, shuffles)
			code(t, "no deck", impl.ErrRange, x, got)
		}
	}
}
