package tests

import (
	"math"
	"slices"
	"testing"

	"loop.example/g01118/impl"
)

// The tests of this file are about promise 17: decks, their numbers and their
// rising runs.

// knownDecks are all decks of one, two and three cards, in lexicographic order.
func knownDecks() [][][]int64 {
	return [][][]int64{
		{{0}},
		{{0, 1}, {1, 0}},
		{{0, 1, 2}, {0, 2, 1}, {1, 0, 2}, {1, 2, 0}, {2, 0, 1}, {2, 1, 0}},
	}
}

// badDecks returns lists that are no decks.
func badDecks() [][]int64 {
	return [][]int64{
		nil, {}, {1}, {-1}, {2}, {0, 0}, {1, 1}, {0, 2}, {1, 2}, {-1, 0}, {0, -1}, {2, 0}, {0, 0, 0}, {0, 1, 1}, {0, 0, 1}, {1, 2, 3}, {0, 1, 3}, {3, 1, 0}, {1, 0, 0}, {2, 2, 1},
		{0, 1, -1}, {0, 1, 2, 3}, {0, 1, 2, 0}, {3, 2, 1, 0}, {0, 1, 2, 3, 4, 5}, {math.MaxInt64}, {math.MinInt64, 0}, {0, 1, math.MaxInt64}, make([]int64, 4), make([]int64, 1000000),
	}
}

func badCards() []int64 { return []int64{0, -1, impl.MaxCards + 1, math.MaxInt64, math.MinInt64} }

func TestDecks(t *testing.T) {
	for i, decks := range knownDecks() {
		cards := int64(i + 1)
		for number, want := range decks {
			deck, got := impl.DeckAt(cards, int64(number))
			same(t, "deck", deck, want)
			same(t, "code", got, int64(impl.OK))
			again, got := impl.DeckNumber(want)
			same(t, "number", again, int64(number))
			same(t, "code", got, int64(impl.OK))
		}
		same(t, "in order", slices.IsSortedFunc(decks, slices.Compare), true)
		for _, number := range []int64{-1, int64(len(decks)), 6, 7, math.MaxInt64, math.MinInt64} {
			deck, got := impl.DeckAt(cards, number)
			code(t, "no such deck", impl.ErrRange, deck, got)
		}
	}
	for _, cards := range badCards() {
		for _, number := range []int64{0, 1, -1, 23, 24, math.MaxInt64} {
			deck, got := impl.DeckAt(cards, number)
			code(t, "cards", impl.ErrRange, deck, got)
		}
	}
	for _, bad := range badDecks() {
		number, got := impl.DeckNumber(bad)
		code(t, "no deck", impl.ErrRange, number, got)
	}
}

// TestAllLists looks at all lists of small numbers: those that are decks are found
// by their numbers, and no others.
func TestAllLists(t *testing.T) {
	decks := slices.Concat(knownDecks()...)
	lists := [][]int64{nil}
	for from := 0; from < len(lists); from++ {
		list := lists[from]
		isDeck := slices.ContainsFunc(decks, func(deck []int64) bool { return slices.Equal(deck, list) })
		number, got := impl.DeckNumber(list)
		runs, runsCode := impl.RisingRuns(list)
		x, chanceCode := impl.RiffleChance(list, 3)
		if isDeck {
			same(t, "codes", []int64{got, runsCode, chanceCode}, make([]int64, 3))
			deck, _ := impl.DeckAt(int64(len(list)), number)
			same(t, "there and back", deck, list)
		} else {
			code(t, "DeckNumber", impl.ErrRange, number, got)
			code(t, "RisingRuns", impl.ErrRange, runs, runsCode)
			code(t, "RiffleChance", impl.ErrRange, x, chanceCode)
		}
		for card := int64(-1); len(list) < 4 && card <= 4; card++ {
			lists = append(lists, append(slices.Clone(list), card))
		}
	}
}

func TestRisingRuns(t *testing.T) {
	for _, one := range []struct {
		deck []int64
		want int64
	}{
		{[]int64{0}, 1}, {[]int64{0, 1}, 1}, {[]int64{1, 0}, 2}, {[]int64{0, 1, 2}, 1}, {[]int64{0, 2, 1}, 2}, {[]int64{1, 0, 2}, 2}, {[]int64{1, 2, 0}, 2},
		{[]int64{2, 0, 1}, 2}, {[]int64{2, 1, 0}, 3},
	} {
		runs, got := impl.RisingRuns(one.deck)
		same(t, "runs", runs, one.want)
		same(t, "code", got, int64(impl.OK))
	}
	for _, bad := range badDecks() {
		runs, got := impl.RisingRuns(bad)
		code(t, "no deck", impl.ErrRange, runs, got)
	}
}
