package tests

import (
	"fmt"
	"math"
	"math/rand"
	"slices"
	"strings"
	"testing"

	"loop.example/g01118/impl"
)

// The tests of this file are about promise 21: deeds and their texts.

func TestValidDeed(t *testing.T) {
	for kind := int64(-2); kind <= 13; kind++ {
		for a := int64(-2); a <= 1002; a++ {
			want := 1 <= kind && kind <= 10 && 0 <= a && a <= 999
			if want && isAlone(kind) {
				want = a == 0
			}
			if got := impl.ValidDeed(deed(kind, a)); got != want {
				t.Errorf("%d %d: got %v", kind, a, got)
			}
		}
	}
	for _, bad := range invalidDeeds() {
		same(t, fmt.Sprint(bad), impl.ValidDeed(bad), false)
		same(t, fmt.Sprint(bad), impl.DeedText(bad), "")
	}
}

// TestDeedText has all valid deeds.
func TestDeedText(t *testing.T) {
	for kind := int64(1); kind <= 10; kind++ {
		for a := range int64(1000) {
			d := deed(kind, a)
			if isAlone(kind) && a > 0 {
				break
			}
			same(t, "text", impl.DeedText(d), deedLine(d))
			again, got := impl.ReadDeed(deedLine(d))
			same(t, "deed", again, d)
			same(t, "code", got, int64(impl.OK))
		}
	}
}

func TestReadDeed(t *testing.T) {
	for _, one := range []struct {
		text string
		want impl.Deed
	}{
		{"give 0", deed(impl.DdGive, 0)}, {"work 3", deed(impl.DdWork, 3)}, {"deliver 11", deed(impl.DdDeliver, 11)}, {"copy 999", deed(impl.DdCopy, 999)},
		{"drop 10", deed(impl.DdDrop, 10)}, {"sync", deed(impl.DdSync, 0)}, {"out", deed(impl.DdOut, 0)}, {"crash", deed(impl.DdCrash, 0)}, {"tear", deed(impl.DdTear, 0)},
		{"quit 3", deed(impl.DdQuit, 3)},
	} {
		d, got := impl.ReadDeed(one.text)
		same(t, one.text, d, one.want)
		same(t, one.text, got, int64(impl.OK))
	}
	texts := []string{
		"", " ", "\n", "0", "1", " 0", "what", "handed", "levels", "journal", "up 0 1", "out 0", "give", "give ", "give  0", " give 0", "give 0 ", "give 0\n", "give 0 0", "give 00",
		"give 01", "give -0", "give -1", "give +1", "give 1000", "give 9999", "give 99999999999999999999", "give 18446744073709551616", "give 0x1", "give 1.0", "give 1_0", "give\t0",
		"give0", "Give 0", "GIVE 0", "giv 0", "gives 0", "give a", "give 0,", "give 0\x00", "sync ", "sync 0", "sync\n", " sync", "Sync", "syncs", "sync 1", "out 1", "out ", "crash 0", "crash\n",
		"tear 0", "tear ", "quit", "quit -1", "quit 1000", "drop", "copy ", "deliver x", "work 1 2", "give 1e2", "give ١", strings.Repeat("give 0", 1000), "give " + strings.Repeat("0", 1000),
	}
	for _, text := range texts {
		d, got := impl.ReadDeed(text)
		code(t, fmt.Sprintf("%q", text), impl.ErrSyntax, d, got)
	}
}

// TestChangedDeeds changes bytes of texts: what is read is just what the text is.
func TestChangedDeeds(t *testing.T) {
	r := rand.New(rand.NewSource(621))
	kinds := map[int64]int{}
	for range 20000 {
		d := deed(1+r.Int63n(10), []int64{r.Int63n(10), r.Int63n(1000)}[r.Intn(2)])
		text := changedText(r, deedLine(d), "givetworkdx 0123456789-+\n")
		again, got := impl.ReadDeed(text)
		kinds[got]++
		want, isDeed := allDeedLines()[text]
		if isDeed {
			same(t, text, again, want)
			same(t, text, got, int64(impl.OK))
		} else {
			code(t, text, impl.ErrSyntax, again, got)
		}
	}
	if kinds[impl.OK] < 500 || kinds[impl.ErrSyntax] < 500 {
		t.Error("too few of one kind", kinds)
	}
}

// deedCalls returns the codes of all functions that are given deeds, by their
// names, with all results.
func deedCalls(v impl.Service, deeds []impl.Deed) map[string][]any {
	of := func(results ...any) []any { return results }
	return map[string][]any{
		"PlantAfter": of(impl.PlantAfter(v, deeds)), "RefusedDeed": of(impl.RefusedDeed(v, deeds)), "HandedOut": of(impl.HandedOut(v, deeds)),
		"FinishDeeds": of(impl.FinishDeeds(v, deeds)),
	}
}

func deedCodes(t *testing.T, name string, want int64, v impl.Service, deeds []impl.Deed) {
	t.Helper()
	for function, results := range deedCalls(v, deeds) {
		code(t, name+": "+function, want, results...)
	}
}

func TestDeedErrors(t *testing.T) {
	many, all := slices.Repeat([]impl.Deed{deed(impl.DdSync, 0)}, impl.MaxDeeds+1), serviceOf(t, fairCoin, 1, 1, 2)
	for _, bad := range invalidDeeds() {
		for _, deeds := range [][]impl.Deed{{bad}, append(deedsOf("give 0, sync"), bad), append([]impl.Deed{bad}, many...), append(slices.Clone(many), bad)} {
			deedCodes(t, fmt.Sprint(bad), impl.ErrInvalid, all, deeds)
		}
	}
	for name, v := range invalidServices(t) {
		for _, deeds := range [][]impl.Deed{nil, deedsOf("give 0, sync"), {{}}, many} {
			deedCodes(t, name, impl.ErrInvalid, v, deeds)
		}
	}
	deedCodes(t, "too many", impl.ErrRange, all, many)
	deedCodes(t, "far too many", impl.ErrRange, all, slices.Repeat(deedsOf("work 999"), 10000))
	deedCodes(t, "a far number", impl.ErrInvalid, all, []impl.Deed{deed(impl.DdGive, math.MaxInt64)})
}
