package tests

import (
	"fmt"
	"math/rand"
	"slices"
	"testing"

	"loop.example/g01118/impl"
)

// The tests of this file are about promise 22: what has been handed out are the
// samples, in order and each once, and all can be handed out.

// isHandedOut fails the test unless what has been handed out is the beginning of
// the samples.
func isHandedOut(t *testing.T, v impl.Service, deeds []impl.Deed) []int64 {
	t.Helper()
	out, got := impl.HandedOut(v, deeds)
	same(t, "code", got, int64(impl.OK))
	samples := resultsIn(v)
	if len(out) > len(samples) || !slices.Equal(out, samples[:len(out)]) {
		t.Errorf("%v by %v: handed out %v of %v", v, deeds, out, samples)
	}
	return out
}

// TestHandedOut loses, copies and delays packets, and crashes again and again.
func TestHandedOut(t *testing.T) {
	r := rand.New(rand.NewSource(631))
	kinds := map[string]int{}
	for i := range 400 {
		v := someService(t, r)
		if i%2 == 1 {
			v = serviceOf(t, seldomMeets, r.Int63n(1000), 1+r.Int63n(3), 1+r.Int63n(impl.MaxWorkers))
		}
		deeds, k := someDeeds(r, v, []int{r.Intn(impl.MaxDeeds), impl.MaxDeeds}[i%2])
		out := isHandedOut(t, v, deeds)
		same(t, "as known", out, k.out)
		plant, _, got := impl.PlantAfter(v, deeds)
		same(t, "code", got, int64(impl.OK))
		same(t, "the plant's", plant.Out, out)
		same(t, "counted", plant.Desk.Outs, int64(len(out)))
		for i, s := range resultsIn(v) {
			result := plant.Desk.Results[i]
			same(t, "the desk's", result == -1 || result == s, true)
		}
		for name, is := range map[string]bool{
			"none": len(out) == 0, "some": len(out) > 0 && len(out) < int(v.Samples), "all": len(out) == int(v.Samples), "in vain": slices.Contains(out, -2),
			"many crashes": k.seen["crash ok"]+k.seen["tear ok"] > 10 && len(out) > 2, "both": slices.Contains(out, -2) && slices.Max(out) > 0,
		} {
			if is {
				kinds[name]++
			}
		}
	}
	sawAll(t, kinds, "none", "some", "all", "in vain", "many crashes", "both")
}

// TestSamplesAreSamples compares what is handed out in the end with SampleOf.
func TestSamplesAreSamples(t *testing.T) {
	r := rand.New(rand.NewSource(632))
	inVain := 0
	for range 120 {
		v := someService(t, r)
		plan, got := impl.FinishDeeds(v, nil)
		same(t, "code", got, int64(impl.OK))
		out := isHandedOut(t, v, plan)
		same(t, "all", len(out), int(v.Samples))
		for i, result := range out {
			s, level, got := impl.SampleOf(v.Chain, v.Base+int64(i))
			if got == impl.ErrNotFound {
				same(t, "none", result, int64(-2))
				inVain++
				continue
			}
			same(t, "sample", result, s)
			plant, _, _ := impl.PlantAfter(v, plan)
			same(t, "its level", plant.Desk.Levels[i], level)
		}
	}
	if inVain < 20 {
		t.Error("too few in vain", inVain)
	}
}

// isFinished fails the test unless all samples have been handed out behind the
// plan of FinishDeeds, and all of it can be done.
func isFinished(t *testing.T, v impl.Service, deeds []impl.Deed, k *knownPlant) {
	t.Helper()
	_, done, _ := impl.PlantAfter(v, deeds)
	want := k.finishIn()
	plan, got := impl.FinishDeeds(v, deeds)
	if len(deeds)+len(want) > impl.MaxDeeds {
		code(t, "too many", impl.ErrLimit, plan, got)
		return
	}
	same(t, "plan", plan, want)
	same(t, "code", got, int64(impl.OK))
	all := slices.Concat(deeds, plan)
	plant, then, got := impl.PlantAfter(v, all)
	same(t, "code", got, int64(impl.OK))
	same(t, "done", then, done+int64(len(plan)))
	samePlant(t, "finished", plant, k.state())
	same(t, "all", isHandedOut(t, v, all), resultsIn(v))
	again, got := impl.FinishDeeds(v, all)
	if len(all) < impl.MaxDeeds {
		same(t, "nothing left", again, []impl.Deed{deed(impl.DdQuit, 0)})
		same(t, "code", got, int64(impl.OK))
	} else {
		code(t, "no deed left", impl.ErrLimit, again, got)
	}
}

// TestFinishDeeds begins in any state, also with as many deeds that there may be
// too many.
func TestFinishDeeds(t *testing.T) {
	r := rand.New(rand.NewSource(633))
	kinds := map[string]int{}
	for i := range 300 {
		v := someService(t, r)
		most := []int{40, 200, impl.MaxDeeds + 1}[i%3]
		deeds, k := someDeeds(r, v, r.Intn(most))
		for name, is := range map[string]bool{
			"packets": len(k.wire) > 0, "a full wire": len(k.wire) == impl.MaxWire, "no packets": len(k.wire) == 0, "a hand": k.hands[0] != nil,
			"all out": len(k.out) == int(v.Samples), "a result": k.next() < 0 && len(k.out) < int(v.Samples), "not synced": len(k.lines) > k.synced, "no result": k.next() >= 0,
		} {
			if is {
				kinds[name]++
			}
		}
		isFinished(t, v, deeds, k)
	}
	sawAll(t, kinds, "packets", "a full wire", "no packets", "a hand", "all out", "a result", "not synced", "no result")
}

// TestFinishDeedsAtMost adds deeds, done or refused, until there are just as many
// as can be, and one more.
func TestFinishDeedsAtMost(t *testing.T) {
	r := rand.New(rand.NewSource(634))
	for range 25 {
		v := someService(t, r)
		deeds, _ := someDeeds(r, v, r.Intn(100))
		plan, got := impl.FinishDeeds(v, deeds)
		same(t, "code", got, int64(impl.OK))
		for _, filler := range []impl.Deed{deed(impl.DdSync, 0), deed(impl.DdWork, 999), deed(impl.DdDrop, impl.MaxWire)} {
			if filler.Kind != impl.DdSync && r.Intn(2) == 0 {
				continue
			}
			more := append(slices.Clone(deeds), slices.Repeat([]impl.Deed{filler}, impl.MaxDeeds-len(plan)-len(deeds))...)
			again, got := impl.FinishDeeds(v, more)
			same(t, "just as many", again, plan)
			same(t, "code", got, int64(impl.OK))
			same(t, "all", isHandedOut(t, v, slices.Concat(more, again)), resultsIn(v))
			again, got = impl.FinishDeeds(v, append(more, filler))
			code(t, "one more", impl.ErrLimit, again, got)
		}
	}
	v := serviceOf(t, neverMeets, 0, impl.MaxSamples, impl.MaxWorkers)
	longest, got := impl.FinishDeeds(v, slices.Repeat(deedsOf("give 0"), impl.MaxDeeds-12-1-4*7*8-8))
	same(t, "the longest plan", len(longest), 12+1+4*7*8+8)
	same(t, "code", got, int64(impl.OK))
	longest, got = impl.FinishDeeds(v, slices.Repeat(deedsOf("give 0"), impl.MaxDeeds-12-1-4*7*8-8+1))
	code(t, "one more", impl.ErrLimit, longest, got)
	longest, got = impl.FinishDeeds(v, slices.Repeat(deedsOf("give 9"), impl.MaxDeeds))
	code(t, "no deed left", impl.ErrLimit, longest, got)
}

func TestFinishDeedsEdges(t *testing.T) {
	round := "give 0, deliver 0, work 0, deliver 0"
	for _, one := range []struct {
		v              impl.Service
		deeds, planned string
	}{
		{serviceOf(t, fairCoin, 1, 1, 1), "", "quit 0, " + round + ", out"},
		{serviceOf(t, fairCoin, 1, 1, 1), round + ", out", "quit 0"},
		{serviceOf(t, fairCoin, 1, 1, 1), round, "quit 0, out"},
		{serviceOf(t, fairCoin, 1, 1, 1), round + ", crash", "quit 0, " + round + ", out"},
		{serviceOf(t, fairCoin, 1, 1, 1), round + ", sync, crash", "quit 0, out"},
		{serviceOf(t, fairCoin, 1, 1, 2), "give 1, give 0, give 1, deliver 1", "drop 0, drop 0, quit 0, " + round + ", out"},
		{serviceOf(t, fairCoin, 1, 2, 2), "give 1, deliver 0, work 1, deliver 0", "quit 0, " + round + ", out, out"},
		{serviceOf(t, fairCoin, 1, 2, 1), "give 0, copy 0, work 0, deliver 1, out", "drop 0, quit 0, " + round + ", out"},
		{serviceOf(t, oneState, 0, 1, 1), "give 3, out, tear", "quit 0, " + round + ", out"},
		{serviceOf(t, neverMeets, 0, 1, 1), round + ", " + round + ", " + round + ", " + round + ", " + round, "quit 0, " + round + ", " + round + ", out"},
	} {
		plan, got := impl.FinishDeeds(one.v, deedsOf(one.deeds))
		same(t, one.deeds, plan, deedsOf(one.planned))
		same(t, one.deeds, got, int64(impl.OK))
	}
}

// TestEachOnce delivers each packet again and again, at the worst times.
func TestEachOnce(t *testing.T) {
	v := serviceOf(t, seldomMeets, 0, 3, 2)
	for _, text := range []string{
		"give 0, copy 0, copy 0, work 0, copy 1, copy 1, deliver 1, copy 0, work 0, copy 1, deliver 1, out, out, out, crash, out",
		"give 0, give 1, deliver 0, deliver 0, work 1, work 0, copy 0, copy 1, crash, copy 0, copy 1, tear, deliver 1, copy 0, out, copy 0, crash, deliver 0, out",
		"give 0, deliver 0, work 0, copy 0, out, copy 0, crash, copy 0, out, tear, deliver 0, out, sync, crash",
	} {
		for deeds := deedsOf(text); len(deeds) > 0; deeds = deeds[:len(deeds)-1] {
			isHandedOut(t, v, deeds)
			k := newKnown(v)
			k.doAll(deeds)
			isFinished(t, v, deeds, k)
		}
	}
}

// TestAllShortWork looks at all lists of some deeds, up to a length.
func TestAllShortWork(t *testing.T) {
	v := serviceOf(t, seldomMeets, 0, 2, 1)
	some := deedsOf("give 0, work 0, deliver 0, copy 0, out, crash")
	handed := map[string]int{}
	lists := [][]impl.Deed{{}}
	for range 6 {
		longer := [][]impl.Deed{}
		for _, list := range lists {
			for _, d := range some {
				longer = append(longer, append(slices.Clone(list), d))
			}
		}
		lists = longer
	}
	// What has been handed out behind a shorter list is the beginning of it.
	for _, deeds := range lists {
		k := newKnown(v)
		k.doAll(deeds)
		plant, done, got := impl.PlantAfter(v, deeds)
		same(t, "code", got, int64(impl.OK))
		samePlant(t, fmt.Sprint(deeds), plant, k.state())
		refused := k.seen["give range"] + k.seen["give state"] + k.seen["work state"] + k.seen["deliver range"] + k.seen["copy range"] + k.seen["out state"]
		same(t, "done", done, int64(len(deeds)-refused))
		handed[fmt.Sprint(plant.Out)]++
	}
	samples := resultsIn(v)
	for out := range handed {
		same(t, "handed out", slices.Contains([]string{"[]", fmt.Sprint(samples[:1])}, out), true)
	}
	same(t, "both", len(handed), 2)
}
