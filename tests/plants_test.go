package tests

import (
	"fmt"
	"math/rand"
	"slices"
	"strings"
	"testing"

	"loop.example/g01118/impl"
)

// The tests of this file are about promise 23: what deeds do at a plant, what is
// left by a crash, and which deeds are refused.

// isPlant fails the test unless deeds do what they should, and returns what has
// been seen.
func isPlant(t *testing.T, v impl.Service, deeds []impl.Deed) map[string]int {
	t.Helper()
	k := newKnown(v)
	codes := k.doAll(deeds)
	plant, done, got := impl.PlantAfter(v, deeds)
	samePlant(t, fmt.Sprint(deeds), plant, k.state())
	isDone := func(one int64) bool { return one == impl.OK }
	isRefused := func(one int64) bool { return one != impl.OK }
	refused := slices.IndexFunc(codes, isRefused)
	same(t, "done", []int64{done, got}, []int64{int64(len(codes) - len(slices.DeleteFunc(slices.Clone(codes), isDone))), impl.OK})
	at, why, got := impl.RefusedDeed(v, deeds)
	if refused < 0 {
		code(t, "none refused", impl.ErrNotFound, at, why, got)
	} else {
		same(t, "refused", []int64{at, why, got}, []int64{int64(refused), codes[refused], impl.OK})
	}
	out, got := impl.HandedOut(v, deeds)
	same(t, "handed out", out, k.out)
	same(t, "code", got, int64(impl.OK))
	return k.seen
}

// TestPlantAfter has each deed done and refused with each of its errors, and all
// that can happen to a packet.
func TestPlantAfter(t *testing.T) {
	r := rand.New(rand.NewSource(641))
	seen := map[string]int{}
	for range 300 {
		v := someService(t, r)
		deeds, k := someDeeds(r, v, impl.MaxDeeds)
		addSeen(seen, k.seen)
		for range 3 {
			isPlant(t, v, deeds[:r.Intn(len(deeds)+1)])
		}
		isPlant(t, v, deeds)
	}
	sawAll(t, seen, "give ok", "give range", "give state", "give limit", "work ok", "work range", "work state", "work limit", "deliver ok", "deliver range",
		"copy ok", "copy range", "drop ok", "drop range", "sync ok", "out ok", "out state", "crash ok", "tear ok", "tear state", "quit ok", "quit range",
		"at a busy worker", "with a result", "of a level that is past", "of a level that is lost", "in vain", "learned from a copy",
		"crash with 0", "crash with 1", "crash with 2", "tear with 1", "tear with 2", "handed out with 1", "handed out with 2")
	for name := range seen {
		if strings.Contains(name, "invalid") || strings.Contains(name, "notfound") {
			t.Error("an error that no deed has", name)
		}
	}
}

// TestShortDeeds looks at all lists of up to three deeds with small numbers.
func TestShortDeeds(t *testing.T) {
	some := []impl.Deed{}
	for kind := int64(1); kind <= 10; kind++ {
		some = append(some, deed(kind, 0))
		if !isAlone(kind) {
			some = append(some, deed(kind, 1), deed(kind, 2))
		}
	}
	start := deedsOf("give 1, copy 0, work 1")
	for _, v := range []impl.Service{serviceOf(t, fairCoin, 1, 2, 2), serviceOf(t, seldomMeets, 0, 2, 2)} {
		isPlant(t, v, nil)
		for _, first := range some {
			isPlant(t, v, []impl.Deed{first})
			for _, second := range some {
				isPlant(t, v, []impl.Deed{first, second})
				for _, third := range some {
					isPlant(t, v, append(slices.Clone(start), first, second, third))
				}
			}
		}
	}
}

// plantText tells of a plant what is not as it was at first.
func plantText(p impl.Plant) string {
	parts := []string{}
	for i, one := range p.Wire {
		if one.Back {
			parts = append(parts, fmt.Sprint(i, "<", one.Sample, ":", one.Level, " ", one.Met, one.State))
		} else {
			parts = append(parts, fmt.Sprint(i, ">", one.Sample, ":", one.Level, " to ", one.Worker))
		}
	}
	for i, hand := range p.Hands {
		if hand.Busy {
			parts = append(parts, fmt.Sprint("hand ", i, "=", hand.Sample, ":", hand.Level))
		}
	}
	for i, r := range p.Records {
		if int64(i) == p.Synced {
			parts = append(parts, "|")
		}
		parts = append(parts, strings.TrimSpace(recordLine(r)))
	}
	if len(p.Out) > 0 {
		parts = append(parts, fmt.Sprint("out=", p.Out))
	}
	return strings.Join(parts, ", ")
}

func TestPlantEdges(t *testing.T) {
	// All samples are the state 0, at the level 0, but the second one of the second
	// service, which is at the level 4.
	coin, late := serviceOf(t, fairCoin, 0, 2, 2), serviceOf(t, seldomMeets, 0, 2, 1)
	for _, one := range []struct {
		v           impl.Service
		deeds, want string
	}{
		{coin, "", ""}, {coin, "give 0", "0>0:0 to 0"}, {coin, "give 1, give 0", "0>0:0 to 1, 1>0:0 to 0"}, {coin, "give 2", ""},
		{coin, "give 0, deliver 0", "hand 0=0:0"}, {coin, "give 1, copy 0", "0>0:0 to 1, hand 1=0:0"}, {coin, "give 1, drop 0", ""}, {coin, "give 1, drop 1, deliver 1, copy 1", "0>0:0 to 1"},
		{coin, "give 1, deliver 0, work 1", "0<0:0 true 0"}, {coin, "give 1, deliver 0, work 0", "hand 1=0:0"}, {coin, "give 1, deliver 0, work 2", "hand 1=0:0"},
		{coin, "give 1, deliver 0, quit 1", ""}, {coin, "give 1, deliver 0, quit 0", "hand 1=0:0"}, {coin, "give 1, deliver 0, quit 2", "hand 1=0:0"}, {coin, "give 1, deliver 0, quit 1, work 1", ""},
		{coin, "give 1, deliver 0, work 1, deliver 0", "|, got 0 0"}, {coin, "give 1, deliver 0, work 1, copy 0", "0<0:0 true 0, |, got 0 0"},
		{coin, "give 1, deliver 0, work 1, copy 0, copy 0, deliver 0, sync", "got 0 0"},
		{coin, "give 0, give 0, give 0, deliver 0, deliver 1", "0>0:0 to 0, hand 0=0:0"}, {coin, "give 0, give 1, give 0, drop 1", "0>0:0 to 0, 1>0:0 to 0"},
		{coin, "give 0, deliver 0, work 0, deliver 0, give 1", "0>1:0 to 1, |, got 0 0"}, {coin, "give 0, deliver 0, give 1, work 0, deliver 1, deliver 0", "hand 1=0:0, |, got 0 0"},
		{coin, "give 0, deliver 0, work 0, deliver 0, give 1, deliver 0, work 1, deliver 0, give 0, give 1", "|, got 0 0, got 1 0"},
		{coin, "give 0, deliver 0, work 0, deliver 0, out", "got 0 0, out 0, out=[0]"}, {coin, "out", ""}, {coin, "give 0, deliver 0, work 0, deliver 0, out, out", "got 0 0, out 0, out=[0]"},
		{coin, "give 0, deliver 0, work 0, deliver 0, crash", ""}, {coin, "give 0, deliver 0, work 0, deliver 0, tear", ""}, {coin, "give 0, deliver 0, work 0, deliver 0, sync, crash", "got 0 0"},
		{coin, "give 0, deliver 0, work 0, deliver 0, sync, tear", "got 0 0"}, {coin, "give 0, deliver 0, work 0, deliver 0, out, crash, tear", "got 0 0, out 0, out=[0]"},
		{coin, "give 0, deliver 0, work 0, copy 0, crash, deliver 0", "|, got 0 0"}, {coin, "give 0, deliver 0, work 0, copy 0, crash, give 0", "0<0:0 true 0, 1>0:0 to 0"},
		{coin, "give 1, copy 0, crash", "0>0:0 to 1, hand 1=0:0"}, {coin, "crash, tear, sync", ""},
		// The sample 1 is got before the sample 0.
		{late, "give 0, deliver 0, work 0", "0<0:0 true 0"}, {late, "give 0, deliver 0, work 0, deliver 0, give 0, deliver 0, work 0", "0<1:0 false 0, |, got 0 0"},
		{late, "give 0, deliver 0, work 0, deliver 0, give 0, deliver 0, work 0, copy 0", "0<1:0 false 0, |, got 0 0, up 1 1"},
		{late, "give 0, deliver 0, work 0, deliver 0, give 0, deliver 0, work 0, copy 0, copy 0, deliver 0, give 0", "0>1:1 to 0, |, got 0 0, up 1 1"},
		{late, "give 0, deliver 0, work 0, deliver 0, sync, give 0, deliver 0, work 0, deliver 0, give 0, tear, copy 0", "0>1:1 to 0, hand 0=1:1, got 0 0"},
		{late, "give 0, deliver 0, work 0, deliver 0, sync, give 0, deliver 0, work 0, deliver 0, give 0, tear, deliver 0, work 0, deliver 0", "got 0 0"},
		{late, "give 0, deliver 0, work 0, deliver 0, sync, give 0, deliver 0, work 0, deliver 0, give 0, tear, deliver 0, work 0, give 0", "0<1:1 false 0, 1>1:0 to 0, got 0 0"},
		{late, "give 0, deliver 0, work 0, deliver 0, give 0, deliver 0, work 0, deliver 0, give 0, deliver 0, work 0, deliver 0, out, give 0", "0>1:2 to 0, got 0 0, up 1 1, up 1 2, out 0, out=[0]"},
	} {
		plant, _, got := impl.PlantAfter(one.v, deedsOf(one.deeds))
		same(t, one.deeds, plantText(plant), one.want)
		same(t, one.deeds, got, int64(impl.OK))
		isPlant(t, one.v, deedsOf(one.deeds))
	}
}

// TestPlantFields has all fields of a plant.
func TestPlantFields(t *testing.T) {
	v := serviceOf(t, seldomMeets, 0, 2, 3)
	round := "give 0, deliver 0, work 0, deliver 0, "
	plant, done, got := impl.PlantAfter(v, deedsOf(round+"give 2, deliver 0, give 1, work 2, copy 0, out, copy 1, give 2, out, give 3"))
	want := impl.Plant{
		Desk:    impl.Desk{Levels: []int64{0, 1}, Results: []int64{0, -1}, Outs: 1},
		Records: []impl.Record{record(impl.RcGot, 0, 0), record(impl.RcOut, 0, 0), record(impl.RcUp, 1, 1)},
		Synced:  2,
		Hands:   []impl.Hand{{}, {Busy: true, Sample: 1}, {}},
		Wire:    []impl.Packet{{Worker: 1, Sample: 1}, {Back: true, Sample: 1}, {Worker: 2, Sample: 1, Level: 1}},
		Out:     []int64{0},
	}
	same(t, "plant", plant, want)
	same(t, "done", []int64{done, got}, []int64{12, impl.OK})
	plant, _, _ = impl.PlantAfter(v, deedsOf("give 1, deliver 0, work 1"))
	// A packet to the desk does not tell from which worker it comes.
	same(t, "wire", plant.Wire, []impl.Packet{{Back: true, Met: true}})
	plant, done, got = impl.PlantAfter(v, nil)
	samePlant(t, "nothing done", plant, impl.Plant{Desk: impl.Desk{Levels: []int64{0, 0}, Results: []int64{-1, -1}}, Hands: make([]impl.Hand, 3)})
	same(t, "done", []int64{done, got}, []int64{0, impl.OK})
}

func TestRefusedDeed(t *testing.T) {
	round := "give 0, deliver 0, work 0, deliver 0"
	full := strings.Repeat("give 0, ", impl.MaxWire-1) + "give 0"
	for _, one := range []struct {
		deeds    string
		at, code int64
	}{
		{"give 1", 0, impl.ErrRange}, {"give 999", 0, impl.ErrRange}, {round + ", give 0", 4, impl.ErrState}, {round + ", give 1", 4, impl.ErrRange}, {full + ", give 0", impl.MaxWire, impl.ErrLimit},
		{full + ", give 1", impl.MaxWire, impl.ErrRange}, {"give 0, copy 0, work 0, deliver 1, " + strings.ReplaceAll(full, "give", "copy") + ", give 0", 4 + impl.MaxWire, impl.ErrState},
		{"work 1", 0, impl.ErrRange}, {"work 0", 0, impl.ErrState}, {"give 0, work 0", 1, impl.ErrState}, {"give 0, copy 0, work 0, work 0", 3, impl.ErrState},
		{full + ", copy 0, work 0", impl.MaxWire + 1, impl.ErrLimit}, {full + ", copy 0, work 1", impl.MaxWire + 1, impl.ErrRange}, {full + ", work 0", impl.MaxWire, impl.ErrState},
		{"deliver 0", 0, impl.ErrRange}, {"give 0, deliver 1", 1, impl.ErrRange}, {full + ", deliver 12", impl.MaxWire, impl.ErrRange}, {"copy 0", 0, impl.ErrRange}, {"give 0, copy 1", 1, impl.ErrRange},
		{"drop 0", 0, impl.ErrRange}, {"give 0, drop 1", 1, impl.ErrRange}, {"give 0, drop 0, drop 0", 2, impl.ErrRange}, {"give 0, deliver 0, copy 0", 2, impl.ErrRange},
		{"out", 0, impl.ErrState}, {round + ", out, out", 5, impl.ErrState}, {"tear", 0, impl.ErrState}, {round + ", sync, tear", 5, impl.ErrState}, {round + ", tear, tear", 5, impl.ErrState},
		{"quit 1", 0, impl.ErrRange}, {"sync, crash, quit 0, quit 4, out", 3, impl.ErrRange}, {"sync, out, give 999", 1, impl.ErrState},
	} {
		v := serviceOf(t, fairCoin, 0, 1, 1)
		at, why, got := impl.RefusedDeed(v, deedsOf(one.deeds))
		same(t, one.deeds, []int64{at, why, got}, []int64{one.at, one.code, impl.OK})
		isPlant(t, v, deedsOf(one.deeds))
	}
	for _, deeds := range []string{
		"", "sync", "crash", "quit 0", round, full, round + ", out", round + ", tear", round + ", sync, crash, out", full + ", drop 11, give 0, deliver 11, deliver 10",
		full + ", deliver 0, work 0, copy 11", "give 0, copy 0, copy 0, copy 0",
	} {
		at, why, got := impl.RefusedDeed(serviceOf(t, fairCoin, 0, 1, 1), deedsOf(deeds))
		code(t, deeds, impl.ErrNotFound, at, why, got)
	}
}

// TestCrashes has none, one and several records that are not synced, behind none
// and some that are: what has been synced is what is left, by a crash and if the
// first line that is not synced is torn in its middle.
func TestCrashes(t *testing.T) {
	v := serviceOf(t, neverMeets, 0, 2, 1)
	for synced := range 8 {
		for more := range 8 - synced {
			round, deeds := deedsOf("give 0, deliver 0, work 0, deliver 0"), []impl.Deed{}
			for i := range synced + more {
				if i == synced {
					deeds = append(deeds, deed(impl.DdSync, 0))
				}
				deeds = append(deeds, round...)
			}
			if more == 0 {
				deeds = append(deeds, deed(impl.DdSync, 0))
			}
			before, _, _ := impl.PlantAfter(v, deeds)
			same(t, "records", []int64{int64(len(before.Records)), before.Synced}, []int64{int64(synced + more), int64(synced)})
			for _, kind := range []int64{impl.DdCrash, impl.DdTear} {
				all := append(slices.Clone(deeds), deed(kind, 0))
				isPlant(t, v, all)
				after, done, _ := impl.PlantAfter(v, all)
				same(t, "what is left", recordLines(after.Records), recordLines(before.Records[:synced]))
				same(t, "synced", after.Synced, int64(synced))
				d, got := impl.DeskAfter(v, before.Records[:synced])
				same(t, "desk", fmt.Sprint(after.Desk), fmt.Sprint(d))
				same(t, "code", got, int64(impl.OK))
				same(t, "done", done == int64(len(all)), more > 0 || kind == impl.DdCrash)
				// What has been lost is found again.
				isPlant(t, v, append(all, round...))
			}
		}
	}
}

// TestDeskIsOfRecords compares the desk and what has been handed out with the
// records of the journal, which are read from their text again.
func TestDeskIsOfRecords(t *testing.T) {
	r := rand.New(rand.NewSource(642))
	for range 200 {
		v := someService(t, r)
		deeds, _ := someDeeds(r, v, r.Intn(impl.MaxDeeds+1))
		plant, _, _ := impl.PlantAfter(v, deeds)
		text := impl.JournalText(v, plant.Records)
		records, got := impl.ReadJournal(v, text)
		same(t, "code", got, int64(impl.OK))
		same(t, "records", records, plant.Records)
		d, got := impl.DeskAfter(v, records)
		same(t, "code", got, int64(impl.OK))
		same(t, "desk", d, plant.Desk)
		same(t, "handed out", plant.Out, d.Results[:d.Outs])
		d, got = impl.DeskAfter(v, records[:plant.Synced])
		same(t, "code", got, int64(impl.OK))
		same(t, "handed out for good", d.Outs, plant.Desk.Outs)
		crashed, _, got := impl.PlantAfter(v, append(deeds[:min(len(deeds), impl.MaxDeeds-1)], deed(impl.DdCrash, 0)))
		same(t, "code", got, int64(impl.OK))
		if len(deeds) < impl.MaxDeeds {
			same(t, "behind a crash", crashed.Desk, d)
			samePlant(t, "a crash", impl.Plant{Hands: crashed.Hands, Wire: crashed.Wire, Out: crashed.Out}, impl.Plant{Hands: plant.Hands, Wire: plant.Wire, Out: plant.Out})
		}
	}
}

// TestMostDeeds has just as many deeds as can be; one more is ErrRange.
func TestMostDeeds(t *testing.T) {
	v := serviceOf(t, fairCoin, 1, impl.MaxSamples, impl.MaxWorkers)
	deeds := slices.Repeat(deedsOf("give 3, deliver 0, work 3, deliver 0"), impl.MaxDeeds/4)
	isPlant(t, v, deeds)
	plant, done, got := impl.PlantAfter(v, deeds)
	same(t, "got all", plant.Desk.Results, resultsIn(v))
	same(t, "done", []int64{done, got}, []int64{4 * impl.MaxSamples, impl.OK})
	deedCodes(t, "one more", impl.ErrRange, v, append(deeds, deed(impl.DdSync, 0)))
	idle := slices.Repeat(deedsOf("sync"), impl.MaxDeeds)
	isPlant(t, v, idle)
	deedCodes(t, "one more", impl.ErrRange, v, append(idle, deed(impl.DdWork, 999)))
}

// TestFullWire has as many packets as there can be, given, looked at and dropped.
func TestFullWire(t *testing.T) {
	v := serviceOf(t, seldomMeets, 0, impl.MaxSamples, impl.MaxWorkers)
	deeds := []impl.Deed{}
	for i := range int64(impl.MaxWire + 3) {
		deeds = append(deeds, deed(impl.DdGive, i%impl.MaxWorkers))
	}
	for worker := range int64(impl.MaxWorkers) {
		deeds = append(deeds, deed(impl.DdCopy, worker), deed(impl.DdWork, worker))
	}
	plant, done, _ := impl.PlantAfter(v, deeds)
	same(t, "packets", len(plant.Wire), impl.MaxWire)
	same(t, "done", done, int64(impl.MaxWire+impl.MaxWorkers))
	for worker, hand := range plant.Hands {
		same(t, fmt.Sprint("hand ", worker), hand, impl.Hand{Busy: true})
	}
	isPlant(t, v, deeds)
	for _, more := range []string{"drop 11, work 0, work 1", "deliver 0, give 3, give 2", "drop 0, drop 0, drop 0, drop 0, work 0, work 1, work 2, work 3, give 0", "copy 11, copy 12"} {
		isPlant(t, v, slices.Concat(deeds, deedsOf(more)))
	}
}
