package tests

import (
	"fmt"
	"math"
	"math/big"
	"math/rand"
	"slices"
	"strings"
	"testing"

	"loop.example/g01118/impl"
)

// What the tests of chapter 9 have in common: chains that meet soon, late or
// never, services of them, and a plant that is worked out in another way: its
// journal is a list of lines, which are read from the start whenever something is
// to be known.

// Some chains.
const (
	// Each draw leads both states to one.
	fairCoin = "chain 2 2\nfrom 1 1\nfrom 1 1\n"
	// The two states never meet.
	neverMeets = "chain 2 1\nfrom 0 1\nfrom 1 0\n"
	// Two draws of sixty lead both states to one.
	seldomMeets = "chain 2 60\nfrom 59 1\nfrom 1 59\n"
	// One draw of three leads all states one down, and the others one up.
	alongFive = "chain 5 3\nfrom 1 2 0 0 0\nfrom 1 0 2 0 0\nfrom 0 1 0 2 0\nfrom 0 0 1 0 2\nfrom 0 0 0 1 2\n"
	oneState  = "chain 1 1\nfrom 1\n"
)

func chainsThatMeet(t *testing.T) []impl.Chain {
	t.Helper()
	list := []impl.Chain{}
	for _, text := range []string{fairCoin, neverMeets, seldomMeets, alongFive, oneState, exampleCuts} {
		list = append(list, readChain(t, text))
	}
	return list
}

// someChain returns one of these, or a random one.
func someChain(t *testing.T, r *rand.Rand) impl.Chain {
	t.Helper()
	list := chainsThatMeet(t)
	switch i := r.Intn(len(list) + 2); i {
	case len(list):
		return randomChain(r)
	case len(list) + 1:
		return sparseChain(r, 1+r.Int63n(impl.MaxStates))
	default:
		return list[i]
	}
}

// someSeed returns a seed, which often is one of the ends.
func someSeed(r *rand.Rand) int64 {
	switch r.Intn(10) {
	case 0:
		return 0
	case 1:
		return impl.MaxSeed
	default:
		return r.Int63n(impl.MaxSeed + 1)
	}
}

func badSeeds() []int64 { return []int64{-1, impl.MaxSeed + 1, math.MaxInt64, math.MinInt64} }

func badLevels() []int64 { return []int64{-1, impl.MaxLevels, math.MaxInt64, math.MinInt64} }

// drawsIn returns the draws of a seed, worked out with long numbers.
func drawsIn(seed, total int64, count int) []int64 {
	x, draws := big.NewInt(seed), []int64{}
	for range count {
		x.Mul(x, big.NewInt(1103515245))
		x.Add(x, big.NewInt(12345))
		x.Mod(x, new(big.Int).Exp(big.NewInt(2), big.NewInt(31), nil))
		high := new(big.Int).Div(x, big.NewInt(65536))
		draws = append(draws, high.Mod(high, big.NewInt(total)).Int64())
	}
	return draws
}

// endsBack returns, for each state, where a run from it is behind a window, of
// which the last draw is taken first.
func endsBack(c impl.Chain, draws []int64) []int64 {
	ends := []int64{}
	for s := range c.States {
		for i := len(draws) - 1; i >= 0; i-- {
			s = int64(chosen(c.Weights[s], draws[i]))
		}
		ends = append(ends, s)
	}
	return ends
}

// metIn tells whether a window has met, and where.
func metIn(c impl.Chain, draws []int64) (bool, int64) {
	ends := endsBack(c, draws)
	if !areOne(ends) {
		return false, 0
	}
	return true, ends[0]
}

func windowIn(c impl.Chain, seed, level int64) (bool, int64) {
	return metIn(c, drawsIn(seed, c.Total, 1<<level))
}

// sampleIn returns the sample of a seed and its level, which is MaxLevels if no
// window has met; the sample is -2 then.
func sampleIn(c impl.Chain, seed int64) (int64, int64) {
	for level := range int64(impl.MaxLevels) {
		if met, s := windowIn(c, seed, level); met {
			return s, level
		}
	}
	return -2, impl.MaxLevels
}

func someService(t *testing.T, r *rand.Rand) impl.Service {
	t.Helper()
	v := impl.Service{Chain: someChain(t, r), Samples: 1 + r.Int63n(impl.MaxSamples), Workers: 1 + r.Int63n(impl.MaxWorkers)}
	v.Base = []int64{0, impl.MaxSeed - impl.MaxSamples, r.Int63n(impl.MaxSeed - impl.MaxSamples + 1)}[r.Intn(3)]
	return v
}

// serviceOf returns a service of a chain with its text.
func serviceOf(t *testing.T, text string, base, samples, workers int64) impl.Service {
	t.Helper()
	return impl.Service{Chain: readChain(t, text), Base: base, Samples: samples, Workers: workers}
}

// invalidServices returns services that are not valid, each for one reason.
func invalidServices(t *testing.T) map[string]impl.Service {
	t.Helper()
	with := func(base, samples, workers int64) impl.Service { return serviceOf(t, fairCoin, base, samples, workers) }
	list := map[string]impl.Service{
		"nothing": {}, "no samples": with(1, 0, 1), "nine samples": with(1, impl.MaxSamples+1, 1), "fewer samples": with(1, -1, 1),
		"many samples": with(1, math.MaxInt64, 1), "fewest samples": with(1, math.MinInt64, 1), "no workers": with(1, 1, 0),
		"five workers": with(1, 1, impl.MaxWorkers+1), "fewer workers": with(1, 1, -1), "many workers": with(1, 1, math.MaxInt64),
		"fewest workers": with(1, 1, math.MinInt64), "a base below 0": with(-1, 1, 1), "a base too great": with(impl.MaxSeed-impl.MaxSamples+1, 1, 1),
		"a far base": with(math.MaxInt64, 1, 1), "the least base": with(math.MinInt64, 1, 1),
	}
	for name, c := range invalidChains() {
		list["a chain: "+name] = impl.Service{Chain: c, Base: 1, Samples: 1, Workers: 1}
	}
	return list
}

// resultsIn returns all samples of a service.
func resultsIn(v impl.Service) []int64 {
	list := []int64{}
	for i := range v.Samples {
		s, _ := sampleIn(v.Chain, v.Base+i)
		list = append(list, s)
	}
	return list
}

var recordWords = map[int64]string{impl.RcUp: "up", impl.RcGot: "got", impl.RcOut: "out"}

// recordLine returns the line of a record, valid or not.
func recordLine(r impl.Record) string {
	if r.Kind == impl.RcOut {
		return fmt.Sprintln("out", r.Sample)
	}
	return fmt.Sprintln(recordWords[r.Kind], r.Sample, r.Value)
}

func recordLines(records []impl.Record) string {
	text := ""
	for _, r := range records {
		text += recordLine(r)
	}
	return text
}

func record(kind, sample, value int64) impl.Record {
	return impl.Record{Kind: kind, Sample: sample, Value: value}
}

// recordsOf reads records from words with commas between: "up 0 1, out 0".
func recordsOf(text string) []impl.Record {
	list := []impl.Record{}
	for _, line := range strings.Split(text, ", ") {
		r, word := impl.Record{}, ""
		if text != "" {
			fmt.Sscan(line, &word, &r.Sample, &r.Value)
			for kind, one := range recordWords {
				if one == word {
					r.Kind = kind
				}
			}
			list = append(list, r)
		}
	}
	return list
}

// validRecords returns all records that are valid for a service.
func validRecords(v impl.Service) []impl.Record {
	list := []impl.Record{}
	for sample := range v.Samples {
		for level := int64(1); level <= impl.MaxLevels; level++ {
			list = append(list, record(impl.RcUp, sample, level))
		}
		for s := range v.Chain.States {
			list = append(list, record(impl.RcGot, sample, s))
		}
		list = append(list, record(impl.RcOut, sample, 0))
	}
	return list
}

// invalidRecords returns records that are not valid for a service.
func invalidRecords(v impl.Service) map[string]impl.Record {
	list := map[string]impl.Record{"nothing": {}}
	add := func(name string, kind, sample, value int64) {
		list[fmt.Sprint(name, " ", kind, " ", sample, " ", value)] = record(kind, sample, value)
	}
	for _, kind := range []int64{0, 4, -1, math.MaxInt64, math.MinInt64} {
		add("the kind", kind, 0, 0)
		add("the kind", kind, 0, 1)
	}
	for kind := int64(impl.RcUp); kind <= impl.RcOut; kind++ {
		for _, sample := range []int64{-1, v.Samples, math.MaxInt64, math.MinInt64} {
			add("the sample", kind, sample, 0)
			add("the sample", kind, sample, 1)
		}
		for _, value := range []int64{-1, math.MaxInt64, math.MinInt64} {
			add("the value", kind, 0, value)
		}
	}
	add("the value", impl.RcUp, 0, 0)
	add("the value", impl.RcUp, 0, impl.MaxLevels+1)
	add("the value", impl.RcGot, v.Samples-1, v.Chain.States)
	add("the value", impl.RcOut, v.Samples-1, 1)
	return list
}

var deedNames = []string{"", "give", "work", "deliver", "copy", "drop", "sync", "out", "crash", "tear", "quit"}

// isAlone tells whether the word of a kind of deeds has no number behind it.
func isAlone(kind int64) bool {
	return slices.Contains([]string{"sync", "out", "crash", "tear"}, deedNames[kind])
}

// deedLine returns the text of a valid deed.
func deedLine(d impl.Deed) string {
	if isAlone(d.Kind) {
		return deedNames[d.Kind]
	}
	return fmt.Sprint(deedNames[d.Kind], " ", d.A)
}

func deed(kind, a int64) impl.Deed { return impl.Deed{Kind: kind, A: a} }

// deedsOf reads deeds from words with commas between: "give 0, sync".
func deedsOf(text string) []impl.Deed {
	list := []impl.Deed{}
	for _, line := range strings.Split(text, ", ") {
		word, number, _ := strings.Cut(line, " ")
		d := impl.Deed{Kind: int64(slices.Index(deedNames, word))}
		fmt.Sscan(number, &d.A)
		if text != "" {
			list = append(list, d)
		}
	}
	return list
}

// invalidDeeds returns deeds that are not valid.
func invalidDeeds() []impl.Deed {
	list := []impl.Deed{{}}
	for _, kind := range []int64{0, -1, 11, math.MaxInt64, math.MinInt64} {
		list = append(list, deed(kind, 0), deed(kind, 1))
	}
	for kind := int64(1); kind <= 10; kind++ {
		for _, a := range []int64{-1, 1000, math.MaxInt64, math.MinInt64} {
			list = append(list, deed(kind, a))
		}
		if isAlone(kind) {
			list = append(list, deed(kind, 1), deed(kind, 999))
		}
	}
	return list
}

// knownDesk reads the lines of a journal. It tells whether all of them fit.
func knownDesk(samples int64, lines []string) (impl.Desk, bool) {
	d, isFit := impl.Desk{}, true
	for range samples {
		d.Levels, d.Results = append(d.Levels, 0), append(d.Results, -1)
	}
	for _, line := range lines {
		word, sample, value := "", int64(0), int64(0)
		fmt.Sscan(line, &word, &sample, &value)
		isOpen := d.Results[sample] == -1
		switch {
		case word == "up" && isOpen && d.Levels[sample] == value-1:
			d.Levels[sample]++
			if value == 7 {
				d.Results[sample] = -2
			}
		case word == "got" && isOpen:
			d.Results[sample] = value
		case word == "out" && !isOpen && d.Outs == sample:
			d.Outs++
		default:
			isFit = false
		}
	}
	return d, isFit
}

// knownPlant is a service at work. What a worker has in hand is the packet that
// has come in there.
type knownPlant struct {
	v      impl.Service
	lines  []string
	synced int
	hands  []*impl.Packet
	wire   []impl.Packet
	out    []int64
	// What has happened, by names, so that tests can tell what they have seen.
	seen map[string]int
}

func newKnown(v impl.Service) *knownPlant {
	return &knownPlant{v: v, hands: make([]*impl.Packet, v.Workers), seen: map[string]int{}}
}

func (k *knownPlant) desk() impl.Desk {
	d, isFit := knownDesk(k.v.Samples, k.lines)
	if !isFit {
		panic("the journal does not fit: " + strings.Join(k.lines, ""))
	}
	return d
}

// next returns the sample that is given next, and -1 if there is none.
func (k *knownPlant) next() int64 {
	d := k.desk()
	for level := range int64(impl.MaxLevels) {
		for sample := range k.v.Samples {
			if d.Results[sample] == -1 && d.Levels[sample] == level {
				return sample
			}
		}
	}
	return -1
}

// state returns what PlantAfter has to return.
func (k *knownPlant) state() impl.Plant {
	p := impl.Plant{Desk: k.desk(), Synced: int64(k.synced), Wire: k.wire, Out: k.out}
	for _, line := range k.lines {
		p.Records = append(p.Records, recordsOf(strings.TrimSpace(line))...)
	}
	for _, one := range k.hands {
		hand := impl.Hand{}
		if one != nil {
			hand = impl.Hand{Busy: true, Sample: one.Sample, Level: one.Level}
		}
		p.Hands = append(p.Hands, hand)
	}
	return p
}

// do does a deed, and returns its code.
func (k *knownPlant) do(d impl.Deed) int64 {
	before := len(k.lines)
	got := k.try(d)
	k.seen[deedNames[d.Kind]+" "+impl.CodeName(got)]++
	if len(k.lines) > before && d.Kind == impl.DdCopy {
		k.seen["learned from a copy"]++
	}
	return got
}

func (k *knownPlant) try(d impl.Deed) int64 {
	isWorker, isPacket := d.A < k.v.Workers, d.A < int64(len(k.wire))
	switch deedNames[d.Kind] {
	case "give":
		return k.give(isWorker, d.A)
	case "work":
		return k.work(isWorker, d.A)
	case "deliver", "copy", "drop":
		if !isPacket {
			return impl.ErrRange
		}
		if d.Kind != impl.DdDrop {
			k.comesIn(k.wire[d.A])
		}
		if d.Kind != impl.DdCopy {
			k.wire = slices.Concat(k.wire[:d.A], k.wire[d.A+1:])
		}
	case "sync":
		k.synced = len(k.lines)
	case "out":
		return k.handOut()
	case "crash":
		k.seen[fmt.Sprint("crash with ", min(2, len(k.lines)-k.synced))]++
		k.lines = slices.Clone(k.lines[:k.synced])
	case "tear":
		return k.tear()
	case "quit":
		if !isWorker {
			return impl.ErrRange
		}
		k.hands[d.A] = nil
	}
	return impl.OK
}

func (k *knownPlant) give(isWorker bool, worker int64) int64 {
	next := k.next()
	switch {
	case !isWorker:
		return impl.ErrRange
	case next < 0:
		return impl.ErrState
	case len(k.wire) == 12:
		return impl.ErrLimit
	}
	k.wire = append(slices.Clone(k.wire), impl.Packet{Worker: worker, Sample: next, Level: k.desk().Levels[next]})
	return impl.OK
}

func (k *knownPlant) work(isWorker bool, worker int64) int64 {
	switch {
	case !isWorker:
		return impl.ErrRange
	case k.hands[worker] == nil:
		return impl.ErrState
	case len(k.wire) == 12:
		return impl.ErrLimit
	}
	back := impl.Packet{Back: true, Sample: k.hands[worker].Sample, Level: k.hands[worker].Level}
	back.Met, back.State = windowIn(k.v.Chain, k.v.Base+back.Sample, back.Level)
	k.wire = append(slices.Clone(k.wire), back)
	k.hands[worker] = nil
	return impl.OK
}

func (k *knownPlant) comesIn(one impl.Packet) {
	if !one.Back {
		if k.hands[one.Worker] != nil {
			k.seen["at a busy worker"]++
			return
		}
		k.hands[one.Worker] = &one
		return
	}
	d := k.desk()
	switch {
	case d.Results[one.Sample] != -1:
		k.seen["with a result"]++
	case d.Levels[one.Sample] > one.Level:
		k.seen["of a level that is past"]++
	case d.Levels[one.Sample] < one.Level:
		k.seen["of a level that is lost"]++
	case one.Met:
		k.lines = append(k.lines, fmt.Sprintln("got", one.Sample, one.State))
	default:
		k.lines = append(k.lines, fmt.Sprintln("up", one.Sample, one.Level+1))
		if one.Level == 6 {
			k.seen["in vain"]++
		}
	}
}

func (k *knownPlant) handOut() int64 {
	d := k.desk()
	if d.Outs == k.v.Samples || d.Results[d.Outs] == -1 {
		return impl.ErrState
	}
	k.out = append(slices.Clone(k.out), d.Results[d.Outs])
	k.lines = append(k.lines, fmt.Sprintln("out", d.Outs))
	k.seen[fmt.Sprint("handed out with ", min(2, len(k.lines)-k.synced))]++
	k.synced = len(k.lines)
	return impl.OK
}

// tear lets the bytes of the journal be there that are left, and reads them up to
// the last newline.
func (k *knownPlant) tear() int64 {
	if len(k.lines) == k.synced {
		return impl.ErrState
	}
	k.seen[fmt.Sprint("tear with ", min(2, len(k.lines)-k.synced))]++
	there := strings.Join(k.lines[:k.synced], "") + k.lines[k.synced][:len(k.lines[k.synced])/2]
	k.lines = strings.SplitAfter(there, "\n")
	k.lines = k.lines[:len(k.lines)-1]
	return impl.OK
}

// doAll does deeds, and returns their codes.
func (k *knownPlant) doAll(deeds []impl.Deed) []int64 {
	codes := []int64{}
	for _, d := range deeds {
		codes = append(codes, k.do(d))
	}
	return codes
}

// someDeed returns a deed with a small number, in such a way that mostly something
// can be done. Where it is calm, nothing is lost but now and then.
func (k *knownPlant) someDeed(r *rand.Rand, isCalm bool) impl.Deed {
	packet, worker := r.Int63n(int64(len(k.wire))+1), r.Int63n(k.v.Workers)
	switch n := r.Intn(100); {
	case n < 20:
		return deed(impl.DdGive, worker)
	case n < 42:
		return deed(impl.DdWork, worker)
	case n < 68:
		return deed(impl.DdDeliver, packet)
	case n < 73:
		return deed(impl.DdCopy, packet)
	case n < 76:
		return deed(impl.DdSync, 0)
	case n < 80 || isCalm && n < 85:
		return deed(impl.DdOut, 0)
	case isCalm && n < 99:
		return deed(impl.DdDeliver, 0)
	case n < 84:
		return deed(impl.DdDrop, packet)
	case n < 87:
		return deed(impl.DdCrash, 0)
	case n < 91:
		return deed(impl.DdTear, 0)
	case n < 93:
		return deed(impl.DdQuit, worker)
	}
	kind, numbers := 1+r.Int63n(10), []int64{k.v.Workers, int64(len(k.wire)), 12, 999}
	if isAlone(kind) {
		return deed(kind, 0)
	}
	return deed(kind, numbers[r.Intn(len(numbers))])
}

// someDeeds returns so many deeds, and the plant after them.
func someDeeds(r *rand.Rand, v impl.Service, count int) ([]impl.Deed, *knownPlant) {
	k, deeds, isCalm := newKnown(v), []impl.Deed{}, r.Intn(2) == 0
	for range count {
		d := k.someDeed(r, isCalm)
		k.do(d)
		deeds = append(deeds, d)
	}
	return deeds, k
}

// finishIn returns what FinishDeeds has to return, and does it.
func (k *knownPlant) finishIn() []impl.Deed {
	plan := []impl.Deed{}
	add := func(d impl.Deed) {
		plan = append(plan, d)
		if got := k.do(d); got != impl.OK {
			panic("cannot be done: " + deedLine(d))
		}
	}
	for len(k.wire) > 0 {
		add(deed(impl.DdDrop, 0))
	}
	add(deed(impl.DdQuit, 0))
	for k.next() >= 0 {
		for _, kind := range []int64{impl.DdGive, impl.DdDeliver, impl.DdWork, impl.DdDeliver} {
			add(deed(kind, 0))
		}
	}
	for k.desk().Outs < k.v.Samples {
		add(deed(impl.DdOut, 0))
	}
	return plan
}

// samePlant fails the test unless both plants are deeply equal; nil and empty
// slices are.
func samePlant(t *testing.T, name string, got, want impl.Plant) {
	t.Helper()
	if fmt.Sprintf("%+v", got) != fmt.Sprintf("%+v", want) {
		t.Errorf("%s: got %+v, want %+v", name, got, want)
	}
}

// sawAll fails the test unless all of this has been seen.
func sawAll(t *testing.T, seen map[string]int, names ...string) {
	t.Helper()
	for _, name := range names {
		if seen[name] == 0 {
			t.Errorf("never seen: %s, in %v", name, seen)
		}
	}
}

// addSeen adds what has been seen elsewhere.
func addSeen(seen, more map[string]int) {
	for name, count := range more {
		seen[name] += count
	}
}
