package store_test

import (
	"bytes"
	"math"
	"slices"
	"testing"

	"caracole/api"
	"caracole/code"
	"caracole/codec"
	"caracole/serial"
	"caracole/store"
)

// odd are numbers that may be handed in as a kind, a pick, a keep or a number of rounds.
var odd = []int{math.MinInt, math.MinInt32, -26, -25, -2, -1, 0, 1, 2, 3, 4, 5, 24, 25, 26, 255, 256, 257, 1 << 32, 1<<32 + 1, 1<<32 + 4, math.MaxInt - 1, math.MaxInt}

func num(a int, n int64) api.Op       { return api.Op{Kind: api.ONum, A: a, N: n} }
func load(a, key int) api.Op          { return api.Op{Kind: api.OLoad, A: a, B: key} }
func put(key, b int) api.Op           { return api.Op{Kind: api.OStore, A: key, B: b} }
func stop(a int) api.Op               { return api.Op{Kind: api.OStop, A: a} }
func reckon(kind, a, b, c int) api.Op { return api.Op{Kind: kind, A: a, B: b, C: c} }

func came(n ...int64) api.Result    { return api.Result{Regs: api.Regs(append(n, 0, 0, 0, 0)[:4])} }
func stopped(n ...int64) api.Result { r := came(n...); r.Code = api.ErrStop; return r }

// puts, sync, run and crash are steps.
func puts(r api.Round) api.Step { return api.Step{Kind: api.SPut, Round: r} }
func run(picks ...int) api.Step { return api.Step{Kind: api.SRun, Picks: picks} }
func crash(keep int) api.Step   { return api.Step{Kind: api.SCrash, Keep: keep} }
func sync() api.Step            { return api.Step{Kind: api.SSync} }

// size and sizes tell how many bytes rounds have in a log.
func size(r api.Round) int { b, _ := codec.Encode(r); return len(b) }
func sizes(l []api.Round) (all int) {
	for _, r := range l {
		all += size(r)
	}
	return all
}

// samples are rounds of which each, but the one without deeds, makes another state of the one ahead.
func samples() []api.Round {
	return []api.Round{
		{{num(0, 5), put(2, 0)}, {load(0, 2), put(3, 0)}},          // 5 of keys 2 and 3
		{{load(0, 3), put(4, 0)}, {num(0, 1), stop(0), put(4, 0)}}, // 5 of key 4; the second one stops itself
		{}, // nothing
		{{load(0, 2), num(1, 2), reckon(api.OMul, 2, 0, 1), put(2, 2)}, {load(3, 2), put(9, 3)}, {put(3, 0)}}, // 10 of keys 2 and 9, 0 of key 3
	}
}

// states are those behind none of the samples, behind the first one, and so on.
func states() []api.State {
	return []api.State{
		{},
		{2: 5, 3: 5},
		{2: 5, 3: 5, 4: 5},
		{2: 5, 3: 5, 4: 5},
		{2: 10, 4: 5, 9: 10},
	}
}

// lasts are what the deeds of the last of as many of the samples came to.
func lasts() [][]api.Result {
	return [][]api.Result{
		nil,
		{came(5), came(5)},
		{came(5), stopped(1)},
		{},
		{came(5, 2, 10), came(0, 0, 0, 10), came()},
	}
}

// want is what a store is to tell.
type want struct {
	rounds     []api.Round
	sure, done int
	state      api.State
	last       []api.Result
}

// ofSamples answers what a store is to tell of the first samples.
func ofSamples(many, sure, done int) want {
	return want{samples()[:many], sure, done, states()[done], lasts()[done]}
}

// bench is a store that is tested.
type bench struct {
	*store.Store
	t *testing.T
}

func made(t *testing.T) bench { return bench{store.New(), t} }

// do does steps, all of which have the same code.
func (b bench) do(c int, steps ...api.Step) {
	b.t.Helper()
	for _, x := range steps {
		if got := b.Do(x); got != c {
			b.t.Errorf("step %+v: %d, want %d", x, got, c)
		}
	}
}

// put puts rounds for which there is room.
func (b bench) put(rounds ...api.Round) {
	b.t.Helper()
	for _, r := range rounds {
		b.do(0, puts(r))
	}
}

// tells holds all that a store tells against what it is to tell.
func (b bench) tells(name string, w want) {
	b.t.Helper()
	if b.Done() != w.done || b.Len() != len(w.rounds) || b.Sure() != w.sure {
		b.t.Errorf("%s: %d done, %d rounds, %d sure, want %d, %d, %d", name, b.Done(), b.Len(), b.Sure(), w.done, len(w.rounds), w.sure)
	}
	if b.State() != w.state {
		b.t.Errorf("%s: the state: %v, want %v", name, b.State(), w.state)
	}
	if got := b.Last(); !slices.Equal(got, w.last) {
		b.t.Errorf("%s: the last results: %v, want %v", name, got, w.last)
	}
	b.tellsLog(name, w)
	b.tellsThen(name, w)
}

// tellsLog holds the rounds and the bytes of the log against what they are to be.
func (b bench) tellsLog(name string, w want) {
	b.t.Helper()
	var all []byte
	for i, l := range w.rounds {
		if r, ok := b.Round(i); !code.SameRound(r, l) || !ok {
			b.t.Errorf("%s: round %d: %v, %t, want %v", name, i, r, ok, l)
		}
		enc, _ := codec.Encode(l)
		all = append(all, enc...)
	}
	for _, i := range []int{math.MinInt, -1, len(w.rounds), math.MaxInt} {
		if r, ok := b.Round(i); r != nil || ok {
			b.t.Errorf("%s: there is a round %d: %v, %t", name, i, r, ok)
		}
	}
	if got, n := b.Bytes(); !bytes.Equal(got, all) || n != sizes(w.rounds[:w.sure]) {
		b.t.Errorf("%s: Bytes: %v, %d, want %v, %d", name, got, n, all, sizes(w.rounds[:w.sure]))
	}
}

// tellsThen holds Then of each number against the rounds done one behind the other.
func (b bench) tellsThen(name string, w want) {
	b.t.Helper()
	var s api.State
	for n := range len(w.rounds) + 1 {
		if got, ok := b.Then(n); got != s || !ok {
			b.t.Errorf("%s: Then(%d): %v, %t, want %v", name, n, got, ok, s)
		}
		if n < len(w.rounds) {
			s, _, _ = serial.All(s, w.rounds[n])
		}
	}
	for _, n := range append([]int{len(w.rounds) + 1}, odd...) {
		if got, ok := b.Then(n); (n < 0 || n > len(w.rounds)) && (got != (api.State{}) || ok) {
			b.t.Errorf("%s: Then(%d): %v, %t, want nothing", name, n, got, ok)
		}
	}
	// What was done stays done: the state is what the first rounds of the log make.
	if got, ok := b.Then(b.Done()); got != b.State() || !ok || b.Done() > b.Sure() {
		b.t.Errorf("%s: %d of %d sure rounds make %v, %t, but the state is %v", name, b.Done(), b.Sure(), got, ok, b.State())
	}
}

func TestNew(t *testing.T) {
	b := made(t)
	b.tells("new", want{})
	b.do(0, sync())
	b.tells("synced", want{})
	b.do(api.ErrNone, run())
	b.tells("nothing to do", want{})
	for _, keep := range odd {
		b.do(0, crash(keep))
		b.tells("crashed", want{})
	}
}

func TestPutSyncAndRun(t *testing.T) {
	b := made(t)
	for i, r := range samples() {
		b.put(r)
		b.tells("put", ofSamples(i+1, 0, 0))
		b.do(api.ErrNone, run())
		b.tells("not sure", ofSamples(i+1, 0, 0))
	}
	b.do(0, sync())
	b.tells("synced", ofSamples(4, 4, 0))
	for i, picks := range [][]int{{1, 1, 0}, nil, {7, -1}, {2, 1, 0, 2, 1, 0}} {
		b.do(0, run(picks...))
		b.tells("run", ofSamples(4, 4, i+1))
	}
	for range 2 {
		b.do(api.ErrNone, run())
		b.tells("none is left", ofSamples(4, 4, 4))
		b.do(0, sync())
		b.tells("synced once more", ofSamples(4, 4, 4))
	}
}

// TestRunOfWhatIsSureAlone: rounds that are made sure of are done, those behind them are not.
func TestRunOfWhatIsSureAlone(t *testing.T) {
	b := made(t)
	b.put(samples()[:1]...)
	b.do(0, sync())
	b.put(samples()[1:3]...)
	b.tells("one is sure", ofSamples(3, 1, 0))
	b.do(0, run())
	b.tells("it is done", ofSamples(3, 1, 1))
	b.do(api.ErrNone, run(), run(1, 2, 3))
	b.tells("the others are not", ofSamples(3, 1, 1))
	b.do(0, sync(), run())
	b.tells("the next one is", ofSamples(3, 3, 2))
	b.put(samples()[3])
	b.do(0, run())
	b.tells("and the next one", ofSamples(4, 3, 3))
	b.do(api.ErrNone, run())
	b.tells("the last one is not", ofSamples(4, 3, 3))
	b.do(0, sync(), run())
	b.tells("all are", ofSamples(4, 4, 4))
}

func TestRunOfPicks(t *testing.T) {
	b := made(t)
	b.do(api.ErrNone, run(make([]int, api.MaxPicks+1)...))
	b.tells("no round, and too many picks", want{})
	b.put(samples()...)
	b.do(api.ErrNone, run(make([]int, api.MaxPicks+1)...))
	b.tells("none is sure, and too many picks", ofSamples(4, 0, 0))
	b.do(0, sync())
	for done, picks := range [][]int{make([]int, api.MaxPicks), slices.Repeat([]int{1}, api.MaxPicks), odd, slices.Repeat(odd, 13)} {
		for _, many := range []int{api.MaxPicks + 1, api.MaxPicks + 2, 1 << 16} {
			b.do(api.ErrMany, run(make([]int, many)...))
			b.tells("too many picks", ofSamples(4, 4, done))
		}
		b.do(0, run(picks...))
		b.tells("picks", ofSamples(4, 4, done+1))
	}
	b.do(api.ErrNone, run(make([]int, api.MaxPicks+1)...))
	b.tells("all are done, and too many picks", ofSamples(4, 4, 4))
}

func TestNoSuchKind(t *testing.T) {
	b := made(t)
	b.put(samples()[:2]...)
	b.do(0, sync(), run())
	b.put(samples()[2])
	for _, kind := range odd {
		if kind >= api.SPut && kind <= api.SCrash {
			continue
		}
		for _, x := range []api.Step{{}, {Round: samples()[3], Picks: []int{1}, Keep: 1000}, {Round: api.Round{{stop(4)}}}, {Picks: make([]int, 301)}} {
			x.Kind = kind
			b.do(api.ErrKind, x)
		}
		b.tells("no such kind", ofSamples(3, 2, 1))
	}
}

var faulty = []struct {
	name  string
	round api.Round
	code  int
}{
	{"too many deeds", make(api.Round, api.MaxDeeds+1), api.ErrMany},
	{"too many operations", api.Round{make(api.Deed, api.MaxOps+1)}, api.ErrMany},
	{"no kind", api.Round{{{}}}, api.ErrKind},
	{"a register too high", api.Round{nil, {stop(4)}}, api.ErrRange},
	{"a key too high", api.Round{{put(10, 0)}}, api.ErrRange},
	{"a part too many", api.Round{{{Kind: api.OLoad, C: 1}}}, api.ErrForm},
	{"a stop behind a store", api.Round{{put(0, 0), stop(0)}}, api.ErrOrder},
}

func TestPutOfFaultyRounds(t *testing.T) {
	for _, c := range faulty {
		b := made(t)
		b.do(c.code, puts(c.round))
		b.tells(c.name, want{})
		b.put(samples()[:2]...)
		b.do(0, sync(), run())
		b.put(samples()[2])
		b.do(c.code, puts(c.round))
		b.tells(c.name+", behind others", ofSamples(3, 2, 1))
	}
}

// wide is a round of 1131 bytes, the most that can be.
func wide(n int64) api.Round {
	l := slices.Repeat(api.Round{slices.Repeat(api.Deed{num(3, n)}, api.MaxOps)}, api.MaxDeeds)
	return code.Own(l)
}

func TestAsManyRoundsAsCanBe(t *testing.T) {
	b := made(t)
	w := want{}
	for i := range api.MaxRounds {
		w.rounds = append(w.rounds, api.Round{{num(1, int64(i)), put(i%10, 1)}})
		b.put(w.rounds[i])
	}
	for range 2 {
		b.do(api.ErrFull, puts(nil), puts(samples()[0]))
		b.tells("full", w)
	}
	b.do(0, sync())
	for range api.MaxRounds {
		b.do(0, run())
	}
	w.sure, w.done, w.last = 25, 25, []api.Result{came(0, 24)}
	w.state = api.State{20, 21, 22, 23, 24, 15, 16, 17, 18, 19}
	b.tells("all are done", w)
	b.do(api.ErrFull, puts(nil))
	b.do(api.ErrNone, run())
	b.tells("full, and all are done", w)
	b.do(0, crash(0))
	b.tells("all are done again", w)
	b.do(api.ErrFull, puts(nil))
}

func TestAsManyBytesAsCanBe(t *testing.T) {
	b := made(t)
	w := want{rounds: []api.Round{wide(1), wide(2), wide(3)}}
	b.put(w.rounds...)
	b.do(api.ErrFull, puts(wide(4)))
	b.tells("too many bytes", w)
	b.do(api.ErrFull, puts(just(t, api.MaxBytes-3*1131+1)))
	b.tells("one byte too many", w)
	last := just(t, api.MaxBytes-3*1131)
	b.put(last)
	w.rounds = append(w.rounds, last)
	b.tells("just as many", w)
	b.do(api.ErrFull, puts(nil))
	b.do(0, crash(api.MaxBytes-1))
	w.rounds = w.rounds[:3]
	w.sure, w.done, w.last = 3, 3, slices.Repeat([]api.Result{came(0, 0, 0, 3)}, 8)
	b.tells("there is room again", w)
	b.put(last)
}

// just answers a round of n bytes.
func just(t *testing.T, n int) api.Round {
	t.Helper()
	for deeds := 1; deeds <= api.MaxDeeds; deeds++ {
		for nums := range deeds*api.MaxOps + 1 {
			others := (n - 3 - deeds - 10*nums) / 3
			if others < 0 || nums+others > deeds*api.MaxOps {
				continue
			}
			r := make(api.Round, deeds)
			for i := range nums + others {
				o := num(i%4, int64(i))
				if i >= nums {
					o = load(i%4, i%10)
				}
				r[i%deeds] = append(r[i%deeds], o)
			}
			if size(r) == n {
				return r
			}
		}
	}
	t.Fatalf("no round has %d bytes", n)
	return nil
}

func TestCrash(t *testing.T) {
	all := samples()
	for sure := range len(all) + 1 {
		for done := range sure + 1 {
			for left := sure; left <= len(all); left++ {
				// Just enough for as many as are left, and a byte too few for one more.
				least := sizes(all[sure:left])
				most := math.MaxInt
				if left < len(all) {
					most = sizes(all[sure:left+1]) - 1
				}
				keeps := []int{least, least + (most-least)/2, most}
				if left == sure {
					keeps = append(keeps, -1, -1000, math.MinInt)
				}
				for _, keep := range keeps {
					checkCrash(t, sure, done, keep, left)
					if t.Failed() {
						t.Fatalf("%d sure, %d done, %d bytes kept", sure, done, keep)
					}
				}
			}
		}
	}
}

// checkCrash holds a crash against how many of the samples are to be left.
func checkCrash(t *testing.T, sure, done, keep, left int) {
	t.Helper()
	crashes := []func(bench){
		func(b bench) { b.do(0, crash(keep)) },
		func(b bench) { b.Crash(keep) },
	}
	for _, fall := range crashes {
		b := made(t)
		b.put(samples()[:sure]...)
		b.do(0, sync())
		b.put(samples()[sure:]...)
		for range done {
			b.do(0, run())
		}
		b.tells("ahead", ofSamples(4, sure, done))
		fall(b)
		b.tells("crashed", ofSamples(left, left, left))
		b.do(api.ErrNone, run())
		fall(b)
		b.tells("crashed once more", ofSamples(left, left, left))
		b.put(samples()[left:]...)
		b.tells("the lost ones are put again", want{samples(), left, left, states()[left], lasts()[left]})
		b.do(0, sync())
		for range len(samples()) - left {
			b.do(0, run())
		}
		b.tells("and done", ofSamples(4, 4, 4))
	}
}

// TestCrashLosesAByte: a round of which one byte is lost is lost; all ahead of it are done again.
func TestCrashLosesAByte(t *testing.T) {
	b := made(t)
	b.put(samples()...)
	b.do(0, crash(sizes(samples())-1))
	b.tells("a byte is lost", ofSamples(3, 3, 3))
}

// TestCrashFromNothingOn: a round that is not the same when done twice is done once behind a crash.
func TestCrashFromNothingOn(t *testing.T) {
	add := api.Round{{load(0, 0), num(1, 1), reckon(api.OAdd, 0, 0, 1), put(0, 0)}}
	b := made(t)
	b.put(add, add)
	b.do(0, sync(), run(), run())
	b.tells("done", want{[]api.Round{add, add}, 2, 2, api.State{2}, []api.Result{came(2, 1)}})
	for range 3 {
		b.do(0, crash(0))
		b.tells("done again", want{[]api.Round{add, add}, 2, 2, api.State{2}, []api.Result{came(2, 1)}})
	}
	b.put(add)
	b.do(0, sync(), run())
	b.tells("and one more", want{[]api.Round{add, add, add}, 3, 3, api.State{3}, []api.Result{came(3, 1)}})
}

// TestCrashTakesAll: when nothing is left, nothing was done.
func TestCrashTakesAll(t *testing.T) {
	b := made(t)
	b.put(samples()...)
	b.do(0, crash(0))
	b.tells("nothing is left", want{})
	b.put(samples()[0])
	b.tells("put again", ofSamples(1, 0, 0))
	b.do(api.ErrNone, run())
	b.do(0, sync(), run())
	b.tells("and done", ofSamples(1, 1, 1))
}

// TestOtherPartsOfAStepAreNotLookedAt: a step has what its kind asks for, whatever else it has.
func TestOtherPartsOfAStepAreNotLookedAt(t *testing.T) {
	many := make([]int, api.MaxPicks+1)
	bad := api.Round{{{}}}
	b := made(t)
	b.do(0, api.Step{Kind: api.SPut, Round: samples()[0], Picks: many, Keep: -1})
	b.tells("put", ofSamples(1, 0, 0))
	b.do(0, api.Step{Kind: api.SSync, Round: bad, Picks: many, Keep: -1})
	b.tells("synced", ofSamples(1, 1, 0))
	b.do(0, api.Step{Kind: api.SRun, Round: bad, Picks: []int{1}, Keep: -1})
	b.tells("run", ofSamples(1, 1, 1))
	b.put(samples()[1])
	b.do(0, api.Step{Kind: api.SCrash, Round: bad, Picks: many, Keep: size(samples()[1])})
	b.tells("crashed", ofSamples(2, 2, 2))
}

// TestThenOfWhatIsNotDone: neither what is done nor what is sure matters, and nothing is changed.
func TestThenOfWhatIsNotDone(t *testing.T) {
	b := made(t)
	b.put(samples()...)
	for done := range 5 {
		for n, s := range states() {
			if got, ok := b.Then(n); got != s || !ok {
				t.Errorf("%d done, Then(%d): %v, %t, want %v", done, n, got, ok, s)
			}
		}
		for _, n := range []int{math.MinInt, -1, 5, 25, math.MaxInt} {
			if got, ok := b.Then(n); got != (api.State{}) || ok {
				t.Errorf("%d done, Then(%d): %v, %t, want nothing", done, n, got, ok)
			}
		}
		b.do(0, sync())
		if done < 4 {
			b.tells("asked", ofSamples(4, 4, done))
			b.do(0, run())
		}
	}
}

// spoil overwrites all memory of a round.
func spoil(r api.Round) {
	for i := range r {
		d := r[i][:cap(r[i])]
		for j := range d {
			d[j] = stop(3)
		}
	}
	clear(r[:cap(r)])
}

func TestNothingHandedInIsKeptOrChanged(t *testing.T) {
	b := made(t)
	for _, r := range samples() {
		kept := code.Own(r)
		b.put(r)
		if !code.SameRound(r, kept) {
			t.Errorf("the round was changed: %v, want %v", r, kept)
		}
		spoil(r)
	}
	b.tells("rounds were spoilt", ofSamples(4, 0, 0))
	b.do(0, sync())
	for i := range samples() {
		picks := slices.Clone(odd)
		b.do(0, run(picks...))
		if !slices.Equal(picks, odd) {
			t.Errorf("the picks were changed: %v, want %v", picks, odd)
		}
		clear(picks)
		b.tells("picks were spoilt", ofSamples(4, 4, i+1))
	}
}

// TestNothingBehindAListIsRead: picks and deeds that lie behind a list's length are none of it.
func TestNothingBehindAListIsRead(t *testing.T) {
	b := made(t)
	l := append(samples()[0], api.Deed{{Kind: 77}})
	b.put(l[:2])
	b.do(0, sync(), run(make([]int, 1000)[:300]...))
	b.tells("more lies behind", ofSamples(1, 1, 1))
	if l[2][0].Kind != 77 {
		t.Errorf("what lies behind was changed: %v", l)
	}
}

func TestAnswersAreNewMemory(t *testing.T) {
	b := made(t)
	b.put(samples()...)
	b.do(0, sync())
	for i := range samples() {
		b.do(0, run())
		last, again := b.Last(), b.Last()
		clear(last[:cap(last)])
		_ = append(last, stopped(7))
		if !slices.Equal(again, lasts()[i+1]) {
			t.Errorf("two answers share memory: %v", again)
		}
		r, _ := b.Round(i)
		spoil(r)
		all, _ := b.Bytes()
		clear(all[:cap(all)])
		b.tells("answers were spoilt", ofSamples(4, 4, i+1))
	}
	last := b.Last()
	b.put(samples()[0])
	b.do(0, sync(), run(), crash(0))
	if !slices.Equal(last, lasts()[4]) {
		t.Errorf("an answer is changed by the store: %v", last)
	}
}

func TestTwoStoresAreApart(t *testing.T) {
	one, other := made(t), made(t)
	one.put(samples()...)
	other.put(samples()[:2]...)
	one.do(0, sync(), run(), run(), run())
	other.do(0, sync(), run())
	one.tells("one", ofSamples(4, 4, 3))
	other.tells("the other", ofSamples(2, 2, 1))
	other.do(0, crash(0))
	one.tells("one", ofSamples(4, 4, 3))
	made(t).tells("a third", want{})
}

// row is numbers that look as if they had no order, the same ones in every run.
type row uint64

func (r *row) upTo(n int) int {
	*r = *r*6364136223846793005 + 1442695040888963407
	return int(uint64(*r) >> 33 % uint64(n))
}

// of answers one of numbers.
func (r *row) of(numbers []int) int { return numbers[r.upTo(len(numbers))] }

func someDeed(r *row) (d api.Deed) {
	stops := true
	for range r.upTo(api.MaxOps + 1) {
		o := []api.Op{
			num(r.upTo(4), int64(r.upTo(9)-3)),
			load(r.upTo(4), r.upTo(10)),
			reckon(api.OAdd+r.upTo(4), r.upTo(4), r.upTo(4), r.upTo(4)),
			put(r.upTo(10), r.upTo(4)),
			stop(r.upTo(4)),
		}[r.upTo(5)]
		if o.Kind == api.OStop && !stops {
			continue
		}
		stops = stops && o.Kind != api.OStore
		d = append(d, o)
	}
	return d
}

func someRound(r *row) (l api.Round) {
	if r.upTo(25) == 0 {
		return faulty[r.upTo(len(faulty))].round
	}
	for range r.upTo(api.MaxDeeds + 1) {
		l = append(l, someDeed(r))
	}
	return l
}

func someStep(r *row) api.Step {
	x := api.Step{Kind: r.of([]int{1, 1, 1, 1, 2, 3, 3, 3, 4}), Round: someRound(r), Keep: r.upTo(1500) - 100}
	for range r.upTo(320) {
		x.Picks = append(x.Picks, r.upTo(20)-5)
	}
	if r.upTo(30) == 0 {
		x.Kind, x.Keep = r.of(odd), r.of(odd)
	}
	return x
}

// plain is a store said once more: the rounds, and how many of them are sure and done.
type plain struct {
	rounds     []api.Round
	sure, done int
}

func (p *plain) do(x api.Step) int {
	switch x.Kind {
	case 1:
		if c := code.Round(x.Round); c != 0 {
			return c
		}
		if len(p.rounds) == 25 || sizes(p.rounds)+size(x.Round) > 4000 {
			return 8
		}
		p.rounds = append(p.rounds, x.Round)
	case 2:
		p.sure = len(p.rounds)
	case 3:
		if p.done == p.sure {
			return 7
		}
		if len(x.Picks) > 300 {
			return 4
		}
		p.done++
	case 4:
		left := p.sure
		for left < len(p.rounds) && sizes(p.rounds[p.sure:left+1]) <= x.Keep {
			left++
		}
		p.rounds, p.sure, p.done = p.rounds[:left], left, left
	default:
		return 2
	}
	return 0
}

// wants tells what a store like that is to tell, all of its done rounds done one behind the other.
func (p *plain) wants() want {
	w := want{rounds: p.rounds, sure: p.sure, done: p.done}
	for _, l := range p.rounds[:p.done] {
		w.state, w.last, _ = serial.All(w.state, l)
	}
	return w
}

// TestStoresAgainstPlainOnes does many steps on stores, and the same ones on stores said once more.
func TestStoresAgainstPlainOnes(t *testing.T) {
	r := row(1)
	told := map[int]int{}
	lost, redone := 0, 0
	for range 60 {
		b, p := made(t), new(plain)
		for range 1 + r.upTo(api.MaxSteps) {
			x := someStep(&r)
			many, done := len(p.rounds), p.done
			c := p.do(x)
			told[c]++
			b.do(c, x)
			b.tells("some store", p.wants())
			if t.Failed() {
				return
			}
			if x.Kind == api.SCrash {
				lost += many - len(p.rounds)
				redone += p.done - done
			}
			if p.done < done {
				t.Fatalf("of %d rounds that were done only %d are", done, p.done)
			}
		}
	}
	for _, c := range []int{0, api.ErrKind, api.ErrMany, api.ErrRange, api.ErrFull, api.ErrNone} {
		if told[c] == 0 {
			t.Errorf("code %d was never told", c)
		}
	}
	if lost < 10 || redone < 10 {
		t.Errorf("only %d rounds were lost, and %d done behind a crash", lost, redone)
	}
}
