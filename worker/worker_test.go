package worker_test

import (
	"math"
	"slices"
	"testing"

	"caracole/api"
	"caracole/code"
	"caracole/serial"
	"caracole/table"
	"caracole/worker"
)

func num(a int, n int64) api.Op       { return api.Op{Kind: api.ONum, A: a, N: n} }
func load(a, key int) api.Op          { return api.Op{Kind: api.OLoad, A: a, B: key} }
func store(key, b int) api.Op         { return api.Op{Kind: api.OStore, A: key, B: b} }
func stop(a int) api.Op               { return api.Op{Kind: api.OStop, A: a} }
func skip(a, over int) api.Op         { return api.Op{Kind: api.OSkip, A: a, B: over} }
func reckon(kind, a, b, c int) api.Op { return api.Op{Kind: kind, A: a, B: b, C: c} }

func has(by int, n int64) api.Slot { return api.Slot{By: by, N: n} }
func open(by int) api.Slot         { return api.Slot{By: by, Open: true} }
func void(by int) api.Slot         { return api.Slot{By: by, Void: true} }

// ahead is the state on which the deeds of the tests by hand are done.
var ahead = api.State{100, 101, 102, 103, 104, 105, 106, 107, 108, 109}

// with answers ahead with another number of a key.
func with(key int, n int64) api.State {
	s := ahead
	s[key] = n
	return s
}

// bench is a table of a round, and a worker of each deed.
type bench struct {
	t       *testing.T
	table   *table.Table
	workers []*worker.Worker
}

func made(t *testing.T, s api.State, r api.Round) bench {
	t.Helper()
	x, c := table.New(s, r)
	if c != 0 {
		t.Fatalf("a round that is not well made, %d: %v", c, r)
	}
	b := bench{t: t, table: x}
	for by, d := range r {
		w := worker.New(d, by)
		if w == nil {
			t.Fatalf("no worker of the deed %d of %v", by, r)
		}
		b.workers = append(b.workers, w)
	}
	return b
}

func (b bench) step(by, what, who int) {
	b.t.Helper()
	if gotWhat, gotWho := b.workers[by].Step(b.table); gotWhat != what || gotWho != who {
		b.t.Errorf("a step of deed %d: %d, %d, want %d, %d", by, gotWhat, gotWho, what, who)
	}
}

func (b bench) ran(by int)        { b.t.Helper(); b.step(by, 1, -1) }
func (b bench) waits(by, who int) { b.t.Helper(); b.step(by, 2, who) }
func (b bench) over(by int)       { b.t.Helper(); b.step(by, 3, -1) }

// all lets a deed run as many operations as are told, and then be over.
func (b bench) all(by, operations int) {
	b.t.Helper()
	for range operations {
		b.ran(by)
	}
	b.over(by)
}

func (b bench) slots(k int, want ...api.Slot) {
	b.t.Helper()
	if got := b.table.Slots(k); !slices.Equal(got, want) {
		b.t.Errorf("the slots of key %d: %+v, want %+v", k, got, want)
	}
}

func (b bench) came(by, code int, regs api.Regs) {
	b.t.Helper()
	want := api.Result{Code: code, Regs: regs}
	if got, ok := b.workers[by].Result(); got != want || !ok {
		b.t.Errorf("the result of deed %d: %v, %t, want %v, true", by, got, ok, want)
	}
}

func (b bench) notOver(by int) {
	b.t.Helper()
	if got, ok := b.workers[by].Result(); got != (api.Result{}) || ok {
		b.t.Errorf("the result of deed %d: %v, %t, want none", by, got, ok)
	}
}

func TestWhatAStepCameTo(t *testing.T) {
	if worker.Ran != 1 || worker.Waits != 2 || worker.Over != 3 {
		t.Errorf("%d, %d, %d, want 1, 2, 3", worker.Ran, worker.Waits, worker.Over)
	}
}

func TestNewOfFaultyDeeds(t *testing.T) {
	for name, d := range map[string]api.Deed{
		"too many operations":   slices.Repeat(api.Deed{num(0, 1)}, api.MaxOps+1),
		"no such kind":          {num(0, 1), {}},
		"a kind below 0":        {{Kind: -1}},
		"a kind too high":       {{Kind: api.OSkip + 1}},
		"a register too high":   {num(api.MaxRegs, 1)},
		"a register below 0":    {stop(-1)},
		"a key too high":        {load(0, api.MaxKeys)},
		"a key below 0":         {store(math.MinInt, 0)},
		"a part too many":       {{Kind: api.OStop, C: 1}},
		"a number too many":     {{Kind: api.OAdd, N: 1}},
		"a stop behind a store": {store(0, 0), stop(0)},
		"a skip too far":        {num(0, 1), skip(0, 1)},
		"a skip over none":      {skip(0, 0), num(0, 1)},
	} {
		for by := range api.MaxDeeds {
			if worker.New(d, by) != nil {
				t.Errorf("%s: there is a worker of the deed %d", name, by)
			}
		}
	}
}

func TestNewOfDeedsByTheirNumbers(t *testing.T) {
	for _, d := range []api.Deed{nil, {}, {num(0, 1)}, slices.Repeat(api.Deed{store(9, 3)}, api.MaxOps)} {
		for _, by := range []int{math.MinInt, -8, -2, -1, 0, 1, 3, 6, 7, 8, 9, 15, 255, 1 << 32, math.MaxInt} {
			if got, want := worker.New(d, by) != nil, by >= 0 && by <= 7; got != want {
				t.Errorf("the deed %d of %d operations: is there a worker: %t, want %t", by, len(d), got, want)
			}
		}
	}
	if worker.New(api.Deed{{}}, -1) != nil {
		t.Error("there is a worker, and all is wrong")
	}
}

func TestDeedsWithoutOperations(t *testing.T) {
	b := made(t, ahead, api.Round{nil, {}})
	for by := range 2 {
		b.notOver(by)
		b.over(by)
		b.came(by, 0, api.Regs{})
		b.over(by)
	}
	if b.table.State() != ahead {
		t.Errorf("the state: %v", b.table.State())
	}
}

func TestOperationsByHand(t *testing.T) {
	for _, c := range []struct {
		name string
		deed api.Deed
		ran  int // how many operations are done
		then api.State
		regs api.Regs
	}{
		{"num", api.Deed{num(3, math.MinInt64), num(0, 7), num(0, 8)}, 3, ahead, api.Regs{8, 0, 0, math.MinInt64}},
		{"load", api.Deed{load(0, 0), load(3, 9)}, 2, ahead, api.Regs{100, 0, 0, 109}},
		{"add", api.Deed{num(1, 2), num(2, 3), reckon(api.OAdd, 3, 1, 2)}, 3, ahead, api.Regs{0, 2, 3, 5}},
		{"sub", api.Deed{num(1, 2), num(2, 3), reckon(api.OSub, 3, 1, 2)}, 3, ahead, api.Regs{0, 2, 3, -1}},
		{"mul", api.Deed{num(1, 2), num(2, 3), reckon(api.OMul, 3, 1, 2)}, 3, ahead, api.Regs{0, 2, 3, 6}},
		{"less", api.Deed{num(1, 2), num(2, 3), reckon(api.OLess, 3, 1, 2)}, 3, ahead, api.Regs{0, 2, 3, 1}},
		{"not less", api.Deed{num(1, 3), num(2, 3), num(3, 9), reckon(api.OLess, 3, 1, 2)}, 4, ahead, api.Regs{0, 3, 3, 0}},
		{"onto itself", api.Deed{num(1, 3), reckon(api.OMul, 1, 1, 1), reckon(api.OMul, 1, 1, 1)}, 3, ahead, api.Regs{0, 81}},
		{"wrapping round", api.Deed{num(0, math.MaxInt64), reckon(api.OAdd, 0, 0, 0)}, 2, ahead, api.Regs{-2}},
		{"store", api.Deed{num(1, 5), store(9, 1)}, 2, with(9, 5), api.Regs{0, 5}},
		{"store of a register that is 0", api.Deed{store(0, 3)}, 1, with(0, 0), api.Regs{}},
		{"stored twice", api.Deed{num(1, 5), store(4, 1), num(1, 6), store(4, 1)}, 4, with(4, 6), api.Regs{0, 6}},
		{"as many as can be", slices.Repeat(api.Deed{store(4, 1)}, api.MaxOps), api.MaxOps, with(4, 0), api.Regs{}},
		{"goes on at a stop", api.Deed{num(0, 1), stop(1), store(2, 0)}, 3, with(2, 1), api.Regs{1}},
		{"skip over the next one", api.Deed{skip(0, 1), num(1, 1), num(2, 2), num(3, 3)}, 3, ahead, api.Regs{0, 0, 2, 3}},
		{"skip over the next two", api.Deed{skip(0, 2), num(1, 1), num(2, 2), num(3, 3)}, 2, ahead, api.Regs{0, 0, 0, 3}},
		{"skip over all", api.Deed{skip(0, 3), num(1, 1), num(2, 2), num(3, 3)}, 1, ahead, api.Regs{}},
		{"skip over none: 1", api.Deed{num(0, 1), skip(0, 2), num(1, 1), num(2, 2)}, 4, ahead, api.Regs{1, 1, 2}},
		{"skip over none: -1", api.Deed{num(0, -1), skip(0, 2), num(1, 1), num(2, 2)}, 4, ahead, api.Regs{-1, 1, 2}},
		{"skip over none: 2^32", api.Deed{num(0, 1<<32), skip(0, 1), num(1, 1)}, 3, ahead, api.Regs{1 << 32, 1}},
		{"skip by the register A, not B", api.Deed{num(1, 1), skip(2, 1), num(3, 3)}, 2, ahead, api.Regs{0, 1}},
		{"skip over a stop", api.Deed{num(0, 1), skip(1, 1), stop(0), num(2, 2)}, 3, ahead, api.Regs{1, 0, 2}},
		{"skip over a store", api.Deed{num(1, 5), skip(0, 1), store(3, 1), store(4, 1)}, 3, with(4, 5), api.Regs{0, 5}},
	} {
		b := made(t, ahead, api.Round{c.deed})
		b.all(0, c.ran)
		b.came(0, 0, c.regs)
		if !b.table.Over() || b.table.State() != c.then {
			t.Errorf("%s: %t, %v, want %v", c.name, b.table.Over(), b.table.State(), c.then)
		}
		if t.Failed() {
			t.Fatal(c.name)
		}
	}
}

func TestStopsByHand(t *testing.T) {
	for _, c := range []struct {
		name string
		deed api.Deed
		ran  int
		regs api.Regs
	}{
		{"1", api.Deed{num(1, 1), stop(1), store(1, 1)}, 1, api.Regs{0, 1}},
		{"-1", api.Deed{num(1, -1), stop(1), store(1, 1)}, 1, api.Regs{0, -1}},
		{"2^32", api.Deed{num(1, 1<<32), stop(1), store(1, 1)}, 1, api.Regs{0, 1 << 32}},
		{"its registers at last", api.Deed{load(0, 3), num(1, 1), stop(0), num(1, 2), store(1, 1)}, 2, api.Regs{103, 1}},
		{"the second of two", api.Deed{load(0, 3), stop(1), num(1, 1), stop(1), store(1, 1), store(1, 0)}, 3, api.Regs{103, 1}},
		{"where a skip goes", api.Deed{num(3, 9), skip(0, 1), num(3, 0), stop(3), store(1, 3)}, 2, api.Regs{0, 0, 0, 9}},
	} {
		b := made(t, ahead, api.Round{c.deed})
		b.all(0, c.ran)
		b.came(0, api.ErrStop, c.regs)
		b.slots(1, has(-1, 101), void(0))
		b.over(0)
		b.came(0, api.ErrStop, c.regs)
		if !b.table.Over() || b.table.State() != ahead {
			t.Errorf("%s: %t, %v", c.name, b.table.Over(), b.table.State())
		}
		if t.Failed() {
			t.Fatal(c.name)
		}
	}
	b := made(t, ahead, api.Round{{num(0, 1), stop(0)}})
	b.all(0, 1)
	b.came(0, api.ErrStop, api.Regs{1})
}

func TestLoadOfWhatItStoredItself(t *testing.T) {
	b := made(t, ahead, api.Round{
		{store(4, 0)},
		{num(1, 5), store(4, 1), load(0, 4), num(1, 6), store(4, 1), load(2, 4), store(4, 3), load(3, 4)},
	})
	b.all(1, 8)
	b.came(1, 0, api.Regs{5, 6, 6, 0})
	b.slots(4, has(-1, 104), open(0), has(1, 0))
}

func TestLoadAheadOfStoring(t *testing.T) {
	b := made(t, ahead, api.Round{{load(0, 4), num(1, 5), store(4, 1), load(2, 4)}})
	b.all(0, 4)
	b.came(0, 0, api.Regs{104, 5, 5})
}

func TestLoadBehindAStoreThatWasGoneOver(t *testing.T) {
	b := made(t, ahead, api.Round{
		{num(0, 7), store(4, 0)},
		{num(1, 5), skip(0, 1), store(4, 1), load(2, 4)},
	})
	b.ran(1)
	b.ran(1)
	b.waits(1, 0)
	b.all(0, 2)
	b.ran(1)
	b.over(1)
	b.came(1, 0, api.Regs{0, 5, 7})
	b.slots(4, has(-1, 104), has(0, 7), void(1))
}

func TestAWaitingStepDoesNothing(t *testing.T) {
	b := made(t, ahead, api.Round{{num(0, 5), store(2, 0)}, {num(0, 1), load(0, 2), store(3, 0)}})
	b.ran(1)
	for range 30 {
		b.waits(1, 0)
		b.notOver(1)
		b.slots(2, has(-1, 102), open(0))
		b.slots(3, has(-1, 103), open(1))
	}
	b.ran(0)
	b.waits(1, 0)
	b.ran(0)
	b.waits(1, 0)
	b.over(0)
	b.all(1, 2)
	b.came(1, 0, api.Regs{5})
	b.slots(3, has(-1, 103), has(1, 5))
}

func TestAWaitEndsWhenTheSlotIsOpenNoLonger(t *testing.T) {
	d := api.Deed{num(0, 7), load(0, 2), store(3, 0)}
	x, _ := table.New(ahead, api.Round{{store(2, 1)}, d})
	w := worker.New(d, 1)
	for range 5 {
		w.Step(x)
	}
	x.Void(2, 0)
	if what, who := w.Step(x); what != worker.Ran || who != -1 {
		t.Errorf("a step: %d, %d", what, who)
	}
	w.Step(x)
	w.Step(x)
	if got, ok := w.Result(); got != (api.Result{Regs: api.Regs{102}}) || !ok {
		t.Errorf("the result: %v, %t", got, ok)
	}
}

func TestWhoIsWaitedFor(t *testing.T) {
	to2, to3 := api.Deed{num(0, 5), store(2, 0)}, api.Deed{store(3, 0)}
	b := made(t, ahead, api.Round{to2, to3, to2, {skip(0, 1), store(2, 0), num(0, 1)}, {load(0, 2), store(2, 0)}, to2})
	b.waits(4, 3)
	b.all(5, 2)
	b.waits(4, 3)
	b.all(3, 2)
	b.waits(4, 2)
	b.all(0, 2)
	b.waits(4, 2)
	b.all(2, 2)
	b.all(4, 2)
	b.came(4, 0, api.Regs{5})
	b.slots(2, has(-1, 102), has(0, 5), has(2, 5), void(3), has(4, 5), has(5, 5))
	b.slots(3, has(-1, 103), open(1))
}

func TestNobodyWaitsForThoseBehindOrForItself(t *testing.T) {
	b := made(t, ahead, api.Round{{load(0, 2), store(2, 0)}, {store(2, 0)}, {load(0, 5), store(5, 1)}})
	b.all(0, 2)
	b.came(0, 0, api.Regs{102})
	b.all(2, 2)
	b.came(2, 0, api.Regs{105})
}

func TestWhoIsBehindLoadsThoseAheadOfOneThatStops(t *testing.T) {
	b := made(t, ahead, api.Round{{num(0, 5), store(2, 0)}, {num(0, 1), stop(0), store(2, 0)}, {load(0, 2)}})
	b.waits(2, 1)
	b.all(1, 1)
	b.waits(2, 0)
	b.all(0, 2)
	b.all(2, 1)
	b.came(2, 0, api.Regs{5})
	b.slots(2, has(-1, 102), has(0, 5), void(1))
}

func TestAllThatAreAheadMakeNothing(t *testing.T) {
	stops := api.Deed{num(0, 1), stop(0), store(2, 0)}
	b := made(t, ahead, api.Round{stops, stops, {load(0, 2)}})
	b.all(0, 1)
	b.waits(2, 1)
	b.all(1, 1)
	b.all(2, 1)
	b.came(2, 0, api.Regs{102})
}

func TestStoresAreNotToldAheadOfTheEnd(t *testing.T) {
	b := made(t, ahead, api.Round{{num(0, 5), store(2, 0), store(3, 0), num(0, 6), store(2, 0), skip(1, 1), store(4, 0)}})
	for range 6 {
		b.ran(0)
		b.notOver(0)
		for k := 2; k <= 4; k++ {
			b.slots(k, has(-1, int64(100+k)), open(0))
		}
	}
	b.over(0)
	b.slots(2, has(-1, 102), has(0, 6))
	b.slots(3, has(-1, 103), has(0, 5))
	b.slots(4, has(-1, 104), void(0))
	b.came(0, 0, api.Regs{6})
}

func TestTheFirstAndTheLastKeyAndDeed(t *testing.T) {
	r := make(api.Round, api.MaxDeeds)
	r[0] = api.Deed{num(3, math.MinInt64), store(0, 3), store(9, 3)}
	r[7] = api.Deed{load(0, 0), load(1, 9), num(3, math.MaxInt64), store(0, 3), store(9, 3)}
	b := made(t, ahead, r)
	b.waits(7, 0)
	b.all(0, 3)
	b.all(7, 5)
	b.came(7, 0, api.Regs{math.MinInt64, math.MinInt64, 0, math.MaxInt64})
	for _, k := range []int{0, 9} {
		b.slots(k, has(-1, int64(100+k)), has(0, math.MinInt64), has(7, math.MaxInt64))
	}
}

func TestStepsOfOneThatIsOverDoNothing(t *testing.T) {
	b := made(t, ahead, api.Round{{num(0, 5), store(2, 0)}, {load(0, 2), store(2, 1)}, {num(0, 1), stop(0), store(2, 0)}})
	b.all(0, 2)
	b.all(2, 1)
	for range 3 {
		b.over(0)
		b.over(2)
		b.came(0, 0, api.Regs{5})
		b.came(2, api.ErrStop, api.Regs{1})
		b.notOver(1)
		b.slots(2, has(-1, 102), has(0, 5), open(1), void(2))
	}
}

func TestNothingHandedInIsChangedOrKept(t *testing.T) {
	whole := api.Deed{num(0, 5), store(3, 0), load(1, 3), {Kind: 99}}
	kept := slices.Clone(whole)
	x, _ := table.New(ahead, api.Round{whole[:3]})
	w := worker.New(whole[:3], 0)
	b := bench{t, x, []*worker.Worker{w}}
	b.ran(0)
	if !slices.Equal(whole, kept) {
		t.Error("what was handed in, or lies behind it, was changed")
	}
	whole[1], whole[2] = store(8, 3), num(1, 77)
	b.all(0, 2)
	b.came(0, 0, api.Regs{5, 5})
	b.slots(3, has(-1, 103), has(0, 5))
	b.slots(8, has(-1, 108))
	if whole[0] != num(0, 5) || whole[1] != store(8, 3) || whole[2] != num(1, 77) || whole[3] != (api.Op{Kind: 99}) {
		t.Error("what was handed in was changed by Step")
	}
}

func TestNothingBehindADeedIsRead(t *testing.T) {
	whole := api.Deed{num(0, 5), num(0, 6), {Kind: 99}}
	b := made(t, ahead, api.Round{whole[:1]})
	b.all(0, 1)
	b.came(0, 0, api.Regs{5})
	if worker.New(api.Deed{skip(0, 1), num(0, 1)}[:1], 0) != nil {
		t.Error("there is a worker of a skip over what lies behind the deed")
	}
}

func TestWorkersOfOneDeedAreApart(t *testing.T) {
	r := api.Round{{num(0, 5), store(2, 0), load(1, 2)}}
	b, c := made(t, ahead, r), made(t, ahead, r)
	b.all(0, 3)
	c.notOver(0)
	c.slots(2, has(-1, 102), open(0))
	c.all(0, 3)
	b.came(0, 0, api.Regs{5, 5})
	c.came(0, 0, api.Regs{5, 5})
}

func TestResultIsNewEachTime(t *testing.T) {
	b := made(t, ahead, api.Round{{num(0, 5)}})
	b.all(0, 1)
	first, _ := b.workers[0].Result()
	first.Code, first.Regs[0] = 77, 77
	b.came(0, 0, api.Regs{5})
}

func TestStepsOnWrongTablesEnd(t *testing.T) {
	d := api.Deed{num(0, 5), load(1, 3), store(2, 0), store(9, 0)}
	other, _ := table.New(ahead, api.Round{{store(2, 0)}, {store(9, 0), store(3, 0)}})
	for _, x := range []*table.Table{nil, new(table.Table), other} {
		for by := range api.MaxDeeds {
			w := worker.New(d, by)
			for range 2 * api.MaxOps {
				w.Step(x)
			}
			w.Result()
		}
	}
	b := made(t, ahead, api.Round{d})
	b.ran(0)
	if what, who := b.workers[0].Step(nil); what != 0 || who != -1 {
		t.Errorf("a step without a table: %d, %d, want 0, -1", what, who)
	}
	b.all(0, 3)
	b.came(0, 0, api.Regs{5, 103})
	if what, who := b.workers[0].Step(nil); what != worker.Over || who != -1 {
		t.Errorf("a step of one that is over: %d, %d, want 3, -1", what, who)
	}
}

// path is a deed said once more: what it does in the end, found by doing the deeds one behind the other.
type path struct {
	asks []int         // of each operation that it does: the key that it loads and did not store to itself, or -1
	may  map[int]bool  // the keys that it may store to
	made map[int]int64 // what it makes of keys
	came api.Result
}

// walk tells the path of a deed that is well made, on a state, and changes the state by it.
func walk(s *api.State, d api.Deed) path {
	p := path{may: map[int]bool{}, made: map[int]int64{}}
	for _, o := range d {
		if o.Kind == 7 {
			p.may[o.A] = true
		}
	}
	regs := &p.came.Regs
	for left := d; len(left) > 0; {
		o, ask := left[0], -1
		left = left[1:]
		switch o.Kind {
		case 1:
			regs[o.A] = o.N
		case 2:
			n, own := p.made[o.B]
			if !own {
				n, ask = s[o.B], o.B
			}
			regs[o.A] = n
		case 7:
			p.made[o.A] = regs[o.B]
		case 8:
			if regs[o.A] != 0 {
				p.came.Code = 9
				return p
			}
		case 9:
			if regs[o.A] == 0 {
				left = left[o.B:]
			}
		default:
			regs[o.A] = serial.Arith(o.Kind, regs[o.B], regs[o.C])
		}
		p.asks = append(p.asks, ask)
	}
	for k, n := range p.made {
		s[k] = n
	}
	return p
}

// plan says a round under way once more: the paths of its deeds, and how far each of them came.
type plan struct {
	ahead api.State
	paths []path
	place []int
	over  []bool
}

func planOf(s api.State, r api.Round) *plan {
	p := &plan{ahead: s, place: make([]int, len(r)), over: make([]bool, len(r))}
	for _, d := range r {
		p.paths = append(p.paths, walk(&s, d))
	}
	return p
}

// step tells what a step of a deed is to answer, and takes it.
func (p *plan) step(by int) (int, int) {
	asks := p.paths[by].asks
	if p.over[by] || p.place[by] == len(asks) {
		p.over[by] = true
		return 3, -1
	}
	k := asks[p.place[by]]
	for i := by - 1; i >= 0 && k >= 0; i-- {
		if p.paths[i].may[k] && !p.over[i] {
			return 2, i
		}
		if _, is := p.paths[i].made[k]; is {
			break
		}
	}
	p.place[by]++
	return 1, -1
}

func (p *plan) slots(k int) []api.Slot {
	l := []api.Slot{has(-1, p.ahead[k])}
	for by, path := range p.paths {
		n, is := path.made[k]
		switch {
		case !path.may[k]:
		case !p.over[by]:
			l = append(l, open(by))
		case is:
			l = append(l, has(by, n))
		default:
			l = append(l, void(by))
		}
	}
	return l
}

// row is a row of numbers that are the same in each run of the tests.
type row uint64

// upTo tells the next number of the row, from 0 to n - 1.
func (r *row) upTo(n int) int {
	*r = *r*6364136223846793005 + 1442695040888963407
	return int(uint64(*r>>33) % uint64(n))
}

// someDeed makes a deed that is well made, of a few keys, so that deeds come in each other's way.
func someDeed(r *row, keys int) api.Deed {
	d := make(api.Deed, r.upTo(api.MaxOps+1))
	stored := false
	for i := range d {
		reg, key, behind := r.upTo(api.MaxRegs), api.MaxKeys-1-r.upTo(keys), len(d)-1-i
		switch p := r.upTo(100); {
		case p < 15:
			d[i] = num(reg, int64(r.upTo(5)-2))
		case p < 50:
			d[i] = load(reg, key)
		case p < 60:
			d[i] = reckon(api.OAdd+r.upTo(4), reg, r.upTo(api.MaxRegs), r.upTo(api.MaxRegs))
		case p < 80 || p < 92 && behind == 0:
			d[i], stored = store(key, reg), true
		case p < 92:
			d[i] = skip(reg, 1+r.upTo(behind))
		case !stored:
			d[i] = stop(reg)
		default:
			d[i] = load(reg, key)
		}
	}
	return d
}

func someRound(r *row) api.Round {
	round, keys := make(api.Round, 1+r.upTo(api.MaxDeeds)), 1+r.upTo(api.MaxKeys)
	for i := range round {
		round[i] = someDeed(r, keys)
	}
	return round
}

func (b bench) checkPlan(p *plan) {
	b.t.Helper()
	for k := range api.MaxKeys {
		b.slots(k, p.slots(k)...)
	}
	for by, path := range p.paths {
		if p.over[by] {
			b.came(by, path.came.Code, path.came.Regs)
		} else {
			b.notOver(by)
		}
	}
}

// checkEnd holds a round that is over against its deeds done one behind the other.
func (b bench) checkEnd(s api.State, r api.Round) {
	b.t.Helper()
	then, came, c := serial.All(s, r)
	if c != 0 || b.table.State() != then || !b.table.Over() {
		b.t.Errorf("the state: %v, %t, want %v (%d)", b.table.State(), b.table.Over(), then, c)
	}
	for by, want := range came {
		b.came(by, want.Code, want.Regs)
	}
}

func TestManyRoundsInWhateverOrder(t *testing.T) {
	r := new(row)
	var seen [4]int
	stops := 0
	for i := range 1500 {
		round, s := someRound(r), ahead
		s[r.upTo(api.MaxKeys)] = int64(i)
		b, p := made(t, s, round), planOf(s, round)
		b.checkPlan(p)
		for steps := 0; slices.Contains(p.over, false); steps++ {
			if steps > 20000 {
				t.Fatalf("no end of %v on %v", round, s)
			}
			by := r.upTo(len(round))
			what, who := p.step(by)
			seen[what]++
			b.step(by, what, who)
			b.checkPlan(p)
			if t.Failed() {
				t.Fatalf("deed %d of %v on %v", by, round, s)
			}
		}
		b.checkEnd(s, round)
		for _, path := range p.paths {
			if path.came.Code != 0 {
				stops++
			}
		}
	}
	if seen[1] < 20000 || seen[2] < 5000 || seen[3] < 5000 || stops < 200 {
		t.Errorf("the rounds do not try enough: %v steps, %d stops", seen, stops)
	}
}

// backwards steps the last deed that is not over first, and goes one ahead when it waits.
func (b bench) backwards(deeds int) {
	b.t.Helper()
	by := deeds - 1
	for steps := 0; by >= 0; steps++ {
		switch what, who := b.workers[by].Step(b.table); {
		case steps > 1000:
			b.t.Fatal("no end of a round")
		case what == worker.Waits && who < by:
			by = who
		case what == worker.Over:
			by = b.lastLeft(deeds)
		case what != worker.Ran:
			b.t.Fatalf("a step of deed %d: %d, %d", by, what, who)
		}
	}
}

func (b bench) lastLeft(deeds int) int {
	for by := deeds - 1; by >= 0; by-- {
		if _, ok := b.workers[by].Result(); !ok {
			return by
		}
	}
	return -1
}

func TestManyRoundsBackwards(t *testing.T) {
	r := new(row)
	for range 3000 {
		round := someRound(r)
		b := made(t, ahead, round)
		b.backwards(len(round))
		b.checkEnd(ahead, round)
		if t.Failed() {
			t.Fatalf("%v", round)
		}
	}
}

func TestNoOperationMakesACallPanic(t *testing.T) {
	parts := []int{math.MinInt, -1, 0, 1, 3, 4, 9, 10, 13, 14, 255, math.MaxInt}
	for _, kind := range append(parts, 2, 5, 6, 7, 8) {
		for _, a := range parts {
			for _, b := range parts {
				for _, c := range parts {
					d := api.Deed{num(0, 1), {Kind: kind, A: a, B: b, C: c}, num(1, 1)}
					w := worker.New(d, 0)
					if (w == nil) != (code.Check(d).Code != 0) {
						t.Fatalf("is there a worker of %v: %t", d, w != nil)
					}
					if w == nil {
						continue
					}
					b := made(t, ahead, api.Round{d})
					b.backwards(1)
					b.checkEnd(ahead, api.Round{d})
				}
			}
		}
	}
}
