package round_test

import (
	"math"
	"slices"
	"testing"

	"caracole/api"
	"caracole/code"
	"caracole/round"
	"caracole/serial"
	"caracole/table"
	"caracole/worker"
)

// odd are numbers that may be handed in as a deed or a pick, wrong ones among them.
var odd = []int{math.MinInt, math.MinInt32, -9, -8, -3, -2, -1, 0, 1, 2, 3, 7, 8, 9, 255, 256, 1 << 32, 1<<32 + 1, math.MaxInt}

// ahead is the state on which the rounds of the tests by hand are done.
var ahead = api.State{100, 101, 102, 103, 104, 105, 106, 107, 108, 109}

func num(a int, n int64) api.Op       { return api.Op{Kind: api.ONum, A: a, N: n} }
func load(a, key int) api.Op          { return api.Op{Kind: api.OLoad, A: a, B: key} }
func store(key, b int) api.Op         { return api.Op{Kind: api.OStore, A: key, B: b} }
func stop(a int) api.Op               { return api.Op{Kind: api.OStop, A: a} }
func skip(a, over int) api.Op         { return api.Op{Kind: api.OSkip, A: a, B: over} }
func reckon(kind, a, b, c int) api.Op { return api.Op{Kind: kind, A: a, B: b, C: c} }

func has(by int, n int64) api.Slot { return api.Slot{By: by, N: n} }
func open(by int) api.Slot         { return api.Slot{By: by, Open: true} }
func void(by int) api.Slot         { return api.Slot{By: by, Void: true} }

// with answers ahead with another number of a key.
func with(key int, n int64) api.State {
	s := ahead
	s[key] = n
	return s
}

// chain is deeds of which each stores to a key what the one ahead made of another one, and one more.
func chain(deeds int) api.Round {
	var l api.Round
	for by := range deeds {
		l = append(l, api.Deed{num(1, 1), load(0, by), reckon(api.OAdd, 0, 0, 1), store(by+1, 0)})
	}
	return l
}

// bench is a round under way.
type bench struct {
	*round.Round
	t *testing.T
}

func made(t *testing.T, s api.State, l api.Round) bench {
	t.Helper()
	r, c := round.New(s, l)
	if r == nil || c != 0 {
		t.Fatalf("New of %v: %v, %d", l, r, c)
	}
	return bench{r, t}
}

func (b bench) pick(by, what, who int) {
	b.t.Helper()
	if gotWhat, gotWho := b.Pick(by); gotWhat != what || gotWho != who {
		b.t.Errorf("a pick of %d: %d, %d, want %d, %d", by, gotWhat, gotWho, what, who)
	}
}

func (b bench) ran(by int)        { b.t.Helper(); b.pick(by, 1, -1) }
func (b bench) waits(by, who int) { b.t.Helper(); b.pick(by, 2, who) }
func (b bench) over(by int)       { b.t.Helper(); b.pick(by, 3, -1) }

// all lets a deed run as many operations as are told, and then be over.
func (b bench) all(by, operations int) {
	b.t.Helper()
	for range operations {
		b.ran(by)
	}
	b.over(by)
}

// left holds Left, and Done of each deed, against those that are to be left.
func (b bench) left(want ...int) {
	b.t.Helper()
	if got := b.Left(); !slices.Equal(got, want) {
		b.t.Errorf("%v are left, want %v", got, want)
	}
	for by := range b.Len() {
		if got := b.Done(by); got == slices.Contains(want, by) {
			b.t.Errorf("is deed %d over: %t", by, got)
		}
	}
}

func (b bench) came(want ...api.Result) {
	b.t.Helper()
	if got := b.Results(); !slices.Equal(got, want) {
		b.t.Errorf("the results: %v, want %v", got, want)
	}
}

func (b bench) slots(k int, want ...api.Slot) {
	b.t.Helper()
	if got := b.Slots(k); !slices.Equal(got, want) {
		b.t.Errorf("the slots of key %d: %+v, want %+v", k, got, want)
	}
}

// has holds the state, and whether no slot is open, against what they are to be.
func (b bench) has(s api.State, over bool) {
	b.t.Helper()
	if b.State() != s || b.Over() != over {
		b.t.Errorf("the state: %v, %t, want %v, %t", b.State(), b.Over(), s, over)
	}
}

// checkEnd holds a round that is over against its deeds done one behind the other.
func (b bench) checkEnd(s api.State, l api.Round) {
	b.t.Helper()
	then, came, c := serial.All(s, l)
	if c != 0 {
		b.t.Fatalf("a round that is not well made, %d: %v", c, l)
	}
	b.has(then, true)
	b.came(came...)
	b.left()
}

// checkRun holds a Run against the deeds done one behind the other.
func checkRun(t *testing.T, s api.State, l api.Round, picks []int) {
	t.Helper()
	then, came, _ := serial.All(s, l)
	gotThen, gotCame, c := round.Run(s, l, picks)
	if gotThen != then || !slices.Equal(gotCame, came) || c != 0 {
		t.Errorf("%v on %v by %v: %v, %v, %d, want %v, %v", l, s, picks, gotThen, gotCame, c, then, came)
	}
}

var faulty = []struct {
	name  string
	round api.Round
	code  int
}{
	{"too many deeds", chain(api.MaxDeeds + 1), api.ErrMany},
	{"too many deeds, each without operations", make(api.Round, api.MaxDeeds+1), api.ErrMany},
	{"too many ahead of a deed's code", slices.Repeat(api.Round{{{}}}, api.MaxDeeds+1), api.ErrMany},
	{"too many operations", api.Round{nil, slices.Repeat(api.Deed{store(1, 0)}, api.MaxOps+1)}, api.ErrMany},
	{"no such kind", api.Round{{{}}}, api.ErrKind},
	{"no such kind, of the last deed", append(chain(7), api.Deed{{Kind: 10}}), api.ErrKind},
	{"a key too high", api.Round{nil, {store(api.MaxKeys, 0)}}, api.ErrRange},
	{"a key below 0", api.Round{{load(0, -1)}}, api.ErrRange},
	{"a register too high", api.Round{{stop(api.MaxRegs)}}, api.ErrRange},
	{"a skip too far", api.Round{{skip(0, 1)}}, api.ErrRange},
	{"a part too many", api.Round{{{Kind: api.OStore, C: 1}}}, api.ErrForm},
	{"a stop behind a store", api.Round{nil, nil, {store(0, 0), stop(0)}}, api.ErrOrder},
	{"the first deed that has one", api.Round{nil, {{}}, {store(10, 0)}}, api.ErrKind},
	{"the first deed that has one, again", api.Round{nil, {store(10, 0)}, {{}}}, api.ErrRange},
}

func TestNewOfFaultyRounds(t *testing.T) {
	for _, c := range faulty {
		if r, got := round.New(ahead, c.round); r != nil || got != c.code {
			t.Errorf("%s: %v, %d, want nil, %d", c.name, r, got, c.code)
		}
	}
}

func TestRunOfFaultyRounds(t *testing.T) {
	for _, c := range faulty {
		for _, picks := range [][]int{nil, {0, 1}, make([]int, api.MaxPicks+1)} {
			if s, came, got := round.Run(ahead, c.round, picks); s != (api.State{}) || came != nil || got != c.code {
				t.Errorf("%s, %d picks: %v, %v, %d, want %d alone", c.name, len(picks), s, came, got, c.code)
			}
		}
	}
}

func TestRunOfTooManyPicks(t *testing.T) {
	for _, l := range []api.Round{nil, {}, {nil}, chain(1), chain(api.MaxDeeds)} {
		for _, many := range []int{api.MaxPicks + 1, api.MaxPicks + 2, 1 << 16} {
			if s, came, c := round.Run(ahead, l, make([]int, many)); s != (api.State{}) || came != nil || c != api.ErrMany {
				t.Errorf("%d deeds, %d picks: %v, %v, %d, want ErrMany alone", len(l), many, s, came, c)
			}
		}
		for _, many := range []int{0, 1, api.MaxPicks - 1, api.MaxPicks} {
			checkRun(t, ahead, l, make([]int, many))
		}
	}
}

func TestNoDeeds(t *testing.T) {
	for _, l := range []api.Round{nil, {}} {
		b := made(t, ahead, l)
		for range 2 {
			if b.Len() != 0 || len(b.Left()) != 0 || len(b.Results()) != 0 {
				t.Errorf("%d, %v, %v", b.Len(), b.Left(), b.Results())
			}
			for _, by := range odd {
				b.pick(by, 0, -1)
				if b.Done(by) {
					t.Errorf("deed %d of none is over", by)
				}
			}
			b.has(ahead, true)
			b.slots(3, has(-1, 103))
			b.Finish()
		}
		for _, picks := range [][]int{nil, {}, {0}, odd} {
			if s, came, c := round.Run(ahead, l, picks); s != ahead || len(came) != 0 || c != 0 {
				t.Errorf("by %v: %v, %v, %d", picks, s, came, c)
			}
		}
	}
}

func TestDeedsWithoutOperations(t *testing.T) {
	b := made(t, ahead, api.Round{nil, {}, nil})
	b.left(0, 1, 2)
	b.has(ahead, true)
	b.over(1)
	b.left(0, 2)
	b.over(1)
	b.over(2)
	b.over(0)
	b.left()
	b.came(make([]api.Result, 3)...)
	b.has(ahead, true)
}

func TestLen(t *testing.T) {
	for deeds := range api.MaxDeeds + 1 {
		b := made(t, ahead, chain(deeds))
		for range 2 {
			if b.Len() != deeds {
				t.Errorf("of %d deeds: %d", deeds, b.Len())
			}
			b.Finish()
		}
	}
}

func TestPicksByHand(t *testing.T) {
	b := made(t, ahead, api.Round{{num(0, 5), store(2, 0)}, {load(0, 2), store(3, 0)}})
	none, five := api.Result{}, api.Result{Regs: api.Regs{5}}
	b.left(0, 1)
	b.came(none, none)
	b.waits(1, 0)
	b.ran(0)
	b.ran(0)
	b.waits(1, 0)
	b.left(0, 1)
	b.came(none, none)
	b.slots(2, has(-1, 102), open(0))
	b.over(0)
	b.left(1)
	b.came(five, none)
	b.slots(2, has(-1, 102), has(0, 5))
	b.has(with(2, 5), false)
	b.ran(1)
	b.ran(1)
	b.slots(3, has(-1, 103), open(1))
	b.over(1)
	b.left()
	b.came(five, five)
	b.slots(3, has(-1, 103), has(1, 5))
	then := with(2, 5)
	then[3] = 5
	b.has(then, true)
}

func TestTheLastOneIsOverFirst(t *testing.T) {
	b := made(t, ahead, api.Round{{load(0, 2), store(2, 1)}, {num(0, 7), store(2, 0)}, {load(0, 3)}})
	b.all(2, 1)
	b.left(0, 1)
	b.all(1, 2)
	b.left(0)
	b.has(with(2, 7), false)
	b.came(api.Result{}, api.Result{Regs: api.Regs{7}}, api.Result{Regs: api.Regs{103}})
	b.all(0, 2)
	b.left()
	b.has(with(2, 7), true)
	b.came(api.Result{Regs: api.Regs{102}}, api.Result{Regs: api.Regs{7}}, api.Result{Regs: api.Regs{103}})
}

func TestPickOfOneThatStops(t *testing.T) {
	b := made(t, ahead, api.Round{{num(0, 5), store(2, 0)}, {num(0, 1), stop(0), store(2, 0)}, {load(0, 2)}})
	b.waits(2, 1)
	b.all(1, 1)
	b.left(0, 2)
	b.came(api.Result{}, api.Result{Code: api.ErrStop, Regs: api.Regs{1}}, api.Result{})
	b.waits(2, 0)
	b.all(0, 2)
	b.all(2, 1)
	b.slots(2, has(-1, 102), has(0, 5), void(1))
	b.came(api.Result{Regs: api.Regs{5}}, api.Result{Code: api.ErrStop, Regs: api.Regs{1}}, api.Result{Regs: api.Regs{5}})
}

func TestPicksOfOneThatIsOverDoNothing(t *testing.T) {
	b := made(t, ahead, api.Round{{num(0, 5), store(2, 0)}, {load(0, 2), store(2, 1)}})
	b.all(0, 2)
	for range 3 {
		b.over(0)
		b.left(1)
		b.came(api.Result{Regs: api.Regs{5}}, api.Result{})
		b.slots(2, has(-1, 102), has(0, 5), open(1))
	}
}

func TestPickAndDoneOfNoDeed(t *testing.T) {
	for _, deeds := range []int{1, 3, api.MaxDeeds} {
		b := made(t, ahead, chain(deeds))
		for range 2 {
			for _, by := range odd {
				if by >= 0 && by < deeds {
					continue
				}
				left, came := b.Left(), b.Results()
				b.pick(by, 0, -1)
				if b.Done(by) {
					t.Errorf("deed %d of %d is over", by, deeds)
				}
				b.left(left...)
				b.came(came...)
			}
			b.Finish()
		}
		b.checkEnd(ahead, chain(deeds))
	}
	b := made(t, ahead, api.Round{{num(0, 1)}, {num(0, 1)}})
	for _, by := range []int{-1, -2, 2, 3, math.MinInt, math.MaxInt} {
		b.pick(by, 0, -1)
	}
	b.all(0, 1)
	b.all(1, 1)
}

func TestWhatIsAskedOfTheTable(t *testing.T) {
	b := made(t, ahead, api.Round{{num(0, 5), store(2, 0)}, {num(0, 1), stop(0), store(2, 0)}, {load(0, 2), store(9, 0)}})
	before := func(k, by int, n int64, who int) {
		t.Helper()
		if gotN, gotWho := b.Before(k, by); gotN != n || gotWho != who {
			t.Errorf("Before(%d, %d): %d, %d, want %d, %d", k, by, gotN, gotWho, n, who)
		}
	}
	for k := range api.MaxKeys {
		before(k, 0, int64(100+k), -1)
	}
	b.slots(2, has(-1, 102), open(0), open(1))
	b.slots(9, has(-1, 109), open(2))
	b.slots(10)
	b.slots(-1)
	before(2, 1, 0, 0)
	before(2, 2, 0, 1)
	before(9, 3, 0, 2)
	before(10, 1, 0, -1)
	b.has(ahead, false)
	b.all(1, 1)
	before(2, 2, 0, 0)
	b.all(0, 2)
	before(2, 2, 5, -1)
	b.slots(2, has(-1, 102), has(0, 5), void(1))
	b.has(with(2, 5), false)
	b.all(2, 2)
	before(9, 3, 5, -1)
	then := with(2, 5)
	then[9] = 5
	b.has(then, true)
}

func TestFinishFromTheBeginning(t *testing.T) {
	for deeds := range api.MaxDeeds + 1 {
		b := made(t, ahead, chain(deeds))
		b.Finish()
		b.checkEnd(ahead, chain(deeds))
		b.Finish()
		b.checkEnd(ahead, chain(deeds))
	}
	b := made(t, ahead, chain(2))
	b.Finish()
	b.came(api.Result{Regs: api.Regs{101, 1}}, api.Result{Regs: api.Regs{102, 1}})
	then := with(1, 101)
	then[2] = 102
	b.has(then, true)
}

func TestFinishOfTheLongestDeeds(t *testing.T) {
	d := api.Deed{num(1, 1)}
	for len(d) < api.MaxOps {
		d = append(d, load(0, 2), reckon(api.OAdd, 0, 0, 1), store(2, 0))
	}
	d = d[:api.MaxOps]
	l := slices.Repeat(api.Round{d}, api.MaxDeeds)
	b := made(t, ahead, l)
	b.Finish()
	b.checkEnd(ahead, l)
	b.has(with(2, 102+4*api.MaxDeeds), true)
}

func TestFinishFromTheMidst(t *testing.T) {
	b := made(t, ahead, chain(5))
	b.ran(2)
	b.waits(2, 1)
	b.ran(4)
	b.all(0, 4)
	b.ran(1)
	b.ran(1)
	b.waits(2, 1)
	b.left(1, 2, 3, 4)
	b.Finish()
	b.checkEnd(ahead, chain(5))
	for by := range 5 {
		b.over(by)
	}
	b.checkEnd(ahead, chain(5))
}

func TestFinishBehindOneThatIsOver(t *testing.T) {
	l := api.Round{{load(0, 2), store(2, 1)}, {num(0, 7), store(2, 0)}, {load(0, 2), store(3, 0)}}
	b := made(t, ahead, l)
	b.all(1, 2)
	b.all(2, 2)
	b.left(0)
	b.Finish()
	b.checkEnd(ahead, l)
	b.slots(2, has(-1, 102), has(0, 0), has(1, 7))
}

func TestRunByHand(t *testing.T) {
	l := api.Round{{num(0, 5), store(2, 0)}, {num(1, 1), stop(1), store(2, 1)}, {load(0, 2), store(3, 0)}}
	then := with(2, 5)
	then[3] = 5
	want := []api.Result{{Regs: api.Regs{5}}, {Code: api.ErrStop, Regs: api.Regs{0, 1}}, {Regs: api.Regs{5}}}
	for _, picks := range [][]int{
		nil, {}, {0}, {2}, {2, 2, 2}, {2, 1, 2, 1, 2, 0, 2, 0, 2, 0, 2, 2, 2}, {0, 1, 2, 0, 1, 2, 0, 1, 2}, {0, 0, 0, 1, 1, 1, 2, 2, 2}, {-1, -2, -3}, odd,
		slices.Repeat([]int{2}, api.MaxPicks), slices.Repeat([]int{-1}, api.MaxPicks), slices.Repeat([]int{2, 1, 0}, api.MaxPicks/3),
	} {
		if s, came, c := round.Run(ahead, l, picks); s != then || !slices.Equal(came, want) || c != 0 {
			t.Errorf("by %v: %v, %v, %d, want %v, %v", picks, s, came, c, then, want)
		}
	}
}

// orders calls each with every list of that length of numbers below deeds.
func orders(deeds, length int, each func([]int)) {
	picks := make([]int, length)
	for {
		each(picks)
		i := 0
		for i < length && picks[i] == deeds-1 {
			picks[i] = 0
			i++
		}
		if i == length {
			return
		}
		picks[i]++
	}
}

func TestEveryOrderOfSmallRounds(t *testing.T) {
	for _, l := range []api.Round{
		{{load(0, 2), store(2, 1)}, {load(1, 2), store(2, 3)}, {load(2, 2)}},
		{{num(0, 5), store(2, 0)}, {load(0, 2), stop(0), store(2, 0)}, {load(0, 2), store(3, 0)}},
		{{load(0, 3), store(2, 0)}, {load(0, 2), store(3, 0)}, {load(0, 3), store(2, 0)}},
		{{skip(0, 1), store(2, 0)}, {num(0, 4), store(2, 0)}, {load(0, 2)}},
	} {
		orders(3, 8, func(picks []int) { checkRun(t, ahead, l, picks) })
		if t.Failed() {
			t.Fatal(l)
		}
	}
}

func TestAnswersAreNewMemory(t *testing.T) {
	b := made(t, ahead, chain(3))
	b.all(0, 4)
	left, came, slots := b.Left(), b.Results(), b.Slots(1)
	for _, l := range [][]int{left, left[:cap(left)]} {
		for i := range l {
			l[i] = 77
		}
	}
	came[0], came[1], slots[0], slots[1] = api.Result{Code: 77}, api.Result{Code: 77}, void(7), open(7)
	b.left(1, 2)
	b.came(api.Result{Regs: api.Regs{101, 1}}, api.Result{}, api.Result{})
	b.slots(1, has(-1, 101), has(0, 101))
	b.Finish()
	came = b.Results()
	clear(came)
	b.checkEnd(ahead, chain(3))

	_, first, _ := round.Run(ahead, chain(3), nil)
	_, second, _ := round.Run(ahead, chain(3), nil)
	kept := slices.Clone(second)
	clear(first)
	if !slices.Equal(second, kept) {
		t.Error("two answers of Run share memory")
	}
}

func TestNothingHandedInIsChangedOrKept(t *testing.T) {
	whole := append(chain(3), api.Deed{{Kind: 99}})
	picks := []int{2, 1, 5, -1, 0, 7, 8}
	kept, keptPicks := code.Own(whole), slices.Clone(picks)
	b := made(t, ahead, whole[:3])
	b.ran(1)
	b.all(0, 4)
	checkRun(t, ahead, whole[:3], picks[:5])
	if !code.SameRound(whole, kept) || !slices.Equal(picks, keptPicks) {
		t.Error("what was handed in, or lies behind it, was changed")
	}
	whole[0], whole[2] = api.Deed{{Kind: 99}}, nil
	clear(whole[1])
	b.left(1, 2)
	b.Finish()
	b.checkEnd(ahead, chain(3))
	if len(whole[0]) != 1 || whole[2] != nil || whole[1][0] != (api.Op{}) || whole[3][0].Kind != 99 {
		t.Error("what was handed in was changed behind New")
	}
}

func TestNothingBehindAListIsRead(t *testing.T) {
	whole := append(chain(2), api.Deed{{Kind: 99}})
	d := api.Deed{num(0, 5), {Kind: 99}}
	l := append(whole[:2:2], d[:1])
	b := made(t, ahead, l)
	if b.Len() != 3 {
		t.Errorf("%d deeds, want 3", b.Len())
	}
	b.Finish()
	b.checkEnd(ahead, l)
	checkRun(t, ahead, whole[:2], nil)
	checkRun(t, ahead, whole[:2], make([]int, 2*api.MaxPicks)[:api.MaxPicks])
	checkRun(t, ahead, make(api.Round, 2*api.MaxDeeds)[:api.MaxDeeds], nil)
}

func TestRoundsAreApart(t *testing.T) {
	l := chain(3)
	b, c := made(t, ahead, l), made(t, ahead, l)
	b.Finish()
	c.left(0, 1, 2)
	c.has(ahead, false)
	c.slots(1, has(-1, 101), open(0))
	c.waitsForAll()
	c.Finish()
	b.checkEnd(ahead, l)
	c.checkEnd(ahead, l)
}

// waitsForAll lets each deed of a chain run till it waits for the one ahead; the first one is done none of.
func (b bench) waitsForAll() {
	b.t.Helper()
	for by := 1; by < b.Len(); by++ {
		b.ran(by)
		b.waits(by, by-1)
	}
}

func TestTheFirstOneThatIsLeftNeverWaits(t *testing.T) {
	b := made(t, ahead, chain(api.MaxDeeds))
	b.waitsForAll()
	for by := range api.MaxDeeds {
		if b.Left()[0] != by {
			t.Fatalf("%v are left, and the first one is to be %d", b.Left(), by)
		}
		if by == 0 {
			b.ran(0)
		}
		b.all(by, 3)
	}
	b.checkEnd(ahead, chain(api.MaxDeeds))
}

// row is a row of numbers that are the same in each run of the tests.
type row uint64

// upTo tells the next number of the row, from 0 to n - 1.
func (r *row) upTo(n int) int {
	*r = *r*6364136223846793005 + 1442695040888963407
	return int(uint64(*r>>33) % uint64(n))
}

// wide tells a number of the row of 64 bits.
func (r *row) wide() int { return r.upTo(1<<31)<<33 ^ r.upTo(1<<31)<<16 ^ r.upTo(1<<31) }

// someDeed makes a deed that is well made, of a few keys, so that deeds come in each other's way.
func someDeed(r *row, keys int) api.Deed {
	d := make(api.Deed, r.upTo(api.MaxOps+1))
	stored := false
	for i := range d {
		reg, key, behind := r.upTo(api.MaxRegs), api.MaxKeys-1-r.upTo(keys), len(d)-1-i
		switch p := r.upTo(100); {
		case p < 15:
			d[i] = num(reg, int64(r.upTo(5)-2))
		case p < 50:
			d[i] = load(reg, key)
		case p < 60:
			d[i] = reckon(api.OAdd+r.upTo(4), reg, r.upTo(api.MaxRegs), r.upTo(api.MaxRegs))
		case p < 80 || p < 92 && behind == 0:
			d[i], stored = store(key, reg), true
		case p < 92:
			d[i] = skip(reg, 1+r.upTo(behind))
		case !stored:
			d[i] = stop(reg)
		default:
			d[i] = load(reg, key)
		}
	}
	return d
}

func someRound(r *row) api.Round {
	l, keys := make(api.Round, 1+r.upTo(api.MaxDeeds)), 1+r.upTo(api.MaxKeys)
	for i := range l {
		l[i] = someDeed(r, keys)
	}
	return l
}

// twin is a table and workers that take the same steps as a round.
type twin struct {
	table   *table.Table
	workers []*worker.Worker
}

func twinOf(s api.State, l api.Round) twin {
	var w twin
	w.table, _ = table.New(s, l)
	for by, d := range l {
		w.workers = append(w.workers, worker.New(d, by))
	}
	return w
}

// check holds a round against its twin.
func (w twin) check(b bench) {
	b.t.Helper()
	var left []int
	var came []api.Result
	for by, x := range w.workers {
		c, over := x.Result()
		if !over {
			left = append(left, by)
		}
		came = append(came, c)
	}
	b.left(left...)
	b.came(came...)
	b.has(w.table.State(), w.table.Over())
	for k := range api.MaxKeys {
		b.slots(k, w.table.Slots(k)...)
	}
}

func TestManyRoundsInWhateverOrder(t *testing.T) {
	r := new(row)
	var seen [4]int
	for i := range 1000 {
		l, s := someRound(r), ahead
		s[r.upTo(api.MaxKeys)] = int64(i)
		b, w := made(t, s, l), twinOf(s, l)
		w.check(b)
		// Some rounds are picked to their end, some are left in the midst.
		for steps := r.upTo(200); steps > 0 && len(b.Left()) > 0; steps-- {
			by, first := r.upTo(len(l)), b.Left()[0]
			what, who := w.workers[by].Step(w.table)
			seen[what]++
			b.pick(by, what, who)
			if by == first && what == worker.Waits {
				t.Errorf("the first one that is left, %d, waits", by)
			}
			w.check(b)
			if t.Failed() {
				t.Fatalf("deed %d of %v on %v", by, l, s)
			}
		}
		b.Finish()
		b.checkEnd(s, l)
		if t.Failed() {
			t.Fatalf("the end of %v on %v", l, s)
		}
	}
	if seen[worker.Ran] < 10000 || seen[worker.Waits] < 5000 || seen[worker.Over] < 3000 {
		t.Errorf("the rounds do not try enough: %v steps", seen)
	}
}

func TestManyRuns(t *testing.T) {
	r := new(row)
	for range 3000 {
		l := someRound(r)
		picks := make([]int, r.upTo(api.MaxPicks+1))
		for i := range picks {
			picks[i] = r.wide()
		}
		checkRun(t, ahead, l, picks)
		for i := range picks {
			picks[i] = len(l) - 1 - i%len(l)
		}
		checkRun(t, ahead, l, picks)
		if t.Failed() {
			t.FailNow()
		}
	}
}

func TestNoOperationMakesACallPanic(t *testing.T) {
	parts := []int{math.MinInt, -1, 0, 1, 3, 4, 9, 10, 13, 14, math.MaxInt}
	for _, kind := range append(parts, 2, 5, 6, 7, 8) {
		for _, a := range parts {
			for _, b := range parts {
				for _, c := range parts {
					l := api.Round{{num(0, 1), {Kind: kind, A: a, B: b, C: c}, num(1, 1)}, {load(0, 1)}}
					want := code.Round(l)
					if r, got := round.New(ahead, l); got != want || (r == nil) != (want != 0) {
						t.Fatalf("New of %v: %d, want %d", l, got, want)
					}
					if _, _, got := round.Run(ahead, l, odd); got != want {
						t.Fatalf("Run of %v: %d, want %d", l, got, want)
					}
					if want == 0 {
						checkRun(t, ahead, l, odd)
					}
				}
			}
		}
	}
}
