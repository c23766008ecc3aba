package table_test

import (
	"math"
	"slices"
	"testing"

	"caracole/api"
	"caracole/code"
	"caracole/table"
)

// odd are numbers that may be handed in as a key or a deed, wrong ones among them.
var odd = []int{math.MinInt, math.MinInt32, -11, -10, -2, -1, 0, 1, 2, 3, 4, 5, 6, 7, 8, 9, 10, 11, 255, 256, 1 << 32, 1<<32 + 1, math.MaxInt}

// ahead is the state on which the tables of the tests by hand begin.
var ahead = api.State{100, 101, 102, 103, 104, 105, 106, 107, 108, 109}

func num(a int, n int64) api.Op { return api.Op{Kind: api.ONum, A: a, N: n} }
func load(a, key int) api.Op    { return api.Op{Kind: api.OLoad, A: a, B: key} }
func store(key, b int) api.Op   { return api.Op{Kind: api.OStore, A: key, B: b} }
func stop(a int) api.Op         { return api.Op{Kind: api.OStop, A: a} }
func skip(a, over int) api.Op   { return api.Op{Kind: api.OSkip, A: a, B: over} }

// to is a deed that stores to keys.
func to(keys ...int) (d api.Deed) {
	for _, k := range keys {
		d = append(d, store(k, 0))
	}
	return d
}

// with answers ahead with another number of a key.
func with(key int, n int64) api.State {
	s := ahead
	s[key] = n
	return s
}

// made answers a table of a round that is well made.
func made(t *testing.T, s api.State, r api.Round) *table.Table {
	t.Helper()
	x, c := table.New(s, r)
	if x == nil || c != 0 {
		t.Fatalf("New of %v: %v, %d", r, x, c)
	}
	return x
}

func open(by int) api.Slot         { return api.Slot{By: by, Open: true} }
func void(by int) api.Slot         { return api.Slot{By: by, Void: true} }
func has(by int, n int64) api.Slot { return api.Slot{By: by, N: n} }

func checkSlots(t *testing.T, what string, x *table.Table, k int, want ...api.Slot) {
	t.Helper()
	if got := x.Slots(k); !slices.Equal(got, want) {
		t.Errorf("%s: the slots of key %d: %+v, want %+v", what, k, got, want)
	}
}

func checkBefore(t *testing.T, what string, x *table.Table, k, by int, n int64, who int) {
	t.Helper()
	if gotN, gotWho := x.Before(k, by); gotN != n || gotWho != who {
		t.Errorf("%s: Before(%d, %d): %d, %d, want %d, %d", what, k, by, gotN, gotWho, n, who)
	}
}

func TestKey(t *testing.T) {
	for _, k := range odd {
		if got, want := table.Key(k), slices.Contains([]int{0, 1, 2, 3, 4, 5, 6, 7, 8, 9}, k); got != want {
			t.Errorf("Key(%d): %t", k, got)
		}
	}
}

func TestNewOfFaultyRounds(t *testing.T) {
	good := to(1, 2)
	for _, c := range []struct {
		name  string
		round api.Round
		code  int
	}{
		{"too many deeds", slices.Repeat(api.Round{good}, api.MaxDeeds+1), api.ErrMany},
		{"too many deeds, each without operations", make(api.Round, api.MaxDeeds+1), api.ErrMany},
		{"too many ahead of a deed's code", slices.Repeat(api.Round{{{}}}, api.MaxDeeds+1), api.ErrMany},
		{"too many operations", api.Round{good, slices.Repeat(to(1), api.MaxOps+1)}, api.ErrMany},
		{"no such kind", api.Round{{{}}}, api.ErrKind},
		{"a key too high", api.Round{good, to(api.MaxKeys)}, api.ErrRange},
		{"a key below 0", api.Round{to(-1), good}, api.ErrRange},
		{"a key far below 0", api.Round{to(math.MinInt), good}, api.ErrRange},
		{"a register too high", api.Round{{store(0, api.MaxRegs)}}, api.ErrRange},
		{"a skip over none", api.Round{{skip(0, 0), num(0, 1)}}, api.ErrRange},
		{"a part too many", api.Round{{{Kind: api.OStore, C: 1}}}, api.ErrForm},
		{"a stop behind a store", api.Round{good, good, {store(0, 0), stop(0)}}, api.ErrOrder},
		{"the first deed that has one", api.Round{good, {{}}, to(10)}, api.ErrKind},
		{"the first deed that has one, again", api.Round{good, to(10), {{}}}, api.ErrRange},
	} {
		if x, got := table.New(ahead, c.round); x != nil || got != c.code {
			t.Errorf("%s: %v, %d, want nil, %d", c.name, x, got, c.code)
		}
	}
}

func TestNewOfNoDeeds(t *testing.T) {
	for _, r := range []api.Round{nil, {}, {nil}, {{}}, make(api.Round, api.MaxDeeds), {{num(0, 1), load(0, 3)}, {stop(0)}}} {
		x := made(t, ahead, r)
		for k := range api.MaxKeys {
			checkSlots(t, "no stores", x, k, has(-1, int64(100+k)))
			checkBefore(t, "no stores", x, k, 0, int64(100+k), -1)
		}
		if !x.Over() || x.State() != ahead {
			t.Errorf("%v: %t, %v", r, x.Over(), x.State())
		}
	}
}

func TestNewByHand(t *testing.T) {
	x := made(t, with(2, math.MinInt64), api.Round{
		to(2, 1, 2, 2),
		{load(0, 2), num(1, 5), stop(0)},
		{skip(0, 1), store(2, 0), num(0, 1)},
		nil,
		{load(2, 4), store(9, 2), store(0, 2)},
	})
	checkSlots(t, "new", x, 0, has(-1, 100), open(4))
	checkSlots(t, "new", x, 1, has(-1, 101), open(0))
	checkSlots(t, "new", x, 2, has(-1, math.MinInt64), open(0), open(2))
	checkSlots(t, "new", x, 9, has(-1, 109), open(4))
	for k := 3; k < 9; k++ {
		checkSlots(t, "new", x, k, has(-1, int64(100+k)))
	}
	if x.Over() || x.State() != with(2, math.MinInt64) {
		t.Errorf("new: %t, %v", x.Over(), x.State())
	}
}

func TestNewOfAsManySlotsAsCanBe(t *testing.T) {
	x := made(t, ahead, slices.Repeat(api.Round{to(9, 8, 7, 6, 5, 4, 3, 2, 1, 0, 0, 0, 0, 0)}, api.MaxDeeds))
	for k := range api.MaxKeys {
		checkSlots(t, "full", x, k, has(-1, int64(100+k)), open(0), open(1), open(2), open(3), open(4), open(5), open(6), open(7))
		for by := range api.MaxDeeds {
			if x.Over() {
				t.Fatalf("over, but deed %d of key %d is open", by, k)
			}
			if !x.Set(k, by, int64(by)) {
				t.Fatalf("the slot of deed %d of key %d is not open", by, k)
			}
		}
	}
	if want := (api.State{7, 7, 7, 7, 7, 7, 7, 7, 7, 7}); !x.Over() || x.State() != want {
		t.Errorf("all set: %t, %v", x.Over(), x.State())
	}
}

func TestOfNoSuchKey(t *testing.T) {
	x := made(t, ahead, api.Round{to(0, 9), to(0, 9)})
	for _, k := range odd {
		if table.Key(k) {
			continue
		}
		if got := x.Slots(k); len(got) != 0 {
			t.Errorf("the slots of key %d: %v", k, got)
		}
		for _, by := range odd {
			checkBefore(t, "no such key", x, k, by, 0, -1)
			if x.Set(k, by, 5) || x.Void(k, by) {
				t.Errorf("key %d, deed %d: there is an open slot", k, by)
			}
		}
	}
	for _, k := range []int{0, 9} {
		checkSlots(t, "of wrong keys", x, k, has(-1, int64(100+k)), open(0), open(1))
	}
}

func TestOfNoSuchOpenSlot(t *testing.T) {
	x := made(t, ahead, api.Round{to(3), nil, to(3), to(3), to(4)})
	x.Set(3, 2, 5)
	x.Void(3, 3)
	for _, by := range odd {
		if by == 0 {
			continue
		}
		if x.Set(3, by, 77) || x.Void(3, by) {
			t.Errorf("the deed %d of key 3: there is an open slot", by)
		}
	}
	checkSlots(t, "of wrong deeds", x, 3, has(-1, 103), open(0), has(2, 5), void(3))
	checkSlots(t, "of wrong deeds", x, 4, has(-1, 104), open(4))
}

func TestBeforeByHand(t *testing.T) {
	x := made(t, ahead, api.Round{to(2), to(2), to(3), to(2), to(2), to(2)})
	x.Set(2, 0, 50)
	x.Void(2, 1)
	x.Set(2, 4, 54)
	x.Void(2, 5)
	for _, c := range []struct {
		name  string
		k, by int
		n     int64
		who   int
	}{
		{"far below all", 2, math.MinInt, 0, -1},
		{"below all", 2, -2, 0, -1},
		{"the first slot is not below itself", 2, -1, 0, -1},
		{"what it had ahead", 2, 0, 102, -1},
		{"what the deed ahead made", 2, 1, 50, -1},
		{"over a void one", 2, 2, 50, -1},
		{"over a void one, by the deed of the next slot", 2, 3, 50, -1},
		{"an open one", 2, 4, 0, 3},
		{"a set one behind an open one", 2, 5, 54, -1},
		{"over the last one", 2, 6, 54, -1},
		{"above all deeds", 2, api.MaxDeeds, 54, -1},
		{"far above all deeds", 2, math.MaxInt, 54, -1},
		{"another key, ahead", 3, 2, 103, -1},
		{"another key, behind", 3, 3, 0, 2},
		{"another key, far behind", 3, math.MaxInt, 0, 2},
		{"a key to which none stores", 9, 7, 109, -1},
	} {
		checkBefore(t, c.name, x, c.k, c.by, c.n, c.who)
	}
	x.Void(2, 3)
	checkBefore(t, "over two void ones", x, 2, 4, 50, -1)
	x = made(t, ahead, api.Round{to(2), to(2)})
	x.Void(2, 0)
	x.Void(2, 1)
	checkBefore(t, "all void", x, 2, 2, 102, -1)
}

func TestSet(t *testing.T) {
	for _, n := range []int64{math.MinInt64, -1, 0, 1, 1 << 32, math.MaxInt64} {
		x := made(t, ahead, api.Round{to(2), to(2, 3)})
		if !x.Set(2, 0, n) {
			t.Errorf("%d: the slot was not open", n)
		}
		checkSlots(t, "set", x, 2, has(-1, 102), has(0, n), open(1))
		checkSlots(t, "set", x, 3, has(-1, 103), open(1))
		checkBefore(t, "set", x, 2, 1, n, -1)
		if x.Set(2, 0, 7) || x.Void(2, 0) {
			t.Errorf("%d: it is still open", n)
		}
		checkSlots(t, "set once", x, 2, has(-1, 102), has(0, n), open(1))
		if x.Over() || x.State() != with(2, n) {
			t.Errorf("%d: %t, %v", n, x.Over(), x.State())
		}
	}
}

func TestVoid(t *testing.T) {
	x := made(t, ahead, api.Round{to(2), to(2, 3)})
	if !x.Void(2, 1) {
		t.Error("the slot was not open")
	}
	checkSlots(t, "void", x, 2, has(-1, 102), open(0), void(1))
	checkSlots(t, "void", x, 3, has(-1, 103), open(1))
	if x.Void(2, 1) || x.Set(2, 1, 7) {
		t.Error("it is still open")
	}
	checkSlots(t, "void once", x, 2, has(-1, 102), open(0), void(1))
	if x.Over() || x.State() != ahead {
		t.Errorf("void: %t, %v", x.Over(), x.State())
	}
}

func TestOver(t *testing.T) {
	x := made(t, ahead, api.Round{to(0), to(5), to(9, 0)})
	for _, c := range []struct {
		k, by int
		over  bool
	}{{0, 2, false}, {9, 2, false}, {0, 0, false}, {5, 1, true}} {
		x.Void(c.k, c.by)
		if x.Over() != c.over {
			t.Errorf("behind key %d of deed %d: over is %t", c.k, c.by, x.Over())
		}
	}
	for k := range api.MaxKeys {
		x := made(t, ahead, api.Round{nil, to(k)})
		if x.Over() {
			t.Errorf("key %d is open, and all is over", k)
		}
		if x.Set(k, 1, 0); !x.Over() {
			t.Errorf("key %d is not open, and all is not over", k)
		}
	}
}

func TestState(t *testing.T) {
	x := made(t, ahead, api.Round{to(2), to(2), to(2), to(2)})
	check := func(what string, want api.State) {
		t.Helper()
		if got := x.State(); got != want {
			t.Errorf("%s: %v, want %v", what, got, want)
		}
	}
	check("all open", ahead)
	x.Set(2, 1, 51)
	check("between open ones", with(2, 51))
	x.Set(2, 0, 50)
	check("one ahead of it", with(2, 51))
	x.Void(2, 3)
	check("the last one void", with(2, 51))
	x.Set(2, 2, 0)
	check("a 0 behind it", with(2, 0))
}

// cell is a slot in the table said once more: what is known of what a deed makes of a key.
type cell struct {
	key, by int
	n       int64
	known   bool
	void    bool
}

// sheet says a table once more: all slots of all keys in one list, in no order of keys.
type sheet []cell

func wantNew(s api.State, r api.Round) (w sheet) {
	for k, n := range s {
		w = append(w, cell{key: k, by: -1, n: n, known: true})
	}
	for by, d := range r {
		for k := range s {
			if slices.ContainsFunc(d, func(o api.Op) bool { return o.Kind == 7 && o.A == k }) {
				w = append(w, cell{key: k, by: by})
			}
		}
	}
	return w
}

func (w sheet) slots(k int) (l []api.Slot) {
	for _, c := range w {
		if c.key == k {
			l = append(l, api.Slot{By: c.by, Open: !c.known, Void: c.void, N: c.n})
		}
	}
	return l
}

func (w sheet) before(k, by int) (int64, int) {
	n, who := int64(0), -1
	for _, c := range w {
		if c.key != k || c.by >= by || c.void {
			continue
		}
		if n, who = c.n, -1; !c.known {
			n, who = 0, c.by
		}
	}
	return n, who
}

func (w sheet) settle(k, by int, n int64, void bool) bool {
	for i, c := range w {
		if c.key == k && c.by == by && !c.known {
			w[i].n, w[i].known, w[i].void = n, true, void
			return true
		}
	}
	return false
}

func (w sheet) over() bool {
	return !slices.ContainsFunc(w, func(c cell) bool { return !c.known })
}

func (w sheet) state() (s api.State) {
	for _, c := range w {
		if c.known && !c.void {
			s[c.key] = c.n
		}
	}
	return s
}

// row is a row of numbers that are the same in each run of the tests.
type row uint64

// upTo tells the next number of the row, from 0 to n - 1.
func (r *row) upTo(n int) int {
	*r = *r*6364136223846793005 + 1442695040888963407
	return int(uint64(*r>>33) % uint64(n))
}

// someRound makes a round of stores and other operations that is well made, but now and then one that is not.
func someRound(r *row) api.Round {
	round := make(api.Round, r.upTo(api.MaxDeeds+1))
	for i := range round {
		for range r.upTo(6) {
			o := store(r.upTo(api.MaxKeys), r.upTo(api.MaxRegs))
			switch p := r.upTo(200); {
			case p < 40:
				o = load(r.upTo(api.MaxRegs), r.upTo(api.MaxKeys))
			case p < 80:
				o = num(r.upTo(api.MaxRegs), int64(r.upTo(9)))
			case p == 80:
				o.A = odd[r.upTo(len(odd))]
			}
			round[i] = append(round[i], o)
		}
	}
	return round
}

// checkAll holds all that a table tells against the sheet.
func checkAll(t *testing.T, x *table.Table, w sheet) {
	t.Helper()
	for _, k := range odd {
		checkSlots(t, "of many", x, k, w.slots(k)...)
		for _, by := range odd {
			n, who := w.before(k, by)
			checkBefore(t, "of many", x, k, by, n, who)
		}
	}
	if x.Over() != w.over() || x.State() != w.state() {
		t.Errorf("of many: %t, %v, want %t, %v", x.Over(), x.State(), w.over(), w.state())
	}
}

// settleSome settles slots of both in the same way, in whatever order, wrong ones among them, and counts those that were open.
func settleSome(t *testing.T, r *row, x *table.Table, w sheet) (settled int) {
	t.Helper()
	for range 1 + r.upTo(60) {
		k, by, n := r.upTo(api.MaxKeys), r.upTo(api.MaxDeeds+1)-1, int64(r.upTo(1000)-500)
		if r.upTo(10) == 0 {
			k, by = odd[r.upTo(len(odd))], odd[r.upTo(len(odd))]
		}
		var got, want bool
		if r.upTo(3) == 0 {
			got, want = x.Void(k, by), w.settle(k, by, 0, true)
		} else {
			got, want = x.Set(k, by, n), w.settle(k, by, n, false)
		}
		if got != want {
			t.Errorf("key %d of deed %d: %t, want %t", k, by, got, want)
		}
		if got {
			settled++
		}
	}
	return settled
}

func TestManyTables(t *testing.T) {
	r := new(row)
	faults, settled := 0, 0
	for i := range 1500 {
		round, s := someRound(r), ahead
		s[r.upTo(api.MaxKeys)] = int64(i)
		x, c := table.New(s, round)
		if want := code.Round(round); c != want || (x == nil) != (c != 0) {
			t.Fatalf("New of %v: %v, %d, want %d", round, x, c, want)
		}
		if c != 0 {
			faults++
			continue
		}
		w := wantNew(s, round)
		checkAll(t, x, w)
		for range 4 {
			settled += settleSome(t, r, x, w)
			checkAll(t, x, w)
		}
		if t.Failed() {
			t.Fatalf("on %v, of %v", s, round)
		}
	}
	if faults < 20 || faults > 500 || settled < 5000 {
		t.Errorf("the tables do not try enough: %d faults, %d slots settled", faults, settled)
	}
}

func TestSlotsAnswersNewMemory(t *testing.T) {
	x := made(t, ahead, api.Round{to(2), to(2)})
	first, second := x.Slots(2), x.Slots(2)
	for i := range first {
		first[i] = has(77, 77)
	}
	_ = append(first[:1], has(78, 78), has(78, 78))
	if !slices.Equal(second, []api.Slot{has(-1, 102), open(0), open(1)}) {
		t.Error("two answers share memory")
	}
	checkSlots(t, "what was answered is changed", x, 2, has(-1, 102), open(0), open(1))
	x.Set(2, 0, 5)
	if second[1] != open(0) {
		t.Error("what was answered is changed by Set")
	}
	_ = append(x.Slots(1), has(79, 79))
	checkSlots(t, "what was answered is made longer", x, 2, has(-1, 102), has(0, 5), open(1))
}

func TestNothingHandedInIsChangedOrKept(t *testing.T) {
	whole := api.Deed{load(0, 1), store(3, 0), store(4, 0), store(5, 0)}
	kept := slices.Clone(whole)
	round := api.Round{whole[:2], whole[:3], to(6)}
	x := made(t, ahead, round[:2])
	x.Set(3, 0, 7)
	x.Void(4, 1)
	if !slices.Equal(whole, kept) || len(round[0]) != 2 || len(round[1]) != 3 || len(round[2]) != 1 {
		t.Error("what was handed in, or lies behind it, was changed")
	}
	whole[1], whole[2] = store(8, 0), store(8, 0)
	round[0], round[1] = to(9), nil
	checkSlots(t, "of a round that was changed", x, 3, has(-1, 103), has(0, 7), open(1))
	checkSlots(t, "of a round that was changed", x, 4, has(-1, 104), void(1))
	for _, k := range []int{5, 6, 8, 9} {
		checkSlots(t, "of what was not handed in", x, k, has(-1, int64(100+k)))
	}
}

func TestTablesOfOneRoundAreApart(t *testing.T) {
	round := api.Round{to(2), to(2)}
	x, y := made(t, ahead, round), made(t, ahead, round)
	x.Set(2, 0, 5)
	x.Void(2, 1)
	checkSlots(t, "the other one", y, 2, has(-1, 102), open(0), open(1))
	checkSlots(t, "a new one", made(t, ahead, round), 2, has(-1, 102), open(0), open(1))
}

func TestAskingChangesNothing(t *testing.T) {
	x := made(t, ahead, api.Round{to(2, 3), to(2)})
	x.Set(2, 1, 9)
	for range 3 {
		checkBefore(t, "again", x, 2, 1, 0, 0)
		checkBefore(t, "again", x, 2, 2, 9, -1)
		checkSlots(t, "again", x, 2, has(-1, 102), open(0), has(1, 9))
		if x.Over() || x.State() != with(2, 9) {
			t.Errorf("again: %t, %v", x.Over(), x.State())
		}
	}
}
