package code_test

import (
	"math"
	"slices"
	"testing"

	"caracole/api"
	"caracole/code"
)

var (
	num   = api.Op{Kind: api.ONum, A: 1, N: 5}
	add   = api.Op{Kind: api.OAdd, A: 3, B: 2, C: 1}
	store = api.Op{Kind: api.OStore, A: 9, B: 3}
	stop  = api.Op{Kind: api.OStop, A: 3}
	skip  = api.Op{Kind: api.OSkip, A: 3, B: 1}
)

// odd are numbers at the edges of what parts may be, and far beyond them.
var odd = []int{math.MinInt, -257, -16, -1, 0, 1, 2, 3, 4, 5, 8, 9, 10, 11, 12, 13, 14, 15, 16, 255, 256, math.MaxInt}

// repeat makes a deed of n operations, all alike.
func repeat(o api.Op, n int) api.Deed { return slices.Repeat(api.Deed{o}, n) }

type checked struct {
	name string
	deed api.Deed
	want api.Fault
}

func runChecks(t *testing.T, l []checked) {
	t.Helper()
	for _, c := range l {
		if got := code.Check(c.deed); got != c.want {
			t.Errorf("%s: %v, want %v", c.name, got, c.want)
		}
	}
}

func TestCheckOfGoodDeeds(t *testing.T) {
	runChecks(t, []checked{
		{"nil", nil, api.Fault{}},
		{"empty", api.Deed{}, api.Fault{}},
		{"one of each kind", api.Deed{
			{Kind: api.ONum, A: 3, N: math.MinInt64}, {Kind: api.OLoad, A: 3, B: 9}, add,
			{Kind: api.OSub, A: 3, B: 3, C: 3}, {Kind: api.OMul}, {Kind: api.OLess, C: 3}, stop, skip, store,
		}, api.Fault{}},
		{"as many as may be", repeat(num, api.MaxOps), api.Fault{}},
		{"all behind gone over", append(api.Deed{{Kind: api.OSkip, B: api.MaxOps - 1}}, repeat(num, api.MaxOps-1)...), api.Fault{}},
	})
}

func TestCheckOfTooMany(t *testing.T) {
	many := api.Fault{Code: api.ErrMany, At: -1}
	runChecks(t, []checked{
		{"one too many", repeat(num, api.MaxOps+1), many},
		{"ahead of every other fault", repeat(api.Op{Kind: 77}, api.MaxOps+1), many},
		{"far too many", make(api.Deed, 100000), many},
	})
}

func TestCheckOfKinds(t *testing.T) {
	for _, k := range append(odd, 6, 7) {
		want := api.Fault{}
		if k < 1 || k > 9 {
			want = api.Fault{Code: api.ErrKind, At: 1}
		}
		o := api.Op{Kind: k}
		if k == api.OSkip {
			o.B = 1
		}
		if got := code.Check(api.Deed{num, o, num}); got != want {
			t.Errorf("kind %d: %v, want %v", k, got, want)
		}
	}
	runChecks(t, []checked{
		{"ahead of the parts", api.Deed{{Kind: 10, A: 99, B: -1, C: 7, N: 1}}, api.Fault{Code: api.ErrKind}},
	})
}

// wantAlone says once more, one kind behind the other, what an operation's own fault is.
func wantAlone(o api.Op) int {
	none := func(n int) int {
		if n != 0 {
			return api.ErrForm
		}
		return 0
	}
	below := func(n, limit int) int {
		if n < 0 || n >= limit {
			return api.ErrRange
		}
		return 0
	}
	var l []int
	switch o.Kind {
	case api.ONum, api.OStop:
		l = []int{below(o.A, 4), none(o.B), none(o.C)}
	case api.OLoad:
		l = []int{below(o.A, 4), below(o.B, 10), none(o.C)}
	case api.OStore:
		l = []int{below(o.A, 10), below(o.B, 4), none(o.C)}
	case api.OSkip:
		l = []int{below(o.A, 4), below(o.B, 14), none(o.C)}
	default:
		l = []int{below(o.A, 4), below(o.B, 4), below(o.C, 4)}
	}
	if o.Kind != api.ONum && o.N != 0 {
		l = append(l, api.ErrForm)
	}
	for _, c := range l {
		if c != 0 {
			return c
		}
	}
	return 0
}

func TestCheckOfPartsOfEachKind(t *testing.T) {
	for kind := api.ONum; kind <= api.OSkip; kind++ {
		for _, a := range odd {
			for _, b := range odd {
				for _, c := range odd {
					for _, n := range []int64{0, 1, -1, math.MinInt64, math.MaxInt64} {
						checkAt3(t, api.Op{Kind: kind, A: a, B: b, C: c, N: n})
					}
				}
			}
		}
	}
}

// checkAt3 checks an operation at number 3 of 5: an OSkip may go over one more there.
func checkAt3(t *testing.T, o api.Op) {
	t.Helper()
	want := api.Fault{}
	if c := wantAlone(o); c != 0 {
		want = api.Fault{Code: c, At: 3}
	} else if o.Kind == api.OSkip && o.B != 1 {
		want = api.Fault{Code: api.ErrRange, At: 3}
	}
	if got := code.Check(api.Deed{num, num, num, o, num}); got != want {
		t.Errorf("%+v: %v, want %v", o, got, want)
	}
}

func TestCheckTellsTheFirstFault(t *testing.T) {
	runChecks(t, []checked{
		{"A ahead of B", api.Deed{{Kind: api.ONum, A: 4, B: 1}}, api.Fault{Code: api.ErrRange}},
		{"B ahead of C", api.Deed{{Kind: api.ONum, B: 1, C: 1}}, api.Fault{Code: api.ErrForm}},
		{"B's range ahead of C's form", api.Deed{{Kind: api.OLoad, B: 10, C: 1}}, api.Fault{Code: api.ErrRange}},
		{"C ahead of N", api.Deed{{Kind: api.OAdd, C: 4, N: 1}}, api.Fault{Code: api.ErrRange}},
		{"B of OSkip ahead of N", api.Deed{{Kind: api.OSkip, B: 14, N: 1}, num}, api.Fault{Code: api.ErrRange}},
		{"N ahead of how far it skips", api.Deed{{Kind: api.OSkip, B: 13, N: 1}, num}, api.Fault{Code: api.ErrForm}},
		{"N ahead of how far it skips: 0", api.Deed{{Kind: api.OSkip, N: 1}, num}, api.Fault{Code: api.ErrForm}},
		{"the first operation", api.Deed{num, {Kind: api.OAdd, N: 1}, {}}, api.Fault{Code: api.ErrForm, At: 1}},
		{"the first one again", api.Deed{num, {}, {Kind: api.OAdd, N: 1}}, api.Fault{Code: api.ErrKind, At: 1}},
		{"the last operation", append(repeat(num, 13), api.Op{Kind: api.OStop, C: 1}), api.Fault{Code: api.ErrForm, At: 13}},
	})
}

func TestCheckOfStopsBehindStores(t *testing.T) {
	runChecks(t, []checked{
		{"ahead", api.Deed{stop, num, stop, store, store}, api.Fault{}},
		{"right behind", api.Deed{store, stop}, api.Fault{Code: api.ErrOrder, At: 1}},
		{"far behind", api.Deed{num, store, num, add, stop, stop}, api.Fault{Code: api.ErrOrder, At: 4}},
		{"one ahead, one behind", api.Deed{stop, store, stop}, api.Fault{Code: api.ErrOrder, At: 2}},
		{"by its place, though the store is gone over", api.Deed{skip, store, stop}, api.Fault{Code: api.ErrOrder, At: 2}},
		{"an operation's own fault first", api.Deed{store, stop, {}}, api.Fault{Code: api.ErrKind, At: 2}},
		{"its own fault first", api.Deed{store, {Kind: api.OStop, A: 4}}, api.Fault{Code: api.ErrRange, At: 1}},
	})
}

func TestCheckOfSkips(t *testing.T) {
	to := func(n int) api.Op { return api.Op{Kind: api.OSkip, B: n} }
	runChecks(t, []checked{
		{"none behind", api.Deed{num, to(1)}, api.Fault{Code: api.ErrRange, At: 1}},
		{"over nothing", api.Deed{to(0), num}, api.Fault{Code: api.ErrRange}},
		{"below", api.Deed{to(-1), num}, api.Fault{Code: api.ErrRange}},
		{"over all", api.Deed{num, to(2), num, num}, api.Fault{}},
		{"over one more than all", api.Deed{num, to(3), num, num}, api.Fault{Code: api.ErrRange, At: 1}},
		{"the first of two", api.Deed{to(3), to(1), num}, api.Fault{Code: api.ErrRange}},
		{"the second of two", api.Deed{to(1), to(2), num}, api.Fault{Code: api.ErrRange, At: 1}},
		{"behind a store", api.Deed{store, to(1), store}, api.Fault{}},
		{"over a skip", api.Deed{to(1), to(1), num}, api.Fault{}},
		{"an operation's own fault first", api.Deed{to(2), {Kind: api.OAdd, N: 1}}, api.Fault{Code: api.ErrForm, At: 1}},
		{"of places the first operation's", api.Deed{to(0), store, stop}, api.Fault{Code: api.ErrRange}},
		{"of places the first operation's, again", api.Deed{store, stop, to(1)}, api.Fault{Code: api.ErrOrder, At: 1}},
	})
}

func TestRound(t *testing.T) {
	good, order, kind := api.Deed{num, store}, api.Deed{store, stop}, api.Deed{{}}
	for _, c := range []struct {
		name  string
		round api.Round
		want  int
	}{
		{"nil", nil, 0},
		{"empty", api.Round{}, 0},
		{"deeds without operations", make(api.Round, api.MaxDeeds), 0},
		{"as many as may be", slices.Repeat(api.Round{good}, api.MaxDeeds), 0},
		{"one too many", slices.Repeat(api.Round{good}, api.MaxDeeds+1), api.ErrMany},
		{"too many ahead of a deed's code", slices.Repeat(api.Round{kind}, api.MaxDeeds+1), api.ErrMany},
		{"the first deed that has one", api.Round{good, order, kind}, api.ErrOrder},
		{"the first deed that has one, again", api.Round{good, kind, order}, api.ErrKind},
		{"the last deed", append(slices.Repeat(api.Round{good}, api.MaxDeeds-1), order), api.ErrOrder},
		{"too many operations", api.Round{repeat(num, api.MaxOps+1)}, api.ErrMany},
		{"range", api.Round{{{Kind: api.ONum, A: 4}}}, api.ErrRange},
		{"form", api.Round{{{Kind: api.ONum, B: 4}}}, api.ErrForm},
	} {
		if got := code.Round(c.round); got != c.want {
			t.Errorf("%s: %d, want %d", c.name, got, c.want)
		}
	}
}

func TestKeys(t *testing.T) {
	to := func(k int) api.Op { return api.Op{Kind: api.OStore, A: k} }
	for _, c := range []struct {
		name string
		deed api.Deed
		want []int
	}{
		{"nil", nil, nil},
		{"no stores", api.Deed{num, {Kind: api.OLoad, B: 7}, stop, add}, nil},
		{"rising", api.Deed{to(9), to(0), to(4)}, []int{0, 4, 9}},
		{"each once", api.Deed{to(3), to(1), to(3), to(1)}, []int{1, 3}},
		{"not B, not other kinds", api.Deed{{Kind: api.OStore, A: 5, B: 2}, {Kind: api.OLoad, A: 1, B: 6}}, []int{5}},
		{"stores that are gone over", api.Deed{skip, to(2)}, []int{2}},
		{"no keys", api.Deed{to(-1), to(10), to(math.MinInt), to(math.MaxInt), to(8)}, []int{8}},
		{"more operations than a deed has", append(repeat(to(6), 1000), to(5)), []int{5, 6}},
	} {
		if got := code.Keys(c.deed); !slices.Equal(got, c.want) {
			t.Errorf("%s: %v, want %v", c.name, got, c.want)
		}
	}
}

func TestSame(t *testing.T) {
	d := api.Deed{num, store}
	for _, c := range []struct {
		name string
		a, b api.Deed
		want bool
	}{
		{"like", d, api.Deed{num, store}, true},
		{"nil and empty", nil, api.Deed{}, true},
		{"nil and nil", nil, nil, true},
		{"nil and one", nil, api.Deed{{}}, false},
		{"shorter", d, d[:1], false},
		{"longer", d[:1], d, false},
		{"another order", d, api.Deed{store, num}, false},
		{"kind", api.Deed{{Kind: 1}}, api.Deed{{Kind: 2}}, false},
		{"A", api.Deed{{A: 1}}, api.Deed{{A: 2}}, false},
		{"B", api.Deed{{B: 1}}, api.Deed{{B: 2}}, false},
		{"C", api.Deed{{C: 1}}, api.Deed{{C: 2}}, false},
		{"N", api.Deed{{N: 1}}, api.Deed{{N: 2}}, false},
		{"faulty, alike", repeat(api.Op{Kind: -9, N: 1}, 50), repeat(api.Op{Kind: -9, N: 1}, 50), true},
	} {
		if got := code.Same(c.a, c.b); got != c.want {
			t.Errorf("%s: %v, want %v", c.name, got, c.want)
		}
	}
}

func TestSameRound(t *testing.T) {
	d, e := api.Deed{num, store}, api.Deed{stop}
	for _, c := range []struct {
		name string
		a, b api.Round
		want bool
	}{
		{"like", api.Round{d, e}, api.Round{{num, store}, {stop}}, true},
		{"nil and empty", nil, api.Round{}, true},
		{"nil and empty deeds", api.Round{nil, {}}, api.Round{{}, nil}, true},
		{"no deed and an empty one", nil, api.Round{nil}, false},
		{"shorter", api.Round{d, e}, api.Round{d}, false},
		{"longer", api.Round{d}, api.Round{d, e}, false},
		{"another order", api.Round{d, e}, api.Round{e, d}, false},
		{"cut elsewhere", api.Round{{num}, {store, stop}}, api.Round{{num, store}, {stop}}, false},
		{"another last deed", api.Round{d, e}, api.Round{d, {{Kind: api.OStop}}}, false},
		{"more deeds than a round has", make(api.Round, 50), make(api.Round, 50), true},
	} {
		if got := code.SameRound(c.a, c.b); got != c.want {
			t.Errorf("%s: %v, want %v", c.name, got, c.want)
		}
	}
}

func TestOwnIsLikeWhatItWasGiven(t *testing.T) {
	for _, r := range []api.Round{
		nil, {}, {nil}, {{}, nil, {stop}}, {{num, store}, {stop}},
		slices.Repeat(api.Round{repeat(api.Op{Kind: -1, A: 77, B: -5, C: 9, N: -1}, 20)}, 20),
	} {
		own := code.Own(r)
		if len(own) != len(r) {
			t.Fatalf("%v: %v", r, own)
		}
		for i := range r {
			if !slices.Equal(own[i], r[i]) {
				t.Errorf("deed %d: %v, want %v", i, own[i], r[i])
			}
		}
	}
}

func TestOwnHasMemoryOfItsOwn(t *testing.T) {
	shared := api.Deed{num, store}
	r := api.Round{shared, shared, {stop}}
	own := code.Own(r)
	own[0][0].A = 2
	if shared[0] != num || own[1][0] != num {
		t.Error("a deed that was answered shares memory")
	}
	_ = append(own[1], skip)
	if own[2][0] != stop {
		t.Error("two deeds that were answered share memory behind their lengths")
	}
	shared[1] = skip
	r[2] = nil
	if own[0][1] != store || own[1][1] != store || len(own[2]) != 1 {
		t.Error("what was handed in was kept")
	}
}

func TestOwnOfEmptyListsWithRoom(t *testing.T) {
	room := make(api.Deed, 1, 4)
	own := code.Own(api.Round{room[:0]})
	_ = append(own[0], stop)
	if room[0] != (api.Op{}) {
		t.Error("an empty deed that was answered shares memory")
	}
}

func TestKeysAnswersNewMemory(t *testing.T) {
	d := api.Deed{store, {Kind: api.OStore, A: 2}}
	code.Keys(d)[0] = 77
	if got := code.Keys(d); !slices.Equal(got, []int{2, 9}) {
		t.Errorf("%v behind a change of what was answered ahead", got)
	}
}

// askAll calls all of the face with a round of odd deeds.
func askAll(r api.Round) []any {
	all := []any{code.Round(r), code.SameRound(r, code.Own(r))}
	for _, d := range r {
		all = append(all, code.Check(d), len(code.Keys(d)), code.Same(d, r[0]))
	}
	return all
}

func TestNothingHandedInIsChanged(t *testing.T) {
	whole := api.Deed{store, stop, num, store, {Kind: 99}, skip}
	kept := slices.Clone(whole)
	deeds := api.Round{whole[:3], whole[2:4], whole[:0], whole[5:]}
	askAll(deeds[:3])
	if !slices.Equal(whole, kept) || len(deeds[3]) != 1 {
		t.Error("what was handed in, or lies behind it, was changed")
	}
}

func TestNothingBehindAListIsRead(t *testing.T) {
	whole := api.Deed{store, num, {Kind: 99}}
	if got := code.Check(whole[:2]); got != (api.Fault{}) {
		t.Errorf("Check: %v", got)
	}
	if got := code.Check(api.Deed{num, skip, num}[:2]); got != (api.Fault{Code: api.ErrRange, At: 1}) {
		t.Errorf("Check of a skip over what lies behind the list: %v", got)
	}
	if got := code.Keys(api.Deed{num, store}[:1]); len(got) != 0 {
		t.Errorf("Keys: %v", got)
	}
	if !code.Same(whole[:1], api.Deed{store, stop}[:1]) {
		t.Error("Same")
	}
	if got := code.Round(api.Round{{num}, {{Kind: 99}}}[:1]); got != 0 {
		t.Errorf("Round: %d", got)
	}
}

func TestAnswersHangOnArgumentsAlone(t *testing.T) {
	for _, kind := range odd {
		for _, part := range odd {
			o := api.Op{Kind: kind, A: part, B: part, C: part, N: int64(part)}
			r := api.Round{{o}, {store, o, stop}, repeat(o, 14), repeat(o, 15), nil}
			if first, again := askAll(r), askAll(code.Own(r)); !slices.Equal(first, again) {
				t.Errorf("%+v: %v, then %v", o, first, again)
			}
		}
	}
}
