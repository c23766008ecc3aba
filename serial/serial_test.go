package serial_test

import (
	"math"
	"math/big"
	"slices"
	"testing"

	"caracole/api"
	"caracole/code"
	"caracole/serial"
)

// far are numbers at the edges of 64 bits, and some between.
var far = []int64{math.MinInt64, math.MinInt64 + 1, math.MinInt32, -3, -2, -1, 0, 1, 2, 3, 5, 1 << 31, 1<<32 + 1, 1 << 62, math.MaxInt64 - 1, math.MaxInt64}

func num(a int, n int64) api.Op       { return api.Op{Kind: api.ONum, A: a, N: n} }
func load(a, key int) api.Op          { return api.Op{Kind: api.OLoad, A: a, B: key} }
func store(key, b int) api.Op         { return api.Op{Kind: api.OStore, A: key, B: b} }
func stop(a int) api.Op               { return api.Op{Kind: api.OStop, A: a} }
func skip(a, over int) api.Op         { return api.Op{Kind: api.OSkip, A: a, B: over} }
func reckon(kind, a, b, c int) api.Op { return api.Op{Kind: kind, A: a, B: b, C: c} }

// wrap tells the number of 64 bits that an exact one comes to when it wraps round.
func wrap(exact *big.Int) int64 {
	bits := new(big.Int).And(exact, new(big.Int).SetUint64(math.MaxUint64))
	return int64(bits.Uint64())
}

// wantArith says Arith once more, with exact numbers.
func wantArith(kind int, a, b int64) int64 {
	x, y := big.NewInt(a), big.NewInt(b)
	switch kind {
	case 3:
		return wrap(new(big.Int).Add(x, y))
	case 4:
		return wrap(new(big.Int).Sub(x, y))
	case 5:
		return wrap(new(big.Int).Mul(x, y))
	case 6:
		if x.Cmp(y) < 0 {
			return 1
		}
	}
	return 0
}

func TestArithOfAllKinds(t *testing.T) {
	for _, kind := range []int{math.MinInt, -6, -5, -4, -3, -1, 0, 1, 2, 3, 4, 5, 6, 7, 8, 9, 10, 259, math.MaxInt} {
		for _, a := range far {
			for _, b := range far {
				if got, want := serial.Arith(kind, a, b), wantArith(kind, a, b); got != want {
					t.Errorf("kind %d of %d and %d: %d, want %d", kind, a, b, got, want)
				}
			}
		}
	}
}

func TestArithByHand(t *testing.T) {
	for _, c := range []struct {
		kind       int
		a, b, want int64
	}{
		{api.OAdd, 2, 3, 5},
		{api.OAdd, math.MaxInt64, 1, math.MinInt64},
		{api.OSub, 2, 5, -3},
		{api.OSub, math.MinInt64, 1, math.MaxInt64},
		{api.OMul, -4, 5, -20},
		{api.OMul, math.MinInt64, -1, math.MinInt64},
		{api.OMul, 1 << 32, 1 << 32, 0},
		{api.OLess, 2, 5, 1},
		{api.OLess, 5, 5, 0},
		{api.OLess, 5, 2, 0},
		{api.OLess, math.MinInt64, math.MaxInt64, 1},
		{api.OLess, math.MaxInt64, math.MinInt64, 0},
		{api.ONum, 5, 5, 0},
		{api.OStore, 5, 5, 0},
		{0, 5, 5, 0},
	} {
		if got := serial.Arith(c.kind, c.a, c.b); got != c.want {
			t.Errorf("kind %d of %d and %d: %d, want %d", c.kind, c.a, c.b, got, c.want)
		}
	}
}

// ahead is the state on which the deeds of the tests by hand are done.
var ahead = api.State{100, 101, 102, 103, 104, 105, 106, 107, 108, 109}

// with answers ahead with another number of a key.
func with(key int, n int64) api.State {
	s := ahead
	s[key] = n
	return s
}

func TestDoByHand(t *testing.T) {
	for _, c := range []struct {
		name string
		deed api.Deed
		then api.State
		regs api.Regs
	}{
		{"nil", nil, ahead, api.Regs{}},
		{"empty", api.Deed{}, ahead, api.Regs{}},
		{"num", api.Deed{num(3, math.MinInt64), num(0, 7), num(0, 8)}, ahead, api.Regs{8, 0, 0, math.MinInt64}},
		{"load", api.Deed{load(0, 0), load(3, 9)}, ahead, api.Regs{100, 0, 0, 109}},
		{"add", api.Deed{num(1, 2), num(2, 3), reckon(api.OAdd, 3, 1, 2)}, ahead, api.Regs{0, 2, 3, 5}},
		{"sub", api.Deed{num(1, 2), num(2, 3), reckon(api.OSub, 3, 1, 2)}, ahead, api.Regs{0, 2, 3, -1}},
		{"mul", api.Deed{num(1, 2), num(2, 3), reckon(api.OMul, 3, 1, 2)}, ahead, api.Regs{0, 2, 3, 6}},
		{"less", api.Deed{num(1, 2), num(2, 3), reckon(api.OLess, 3, 1, 2)}, ahead, api.Regs{0, 2, 3, 1}},
		{"not less", api.Deed{num(1, 3), num(2, 3), num(3, 9), reckon(api.OLess, 3, 1, 2)}, ahead, api.Regs{0, 3, 3, 0}},
		{"onto itself", api.Deed{num(1, 3), reckon(api.OMul, 1, 1, 1), reckon(api.OMul, 1, 1, 1)}, ahead, api.Regs{0, 81}},
		{"wrapping round", api.Deed{num(0, math.MaxInt64), reckon(api.OAdd, 0, 0, 0)}, ahead, api.Regs{-2}},
		{"store", api.Deed{num(1, 5), store(9, 1)}, with(9, 5), api.Regs{0, 5}},
		{"store of a register that is 0", api.Deed{store(0, 3)}, with(0, 0), api.Regs{}},
		{"stored twice", api.Deed{num(1, 5), store(4, 1), num(1, 6), store(4, 1)}, with(4, 6), api.Regs{0, 6}},
		{"loads what it stored", api.Deed{num(1, 5), store(4, 1), load(0, 4)}, with(4, 5), api.Regs{5, 5}},
		{"loads ahead of storing", api.Deed{num(1, 5), load(0, 4), store(4, 1)}, with(4, 5), api.Regs{104, 5}},
		{"goes on at a stop", api.Deed{num(0, 1), stop(1), store(2, 0)}, with(2, 1), api.Regs{1}},
	} {
		checkDo(t, c.name, c.deed, c.then, api.Result{Regs: c.regs})
	}
}

func checkDo(t *testing.T, name string, d api.Deed, then api.State, came api.Result) {
	t.Helper()
	if s, r, c := serial.Do(ahead, d); s != then || r != came || c != 0 {
		t.Errorf("%s: %v, %v, %d, want %v, %v, 0", name, s, r, c, then, came)
	}
}

func TestDoOfSkips(t *testing.T) {
	for _, c := range []struct {
		name string
		deed api.Deed
		regs api.Regs
	}{
		{"over the next one", api.Deed{skip(0, 1), num(1, 1), num(2, 2), num(3, 3)}, api.Regs{0, 0, 2, 3}},
		{"over the next two", api.Deed{skip(0, 2), num(1, 1), num(2, 2), num(3, 3)}, api.Regs{0, 0, 0, 3}},
		{"over all", api.Deed{skip(0, 3), num(1, 1), num(2, 2), num(3, 3)}, api.Regs{}},
		{"over none: 1", api.Deed{num(0, 1), skip(0, 2), num(1, 1), num(2, 2)}, api.Regs{1, 1, 2}},
		{"over none: -1", api.Deed{num(0, -1), skip(0, 2), num(1, 1), num(2, 2)}, api.Regs{-1, 1, 2}},
		{"over none: 2^32", api.Deed{num(0, 1<<32), skip(0, 1), num(1, 1)}, api.Regs{1 << 32, 1}},
		{"the register A, not B", api.Deed{num(1, 1), skip(2, 1), num(3, 3)}, api.Regs{0, 1}},
		{"over a skip", api.Deed{skip(0, 1), skip(0, 2), num(1, 1), num(2, 2)}, api.Regs{0, 1, 2}},
		{"to a skip", api.Deed{skip(0, 1), num(1, 1), skip(0, 1), num(2, 2), num(3, 3)}, api.Regs{0, 0, 0, 3}},
		{"over a stop", api.Deed{num(0, 1), skip(1, 1), stop(0), num(2, 2)}, api.Regs{1, 0, 2}},
	} {
		checkDo(t, c.name, c.deed, ahead, api.Result{Regs: c.regs})
	}
	checkDo(t, "over a store", api.Deed{num(1, 5), skip(0, 1), store(3, 1), store(4, 1)}, with(4, 5), api.Result{Regs: api.Regs{0, 5}})
	checkDo(t, "over the last store", api.Deed{num(1, 5), store(4, 1), skip(0, 1), store(4, 0)}, with(4, 5), api.Result{Regs: api.Regs{0, 5}})
}

func TestDoOfStops(t *testing.T) {
	for _, c := range []struct {
		name string
		deed api.Deed
		regs api.Regs
	}{
		{"1", api.Deed{num(1, 1), stop(1), store(1, 1)}, api.Regs{0, 1}},
		{"-1", api.Deed{num(1, -1), stop(1), store(1, 1)}, api.Regs{0, -1}},
		{"2^32", api.Deed{num(1, 1<<32), stop(1), store(1, 1)}, api.Regs{0, 1 << 32}},
		{"its registers at last", api.Deed{load(0, 3), num(1, 1), stop(0), num(1, 2)}, api.Regs{103, 1}},
		{"the last operation", api.Deed{load(0, 3), stop(0)}, api.Regs{103}},
		{"the second of two", api.Deed{load(0, 3), stop(1), num(1, 1), stop(1), store(0, 1)}, api.Regs{103, 1}},
		{"where a skip goes", api.Deed{num(3, 9), skip(0, 1), num(3, 0), stop(3), store(0, 3)}, api.Regs{0, 0, 0, 9}},
	} {
		checkDo(t, c.name, c.deed, ahead, api.Result{Code: api.ErrStop, Regs: c.regs})
	}
}

// faulty are deeds, each with the code that code.Check has of it.
var faulty = []struct {
	name string
	deed api.Deed
	code int
}{
	{"too many operations", slices.Repeat(api.Deed{num(0, 1)}, api.MaxOps+1), api.ErrMany},
	{"no such kind", api.Deed{num(0, 1), {}}, api.ErrKind},
	{"a register too high", api.Deed{num(api.MaxRegs, 1)}, api.ErrRange},
	{"a register below 0", api.Deed{stop(-1)}, api.ErrRange},
	{"a key too high", api.Deed{load(0, api.MaxKeys)}, api.ErrRange},
	{"a key below 0", api.Deed{store(math.MinInt, 0)}, api.ErrRange},
	{"a part too many", api.Deed{{Kind: api.OStop, C: 1}}, api.ErrForm},
	{"a number too many", api.Deed{{Kind: api.OAdd, N: 1}}, api.ErrForm},
	{"a stop behind a store", api.Deed{store(0, 0), stop(0)}, api.ErrOrder},
	{"a skip too far", api.Deed{num(0, 1), skip(0, 1)}, api.ErrRange},
	{"a skip over none", api.Deed{skip(0, 0), num(0, 1)}, api.ErrRange},
}

func TestDoOfFaultyDeeds(t *testing.T) {
	for _, c := range faulty {
		if s, r, got := serial.Do(ahead, c.deed); got != c.code || s != (api.State{}) || r != (api.Result{}) {
			t.Errorf("%s: %v, %v, %d, want nothing and %d", c.name, s, r, got, c.code)
		}
	}
}

func TestAllOfFaultyRounds(t *testing.T) {
	good := api.Deed{num(0, 1), store(0, 0)}
	check := func(name string, r api.Round, want int) {
		t.Helper()
		if s, l, got := serial.All(ahead, r); got != want || s != (api.State{}) || len(l) != 0 {
			t.Errorf("%s: %v, %v, %d, want nothing and %d", name, s, l, got, want)
		}
	}
	for _, c := range faulty {
		check(c.name+", first", api.Round{c.deed, good}, c.code)
		check(c.name+", last", api.Round{good, good, c.deed}, c.code)
	}
	check("too many deeds", slices.Repeat(api.Round{good}, api.MaxDeeds+1), api.ErrMany)
	check("too many ahead of a deed's code", slices.Repeat(api.Round{{{}}}, api.MaxDeeds+1), api.ErrMany)
	check("the first deed that has one", api.Round{good, {{}}, {num(4, 1)}}, api.ErrKind)
	check("the first deed that has one, again", api.Round{good, {num(4, 1)}, {{}}}, api.ErrRange)
}

func TestAllByHand(t *testing.T) {
	twice := api.Deed{load(0, 1), reckon(api.OAdd, 0, 0, 0), store(1, 0)}
	stops := api.Deed{load(0, 1), stop(0), store(1, 3)}
	for _, c := range []struct {
		name  string
		round api.Round
		then  api.State
		came  []api.Result
	}{
		{"nil", nil, ahead, nil},
		{"empty", api.Round{}, ahead, nil},
		{"deeds without operations", make(api.Round, api.MaxDeeds), ahead, make([]api.Result, api.MaxDeeds)},
		{"one", api.Round{twice}, with(1, 202), []api.Result{{Regs: api.Regs{202}}}},
		{"each on what the one ahead left", api.Round{twice, twice, twice}, with(1, 808), []api.Result{{Regs: api.Regs{202}}, {Regs: api.Regs{404}}, {Regs: api.Regs{808}}}},
		{"registers begin anew", api.Round{{num(0, 5), num(3, 6)}, {store(1, 3)}}, with(1, 0), []api.Result{{Regs: api.Regs{5, 0, 0, 6}}, {}}},
		{"one that stops leaves what was", api.Round{twice, stops, twice}, with(1, 404), []api.Result{{Regs: api.Regs{202}}, {Code: api.ErrStop, Regs: api.Regs{202}}, {Regs: api.Regs{404}}}},
		{"all stop", api.Round{stops, stops}, ahead, []api.Result{{Code: api.ErrStop, Regs: api.Regs{101}}, {Code: api.ErrStop, Regs: api.Regs{101}}}},
	} {
		if s, l, got := serial.All(ahead, c.round); s != c.then || !slices.Equal(l, c.came) || got != 0 {
			t.Errorf("%s: %v, %v, %d, want %v, %v, 0", c.name, s, l, got, c.then, c.came)
		}
	}
}

// wantDo says Do of a well made deed once more: the operations that are left are a list that grows shorter.
func wantDo(s api.State, d api.Deed) (api.State, api.Result) {
	keys, regs := map[int]int64{}, map[int]int64{}
	for k, n := range s {
		keys[k] = n
	}
	came := api.Result{}
	for left := d; len(left) > 0; {
		o := left[0]
		left = left[1:]
		switch o.Kind {
		case 1:
			regs[o.A] = o.N
		case 2:
			regs[o.A] = keys[o.B]
		case 7:
			keys[o.A] = regs[o.B]
		case 8:
			if regs[o.A] != 0 {
				came.Code, left = 9, nil
			}
		case 9:
			if regs[o.A] == 0 {
				left = left[o.B:]
			}
		default:
			regs[o.A] = wantArith(o.Kind, regs[o.B], regs[o.C])
		}
	}
	for i := range came.Regs {
		came.Regs[i] = regs[i]
	}
	if came.Code == 0 {
		for k := range s {
			s[k] = keys[k]
		}
	}
	return s, came
}

// row is a row of numbers that are the same in each run of the tests.
type row uint64

// upTo tells the next number of the row, from 0 to n - 1.
func (r *row) upTo(n int) int {
	*r = *r*6364136223846793005 + 1442695040888963407
	return int(uint64(*r>>33) % uint64(n))
}

// someDeed makes a deed that is well made, but now and then one that is not.
func someDeed(r *row) api.Deed {
	d := make(api.Deed, r.upTo(api.MaxOps+1))
	stored := false
	for i := range d {
		reg, other, key, behind := r.upTo(api.MaxRegs), r.upTo(api.MaxRegs), r.upTo(api.MaxKeys), len(d)-1-i
		switch p := r.upTo(100); {
		case p < 20:
			d[i] = num(reg, far[r.upTo(len(far))])
		case p < 40:
			d[i] = load(reg, key)
		case p < 60:
			d[i] = reckon(api.OAdd+r.upTo(4), reg, other, r.upTo(api.MaxRegs))
		case p < 80 || p < 87 && behind == 0:
			d[i], stored = store(key, reg), true
		case p < 87:
			d[i] = skip(reg, 1+r.upTo(behind))
		case p < 99 && !stored:
			d[i] = stop(reg)
		case p < 99:
			d[i] = load(reg, key)
		default:
			d[i] = api.Op{Kind: r.upTo(11), A: r.upTo(12) - 1, B: r.upTo(6) - 1, C: r.upTo(5)}
		}
	}
	return d
}

func someState(r *row) (s api.State) {
	for k := range s {
		s[k] = far[r.upTo(len(far))]
	}
	return s
}

func TestDoOfManyDeeds(t *testing.T) {
	r := new(row)
	faults, stops := 0, 0
	for range 50000 {
		s, d := someState(r), someDeed(r)
		var then api.State
		var came api.Result
		c := code.Check(d).Code
		if c == 0 {
			then, came = wantDo(s, d)
		} else {
			faults++
		}
		if came.Code != 0 {
			stops++
		}
		if gotS, gotR, gotC := serial.Do(s, d); gotS != then || gotR != came || gotC != c {
			t.Fatalf("%v on %v: %v, %v, %d, want %v, %v, %d", d, s, gotS, gotR, gotC, then, came, c)
		}
	}
	if faults < 1000 || faults > 25000 || stops < 2000 {
		t.Errorf("the deeds do not try enough: %d faults, %d stops", faults, stops)
	}
}

func TestAllOfManyRounds(t *testing.T) {
	r := new(row)
	for range 10000 {
		s := someState(r)
		round := make(api.Round, r.upTo(api.MaxDeeds+2))
		for i := range round {
			round[i] = someDeed(r)
		}
		then, came, c := s, []api.Result(nil), code.Round(round)
		for _, d := range round {
			if c != 0 {
				then, came = api.State{}, nil
				break
			}
			var one api.Result
			then, one = wantDo(then, d)
			came = append(came, one)
		}
		if gotS, gotL, gotC := serial.All(s, round); gotS != then || !slices.Equal(gotL, came) || gotC != c {
			t.Fatalf("%v on %v: %v, %v, %d, want %v, %v, %d", round, s, gotS, gotL, gotC, then, came, c)
		}
	}
}

func TestNoOperationMakesACallPanic(t *testing.T) {
	parts := []int{math.MinInt, -1, 0, 1, 3, 4, 9, 10, 13, 14, 255, math.MaxInt}
	for _, kind := range append(parts, 2, 5, 6, 7, 8) {
		for _, a := range parts {
			for _, b := range parts {
				for _, c := range parts {
					o := api.Op{Kind: kind, A: a, B: b, C: c}
					d := api.Deed{num(0, 1), o, num(1, 1)}
					want := code.Check(d).Code
					_, _, one := serial.Do(ahead, d)
					_, _, all := serial.All(ahead, api.Round{nil, d})
					if one != want || all != want {
						t.Fatalf("%+v: %d and %d, want %d", o, one, all, want)
					}
				}
			}
		}
	}
}

func TestAllAnswersNewMemory(t *testing.T) {
	r := api.Round{{num(0, 5)}, {num(1, 6)}}
	_, first, _ := serial.All(ahead, r)
	_, second, _ := serial.All(ahead, r)
	first[0].Regs[0], first[1].Code = 77, 77
	if second[0] != (api.Result{Regs: api.Regs{5}}) || second[1] != (api.Result{Regs: api.Regs{0, 6}}) {
		t.Error("two answers share memory")
	}
}

func TestNothingHandedInIsChanged(t *testing.T) {
	whole := api.Deed{num(0, 5), stop(1), store(3, 0), skip(1, 1), num(0, 7), load(2, 3), {Kind: 99}}
	kept := slices.Clone(whole)
	round := api.Round{whole[:6], whole[:3], whole[:0], whole[6:]}
	serial.Do(ahead, whole[:6])
	serial.Do(ahead, whole)
	serial.All(ahead, round[:3])
	serial.All(ahead, round)
	if !slices.Equal(whole, kept) || len(round[0]) != 6 || len(round[3]) != 1 {
		t.Error("what was handed in, or lies behind it, was changed")
	}
}

func TestNothingBehindAListIsRead(t *testing.T) {
	whole := api.Deed{num(0, 5), num(1, 6), {Kind: 99}}
	checkDo(t, "one operation of three", whole[:1], ahead, api.Result{Regs: api.Regs{5}})
	if _, _, c := serial.Do(ahead, api.Deed{num(0, 0), skip(0, 1), num(0, 1)}[:2]); c != api.ErrRange {
		t.Errorf("a skip over what lies behind the list: %d", c)
	}
	if _, l, c := serial.All(ahead, api.Round{whole[:2], {{Kind: 99}}}[:1]); len(l) != 1 || c != 0 {
		t.Errorf("one deed of two: %v, %d", l, c)
	}
}

func TestAnswersHangOnArgumentsAlone(t *testing.T) {
	d := api.Deed{load(0, 1), reckon(api.OAdd, 0, 0, 0), store(1, 0)}
	for range 3 {
		checkDo(t, "again", d, with(1, 202), api.Result{Regs: api.Regs{202}})
		serial.All(with(1, 7), api.Round{d, d})
	}
}
