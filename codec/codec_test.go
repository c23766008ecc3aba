package codec_test

import (
	"bytes"
	"math"
	"slices"
	"testing"

	"caracole/api"
	"caracole/code"
	"caracole/codec"
)

func num(a int, n int64) api.Op       { return api.Op{Kind: api.ONum, A: a, N: n} }
func load(a, key int) api.Op          { return api.Op{Kind: api.OLoad, A: a, B: key} }
func store(key, b int) api.Op         { return api.Op{Kind: api.OStore, A: key, B: b} }
func stop(a int) api.Op               { return api.Op{Kind: api.OStop, A: a} }
func skip(a, over int) api.Op         { return api.Op{Kind: api.OSkip, A: a, B: over} }
func reckon(kind, a, b, c int) api.Op { return api.Op{Kind: kind, A: a, B: b, C: c} }

func repeat(o api.Op, n int) api.Deed { return slices.Repeat(api.Deed{o}, n) }

// zeros are bytes that are all 0.
func zeros(n int) []byte { return make([]byte, n) }

// join answers bytes one behind the other, in new memory.
func join(l ...[]byte) []byte { return bytes.Join(l, nil) }

// packed answers bytes with how many they are ahead of them.
func packed(follow ...byte) []byte {
	return join([]byte{byte(len(follow) % 256), byte(len(follow) / 256)}, follow)
}

// checkBoth holds Encode of a round, and Decode of its bytes, against each other's wants.
func checkBoth(t *testing.T, name string, l api.Round, b []byte) {
	t.Helper()
	if got, c := codec.Encode(l); !bytes.Equal(got, b) || c != 0 {
		t.Errorf("%s: Encode: %v, %d, want %v, 0", name, got, c, b)
	}
	checkDecode(t, name, b, l, len(b), 0)
}

func checkDecode(t *testing.T, name string, b []byte, l api.Round, n, c int) {
	t.Helper()
	gotL, gotN, gotC := codec.Decode(b)
	if !code.SameRound(gotL, l) || gotN != n || gotC != c || c != 0 && gotL != nil {
		t.Errorf("%s: Decode of %v: %v, %d, %d, want %v, %d, %d", name, b, gotL, gotN, gotC, l, n, c)
	}
}

func checkCode(t *testing.T, name string, b []byte, c int) {
	t.Helper()
	checkDecode(t, name, b, nil, 0, c)
}

func TestRoundsByHand(t *testing.T) {
	for _, c := range []struct {
		name  string
		round api.Round
		bytes []byte
	}{
		{"nil", nil, []byte{1, 0, 0}},
		{"no deeds", api.Round{}, []byte{1, 0, 0}},
		{"a deed that is nil", api.Round{nil}, []byte{2, 0, 1, 0}},
		{"a deed without operations", api.Round{{}}, []byte{2, 0, 1, 0}},
		{"as many of them as can be", make(api.Round, 8), []byte{9, 0, 8, 0, 0, 0, 0, 0, 0, 0, 0}},
		{"one operation", api.Round{{stop(2)}}, []byte{5, 0, 1, 1, 8, 2, 0}},
		{"one number", api.Round{{num(3, 5)}}, []byte{12, 0, 1, 1, 1, 3, 5, 0, 0, 0, 0, 0, 0, 0}},
		{"two operations", api.Round{{load(1, 2), store(3, 1)}}, []byte{8, 0, 1, 2, 2, 33, 0, 7, 19, 0}},
		{"a number ahead", api.Round{{num(0, 1), stop(1)}}, []byte{15, 0, 1, 2, 1, 0, 1, 0, 0, 0, 0, 0, 0, 0, 8, 1, 0}},
		{"a number behind", api.Round{{stop(1), num(0, 1)}}, []byte{15, 0, 1, 2, 8, 1, 0, 1, 0, 1, 0, 0, 0, 0, 0, 0, 0}},
		{"two deeds", api.Round{{load(0, 1)}, {store(1, 0)}}, []byte{9, 0, 2, 1, 2, 16, 0, 1, 7, 1, 0}},
		{"empty ones between", api.Round{{}, {load(0, 1)}, {}, {store(1, 0)}, {}}, []byte{12, 0, 5, 0, 1, 2, 16, 0, 0, 1, 7, 1, 0, 0}},
		{"as many operations as can be", api.Round{repeat(stop(1), 14)}, join([]byte{44, 0, 1, 14}, bytes.Repeat([]byte{8, 1, 0}, 14))},
	} {
		checkBoth(t, c.name, c.round, c.bytes)
	}
}

func TestOperationsOfEachKind(t *testing.T) {
	for _, c := range []struct {
		name  string
		op    api.Op
		bytes []byte
	}{
		{"num", num(0, 0), []byte{1, 0, 0, 0, 0, 0, 0, 0, 0, 0}},
		{"num of the last register", num(3, 0), []byte{1, 3, 0, 0, 0, 0, 0, 0, 0, 0}},
		{"load", load(0, 0), []byte{2, 0, 0}},
		{"load to the last register", load(3, 0), []byte{2, 3, 0}},
		{"load of the last key", load(0, 9), []byte{2, 144, 0}},
		{"load of both", load(3, 9), []byte{2, 147, 0}},
		{"add", reckon(api.OAdd, 1, 2, 3), []byte{3, 33, 3}},
		{"sub", reckon(api.OSub, 3, 1, 2), []byte{4, 19, 2}},
		{"mul", reckon(api.OMul, 2, 3, 1), []byte{5, 50, 1}},
		{"less", reckon(api.OLess, 3, 3, 3), []byte{6, 51, 3}},
		{"less of zeros", reckon(api.OLess, 0, 0, 0), []byte{6, 0, 0}},
		{"store", store(0, 0), []byte{7, 0, 0}},
		{"store to the last key", store(9, 0), []byte{7, 9, 0}},
		{"store of the last register", store(9, 3), []byte{7, 57, 0}},
		{"stop", stop(0), []byte{8, 0, 0}},
		{"stop by the last register", stop(3), []byte{8, 3, 0}},
	} {
		checkBoth(t, c.name, api.Round{{c.op}}, packed(join([]byte{1, 1}, c.bytes)...))
	}
	for over := 1; over < api.MaxOps; over++ {
		l := api.Round{append(api.Deed{skip(3, over)}, repeat(stop(0), over)...)}
		follow := join([]byte{1, byte(1 + over), 9, byte(3 + 16*over), 0}, bytes.Repeat([]byte{8, 0, 0}, over))
		checkBoth(t, "skip", l, packed(follow...))
	}
}

func TestNumbers(t *testing.T) {
	for _, c := range []struct {
		n     int64
		bytes []byte
	}{
		{0, []byte{0, 0, 0, 0, 0, 0, 0, 0}},
		{1, []byte{1, 0, 0, 0, 0, 0, 0, 0}},
		{127, []byte{127, 0, 0, 0, 0, 0, 0, 0}},
		{128, []byte{128, 0, 0, 0, 0, 0, 0, 0}},
		{255, []byte{255, 0, 0, 0, 0, 0, 0, 0}},
		{256, []byte{0, 1, 0, 0, 0, 0, 0, 0}},
		{-1, []byte{255, 255, 255, 255, 255, 255, 255, 255}},
		{-2, []byte{254, 255, 255, 255, 255, 255, 255, 255}},
		{-256, []byte{0, 255, 255, 255, 255, 255, 255, 255}},
		{1 << 31, []byte{0, 0, 0, 128, 0, 0, 0, 0}},
		{-1 << 31, []byte{0, 0, 0, 128, 255, 255, 255, 255}},
		{1 << 32, []byte{0, 0, 0, 0, 1, 0, 0, 0}},
		{0x0807060504030201, []byte{1, 2, 3, 4, 5, 6, 7, 8}},
		{-0x0807060504030201, []byte{255, 253, 252, 251, 250, 249, 248, 247}},
		{math.MaxInt64, []byte{255, 255, 255, 255, 255, 255, 255, 127}},
		{math.MinInt64, []byte{0, 0, 0, 0, 0, 0, 0, 128}},
	} {
		checkBoth(t, "num", api.Round{{num(2, c.n)}}, join([]byte{12, 0, 1, 1, 1, 2}, c.bytes))
	}
}

// TestLongRounds: the lower byte of how many follow comes first.
func TestLongRounds(t *testing.T) {
	ten, three := []byte{1, 1, 7, 0, 0, 0, 0, 0, 0, 0}, []byte{8, 0, 0}
	full, fullBytes := repeat(num(1, 7), 14), join([]byte{14}, bytes.Repeat(ten, 14))
	of := func(nums, stops int) (api.Deed, []byte) {
		d := append(repeat(num(1, 7), nums), repeat(stop(0), stops)...)
		return d, join([]byte{byte(nums + stops)}, bytes.Repeat(ten, nums), bytes.Repeat(three, stops))
	}
	d, b := of(10, 4)
	checkBoth(t, "255 follow", api.Round{full, d}, join([]byte{255, 0, 2}, fullBytes, b))
	d, b = of(11, 1)
	checkBoth(t, "256 follow", api.Round{full, d}, join([]byte{0, 1, 2}, fullBytes, b))
	checkBoth(t, "257 follow", api.Round{full, nil, d}, join([]byte{1, 1, 3}, fullBytes, []byte{0}, b))
	checkBoth(t, "as long as can be", slices.Repeat(api.Round{full}, 8), join([]byte{105, 4, 8}, bytes.Repeat(fullBytes, 8)))
}

func TestEncodeOfFaultyRounds(t *testing.T) {
	for _, c := range []struct {
		name  string
		round api.Round
		code  int
	}{
		{"too many deeds", make(api.Round, api.MaxDeeds+1), api.ErrMany},
		{"256 deeds", make(api.Round, 256), api.ErrMany},
		{"too many operations", api.Round{nil, repeat(num(0, 1), api.MaxOps+1)}, api.ErrMany},
		{"256 operations", api.Round{repeat(stop(0), 256)}, api.ErrMany},
		{"no kind", api.Round{{{}}}, api.ErrKind},
		{"no such kind", api.Round{{{Kind: 10}}}, api.ErrKind},
		{"a kind that has the lower byte of one", api.Round{{{Kind: 256 + api.OStop}}}, api.ErrKind},
		{"a kind below 0", api.Round{{{Kind: -1}}}, api.ErrKind},
		{"a register too high", api.Round{{stop(4)}}, api.ErrRange},
		{"a register of a number too high", api.Round{{num(256, 1)}}, api.ErrRange},
		{"a register below 0", api.Round{{stop(math.MinInt)}}, api.ErrRange},
		{"a key too high", api.Round{{load(0, 10)}}, api.ErrRange},
		{"a key with the lower bits of one", api.Round{{load(0, 17)}}, api.ErrRange},
		{"a third part too high", api.Round{{reckon(api.OAdd, 0, 0, 256)}}, api.ErrRange},
		{"a part too many", api.Round{{{Kind: api.OLoad, C: 1}}}, api.ErrForm},
		{"a part of a number too many", api.Round{{{Kind: api.ONum, B: 1}}}, api.ErrForm},
		{"a number too many", api.Round{{{Kind: api.OStop, N: 1}}}, api.ErrForm},
		{"a stop behind a store", api.Round{{store(0, 0), stop(0)}}, api.ErrOrder},
		{"a skip over none", api.Round{{skip(0, 0), stop(0)}}, api.ErrRange},
		{"a skip too far", api.Round{{skip(0, 1)}}, api.ErrRange},
		{"the first deed's", api.Round{nil, {stop(9)}, {{}}}, api.ErrRange},
	} {
		if b, got := codec.Encode(c.round); b != nil || got != c.code {
			t.Errorf("%s: %v, %d, want nothing and %d", c.name, b, got, c.code)
		}
	}
}

func TestDecodeOfTooFew(t *testing.T) {
	for _, c := range []struct {
		name  string
		bytes []byte
	}{
		{"nil", nil},
		{"none", []byte{}},
		{"one", []byte{0}},
		{"one that is not 0", []byte{1}},
		{"none behind how many", []byte{1, 0}},
		{"one of two", []byte{2, 0, 1}},
		{"255 of 256", join([]byte{0, 1}, zeros(255))},
		{"as many as the lower byte says alone", []byte{1, 1, 0}},
		{"as many as the higher byte says alone", []byte{0, 1, 0}},
		{"65534 of 65535", join([]byte{255, 255}, zeros(65534))},
		{"and no such kind", []byte{6, 0, 1, 1, 0, 0, 0}},
		{"and too long", []byte{3, 0, 0, 0}},
		{"and too many deeds", append([]byte{11, 0, 9}, zeros(9)...)},
	} {
		checkCode(t, c.name, c.bytes, api.ErrShort)
	}
}

func TestDecodeOfWhatIsNotJustDeeds(t *testing.T) {
	for _, c := range []struct {
		name   string
		follow []byte
	}{
		{"not how many deeds", nil},
		{"not how many operations", []byte{1}},
		{"not of the second deed", []byte{2, 0}},
		{"no operation", []byte{1, 1}},
		{"a kind alone", []byte{1, 1, 8}},
		{"no third byte", []byte{1, 1, 8, 0}},
		{"a number's kind alone", []byte{1, 1, 1}},
		{"no number", []byte{1, 1, 1, 0}},
		{"seven bytes of a number", []byte{1, 1, 1, 0, 1, 2, 3, 4, 5, 6, 7}},
		{"no second operation", []byte{1, 2, 8, 0, 0}},
		{"a byte behind no deeds", []byte{0, 0}},
		{"a byte behind a deed", []byte{1, 0, 0}},
		{"a byte behind an operation", []byte{1, 1, 8, 0, 0, 0}},
		{"an operation too many", []byte{1, 1, 8, 0, 0, 8, 0, 0}},
		{"a deed too many", []byte{1, 1, 8, 0, 0, 1, 8, 0, 0}},
		{"a byte behind a number", []byte{1, 1, 1, 0, 1, 2, 3, 4, 5, 6, 7, 8, 9}},
		{"a number in three bytes", []byte{1, 1, 1, 0, 0}},
		{"another kind in ten", []byte{1, 1, 8, 0, 0, 0, 0, 0, 0, 0, 0, 0}},
		{"too short, and no such kind", []byte{1, 2, 0, 0, 0}},
		{"too short, and too many deeds", append([]byte{9}, zeros(8)...)},
		{"too short, and too many operations", []byte{1, 255, 8, 0, 0}},
		{"too long, and no such kind", []byte{1, 1, 10, 0, 0, 0}},
		{"too long, and too many deeds", append([]byte{9}, zeros(10)...)},
		{"too long, and a register too high", []byte{1, 1, 8, 4, 0, 0}},
		{"255 deeds too short", append([]byte{255}, zeros(254)...)},
		{"zeros", zeros(65535)},
		{"as high as can be", bytes.Repeat([]byte{255}, 65535)},
	} {
		checkCode(t, c.name, packed(c.follow...), api.ErrForm)
		checkCode(t, c.name+", and more behind", append(packed(c.follow...), 0, 0, 0, 0, 0, 0, 0, 0, 0, 0), api.ErrForm)
	}
}

func TestDecodeOfFaultyRounds(t *testing.T) {
	for _, c := range []struct {
		name   string
		follow []byte
		code   int
	}{
		{"too many deeds", append([]byte{9}, zeros(9)...), api.ErrMany},
		{"255 deeds", append([]byte{255}, zeros(255)...), api.ErrMany},
		{"too many deeds, and no such kind", append([]byte{9, 1, 0, 0, 0}, zeros(8)...), api.ErrMany},
		{"too many operations", join([]byte{1, 15}, bytes.Repeat([]byte{8, 0, 0}, 15)), api.ErrMany},
		{"255 operations", join([]byte{1, 255}, bytes.Repeat([]byte{8, 0, 0}, 255)), api.ErrMany},
		{"no kind", []byte{1, 1, 0, 0, 0}, api.ErrKind},
		{"kind 10", []byte{1, 1, 10, 0, 0}, api.ErrKind},
		{"kind 255", []byte{1, 1, 255, 0, 0}, api.ErrKind},
		{"kind 257, if there were one", []byte{1, 1, 129, 0, 0}, api.ErrKind},
		{"a register of a number", []byte{1, 1, 1, 4, 0, 0, 0, 0, 0, 0, 0, 0}, api.ErrRange},
		{"a register of a number that has no B", []byte{1, 1, 1, 16, 0, 0, 0, 0, 0, 0, 0, 0}, api.ErrRange},
		{"a register of 255", []byte{1, 1, 1, 255, 0, 0, 0, 0, 0, 0, 0, 0}, api.ErrRange},
		{"a register to load to", []byte{1, 1, 2, 4, 0}, api.ErrRange},
		{"a key to load", []byte{1, 1, 2, 160, 0}, api.ErrRange},
		{"a key to store to", []byte{1, 1, 7, 10, 0}, api.ErrRange},
		{"a register to store", []byte{1, 1, 7, 64, 0}, api.ErrRange},
		{"a third register", []byte{1, 1, 3, 0, 4}, api.ErrRange},
		{"a third register of 16", []byte{1, 1, 3, 0, 16}, api.ErrRange},
		{"a third register of 255", []byte{1, 1, 3, 0, 255}, api.ErrRange},
		{"a B too many", []byte{1, 1, 8, 16, 0}, api.ErrForm},
		{"a C too many", []byte{1, 1, 2, 0, 1}, api.ErrForm},
		{"a C of 255 too many", []byte{1, 1, 8, 0, 255}, api.ErrForm},
		{"a stop behind a store", []byte{1, 2, 7, 0, 0, 8, 0, 0}, api.ErrOrder},
		{"a skip over none", []byte{1, 2, 9, 0, 0, 8, 0, 0}, api.ErrRange},
		{"a skip too far", []byte{1, 2, 9, 32, 0, 8, 0, 0}, api.ErrRange},
		{"the first deed's", []byte{2, 1, 8, 4, 0, 1, 0, 0, 0}, api.ErrRange},
	} {
		checkCode(t, c.name, packed(c.follow...), c.code)
		checkCode(t, c.name+", and more behind", append(packed(c.follow...), 1, 2, 3), c.code)
	}
}

// TestDecodeOfTheMostThatCanFollow: how many follow is a number without sign.
func TestDecodeOfTheMostThatCanFollow(t *testing.T) {
	follow := []byte{254}
	for by := range 254 {
		operations := 85
		if by < 170 {
			operations = 86
		}
		follow = append(follow, byte(operations))
		follow = append(follow, bytes.Repeat([]byte{8, 0, 0}, operations)...)
	}
	if len(follow) != 65535 {
		t.Fatalf("%d bytes follow", len(follow))
	}
	checkCode(t, "just as many", packed(follow...), api.ErrMany)
	checkCode(t, "just as many, and more behind", append(packed(follow...), 1), api.ErrMany)
	checkCode(t, "one is missing", packed(follow...)[:65536], api.ErrShort)
	follow[0] = 253
	checkCode(t, "a deed too many", packed(follow...), api.ErrForm)
	follow[0] = 255
	checkCode(t, "a deed too few", packed(follow...), api.ErrForm)
}

// row is numbers that look as if they had no order, the same ones in every run.
type row uint64

func (r *row) upTo(n int) int {
	*r = *r*6364136223846793005 + 1442695040888963407
	return int(uint64(*r) >> 33 % uint64(n))
}

func (r *row) wide() int64 {
	return int64(r.upTo(1<<31))<<33 ^ int64(r.upTo(1<<31))<<16 ^ int64(r.upTo(1<<31))
}

// someOp is an operation that is well made but for its place.
func someOp(r *row, behind int) api.Op {
	reg := func() int { return r.upTo(api.MaxRegs) }
	switch kind := 1 + r.upTo(9); {
	case kind == api.ONum:
		return num(reg(), r.wide())
	case kind == api.OLoad:
		return load(reg(), r.upTo(api.MaxKeys))
	case kind == api.OStore:
		return store(r.upTo(api.MaxKeys), reg())
	case kind == api.OSkip && behind > 0:
		return skip(reg(), 1+r.upTo(behind))
	case kind == api.OAdd || kind == api.OSub || kind == api.OMul || kind == api.OLess:
		return reckon(kind, reg(), reg(), reg())
	}
	return num(reg(), int64(r.upTo(512)-256))
}

func someRound(r *row) (l api.Round) {
	for range r.upTo(api.MaxDeeds + 1) {
		d := make(api.Deed, r.upTo(api.MaxOps+1))
		for i := range d {
			d[i] = someOp(r, len(d)-1-i)
		}
		if len(d) > 0 && r.upTo(3) == 0 {
			d[0] = stop(r.upTo(api.MaxRegs))
		}
		l = append(l, d)
	}
	return l
}

// wantEncode says Encode of a round that is well made once more, from its end on.
func wantEncode(l api.Round) (b []byte) {
	ahead := func(x ...byte) { b = append(x, b...) }
	for _, d := range slices.Backward(l) {
		for _, o := range slices.Backward(d) {
			if o.Kind == 1 {
				for i := 7; i >= 0; i-- {
					ahead(byte(o.N >> (8 * i) & 255))
				}
				ahead(1, byte(o.A))
			} else {
				ahead(byte(o.Kind), byte(o.B<<4|o.A), byte(o.C))
			}
		}
		ahead(byte(len(d)))
	}
	ahead(byte(len(l)))
	return packed(b...)
}

// wantDecode says Decode once more: where bytes are missing it goes on with zeros, and asks at the end.
func wantDecode(b []byte) (api.Round, int, int) {
	if len(b) < 2 || len(b)-2 < int(b[0])+256*int(b[1]) {
		return nil, 0, 6
	}
	n := 2 + int(b[0]) + 256*int(b[1])
	at := 2
	take := func() int {
		at++
		if at > n {
			return 0
		}
		return int(b[at-1])
	}
	l := make(api.Round, take())
	for i := range l {
		for operations := take(); operations > 0 && at <= n; operations-- {
			o := api.Op{Kind: take(), A: take()}
			if o.Kind == 1 {
				for place := range 8 {
					o.N += int64(take()) << (8 * place)
				}
			} else {
				o.A, o.B, o.C = o.A&15, o.A>>4, take()
			}
			l[i] = append(l[i], o)
		}
	}
	if at != n {
		return nil, 0, 3
	}
	if c := code.Round(l); c != 0 {
		return nil, 0, c
	}
	return l, n, 0
}

// checkBytes holds Decode against wantDecode, and tells its code.
func checkBytes(t *testing.T, b []byte) int {
	t.Helper()
	l, n, c := wantDecode(b)
	checkDecode(t, "bytes", b, l, n, c)
	return c
}

func TestManyRounds(t *testing.T) {
	r := row(1)
	for range 5000 {
		l := someRound(&r)
		if c := code.Round(l); c != 0 {
			t.Fatalf("a round that is not well made, %d: %v", c, l)
		}
		b := wantEncode(l)
		checkBoth(t, "some round", l, b)
		checkDecode(t, "some round, and more behind", append(b, byte(r.upTo(256)), byte(r.upTo(256))), l, len(b), 0)
	}
}

func TestTwoRoundsOneBehindTheOther(t *testing.T) {
	r := row(2)
	for range 500 {
		first, second := someRound(&r), someRound(&r)
		b, _ := codec.Encode(first)
		behind, _ := codec.Encode(second)
		both := join(b, behind)
		checkDecode(t, "the first", both, first, len(b), 0)
		checkDecode(t, "the second", both[len(b):], second, len(behind), 0)
	}
}

// TestEachByteLost: bytes that are cut are too few; with how many follow set right, they are not just deeds.
func TestEachByteLost(t *testing.T) {
	r := row(3)
	for range 200 {
		b, _ := codec.Encode(someRound(&r))
		for n := range len(b) {
			checkCode(t, "cut", b[:n:n], api.ErrShort)
			if n >= 2 {
				checkCode(t, "cut, and said so", packed(b[2:n]...), api.ErrForm)
			}
		}
		checkCode(t, "one more", packed(append(b[2:], byte(r.upTo(256)))...), api.ErrForm)
	}
}

// TestEachByteChanged changes each byte of rounds to whatever it can be.
func TestEachByteChanged(t *testing.T) {
	r := row(4)
	told := map[int]int{}
	for range 5 {
		b, _ := codec.Encode(someRound(&r))
		b = append(b, zeros(12)...)
		for i := range b {
			had := b[i]
			for x := range 256 {
				b[i] = byte(x)
				told[checkBytes(t, b)]++
			}
			b[i] = had
		}
	}
	for _, c := range []int{0, api.ErrRange, api.ErrKind, api.ErrForm, api.ErrMany, api.ErrOrder, api.ErrShort} {
		if told[c] == 0 {
			t.Errorf("code %d was never told", c)
		}
	}
}

// TestWhateverBytes: no bytes make Decode panic, and those that it takes are those of Encode.
func TestWhateverBytes(t *testing.T) {
	r := row(5)
	taken := 0
	for range 100000 {
		b := zeros(r.upTo(24))
		most := []int{3, 12, 256}[r.upTo(3)]
		for i := range b {
			b[i] = byte(r.upTo(most))
		}
		if len(b) > 2 && r.upTo(4) > 0 {
			b[0], b[1] = byte(len(b)-2-r.upTo(2)), 0
		}
		if checkBytes(t, b) != 0 {
			continue
		}
		taken++
		l, n, _ := codec.Decode(b)
		if got, c := codec.Encode(l); !bytes.Equal(got, b[:n]) || c != 0 {
			t.Errorf("Encode of what Decode made of %v: %v, %d", b, got, c)
		}
	}
	if taken < 1000 {
		t.Errorf("only %d were rounds", taken)
	}
}

// TestNoOperationMakesEncodePanic: whatever the parts of an operation are, the code is code.Round's.
func TestNoOperationMakesEncodePanic(t *testing.T) {
	parts := []int{math.MinInt, -256, -16, -1, 0, 1, 3, 4, 9, 10, 15, 16, 255, 256, 1 << 32, math.MaxInt}
	for _, kind := range append([]int{2, 5, 6, 7, 8, 11, 257}, parts...) {
		for _, a := range parts {
			for _, b := range parts {
				for _, c := range parts {
					l := api.Round{{{Kind: kind, A: a, B: b, C: c}}}
					got, gotCode := codec.Encode(l)
					if want := code.Round(l); gotCode != want || (got == nil) != (want != 0) {
						t.Fatalf("%v: %v, %d, want %d", l, got, gotCode, want)
					}
				}
			}
		}
	}
}

func sample() api.Round {
	return api.Round{{num(1, -2), store(9, 3)}, {}, {load(2, 7), reckon(api.OAdd, 1, 2, 3)}, {stop(1)}}
}

func TestEncodeAnswersNewMemory(t *testing.T) {
	l := sample()
	b, _ := codec.Encode(l)
	kept := bytes.Clone(b)
	again, _ := codec.Encode(l)
	clear(again[:cap(again)])
	if !bytes.Equal(b, kept) {
		t.Error("two answers share memory")
	}
	if !code.SameRound(l, sample()) {
		t.Error("the answer shares memory with the round")
	}
}

func TestDecodeAnswersNewMemory(t *testing.T) {
	b, _ := codec.Encode(sample())
	kept := bytes.Clone(b)
	l, _, _ := codec.Decode(b)
	again, _, _ := codec.Decode(b)
	if !bytes.Equal(b, kept) {
		t.Error("the bytes were changed")
	}
	clear(b)
	for i := range again {
		clear(again[i][:cap(again[i])])
	}
	clear(again[:cap(again)])
	if !code.SameRound(l, sample()) {
		t.Errorf("the round shares memory: %v", l)
	}
}

// TestDeedsOfOneAnswerAreApart: what is put behind one deed is not seen in another one.
func TestDeedsOfOneAnswerAreApart(t *testing.T) {
	b, _ := codec.Encode(sample())
	for i := range sample() {
		l, _, _ := codec.Decode(b)
		clear(l[i][:cap(l[i])])
		_ = append(l[i], repeat(num(3, 9), api.MaxOps)...)
		for j, want := range sample() {
			if j != i && !code.Same(l[j], want) {
				t.Errorf("deed %d is changed with deed %d: %v", j, i, l[j])
			}
		}
	}
}

func TestNothingHandedInIsChanged(t *testing.T) {
	l := sample()
	codec.Encode(l)
	if !code.SameRound(l, sample()) {
		t.Errorf("the round was changed: %v", l)
	}
	bad := append(sample(), api.Deed{{Kind: 77, A: 1, B: 2, C: 3, N: 4}})
	kept := code.Own(bad)
	codec.Encode(bad)
	if !code.SameRound(bad, kept) {
		t.Errorf("the faulty round was changed: %v", bad)
	}
}

func TestNothingBehindAListIsReadOrWritten(t *testing.T) {
	b, _ := codec.Encode(sample())
	kept := bytes.Clone(b)
	for n := range len(b) {
		checkCode(t, "the rest lies behind", b[:n], api.ErrShort)
	}
	checkCode(t, "the rest lies behind, and is not said", join(packed(1, 1, 8), zeros(3))[:5], api.ErrForm)
	if !bytes.Equal(b, kept) {
		t.Errorf("what lies behind was changed: %v", b)
	}

	deeds := append(sample(), api.Deed{{Kind: 77}})
	operations := api.Deed{stop(1), {Kind: 77}}
	l := deeds[:4]
	l[3] = operations[:1]
	checkBoth(t, "faults lie behind", l, kept)
	if operations[1] != (api.Op{Kind: 77}) || !code.Same(deeds[4], api.Deed{{Kind: 77}}) {
		t.Errorf("what lies behind was changed: %v, %v", operations, deeds)
	}
}

func TestAnswersHangOnArgumentsAlone(t *testing.T) {
	want, _ := codec.Encode(sample())
	for range 3 {
		codec.Encode(api.Round{{{}}})
		codec.Decode([]byte{2, 0, 1, 1})
		codec.Decode([]byte{4, 0, 0})
		checkBoth(t, "behind faults", sample(), want)
	}
}
