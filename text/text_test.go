package text_test

import (
	"math"
	"regexp"
	"slices"
	"strconv"
	"strings"
	"testing"

	"caracole/api"
	"caracole/code"
	"caracole/text"
)

func num(a int, n int64) api.Op       { return api.Op{Kind: api.ONum, A: a, N: n} }
func load(a, key int) api.Op          { return api.Op{Kind: api.OLoad, A: a, B: key} }
func store(key, b int) api.Op         { return api.Op{Kind: api.OStore, A: key, B: b} }
func stop(a int) api.Op               { return api.Op{Kind: api.OStop, A: a} }
func skip(a, over int) api.Op         { return api.Op{Kind: api.OSkip, A: a, B: over} }
func reckon(kind, a, b, c int) api.Op { return api.Op{Kind: kind, A: a, B: b, C: c} }

func repeat(o api.Op, n int) api.Deed { return slices.Repeat(api.Deed{o}, n) }

// joined answers n times one part, with a semicolon and a blank between.
func joined(part string, n int) string { return strings.Join(slices.Repeat([]string{part}, n), "; ") }

func fault(c, at int) api.Fault { return api.Fault{Code: c, At: at} }

func checkPrint(t *testing.T, name string, d api.Deed, want string) {
	t.Helper()
	if s, f := text.Print(d); s != want || f != (api.Fault{}) {
		t.Errorf("%s: Print of %v: %q, %v, want %q", name, d, s, f, want)
	}
}

func checkParse(t *testing.T, name, s string, want api.Deed) {
	t.Helper()
	if d, f := text.Parse(s); !code.Same(d, want) || f != (api.Fault{}) {
		t.Errorf("%s: Parse of %q: %v, %v, want %v", name, s, d, f, want)
	}
}

// checkFault holds a text that is no deed against the fault that is wanted, and nothing with it.
func checkFault(t *testing.T, name, s string, want api.Fault) {
	t.Helper()
	if d, f := text.Parse(s); d != nil || f != want {
		t.Errorf("%s: Parse of %q: %v, %v, want nothing and %v", name, s, d, f, want)
	}
}

func checkBoth(t *testing.T, name string, d api.Deed, s string) {
	t.Helper()
	checkPrint(t, name, d, s)
	checkParse(t, name, s, d)
}

func TestDeedsByHand(t *testing.T) {
	for _, c := range []struct {
		name string
		deed api.Deed
		text string
	}{
		{"nil", nil, ""},
		{"no operations", api.Deed{}, ""},
		{"one operation", api.Deed{stop(1)}, "stop 1"},
		{"two", api.Deed{num(1, -5), store(2, 1)}, "num 1 -5; store 2 1"},
		{"the same ones the other way round", api.Deed{store(2, 1), num(1, -5)}, "store 2 1; num 1 -5"},
		{"three", api.Deed{load(0, 9), stop(0), load(0, 9)}, "load 0 9; stop 0; load 0 9"},
		{"all kinds", api.Deed{
			num(1, 7), load(2, 3), reckon(api.OAdd, 0, 1, 2), reckon(api.OSub, 1, 2, 3), reckon(api.OMul, 2, 3, 0),
			reckon(api.OLess, 3, 0, 1), stop(3), skip(0, 1), store(8, 2),
		}, "num 1 7; load 2 3; add 0 1 2; sub 1 2 3; mul 2 3 0; less 3 0 1; stop 3; skip 0 1; store 8 2"},
		{"as many operations as can be", repeat(stop(1), 14), joined("stop 1", 14)},
		{"as long as can be", repeat(num(3, math.MinInt64), 14), joined("num 3 -9223372036854775808", 14)},
	} {
		checkBoth(t, c.name, c.deed, c.text)
	}
}

func TestOperationsOfEachKind(t *testing.T) {
	for _, c := range []struct {
		op   api.Op
		text string
	}{
		{num(0, 0), "num 0 0"},
		{num(3, 1), "num 3 1"},
		{load(0, 0), "load 0 0"},
		{load(3, 9), "load 3 9"},
		{reckon(api.OAdd, 0, 0, 0), "add 0 0 0"},
		{reckon(api.OAdd, 1, 2, 3), "add 1 2 3"},
		{reckon(api.OSub, 0, 0, 0), "sub 0 0 0"},
		{reckon(api.OSub, 3, 1, 2), "sub 3 1 2"},
		{reckon(api.OMul, 0, 0, 0), "mul 0 0 0"},
		{reckon(api.OMul, 2, 3, 1), "mul 2 3 1"},
		{reckon(api.OLess, 0, 0, 0), "less 0 0 0"},
		{reckon(api.OLess, 3, 2, 1), "less 3 2 1"},
		{store(0, 0), "store 0 0"},
		{store(9, 3), "store 9 3"},
		{stop(0), "stop 0"},
		{stop(3), "stop 3"},
	} {
		checkBoth(t, "alone", api.Deed{c.op}, c.text)
		checkBoth(t, "behind another one", api.Deed{stop(2), c.op}, "stop 2; "+c.text)
		checkBoth(t, "ahead of another one", api.Deed{c.op, load(1, 2)}, c.text+"; load 1 2")
	}
	for over := 1; over < api.MaxOps; over++ {
		d := append(api.Deed{skip(3, over)}, repeat(stop(0), over)...)
		checkBoth(t, "skip", d, "skip 3 "+strconv.Itoa(over)+"; "+joined("stop 0", over))
	}
}

func TestNumbers(t *testing.T) {
	for _, c := range []struct {
		n    int64
		text string
	}{
		{0, "0"},
		{1, "1"},
		{-1, "-1"},
		{9, "9"},
		{10, "10"},
		{-10, "-10"},
		{100, "100"},
		{1 << 31, "2147483648"},
		{-1 << 31, "-2147483648"},
		{1 << 32, "4294967296"},
		{1<<53 + 1, "9007199254740993"},
		{math.MaxInt64 - 1, "9223372036854775806"},
		{math.MaxInt64, "9223372036854775807"},
		{math.MinInt64 + 1, "-9223372036854775807"},
		{math.MinInt64, "-9223372036854775808"},
	} {
		checkBoth(t, "num", api.Deed{num(2, c.n)}, "num 2 "+c.text)
	}
}

// faulty are deeds that are not well made, each with a text, if it has one, and its fault.
func faulty() []struct {
	name  string
	deed  api.Deed
	text  string
	fault api.Fault
} {
	return []struct {
		name  string
		deed  api.Deed
		text  string
		fault api.Fault
	}{
		{"too many", repeat(stop(0), 15), joined("stop 0", 15), fault(api.ErrMany, -1)},
		{"far too many", repeat(stop(0), 1000), joined("stop 0", 1000), fault(api.ErrMany, -1)},
		{"too many, and a register", repeat(stop(4), 15), joined("stop 4", 15), fault(api.ErrMany, -1)},
		{"no kind", api.Deed{{}}, "", fault(api.ErrKind, 0)},
		{"no such kind", api.Deed{stop(0), {Kind: 10}}, "", fault(api.ErrKind, 1)},
		{"a kind below 0", api.Deed{{Kind: -1}}, "", fault(api.ErrKind, 0)},
		{"the highest kind", api.Deed{{Kind: math.MaxInt}}, "", fault(api.ErrKind, 0)},
		{"a B too many", api.Deed{{Kind: api.OStop, B: 1}}, "", fault(api.ErrForm, 0)},
		{"a B of a number too many", api.Deed{{Kind: api.ONum, B: 1}}, "", fault(api.ErrForm, 0)},
		{"a C too many", api.Deed{stop(0), stop(0), {Kind: api.OLoad, C: 1}}, "", fault(api.ErrForm, 2)},
		{"an N too many", api.Deed{{Kind: api.OStop, N: 1}}, "", fault(api.ErrForm, 0)},
		{"a register of a number", api.Deed{num(4, 1)}, "num 4 1", fault(api.ErrRange, 0)},
		{"a register below 0", api.Deed{num(-1, 1)}, "num -1 1", fault(api.ErrRange, 0)},
		{"the highest register", api.Deed{stop(math.MaxInt)}, "stop 9223372036854775807", fault(api.ErrRange, 0)},
		{"the lowest one", api.Deed{stop(math.MinInt)}, "stop -9223372036854775808", fault(api.ErrRange, 0)},
		{"a register with the lower bits of one", api.Deed{stop(1 << 32)}, "stop 4294967296", fault(api.ErrRange, 0)},
		{"a key to load", api.Deed{load(0, 10)}, "load 0 10", fault(api.ErrRange, 0)},
		{"a key to store to", api.Deed{stop(0), store(10, 0)}, "stop 0; store 10 0", fault(api.ErrRange, 1)},
		{"a register to store", api.Deed{store(9, 4)}, "store 9 4", fault(api.ErrRange, 0)},
		{"a second register", api.Deed{reckon(api.OSub, 0, 4, 0)}, "sub 0 4 0", fault(api.ErrRange, 0)},
		{"a third register", api.Deed{reckon(api.OLess, 0, 0, -1)}, "less 0 0 -1", fault(api.ErrRange, 0)},
		{"a skip over none", api.Deed{skip(0, 0), stop(0)}, "skip 0 0; stop 0", fault(api.ErrRange, 0)},
		{"a skip too far", api.Deed{stop(0), skip(0, 2), stop(0)}, "stop 0; skip 0 2; stop 0", fault(api.ErrRange, 1)},
		{"a skip at the end", api.Deed{skip(0, 1)}, "skip 0 1", fault(api.ErrRange, 0)},
		{"a skip of no such number", api.Deed{skip(0, 14)}, "skip 0 14", fault(api.ErrRange, 0)},
		{"a stop behind a store", api.Deed{store(0, 0), num(0, 1), stop(0)}, "store 0 0; num 0 1; stop 0", fault(api.ErrOrder, 2)},
		{"the first one's", api.Deed{stop(0), stop(5), load(0, 99)}, "stop 0; stop 5; load 0 99", fault(api.ErrRange, 1)},
		{"one of its own ahead of one of its place", api.Deed{store(0, 0), stop(0), stop(9)}, "store 0 0; stop 0; stop 9", fault(api.ErrRange, 2)},
	}
}

func TestFaultyDeeds(t *testing.T) {
	for _, c := range faulty() {
		if s, f := text.Print(c.deed); s != "" || f != c.fault {
			t.Errorf("%s: Print: %q, %v, want nothing and %v", c.name, s, f, c.fault)
		}
		if c.text != "" {
			checkFault(t, c.name, c.text, c.fault)
		}
	}
}

func TestParseOfBlanks(t *testing.T) {
	for _, s := range []string{"", " ", "  ", strings.Repeat(" ", 100000)} {
		checkParse(t, "blanks", s, nil)
	}
	want := api.Deed{num(1, -5), store(2, 1), reckon(api.OAdd, 0, 1, 2)}
	for _, s := range []string{
		"num 1 -5;store 2 1;add 0 1 2",
		"num 1 -5 ;store 2 1 ;add 0 1 2",
		"num 1 -5 ; store 2 1 ; add 0 1 2",
		" num 1 -5; store 2 1; add 0 1 2",
		"num 1 -5; store 2 1; add 0 1 2 ",
		"   num   1   -5   ;   store   2   1   ;   add   0   1   2   ",
		"num  1 -5; store 2  1; add 0 1  2",
		"num 1" + strings.Repeat(" ", 100000) + "-5; store 2 1; add 0 1 2",
	} {
		checkParse(t, "blanks", s, want)
	}
}

// noOperations are parts that are none, each told apart from one by little.
func noOperations() []string {
	return []string{
		"", " ", "    ",
		"num", "load", "add", "sub", "mul", "less", "store", "stop", "skip",
		"num 1", "load 1", "add 1", "add 1 1", "sub 1", "sub 1 1", "mul 1 1", "less 1 1", "store 1", "skip 1", "stop ", " skip 0 ",
		"num 1 1 1", "load 1 1 1", "add 1 1 1 1", "sub 1 1 1 1", "mul 1 1 1 1", "less 1 1 1 1", "store 1 1 1", "stop 1 1", "skip 1 1 1",
		"num 1 1 x", "stop 1 stop", "stop 1 stop 1", "stop 1 -", "stop 1 .", "stop 1 " + strings.Repeat("1 ", 1000),
		"what 1", "nu 1 1", "numb 1 1", "n 1 1", "um 1 1", "halt 1", "sto 1", "stops 1", "op 1", "1", "1 1", "1 stop", "-", "0", "8 1",
		"Stop 1", "STOP 1", "sTOP 1", "Num 1 1", "num1 1", "num 11", "stop1", "stop-1", "s top 1", "st op 1", "nu m 1 1", "n u m 1 1",
		"stop x", "stop 1x", "stop x1", "stop 0x1", "stop 1.0", "stop 1e0", "stop +1", "stop 01", "stop 00", "stop -0", "stop -01", "stop --1", "stop - 1", "stop -", "stop +", "stop 1_0", "stop 1,", "stop '1'",
		"num 1 05", "num 1 -05", "num 1 00", "num 1 -0", "num 1 +0", "num 1 +5", "num 1 - 5", "num 1 5-", "num 1-5", "num 01 5", "num 1 1_000", "num 1 0b1", "num 1 1 000",
		"num 1 9223372036854775808", "num 1 -9223372036854775809", "num 1 18446744073709551615", "num 1 18446744073709551616", "num 1 99999999999999999999", "num 1 1" + strings.Repeat("0", 1000),
		"num 9223372036854775808 1", "stop -9223372036854775809", "stop 18446744073709551617", "stop 4294967296000000000000",
		"store 1 01", "load 00 1", "add 0 0 -0", "add 01 0 0", "add 0 +1 0", "skip 0 01",
		"stop\t1", "stop 1\t", "\tstop 1", "stop 1\n", "\nstop 1", "stop\n1", "\n", "\t", "stop 1\r", "stop\v1", "stop\f1", "stop\x001", "\x00", "stop 1\x00", "\x00stop 1",
		"stop\u00a01", "stop 1\u00a0", "\u2003stop 1", "stop\u20031", "stop \u0661", "stop \uff11", "\ufeffstop 1", "\xffstop 1", "stop 1\xff", "stop\xa01", "stop \xb91", "\u017ftop 1",
		"stop 1,", "stop, 1", "stop(1)", "stop 1:", ": stop 1", "stop 1. stop 1", "\"stop 1\"", "num A N", "stop A",
		strings.Repeat("stop", 1000) + " 1", strings.Repeat("x", 100000),
	}
}

func TestParseOfWhatIsNoOperation(t *testing.T) {
	for _, s := range noOperations() {
		if strings.Trim(s, " ") != "" {
			checkFault(t, "alone", s, fault(api.ErrText, 0))
		}
		checkFault(t, "ahead", s+"; stop 1; stop 2", fault(api.ErrText, 0))
		checkFault(t, "between", "stop 1;"+s+";stop 2", fault(api.ErrText, 1))
		checkFault(t, "behind", "stop 1; stop 2;"+s, fault(api.ErrText, 2))
		checkFault(t, "twice", "stop 1; "+s+"; stop 2; "+s, fault(api.ErrText, 1))
	}
}

func TestParseOfSemicolons(t *testing.T) {
	for s, at := range map[string]int{
		";": 0, " ;": 0, "; ": 0, " ; ": 0, ";;": 0, ";stop 1": 0, " ; stop 1": 0, ";;;;;;;;;;;;;;;;;;;;": 0,
		"stop 1;": 1, "stop 1; ": 1, "stop 1 ;  ": 1, "stop 1;;": 1, "stop 1;;stop 1": 1, "stop 1; ;stop 1": 1,
		"stop 1;stop 1;": 2, "stop; 1": 0, "stop ;1": 0, "st;op 1": 0, "num 1; 5": 0, "stop 1; 1": 1, "stop 1;stop": 1,
	} {
		checkFault(t, "semicolons", s, fault(api.ErrText, at))
	}
}

// TestNoOperationIsToldAheadOfAllElse: a part that is none is told whatever is wrong with those ahead
// of it, and however many there are.
func TestNoOperationIsToldAheadOfAllElse(t *testing.T) {
	for _, c := range faulty() {
		if c.text == "" {
			continue
		}
		checkFault(t, c.name, c.text+";", fault(api.ErrText, len(c.deed)))
		checkFault(t, c.name, c.text+"; what; "+c.text, fault(api.ErrText, len(c.deed)))
		checkFault(t, c.name, "what; "+c.text, fault(api.ErrText, 0))
	}
	for _, n := range []int{13, 14, 15, 16, 17, 1000} {
		checkFault(t, "behind many", joined("stop 1", n)+"; stop", fault(api.ErrText, n))
		checkFault(t, "among many", joined("stop 1", n)+"; stop; "+joined("stop 1", 20), fault(api.ErrText, n))
	}
}

func TestParseOfAsManyAsCanBe(t *testing.T) {
	for n := range api.MaxOps + 1 {
		checkParse(t, "not too many", joined("load 1 2", n), repeat(load(1, 2), n))
	}
	for _, n := range []int{15, 16, 17, 28, 255, 256, 65536, 300000} {
		checkFault(t, "too many", joined("load 1 2", n), fault(api.ErrMany, -1))
	}
}

// TestEveryByte: a blank is the one byte that may come into a text, and not into words.
func TestEveryByte(t *testing.T) {
	const s = "num 1 -5; load 0 1"
	deed := api.Deed{num(1, -5), load(0, 1)}
	for b := range 256 {
		for at := range len(s) + 1 {
			with := s[:at] + string([]byte{byte(b)}) + s[at:]
			want, f := plainParse(with)
			switch blank := at == len(s) || at == 0 || !word(s[at]) || !word(s[at-1]); {
			case b == 32 && blank:
				want, f = deed, api.Fault{}
			case b == 32:
				want, f = nil, fault(api.ErrText, strings.Count(s[:at], ";"))
			}
			if d, g := text.Parse(with); !code.Same(d, want) || g != f {
				t.Errorf("%q: %v, %v, want %v, %v", with, d, g, want, f)
			}
		}
	}
}

func word(b byte) bool { return b != ' ' && b != ';' }

const shortest = `(0|-?[1-9][0-9]*)`

// shape has an operation as a pattern: of one that matches, the words are those between blanks.
var shape = regexp.MustCompile(`\A(?:(?:num|load|store|skip) ` + shortest + ` ` + shortest +
	`|(?:add|sub|mul|less) ` + shortest + ` ` + shortest + ` ` + shortest + `|stop ` + shortest + `)\z`)

var blanks = regexp.MustCompile(` +`)

// plainParse says Parse once more, by patterns.
func plainParse(s string) (d api.Deed, f api.Fault) {
	if strings.Trim(s, " ") == "" {
		return nil, api.Fault{}
	}
	for at, part := range strings.Split(s, ";") {
		part = strings.Trim(blanks.ReplaceAllString(part, " "), " ")
		if !shape.MatchString(part) {
			return nil, fault(10, at)
		}
		o := api.Op{}
		for i, w := range strings.Split(part, " ") {
			n, err := strconv.Atoi(w)
			if i > 0 && err != nil {
				return nil, fault(10, at)
			}
			switch {
			case i == 0:
				o.Kind = map[string]int{"num": 1, "load": 2, "add": 3, "sub": 4, "mul": 5, "less": 6, "store": 7, "stop": 8, "skip": 9}[w]
			case i == 1:
				o.A = n
			case i == 2 && o.Kind == 1:
				o.N = int64(n)
			case i == 2:
				o.B = n
			default:
				o.C = n
			}
		}
		d = append(d, o)
	}
	if f = code.Check(d); f.Code != 0 {
		return nil, f
	}
	return d, f
}

// row is numbers that look as if they had no order, the same ones in every run.
type row uint64

func (r *row) upTo(n int) int {
	*r = *r*6364136223846793005 + 1442695040888963407
	return int(uint64(*r) >> 33 % uint64(n))
}

func (r *row) wide() int64 {
	return (int64(r.upTo(1<<31))<<33 ^ int64(r.upTo(1<<31))<<16 ^ int64(r.upTo(1<<31))) >> r.upTo(64)
}

func (r *row) of(texts ...string) string { return texts[r.upTo(len(texts))] }

// someOp is an operation that is well made, if it is stood where so many are behind it, and none that
// stores is ahead of it.
func someOp(r *row, behind int, stored bool) api.Op {
	reg := func() int { return r.upTo(api.MaxRegs) }
	switch kind := 1 + r.upTo(9); {
	case kind == api.ONum:
		return num(reg(), r.wide())
	case kind == api.OLoad:
		return load(reg(), r.upTo(api.MaxKeys))
	case kind == api.OStore:
		return store(r.upTo(api.MaxKeys), reg())
	case kind == api.OStop && !stored:
		return stop(reg())
	case kind == api.OSkip && behind > 0:
		return skip(reg(), 1+r.upTo(behind))
	}
	return reckon(api.OAdd+r.upTo(4), reg(), reg(), reg())
}

func someDeed(r *row) api.Deed {
	d, stored := make(api.Deed, r.upTo(api.MaxOps+1)), false
	for i := range d {
		d[i] = someOp(r, len(d)-1-i, stored)
		stored = stored || d[i].Kind == api.OStore
	}
	return d
}

func TestManyDeedsThereAndBack(t *testing.T) {
	r := row(1)
	for range 20000 {
		d := someDeed(&r)
		s, f := text.Print(d)
		if f != (api.Fault{}) {
			t.Fatalf("Print of %v: %v", d, f)
		}
		checkParse(t, "there and back", s, d)
		if want, f := plainParse(s); !code.Same(d, want) || f != (api.Fault{}) || s != strings.TrimSpace(s) || strings.Contains(s, "  ") {
			t.Fatalf("Print of %v: %q", d, s)
		}
	}
}

// someText is a text that may be one of a deed, or nearly so.
func someText(r *row) string {
	var b strings.Builder
	for range r.upTo(8) {
		b.WriteString(r.of("", "", " ", "  "))
		b.WriteString(r.of("num 1 ", "load 2 ", "add 0 1 ", "less 3  2 ", "mul 1 1 ", "sub 0 0 ", "store 4 ", "stop ", "skip 1  ", "store 5 ", "stop ", "skip  ", "what "))
		b.WriteString(r.of("0", "1", "2", "3", "0", "1", "2", "3", "0", "1", "2", "3", "-1", "9", "10", "", "01", "-0", "1 1"))
		b.WriteString(r.of("", "", " "))
		b.WriteString(r.of(";", ";", ";", ";", ";", ";", ";", "; ", ";;", " "))
	}
	if r.upTo(4) > 0 {
		return strings.TrimRight(b.String(), "; ")
	}
	return b.String()
}

// spoilt is a text of which a few bytes are lost, others, or twice there.
func spoilt(r *row, s string) string {
	b := []byte(s)
	for range r.upTo(3) {
		if len(b) == 0 {
			break
		}
		at := r.upTo(len(b))
		switch r.upTo(4) {
		case 0:
			b = slices.Delete(b, at, at+1)
		case 1:
			b[at] = r.of(" ", ";", "-", "0", "1", "s", "\t", "\xff", "\n", "+")[0]
		case 2:
			b = slices.Insert(b, at, b[at])
		default:
			b = slices.Insert(b, at, ' ')
		}
	}
	return string(b)
}

func TestManyTexts(t *testing.T) {
	r := row(2)
	seen := map[int]int{}
	for i := range 60000 {
		s := someText(&r)
		if i%2 == 0 {
			printed, _ := text.Print(someDeed(&r))
			s = spoilt(&r, printed)
		}
		want, f := plainParse(s)
		if d, g := text.Parse(s); !code.Same(d, want) || g != f || g.Code != 0 && d != nil {
			t.Fatalf("%q: %v, %v, want %v, %v", s, d, g, want, f)
		}
		seen[f.Code]++
	}
	for _, c := range []int{0, api.ErrText, api.ErrRange, api.ErrOrder} {
		if seen[c] < 100 {
			t.Errorf("code %d was seen %d times alone", c, seen[c])
		}
	}
}

func TestNoOperationMakesPrintPanic(t *testing.T) {
	odd := []int{math.MinInt, -1 << 32, -1, 0, 1, 2, 3, 4, 8, 9, 10, 13, 14, 255, 1 << 32, math.MaxInt}
	for _, kind := range odd {
		for _, a := range odd {
			for _, b := range odd {
				for _, c := range []int{-1, 0, 3, 4, math.MaxInt} {
					checkOdd(t, api.Deed{{Kind: kind, A: a, B: b, C: c, N: int64(c)}})
					checkOdd(t, api.Deed{store(0, 0), {Kind: kind, A: a, B: b, C: c}, num(0, 1)})
				}
			}
		}
	}
}

// checkOdd: Print has code.Check's fault of whatever deed, and of those without one a text that is
// theirs.
func checkOdd(t *testing.T, d api.Deed) {
	t.Helper()
	want := code.Check(d)
	s, f := text.Print(d)
	if f != want || f.Code != 0 && s != "" {
		t.Errorf("Print of %v: %q, %v, want %v", d, s, f, want)
	}
	if f.Code == 0 {
		checkParse(t, "odd", s, d)
	}
}

func TestNothingHandedInIsChanged(t *testing.T) {
	for _, d := range []api.Deed{nil, {num(1, 2), load(0, 3), store(4, 1)}, {num(1, 2), {}}, repeat(stop(1), 20)} {
		was := slices.Clone(d)
		text.Print(d)
		if !code.Same(d, was) {
			t.Errorf("%v became %v", was, d)
		}
	}
}

func TestNothingBehindAListIsRead(t *testing.T) {
	d := append(repeat(stop(1), 14), repeat(api.Op{Kind: 77}, 14)...)
	checkPrint(t, "two of many", d[:2], "stop 1; stop 1")
	checkPrint(t, "none of many", d[:0], "")
	if d[2] != stop(1) || d[14].Kind != 77 {
		t.Errorf("behind the list was written: %v", d)
	}
}

func TestAnswersAreNewMemory(t *testing.T) {
	const s = "num 1 2; load 0 3; store 4 1"
	want := api.Deed{num(1, 2), load(0, 3), store(4, 1)}
	first, _ := text.Parse(s)
	second, _ := text.Parse(s)
	for i := range first {
		first[i] = api.Op{Kind: 77}
	}
	if !code.Same(second, want) {
		t.Errorf("what was answered is kept: %v", second)
	}
	checkParse(t, "once more", s, want)
}

func TestAnswersHangOnArgumentsAlone(t *testing.T) {
	for _, s := range []string{"stop 1", "what", "stop 4", "", "stop 1"} {
		d, f := text.Parse(s)
		text.Parse("store 0 0; stop 1; what")
		text.Print(repeat(stop(0), 20))
		again, g := text.Parse(s)
		if !code.Same(d, again) || f != g {
			t.Errorf("%q: %v, %v, then %v, %v", s, d, f, again, g)
		}
	}
}
