package log_test

import (
	"bytes"
	"math"
	"slices"
	"testing"

	"caracole/api"
	"caracole/code"
	"caracole/codec"
	"caracole/log"
)

func num(a int, n int64) api.Op { return api.Op{Kind: api.ONum, A: a, N: n} }
func load(a, key int) api.Op    { return api.Op{Kind: api.OLoad, A: a, B: key} }
func store(key, b int) api.Op   { return api.Op{Kind: api.OStore, A: key, B: b} }
func stop(a int) api.Op         { return api.Op{Kind: api.OStop, A: a} }

// encode answers the bytes of rounds, one behind the other.
func encode(t *testing.T, rounds ...api.Round) (all []byte) {
	t.Helper()
	for _, r := range rounds {
		b, c := codec.Encode(r)
		if c != 0 {
			t.Fatalf("a round that is not well made, %d: %v", c, r)
		}
		all = append(all, b...)
	}
	return all
}

// sized answers a round of n bytes, and of no deed more than it needs.
func sized(t *testing.T, n int) api.Round {
	t.Helper()
	for deeds := range api.MaxDeeds + 1 {
		for nums := range deeds*api.MaxOps + 1 {
			left := n - 3 - deeds - 10*nums
			if left < 0 || left%3 != 0 || nums+left/3 > deeds*api.MaxOps {
				continue
			}
			r := make(api.Round, deeds)
			for i := range nums + left/3 {
				o := stop(i % api.MaxRegs)
				if i < nums {
					o = num(i%api.MaxRegs, int64(n+i))
				}
				r[i%deeds] = append(r[i%deeds], o)
			}
			if got := len(encode(t, r)); got != n {
				t.Fatalf("a round of %d bytes, not of %d", got, n)
			}
			return r
		}
	}
	t.Fatalf("no round has %d bytes", n)
	return nil
}

// put puts rounds for which there is room.
func put(t *testing.T, g *log.Log, rounds ...api.Round) {
	t.Helper()
	for _, r := range rounds {
		want := g.Len()
		if n, c := g.Put(r); n != want || c != 0 {
			t.Fatalf("Put: %d, %d, want %d, 0", n, c, want)
		}
	}
}

func checkPut(t *testing.T, name string, g *log.Log, r api.Round, n, c int) {
	t.Helper()
	if gotN, gotC := g.Put(r); gotN != n || gotC != c {
		t.Errorf("%s: Put: %d, %d, want %d, %d", name, gotN, gotC, n, c)
	}
}

// checkLog holds all that a log tells against its rounds, of which the first ones are made sure of.
func checkLog(t *testing.T, name string, g *log.Log, rounds []api.Round, sure int) {
	t.Helper()
	if g.Len() != len(rounds) || g.Sure() != sure {
		t.Errorf("%s: %d rounds, %d sure, want %d, %d", name, g.Len(), g.Sure(), len(rounds), sure)
	}
	for i, want := range rounds {
		if r, ok := g.Round(i); !code.SameRound(r, want) || !ok {
			t.Errorf("%s: round %d: %v, %t, want %v", name, i, r, ok, want)
		}
	}
	for _, i := range []int{math.MinInt, -len(rounds), -1, len(rounds), len(rounds) + 1, api.MaxRounds, math.MaxInt} {
		if r, ok := g.Round(i); (i < 0 || i >= len(rounds)) && (r != nil || ok) {
			t.Errorf("%s: there is a round %d: %v, %t", name, i, r, ok)
		}
	}
	wantN := len(encode(t, rounds[:min(sure, len(rounds))]...))
	if b, n := g.Bytes(); !bytes.Equal(b, encode(t, rounds...)) || n != wantN {
		t.Errorf("%s: Bytes: %v, %d, want %v, %d", name, b, n, encode(t, rounds...), wantN)
	}
}

// checkOpen holds Open of bytes against the rounds with which they begin.
func checkOpen(t *testing.T, name string, b []byte, rounds []api.Round) {
	t.Helper()
	g, n := log.Open(b)
	if want := len(encode(t, rounds...)); n != want {
		t.Errorf("%s: Open: %d bytes, want %d", name, n, want)
	}
	checkLog(t, name, g, rounds, len(rounds))
}

// samples are rounds of 7, 3, 18 and 4 bytes.
func samples() []api.Round {
	return []api.Round{
		{{store(1, 0)}},
		{},
		{{num(2, -3)}, {load(1, 9)}},
		{nil},
	}
}

func TestNew(t *testing.T) {
	g := log.New()
	checkLog(t, "new", g, nil, 0)
	g.Sync()
	checkLog(t, "synced", g, nil, 0)
	g.Crash(5)
	checkLog(t, "crashed", g, nil, 0)
	put(t, g, samples()...)
	checkLog(t, "another one", log.New(), nil, 0)
}

func TestPutAndSync(t *testing.T) {
	g := log.New()
	for i, r := range samples() {
		checkPut(t, "by its number", g, r, i, 0)
		checkLog(t, "none is sure", g, samples()[:i+1], 0)
	}
	for range 2 {
		g.Sync()
		checkLog(t, "all are sure", g, samples(), 4)
	}
	put(t, g, nil, samples()[0])
	checkLog(t, "two more", g, append(samples(), nil, samples()[0]), 4)
	g.Sync()
	checkLog(t, "these, too", g, append(samples(), nil, samples()[0]), 6)
}

func TestBytesByHand(t *testing.T) {
	g := log.New()
	put(t, g, samples()[:2]...)
	g.Sync()
	put(t, g, samples()[2:]...)
	want := []byte{5, 0, 1, 1, 7, 1, 0, 1, 0, 0, 16, 0, 2, 1, 1, 2, 253, 255, 255, 255, 255, 255, 255, 255, 1, 2, 145, 0, 2, 0, 1, 0}
	if b, n := g.Bytes(); !bytes.Equal(b, want) || n != 10 {
		t.Errorf("%v, %d, want %v, 10", b, n, want)
	}
}

func TestPutOfFaultyRounds(t *testing.T) {
	full := log.New()
	for range api.MaxRounds {
		put(t, full, nil)
	}
	for _, c := range []struct {
		name  string
		round api.Round
		code  int
	}{
		{"too many deeds", make(api.Round, api.MaxDeeds+1), api.ErrMany},
		{"too many operations", api.Round{make(api.Deed, api.MaxOps+1)}, api.ErrMany},
		{"no kind", api.Round{{{}}}, api.ErrKind},
		{"kind 10", api.Round{nil, {{Kind: 10}}}, api.ErrKind},
		{"a register too high", api.Round{{stop(4)}}, api.ErrRange},
		{"a key below 0", api.Round{{store(-1, 0)}}, api.ErrRange},
		{"a part too many", api.Round{{{Kind: api.OLoad, C: 1}}}, api.ErrForm},
		{"a stop behind a store", api.Round{{store(0, 0), stop(0)}}, api.ErrOrder},
	} {
		g := log.New()
		checkPut(t, c.name, g, c.round, 0, c.code)
		checkLog(t, c.name, g, nil, 0)
		put(t, g, samples()[:2]...)
		g.Sync()
		put(t, g, samples()[2:]...)
		checkPut(t, c.name+", behind others", g, c.round, 0, c.code)
		checkLog(t, c.name+", behind others", g, samples(), 2)
		checkPut(t, c.name+", and no room", full, c.round, 0, c.code)
		checkLog(t, c.name+", and no room", full, make([]api.Round, api.MaxRounds), 0)
	}
}

func TestAsManyRoundsAsCanBe(t *testing.T) {
	g := log.New()
	rounds := make([]api.Round, 24)
	put(t, g, rounds...)
	g.Sync()
	rounds = append(rounds, samples()[0])
	checkPut(t, "the last", g, samples()[0], 24, 0)
	for _, r := range append(samples(), nil) {
		checkPut(t, "one too many", g, r, 0, api.ErrFull)
		checkLog(t, "full", g, rounds, 24)
	}
	g.Crash(6)
	checkLog(t, "one is lost", g, rounds[:24], 24)
	checkPut(t, "there is room again", g, nil, 24, 0)
	checkPut(t, "and no longer", g, nil, 0, api.ErrFull)
}

// longest is the round of the most bytes that can be: 1131.
func longest() api.Round {
	return slices.Repeat(api.Round{slices.Repeat(api.Deed{num(3, -1)}, api.MaxOps)}, api.MaxDeeds)
}

func TestAsManyBytesAsCanBe(t *testing.T) {
	thrice := []api.Round{longest(), longest(), longest()}
	for _, c := range []struct {
		name string
		last int // how many bytes the fourth round has
		code int
	}{
		{"one byte is left", 606, 0},
		{"no byte is left", 607, 0},
		{"one byte too many", 608, api.ErrFull},
		{"many too many", 1131, api.ErrFull},
	} {
		g := log.New()
		put(t, g, thrice...)
		last := sized(t, c.last)
		if c.code == 0 {
			checkPut(t, c.name, g, last, 3, 0)
			checkLog(t, c.name, g, append(slices.Clone(thrice), last), 0)
			checkPut(t, c.name+", and no room", g, nil, 0, api.ErrFull)
			checkLog(t, c.name+", and no room", g, append(slices.Clone(thrice), last), 0)
			continue
		}
		checkPut(t, c.name, g, last, 0, c.code)
		checkLog(t, c.name, g, thrice, 0)
		checkPut(t, c.name+", a shorter one", g, samples()[2], 3, 0)
		checkLog(t, c.name+", a shorter one", g, append(slices.Clone(thrice), samples()[2]), 0)
	}
}

// TestRoomBehindACrash: bytes that were lost are not counted.
func TestRoomBehindACrash(t *testing.T) {
	g := log.New()
	put(t, g, longest(), longest())
	g.Sync()
	for range 3 {
		checkPut(t, "the third", g, longest(), 2, 0)
		checkPut(t, "there is just room", g, sized(t, 607), 3, 0)
		checkPut(t, "there is none", g, nil, 0, api.ErrFull)
		g.Crash(0)
		checkLog(t, "crashed", g, []api.Round{longest(), longest()}, 2)
	}
}

func TestOpen(t *testing.T) {
	b := encode(t, samples()...)
	for _, c := range []struct {
		name   string
		bytes  []byte
		rounds []api.Round
	}{
		{"nil", nil, nil},
		{"no bytes", []byte{}, nil},
		{"one byte", []byte{1}, nil},
		{"no round", []byte{0, 0}, nil},
		{"no round, and one behind", []byte{0, 0, 1, 0, 0}, nil},
		{"too long a round, and one behind", []byte{2, 0, 0, 0, 1, 0, 0}, nil},
		{"no such kind, and one behind", []byte{5, 0, 1, 1, 10, 0, 0, 1, 0, 0}, nil},
		{"too many deeds", append([]byte{10, 0, 9}, make([]byte, 9)...), nil},
		{"a round", []byte{1, 0, 0}, samples()[1:2]},
		{"four rounds", b, samples()},
		{"four rounds, and a byte", append(bytes.Clone(b), 1), samples()},
		{"four rounds, and too short a one", append(bytes.Clone(b), 9, 9), samples()},
		{"four rounds, a faulty one, and one behind", append(bytes.Clone(b), 5, 0, 1, 1, 8, 4, 0, 1, 0, 0), samples()},
		{"four rounds, and two", append(bytes.Clone(b), 1, 0, 0, 1, 0, 0), append(samples(), nil, nil)},
		{"zeros", make([]byte, 70000), nil},
		{"as high as can be", bytes.Repeat([]byte{255}, 70000), nil},
	} {
		checkOpen(t, c.name, c.bytes, c.rounds)
	}
}

// TestOpenOfEachBeginning: to the last round that is whole, and no further.
func TestOpenOfEachBeginning(t *testing.T) {
	b := encode(t, samples()...)
	ends := []int{7, 10, 28, 32}
	for n := range len(b) + 1 {
		whole := 0
		for whole < 4 && ends[whole] <= n {
			whole++
		}
		checkOpen(t, "cut", b[:n:n], samples()[:whole])
	}
}

func TestOpenOfMoreThanThereIsRoomFor(t *testing.T) {
	many := make([]api.Round, 30)
	checkOpen(t, "24 rounds", encode(t, many[:24]...), many[:24])
	checkOpen(t, "25 rounds", encode(t, many[:25]...), many[:25])
	checkOpen(t, "26 rounds", encode(t, many[:26]...), many[:25])
	checkOpen(t, "30 rounds", encode(t, many...), many[:25])

	thrice := []api.Round{longest(), longest(), longest()}
	just := append(slices.Clone(thrice), sized(t, 607))
	checkOpen(t, "4000 bytes", encode(t, just...), just)
	checkOpen(t, "4000 bytes, and a round", append(encode(t, just...), 1, 0, 0), just)
	over := append(slices.Clone(thrice), sized(t, 608))
	checkOpen(t, "4001 bytes", encode(t, over...), thrice)
	checkOpen(t, "4001 bytes, and a round for which there was room", append(encode(t, over...), 1, 0, 0), thrice)
}

// TestOpenedLogGoesOn: a log that was opened is one like any other.
func TestOpenedLogGoesOn(t *testing.T) {
	g, _ := log.Open(encode(t, samples()[:3]...))
	g.Crash(-1)
	checkLog(t, "opened and crashed", g, samples()[:3], 3)
	checkPut(t, "one more", g, samples()[3], 3, 0)
	checkLog(t, "one more", g, samples(), 3)
	g.Crash(3)
	checkLog(t, "it is lost", g, samples()[:3], 3)

	g, _ = log.Open(encode(t, make([]api.Round, 40)...))
	checkPut(t, "as many as can be", g, nil, 0, api.ErrFull)
	g, _ = log.Open(encode(t, longest(), longest(), longest(), longest()))
	checkPut(t, "a byte too many", g, sized(t, 608), 0, api.ErrFull)
	checkPut(t, "as many bytes as can be", g, sized(t, 607), 3, 0)
}

func TestOpenOfBytes(t *testing.T) {
	g := log.New()
	put(t, g, samples()...)
	b, _ := g.Bytes()
	checkOpen(t, "a log's bytes", b, samples())
}

func TestCrash(t *testing.T) {
	for _, c := range []struct {
		name string
		sure int // how many of the samples
		keep int
		left int
	}{
		{"none is kept", 0, 0, 0},
		{"below 0", 0, -1, 0},
		{"as low as can be", 0, math.MinInt, 0},
		{"a byte too few for one", 0, 6, 0},
		{"just one", 0, 7, 1},
		{"one, and bytes of another", 0, 9, 1},
		{"just two", 0, 10, 2},
		{"two, and as many as a later one has", 0, 14, 2},
		{"just three", 0, 28, 3},
		{"a byte too few for all", 0, 31, 3},
		{"just all", 0, 32, 4},
		{"more than all", 0, 33, 4},
		{"as many as can be", 0, math.MaxInt, 4},
		{"sure ones stay", 2, 0, 2},
		{"sure ones stay, below 0", 2, -1, 2},
		{"sure ones stay, as low as can be", 2, math.MinInt, 2},
		{"sure ones are not counted", 2, 17, 2},
		{"one behind sure ones", 2, 18, 3},
		{"bytes of another behind sure ones", 2, 21, 3},
		{"all behind sure ones", 2, 22, 4},
		{"as many as can be behind sure ones", 2, math.MaxInt, 4},
		{"nearly as many as can be behind sure ones", 2, math.MaxInt - 10, 4},
		{"all are sure", 4, 0, 4},
		{"all are sure, below 0", 4, -100, 4},
		{"all are sure, as many as can be", 4, math.MaxInt, 4},
	} {
		g := log.New()
		put(t, g, samples()[:c.sure]...)
		g.Sync()
		put(t, g, samples()[c.sure:]...)
		g.Crash(c.keep)
		checkLog(t, c.name, g, samples()[:c.left], c.left)
		g.Crash(0)
		checkLog(t, c.name+", once more", g, samples()[:c.left], c.left)
		checkPut(t, c.name+", and one more", g, samples()[2], c.left, 0)
		checkLog(t, c.name+", and one more", g, append(samples()[:c.left], samples()[2]), c.left)
	}
}

// byteOf is a byte of a log: of which round, and whether it is made sure of.
type byteOf struct {
	round int
	sure  bool
}

// plain is a log said once more, byte by byte.
type plain struct {
	rounds []api.Round
	bytes  []byteOf
}

func (p *plain) put(r api.Round) (int, int) {
	b, c := codec.Encode(r)
	if c != 0 {
		return 0, c
	}
	if len(p.rounds) == 25 || len(p.bytes)+len(b) > 4000 {
		return 0, 8
	}
	n := len(p.rounds)
	p.rounds = append(p.rounds, r)
	for range b {
		p.bytes = append(p.bytes, byteOf{round: n})
	}
	return n, 0
}

func (p *plain) sync() {
	for i := range p.bytes {
		p.bytes[i].sure = true
	}
}

func (p *plain) crash(keep int) {
	for i, b := range p.bytes {
		if b.sure {
			continue
		}
		if keep <= 0 {
			// Rounds stand one behind the other: all behind the first that lost a byte lost all of theirs.
			p.rounds = p.rounds[:b.round]
			p.bytes = slices.DeleteFunc(p.bytes, func(x byteOf) bool { return x.round >= b.round })
			break
		}
		p.bytes[i].sure = true
		keep--
	}
	p.sync()
}

// sure tells how many rounds have no byte that is not made sure of.
func (p *plain) sure() int {
	for _, b := range p.bytes {
		if !b.sure {
			return b.round
		}
	}
	return len(p.rounds)
}

// row is numbers that look as if they had no order, the same ones in every run.
type row uint64

func (r *row) upTo(n int) int {
	*r = *r*6364136223846793005 + 1442695040888963407
	return int(uint64(*r) >> 33 % uint64(n))
}

func someRound(r *row) (l api.Round) {
	most := []int{2, 4, api.MaxDeeds + 1}[r.upTo(3)]
	for range r.upTo(most) {
		d := make(api.Deed, r.upTo(api.MaxOps+1))
		for i := range d {
			d[i] = []api.Op{num(r.upTo(4), int64(r.upTo(1<<31))), load(r.upTo(4), r.upTo(10)), store(r.upTo(10), r.upTo(4))}[r.upTo(3)]
		}
		l = append(l, d)
	}
	if r.upTo(20) == 0 {
		l = append(l, api.Deed{{Kind: 1 + r.upTo(12), A: r.upTo(8)}})
	}
	return l
}

// TestLogsAgainstPlainOnes does many things to logs, and the same ones to logs said once more.
func TestLogsAgainstPlainOnes(t *testing.T) {
	r := row(1)
	told := map[int]int{}
	for range 60 {
		g, p := log.New(), new(plain)
		for range 120 {
			switch what := r.upTo(40); {
			case what < 32:
				l := someRound(&r)
				n, c := p.put(l)
				told[c]++
				checkPut(t, "some round", g, l, n, c)
			case what < 35:
				p.sync()
				g.Sync()
			case what < 37:
				keep := r.upTo(1500) - 50
				p.crash(keep)
				g.Crash(keep)
			case what == 38:
				b, _ := g.Bytes()
				g, _ = log.Open(append(b, byte(r.upTo(256))))
				p.sync()
			}
			checkLog(t, "some log", g, p.rounds, p.sure())
			if t.Failed() {
				return
			}
		}
	}
	for _, c := range []int{0, api.ErrKind, api.ErrRange, api.ErrFull} {
		if told[c] == 0 {
			t.Errorf("code %d was never told", c)
		}
	}
}

// TestOpenOfWhateverBytes: no bytes make Open panic; it takes what Decode takes, one behind the other.
func TestOpenOfWhateverBytes(t *testing.T) {
	r := row(2)
	taken := 0
	for range 5000 {
		var b []byte
		for range r.upTo(5) {
			b = append(b, encode(t, samples()[r.upTo(4)])...)
		}
		for range r.upTo(3) {
			if len(b) > 0 {
				b[r.upTo(len(b))] = byte(r.upTo(12))
			}
		}
		var rounds []api.Round
		for left := b; ; {
			l, n, c := codec.Decode(left)
			if c != 0 {
				break
			}
			rounds, left = append(rounds, l), left[n:]
		}
		taken += len(rounds)
		checkOpen(t, "whatever", b, rounds)
	}
	if taken < 1000 {
		t.Errorf("only %d rounds", taken)
	}
}

// spoil overwrites all memory of a round.
func spoil(r api.Round) {
	for i := range r {
		d := r[i][:cap(r[i])]
		for j := range d {
			d[j] = stop(3)
		}
	}
	clear(r[:cap(r)])
}

func TestNothingHandedInIsKeptOrChanged(t *testing.T) {
	g := log.New()
	for _, r := range samples() {
		kept := code.Own(r)
		put(t, g, r)
		if !code.SameRound(r, kept) {
			t.Errorf("the round was changed: %v, want %v", r, kept)
		}
		spoil(r)
	}
	checkLog(t, "rounds were spoilt", g, samples(), 0)

	b := encode(t, samples()...)
	kept := bytes.Clone(b)
	g, _ = log.Open(b)
	put(t, g, samples()[0])
	g.Crash(0)
	if !bytes.Equal(b, kept) {
		t.Errorf("the bytes were changed: %v, want %v", b, kept)
	}
	clear(b)
	checkLog(t, "bytes were spoilt", g, samples(), 4)
}

func TestAnswersAreNewMemory(t *testing.T) {
	g := log.New()
	put(t, g, samples()...)
	g.Sync()
	for i := range samples() {
		r, _ := g.Round(i)
		again, _ := g.Round(i)
		spoil(r)
		if !code.SameRound(again, samples()[i]) {
			t.Errorf("two answers share memory: %v", again)
		}
	}
	b, _ := g.Bytes()
	again, _ := g.Bytes()
	clear(b[:cap(b)])
	if !bytes.Equal(again, encode(t, samples()...)) {
		t.Errorf("two answers share memory: %v", again)
	}
	checkLog(t, "answers were spoilt", g, samples(), 4)

	// What a log has behind its end, as it has behind a crash, is not the answer's either.
	put(t, g, longest())
	g.Crash(0)
	b, _ = g.Bytes()
	_ = append(b, 1, 2, 3)
	put(t, g, samples()[2])
	b = append(b, 1, 2, 3)
	checkLog(t, "bytes were put behind an answer", g, append(samples(), samples()[2]), 4)
	g.Crash(0)
	put(t, g, longest())
	if !bytes.Equal(b, append(encode(t, samples()...), 1, 2, 3)) {
		t.Errorf("an answer is changed by the log: %v", b)
	}
}

// TestNothingBehindAListIsRead: bytes that lie behind a list's length are no bytes of it.
func TestNothingBehindAListIsRead(t *testing.T) {
	b := encode(t, samples()...)
	kept := bytes.Clone(b)
	for n := range 7 {
		g, many := log.Open(b[:n])
		if g.Len() != 0 || many != 0 {
			t.Errorf("%d bytes: %d rounds, %d", n, g.Len(), many)
		}
		put(t, g, longest())
	}
	g, _ := log.Open(b[:7])
	put(t, g, longest())
	checkLog(t, "a round lies behind", g, []api.Round{samples()[0], longest()}, 1)
	if !bytes.Equal(b, kept) {
		t.Errorf("what lies behind was changed: %v", b)
	}

	deeds := api.Round{{stop(1), {Kind: 77}}, {{Kind: 77}}}
	l := deeds[:1]
	l[0] = l[0][:1]
	g = log.New()
	put(t, g, l)
	checkLog(t, "faults lie behind", g, []api.Round{{{stop(1)}}}, 0)
}

// TestTwoLogsAreApart: what is done to one is not seen in another one of the same bytes.
func TestTwoLogsAreApart(t *testing.T) {
	b := encode(t, samples()...)
	one, _ := log.Open(b)
	other, _ := log.Open(b)
	put(t, one, longest())
	put(t, other, samples()[0])
	one.Sync()
	checkLog(t, "one", one, append(samples(), longest()), 5)
	checkLog(t, "the other", other, append(samples(), samples()[0]), 4)
}

// TestAskingChangesNothing asks in whatever order, and the same again.
func TestAskingChangesNothing(t *testing.T) {
	g := log.New()
	put(t, g, samples()[:3]...)
	g.Sync()
	put(t, g, samples()[3])
	for range 3 {
		checkLog(t, "asked again", g, samples(), 3)
	}
	g.Crash(4)
	checkLog(t, "all of it was kept", g, samples(), 4)
}
