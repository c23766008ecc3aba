package desk_test

import (
	"fmt"
	"regexp"
	"slices"
	"strconv"
	"strings"
	"testing"

	"caracole/api"
	"caracole/desk"
	"caracole/store"
	"caracole/text"
)

const (
	nothing  = "state 0 0 0 0 0 0 0 0 0 0"
	lowest   = "-9223372036854775808"
	highest  = "9223372036854775807"
	tooHigh  = "9223372036854775808"
	tooLow   = "-9223372036854775809"
	twoTo64  = "18446744073709551616"
	farAbove = "100000000000000000000000000000000000000001"
)

func fault(c, at int) api.Fault { return api.Fault{Code: c, At: at} }

func times(n int, line string) []string { return slices.Repeat([]string{line}, n) }

// told answers what is told of things, each of which is ended by a newline.
func told(things ...string) string {
	var b strings.Builder
	for _, s := range things {
		b.WriteString(s + "\n")
	}
	return b.String()
}

// bench is a desk that is tested.
type bench struct {
	*desk.Desk
	t *testing.T
}

func made(t *testing.T) bench { return bench{desk.New(), t} }

// tells holds what lines tell against the things that they are to tell.
func (b bench) tells(lines []string, things ...string) {
	b.t.Helper()
	if s, f := b.Do(lines); s != told(things...) || f != (api.Fault{}) {
		b.t.Errorf("%.300q: %q, %v, want %q", lines, s, f, told(things...))
	}
}

// line holds what one line tells against the things that it is to tell.
func (b bench) line(line string, things ...string) {
	b.t.Helper()
	b.tells([]string{line}, things...)
}

// fails holds the fault of lines against the one that is wanted, and nothing told with it.
func (b bench) fails(lines []string, want api.Fault) {
	b.t.Helper()
	if s, f := b.Do(lines); s != "" || f != want {
		b.t.Errorf("%.300q: %q, %v, want nothing and %v", lines, s, f, want)
	}
}

func TestNewDesk(t *testing.T) {
	b := made(t)
	b.tells(nil)
	b.tells([]string{})
	b.line("state", nothing)
	b.line("last", "end")
	b.line("many", "many 0 0 0")
	b.line("then 0", nothing)
	b.line("then 1", "no 7")
	b.line("round 0", "no 7")
	b.line("run", "no 7")
	b.line("sync", "ok")
	b.line("crash 0", "ok")
	b.line("many", "many 0 0 0")
}

func TestSession(t *testing.T) {
	b := made(t)
	b.tells([]string{"deed num 0 5; store 2 0", "deed load 0 2; num 1 1; stop 1; store 2 1"})
	b.tells([]string{"put", "many", "run", "state", "then 1", "last"},
		"ok", "many 1 0 0", "no 7", nothing, "state 0 0 5 0 0 0 0 0 0 0", "end")
	b.tells([]string{"sync", "many", "run 1 0 1 1 0", "many", "state", "last"},
		"ok", "many 1 1 0", "ok", "many 1 1 1", "state 0 0 5 0 0 0 0 0 0 0", "came 0 5 0 0 0", "came 9 5 1 0 0", "end")
	b.tells([]string{"deed load 0 2; store 9 0; store 0 1", "put", "put", "many", "round 1", "round 2"},
		"ok", "ok", "many 3 1 1", "deed load 0 2; store 9 0; store 0 1", "end", "end")
	b.tells([]string{"then 0", "then 1", "then 2", "then 3", "then 4"},
		nothing, "state 0 0 5 0 0 0 0 0 0 0", "state 0 0 5 0 0 0 0 0 0 5", "state 0 0 5 0 0 0 0 0 0 5", "no 7")
	// The second round has 13 bytes in the log, the third one 3.
	b.tells([]string{"crash 13", "many", "state", "last", "round 2"},
		"ok", "many 2 2 2", "state 0 0 5 0 0 0 0 0 0 5", "came 0 5 0 0 0", "end", "no 7")
	b.tells([]string{"put", "crash 2", "many", "put", "crash 3", "many", "last"},
		"ok", "ok", "many 2 2 2", "ok", "ok", "many 3 3 3", "end")
}

func TestDeed(t *testing.T) {
	b := made(t)
	for _, c := range []struct{ line, text string }{
		{"deed ", ""},
		{"deed  ", ""},
		{"deed        ", ""},
		{"deed stop 1", "stop 1"},
		{"deed  stop  1 ", "stop 1"},
		{"deed num 3 " + lowest + ";load 1 9", "num 3 " + lowest + "; load 1 9"},
		{"deed num 1 7; load 2 3; add 0 1 2; sub 1 2 3; mul 2 3 0; less 3 0 1; stop 3; skip 0 1; store 8 2",
			"num 1 7; load 2 3; add 0 1 2; sub 1 2 3; mul 2 3 0; less 3 0 1; stop 3; skip 0 1; store 8 2"},
	} {
		b.tells([]string{c.line, "put", "crash 1000", "round 0"}, "ok", "ok", "deed "+c.text, "end")
		b = made(t)
	}
	for _, c := range []struct{ line, want string }{
		{"deed what", "no 10 0"},
		{"deed deed", "no 10 0"},
		{"deed deed stop 1", "no 10 0"},
		{"deed ;", "no 10 0"},
		{"deed \t", "no 10 0"},
		{"deed stop 1; stop", "no 10 1"},
		{"deed stop 1; stop 2;", "no 10 2"},
		{"deed " + strings.Repeat("stop 1;", 15), "no 10 15"},
		{"deed stop 1" + strings.Repeat("; stop 1", 14), "no 4 -1"},
		{"deed stop 4", "no 1 0"},
		{"deed store 0 0; stop 0", "no 5 1"},
		{"deed stop 0; skip 0 1", "no 1 1"},
		{"deed put", "no 10 0"},
	} {
		b.line(c.line, c.want)
	}
	b.tells([]string{"put", "round 0"}, "ok", "end")
}

// TestDeedsAreKept: deeds are one behind the other, over calls and other lines, till they are put.
func TestDeedsAreKept(t *testing.T) {
	b := made(t)
	b.line("deed stop 0")
	b.line("deed what", "no 10 0")
	b.line("many", "many 0 0 0")
	b.tells([]string{"deed stop 1", "crash 5", "sync", "run", "state", "what", ""}, "ok", "ok", "no 7", nothing, "what")
	b.line("put 1", "what")
	b.line("deed stop 2")
	b.tells([]string{"put", "round 0"}, "ok", "deed stop 0", "deed stop 1", "deed stop 2", "end")
	b.tells([]string{"put", "round 1", "round 0"}, "ok", "end", "deed stop 0", "deed stop 1", "deed stop 2", "end")
	b.tells([]string{"deed load 1 1", "put", "round 2"}, "ok", "deed load 1 1", "end")
}

func TestPutOfTooManyDeeds(t *testing.T) {
	for n := range 40 {
		b := made(t)
		b.tells(times(n, "deed stop 1"))
		if n <= api.MaxDeeds {
			b.tells([]string{"put", "round 0"}, append([]string{"ok"}, append(times(n, "deed stop 1"), "end")...)...)
			continue
		}
		b.tells([]string{"put", "many", "round 0"}, "no 4", "many 0 0 0", "no 7")
		b.tells([]string{"put", "many", "round 0"}, "ok", "many 1 0 0", "end")
		b.tells([]string{"deed stop 2", "put", "round 1"}, "ok", "deed stop 2", "end")
	}
	b := made(t)
	for range 100 {
		b.tells(times(api.MaxLines, "deed stop 1"))
	}
	b.tells([]string{"put", "deed stop 3", "put", "round 0"}, "no 4", "ok", "deed stop 3", "end")
}

func TestPutIntoAFullLog(t *testing.T) {
	b := made(t)
	b.tells(times(api.MaxRounds, "put"), times(api.MaxRounds, "ok")...)
	b.tells([]string{"deed stop 1", "put", "many", "put"}, "no 8", "many 25 0 0", "no 8")
	// The deeds of a put that failed are gone: there are none left to be put when there is room.
	b.tells([]string{"crash 0", "put", "round 0"}, "ok", "ok", "end")

	b = made(t)
	long := "deed num 0 1" + strings.Repeat("; num 0 1", 13)
	for range 3 { // of 3 + 8 (1 + 14 10) bytes each: 3393 in all
		b.tells(times(8, long))
		b.line("put", "ok")
	}
	b.tells(times(8, long))
	b.tells([]string{"put", "many", "put", "round 3"}, "no 8", "many 3 0 0", "ok", "end")
}

func TestRun(t *testing.T) {
	// The first one of two deeds stores what the second one loads: told is always the same.
	begin := []string{"deed num 0 5; store 2 0", "deed load 0 2", "put", "sync"}
	for _, line := range []string{
		"run", "run 0", "run 1", "run 1 1 1 1", "run 0 1 0 1", "run -1 -2", "run " + lowest + " " + highest, "  run   1   0  ",
		"run" + strings.Repeat(" 1", 300), "run " + strings.Repeat("0 ", 300), "run" + strings.Repeat(" "+lowest, 300),
	} {
		b := made(t)
		b.tells(begin, "ok", "ok")
		b.line(line, "ok")
		b.tells([]string{"last", "state", "many"}, "came 0 5 0 0 0", "came 0 5 0 0 0", "end", "state 0 0 5 0 0 0 0 0 0 0", "many 1 1 1")
		b.line(line, "no 7")
	}
	b := made(t)
	many := "run" + strings.Repeat(" 1", 301)
	b.line(many, "no 7")
	b.tells(begin, "ok", "ok")
	b.line(many, "no 4")
	b.tells([]string{many + " x", "last", "state", "many", "run"}, "what", "end", nothing, "many 1 1 0", "ok")
	b.line("run"+strings.Repeat(" 1", 100000), "no 7")
}

func TestLast(t *testing.T) {
	b := made(t)
	b.tells([]string{"deed num 0 " + lowest + "; num 3 " + highest + "; stop 1", "deed num 0 -1; stop 0", "deed ", "put", "deed num 1 1; num 2 -2", "put", "put", "sync"},
		"ok", "ok", "ok", "ok")
	b.tells([]string{"last", "run", "last", "last"}, "end", "ok",
		"came 0 "+lowest+" 0 0 "+highest, "came 9 -1 0 0 0", "came 0 0 0 0 0", "end",
		"came 0 "+lowest+" 0 0 "+highest, "came 9 -1 0 0 0", "came 0 0 0 0 0", "end")
	b.tells([]string{"run", "last", "run", "last", "run", "last"}, "ok", "came 0 0 1 -2 0", "end", "ok", "end", "no 7", "end")
	b.tells([]string{"deed num 3 3", "put", "last", "crash 1000", "last"}, "ok", "end", "ok", "came 0 0 0 0 3", "end")
}

func TestState(t *testing.T) {
	b := made(t)
	var all []string
	for k, n := range []string{"1", "-2", lowest, highest, "0", "10", "-100", "7", "8", "-9"} {
		all = append(all, "deed num 0 "+n+"; store "+strconv.Itoa(k)+" 0", "put")
	}
	want := "state 1 -2 " + lowest + " " + highest + " 0 10 -100 7 8 -9"
	b.tells(all, times(10, "ok")...)
	b.tells([]string{"state", "then 10", "then 1", "then 0", "then 11"}, nothing, want, "state 1 0 0 0 0 0 0 0 0 0", nothing, "no 7")
	b.tells([]string{"sync", "run", "run", "state", "then 3", "many"}, "ok", "ok", "ok", "state 1 -2 0 0 0 0 0 0 0 0", "state 1 -2 "+lowest+" 0 0 0 0 0 0 0", "many 10 10 2")
	b.tells([]string{"crash -5", "state", "many"}, "ok", want, "many 10 10 10")
}

// TestNumbers: of a line that has a number it may be any one of 64 bits.
func TestNumbers(t *testing.T) {
	for _, n := range []string{lowest, "-2147483649", "-1", "-10", "2", "10", "99", "4294967296", "4294967297", "18446744073709551", highest} {
		b := made(t)
		b.tells([]string{"deed stop 1", "put"}, "ok")
		b.tells([]string{"then " + n, "round " + n, "run " + n, "many"}, "no 7", "no 7", "no 7", "many 1 0 0")
		left := "many 1 1 1"
		if n == "2" || n[0] == '-' { // the round has 7 bytes
			left = "many 0 0 0"
		}
		b.tells([]string{"crash " + n, "many"}, "ok", left)
	}
}

func TestBlanks(t *testing.T) {
	b := made(t)
	b.tells([]string{"", " ", "  ", strings.Repeat(" ", 100000)})
	b.tells([]string{"deed stop 1", " put", "sync  ", "  run  0   -1 ", " state ", "   last", "  then   1", "round  0", " round 0 ", "many   ", "crash   -1", " crash 5  "},
		"ok", "ok", "ok", nothing, "came 0 0 0 0 0", "end", nothing, "deed stop 1", "end", "deed stop 1", "end", "many 1 1 1", "ok", "ok")
	far := strings.Repeat(" ", 100000)
	b.tells([]string{far + "then" + far + "1" + far, far + "state", "put" + far}, nothing, nothing, "ok")
}

// noLines are lines that are none, each told apart from one by little.
func noLines() []string {
	l := []string{
		"deed", " deed", " deed ", " deed stop 1", "  deed stop 1", "deed;", "deedstop 1", "deed\tstop 1", "Deed stop 1", "DEED ", "deeds stop 1", "dee d", "eed ", "stop 1", "num 0 5; store 2 0", "\tdeed stop 1",
		"put 1", "put put", "put x", "put deed", "put 0", "puts", "pu", "p ut", "Put", "PUT", "put;", "put\t", "\tput",
		"sync 1", "sync 0", "sync x", "syn", "syncs", "Sync",
		"run x", "run 1 x", "run x 1", "run 1 1 1 x 1", "run,1", "run 1,2", "run 1;", "run1", "run-1", "runs", "run run", "Run 1", "ru n",
		"crash", "crash ", "crash 1 1", "crash 1 x", "crash x", "crash1", "crash-1", "Crash 1", "crash crash", "crash 1;",
		"state 1", "state 0", "state x", "states", "stat", "State",
		"last 1", "last 0", "last x", "lasts", "Last",
		"then", "then ", "then 1 1", "then 0 0", "then x", "then0", "Then 0", "then 0 x",
		"round", "round ", "round 0 0", "round x", "round0", "Round 0", "rounds 0", "round 0 x",
		"many 1", "many 0", "many x", "Many", "man", "manys",
		"what", "ok", "no", "no 7", "end", "came 0 0 0 0 0", "keys", "0", "1", "-1", "x", ".", "-", ";", "\t", "\r", "\x00", "\xff", "\u00a0", "\u2003", "\u0085", "\v",
		strings.Repeat("put", 1000), strings.Repeat("x", 100000), strings.Repeat("put ", 1000),
	}
	for _, n := range []string{
		"00", "01", "-0", "+0", "+1", "-01", "- 1", "--1", "1-", "1.0", "1e0", "0x1", "1_0", "0b1", "0o1", "'1'", "1,", "-", "+", "\u0661", "\uff11", "1\t", "\t1", "1\r", "1\x00", "\xff1", "1\u00a0",
		tooHigh, tooLow, twoTo64, "18446744073709551615", farAbove, "-" + farAbove, "1" + strings.Repeat("0", 1000),
	} {
		l = append(l, "then "+n, "round "+n, "crash "+n, "run "+n, "run 1 "+n, "run "+n+" 1")
	}
	return l
}

func TestWhat(t *testing.T) {
	for _, line := range noLines() {
		b := made(t)
		b.tells([]string{"deed stop 1", "put", "sync", "deed stop 2", "put", "deed stop 3"}, "ok", "ok", "ok")
		b.line(line, "what")
		b.tells([]string{line, line}, "what", "what")
		// Nothing is done of it.
		b.tells([]string{"many", "put", "round 2"}, "many 2 1 0", "ok", "deed stop 3", "end")
	}
}

func TestTooManyLines(t *testing.T) {
	for _, n := range []int{151, 152, 300, 100000} {
		b := made(t)
		b.line("deed stop 1")
		b.fails(make([]string, n), fault(api.ErrMany, -1))
		b.fails(times(n, "deed stop 2"), fault(api.ErrMany, -1))
		b.fails(times(n, "put"), fault(api.ErrMany, -1))
		b.fails(times(n, "\n"), fault(api.ErrMany, -1))
		b.tells([]string{"many", "put", "round 0"}, "many 0 0 0", "ok", "deed stop 1", "end")
	}
	for _, n := range []int{1, 2, 149, 150} {
		b := made(t)
		b.tells(make([]string, n))
		b.tells(times(n, "many"), times(n, "many 0 0 0")...)
		b.tells(times(n, "x"), times(n, "what")...)
	}
}

func TestLinesWithANewline(t *testing.T) {
	for _, line := range []string{"\n", "put\n", "\nput", "pu\nt", "deed \n", "deed stop 1\n", "deed stop 1;\nstop 1", "\ndeed ", " \n ", "x\n", "x\r\n", "\n\n", "\xff\n", strings.Repeat("x", 100000) + "\n"} {
		for _, at := range []int{0, 1, 5, 148, 149} {
			b := made(t)
			b.line("deed stop 1")
			lines := append(times(at, "put"), line)
			b.fails(lines, fault(api.ErrLine, at))
			for len(lines) < api.MaxLines {
				lines = append(lines, []string{"deed stop 2", "put", "\n", "sync"}[len(lines)%4])
			}
			b.fails(lines, fault(api.ErrLine, at))
			b.tells([]string{"many", "put", "round 0"}, "many 0 0 0", "ok", "deed stop 1", "end")
		}
	}
}

// TestBehindAFault: a Do that fails neither takes nor adds anything that later ones tell.
func TestBehindAFault(t *testing.T) {
	b := made(t)
	b.tells([]string{"many", "what"}, "many 0 0 0", "what")
	b.fails([]string{"many", "\n"}, fault(api.ErrLine, 1))
	b.line("state", nothing)
	b.fails(times(151, "many"), fault(api.ErrMany, -1))
	b.tells(nil)
	b.line("many", "many 0 0 0")
}

func TestDesksAreApart(t *testing.T) {
	a, b := made(t), made(t)
	a.tells([]string{"deed num 0 1; store 0 0"})
	b.tells([]string{"deed num 0 2; store 0 0", "put", "sync", "run"}, "ok", "ok", "ok")
	a.tells([]string{"many", "state", "put", "crash 1000", "state"}, "many 0 0 0", nothing, "ok", "ok", "state 1 0 0 0 0 0 0 0 0 0")
	b.tells([]string{"many", "state"}, "many 1 1 1", "state 2 0 0 0 0 0 0 0 0 0")
}

// TestLinesStay: lines are neither changed nor kept, and what is behind their length is not looked at.
func TestLinesStay(t *testing.T) {
	lines := []string{"deed stop 1", " put ", "many", "\n", "put"}
	b := made(t)
	first, f := b.Do(lines[:3])
	if want := told("ok", "many 1 0 0"); first != want || f != (api.Fault{}) {
		t.Errorf("%q, %v, want %q", first, f, want)
	}
	if !slices.Equal(lines, []string{"deed stop 1", " put ", "many", "\n", "put"}) {
		t.Errorf("lines were changed: %q", lines)
	}
	for i := range lines {
		lines[i] = "deed stop 3"
	}
	b.tells([]string{"round 0", "deed load 0 0", "put", "round 1"}, "deed stop 1", "end", "ok", "deed load 0 0", "end")
	if want := told("ok", "many 1 0 0"); first != want {
		t.Errorf("what was told has become %q", first)
	}
}

// plain is a desk said once more, by patterns.
type plain struct {
	*store.Store
	deeds api.Round
}

const shortest = `(0|-?[1-9][0-9]*)`

var (
	blanks = regexp.MustCompile(` +`)
	shape  = regexp.MustCompile(`\A(?:put|sync|state|last|many|run( ` + shortest + `)*|(?:crash|then|round) ` + shortest + `)\z`)
)

// shown tells the words of things as fmt does, without what it lays around lists.
func shown(things ...any) string {
	return strings.NewReplacer("[", "", "]", "", "{", "", "}", "").Replace(fmt.Sprintln(things...))
}

// words answers the word of a line that is not deed, and its numbers; an empty one: there is no such line.
func (p *plain) words(line string) (word string, numbers []int) {
	line = strings.Trim(blanks.ReplaceAllString(line, " "), " ")
	if !shape.MatchString(line) {
		return "", nil
	}
	l := strings.Split(line, " ")
	for _, w := range l[1:] {
		n, err := strconv.Atoi(w)
		if err != nil {
			return "", nil
		}
		numbers = append(numbers, n)
	}
	return l[0], numbers
}

// step tells the code of a step.
func (p *plain) step(x api.Step) string {
	if c := p.Do(x); c != 0 {
		return shown("no", c)
	}
	return "ok\n"
}

// line tells what a line tells.
func (p *plain) line(line string) string {
	if strings.Trim(line, " ") == "" {
		return ""
	}
	if strings.HasPrefix(line, "deed ") {
		d, f := text.Parse(line[5:])
		if f.Code != 0 {
			return shown("no", f)
		}
		p.deeds = append(p.deeds, d)
		return ""
	}
	word, n := p.words(line)
	switch word {
	case "put":
		r := p.deeds
		p.deeds = nil
		return p.step(api.Step{Kind: 1, Round: r})
	case "sync":
		return p.step(api.Step{Kind: 2})
	case "run":
		return p.step(api.Step{Kind: 3, Picks: n})
	case "crash":
		return p.step(api.Step{Kind: 4, Keep: n[0]})
	case "":
		return "what\n"
	}
	return p.ask(word, n)
}

// ask tells what is told of a line that does nothing.
func (p *plain) ask(word string, n []int) (all string) {
	switch word {
	case "state":
		return shown("state", p.State())
	case "many":
		return shown("many", p.Len(), p.Sure(), p.Done())
	case "last":
		for _, r := range p.Last() {
			all += shown("came", r)
		}
		return all + "end\n"
	case "then":
		if s, ok := p.Then(n[0]); ok {
			return shown("state", s)
		}
	case "round":
		if r, ok := p.Round(n[0]); ok {
			for _, d := range r {
				s, _ := text.Print(d)
				all += "deed " + s + "\n"
			}
			return all + "end\n"
		}
	}
	return "no 7\n"
}

// all tells what lines tell.
func (p *plain) all(lines []string) string {
	var b strings.Builder
	for _, l := range lines {
		b.WriteString(p.line(l))
	}
	return b.String()
}

// TestEveryByte: every byte, put into every line at every place.
func TestEveryByte(t *testing.T) {
	for _, line := range []string{"deed stop 1; load 0 1", "deed ", "put", "sync", "run 1 -20 0", "run", "crash -1", "crash 10", "state", "last", "then 1", "then 10", "round 0", "round 10", "many"} {
		begin := []string{"deed num 0 5; store 2 0; load 1 2", "deed stop 1", "put", "sync", "deed ", "put", "deed stop 1"}
		for by := range 256 {
			for at := range len(line) + 1 {
				with := line[:at] + string([]byte{byte(by)}) + line[at:]
				lines := append(slices.Clone(begin), with, "many", "put", "round 2", "state", "last")
				b := made(t)
				if by == '\n' {
					b.fails(lines, fault(api.ErrLine, len(begin)))
					continue
				}
				p := plain{Store: store.New()}
				if s, f := b.Do(lines); s != p.all(lines) || f != (api.Fault{}) {
					t.Errorf("%q: %q, %v", with, s, f)
				}
			}
		}
	}
}

// order is numbers that look as if they had no order, the same ones in every run.
type order uint64

func (r *order) upTo(n int) int {
	*r = *r*6364136223846793005 + 1442695040888963407
	return int(uint64(*r) >> 33 % uint64(n))
}

func (r *order) of(texts ...string) string { return texts[r.upTo(len(texts))] }

func (r *order) number(n int) string { return strconv.Itoa(r.upTo(n)) }

// someDeed is a line of a deed, mostly one that is well made.
func someDeed(r *order) string {
	var parts []string
	for range r.upTo(6) {
		parts = append(parts, r.of("num "+r.number(4)+" "+r.of("1", "-3", highest, lowest), "load "+r.number(4)+" "+r.number(10),
			"add "+r.number(4)+" "+r.number(4)+" "+r.number(4), "mul "+r.number(4)+" "+r.number(4)+" "+r.number(4), "store "+r.number(10)+" "+r.number(4)))
	}
	if r.upTo(4) == 0 {
		parts = append([]string{"stop " + r.number(4)}, parts...)
	}
	if r.upTo(8) == 0 {
		parts = append(parts, r.of("stop 1", "stop 4", "what", "", "skip 0 1"))
	}
	return "deed " + strings.Join(parts, r.of("; ", ";", " ; "))
}

// someLine is a line, mostly one that there is.
func someLine(r *order) string {
	number := r.of(r.number(30), r.number(30), r.number(4), "-1", "400", "01", "x", lowest, tooHigh)
	gap := r.of(" ", " ", " ", "   ")
	switch r.upTo(14) {
	case 0, 1, 2, 3:
		return someDeed(r)
	case 4, 5:
		return r.of("put", "put", " put ", "put 1")
	case 6:
		return r.of("sync", " sync")
	case 7, 8:
		s := "run"
		for range r.upTo(12) {
			s += gap + r.of(r.number(8), "-"+highest)
		}
		return s + r.of("", "", gap, " x")
	case 9:
		return r.of("state", "last", "many", "sync", "state 1")
	case 10:
		return "then" + gap + number
	case 11:
		return "round" + gap + number
	case 12:
		return r.of("crash"+gap+number, "many")
	}
	return r.of("", "  ", "what", "deed", " deed stop 1", "\t", "\xff", "end", "run 1 2")
}

func someLines(r *order, n int) []string {
	l := make([]string, n)
	for i := range l {
		l[i] = someLine(r)
	}
	return l
}

// TestManySessions: what lines tell, call by call, is what the plain desk tells of them.
func TestManySessions(t *testing.T) {
	r := order(1)
	for range 300 {
		b, p := made(t), plain{Store: store.New()}
		for range 1 + r.upTo(6) {
			lines := someLines(&r, r.upTo(api.MaxLines+1))
			s, f := b.Do(lines)
			if want := p.all(lines); s != want || f != (api.Fault{}) {
				t.Fatalf("%q: %q, %v, want %q", lines, s, f, want)
			}
		}
	}
}

// TestTwoAndOne: what two Do tell one behind the other one Do of both tells, wherever they are parted.
func TestTwoAndOne(t *testing.T) {
	r := order(2)
	for range 20 {
		lines := someLines(&r, 1+r.upTo(api.MaxLines))
		whole, f := desk.New().Do(lines)
		if f != (api.Fault{}) {
			t.Fatalf("%q: %v", lines, f)
		}
		for at := range len(lines) + 1 {
			d := desk.New()
			first, f1 := d.Do(lines[:at])
			second, f2 := d.Do(lines[at:])
			if first+second != whole || f1 != f || f2 != f {
				t.Fatalf("%q, parted at %d: %q and %q, want %q", lines, at, first, second, whole)
			}
		}
		d, all := desk.New(), ""
		for i := range lines {
			s, _ := d.Do(lines[i : i+1])
			all += s
		}
		if all != whole {
			t.Fatalf("%q, line by line: %q, want %q", lines, all, whole)
		}
	}
}

// TestWhateverItIsGiven: no lines make a desk panic, whatever bytes they have.
func TestWhateverItIsGiven(t *testing.T) {
	r := order(3)
	bits := []string{"deed", "put", "sync", "run", "crash", "state", "last", "then", "round", "many", "num 0 5", "store 2 0", ";", " ", "  ", "0", "1", "-", lowest, tooHigh, "\n", "\t", "\x00", "\xff", "\u00e9"}
	for range 2000 {
		d, p := desk.New(), plain{Store: store.New()}
		lines := make([]string, r.upTo(20))
		for i := range lines {
			for range r.upTo(6) {
				lines[i] += r.of(bits...) + r.of("", " ")
			}
		}
		want, wantFault := "", api.Fault{}
		if at := slices.IndexFunc(lines, func(l string) bool { return strings.Contains(l, "\n") }); at >= 0 {
			wantFault = fault(api.ErrLine, at)
		} else {
			want = p.all(lines)
		}
		if s, f := d.Do(lines); s != want || f != wantFault {
			t.Fatalf("%q: %q, %v, want %q, %v", lines, s, f, want, wantFault)
		}
	}
}
