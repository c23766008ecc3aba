package words_test

import (
	"math"
	"slices"
	"strconv"
	"strings"
	"testing"

	"caracole/words"
)

func TestCut(t *testing.T) {
	for _, c := range []struct{ s, word, behind string }{
		{"", "", ""},
		{" ", "", ""},
		{"    ", "", ""},
		{"a", "a", ""},
		{"stop", "stop", ""},
		{"stop ", "stop", " "},
		{" stop", "stop", ""},
		{"   stop   1 2 ", "stop", "   1 2 "},
		{"a b", "a", " b"},
		{"a\tb c", "a\tb", " c"},
		{"\n", "\n", ""},
		{"\x00 \x00", "\x00", " \x00"},
		{"\xff\xfe 1", "\xff\xfe", " 1"},
		{"\u00a0 \u2003", "\u00a0", " \u2003"},
		{" ;;  ", ";;", "  "},
	} {
		if word, behind := words.Cut(c.s); word != c.word || behind != c.behind {
			t.Errorf("%q: %q, %q, want %q, %q", c.s, word, behind, c.word, c.behind)
		}
	}
}

func TestCutOfEveryByte(t *testing.T) {
	for b := range 256 {
		s := "x" + string([]byte{byte(b)}) + "y"
		want, behind := s, ""
		if b == 32 {
			want, behind = "x", " y"
		}
		if word, rest := words.Cut(s); word != want || rest != behind {
			t.Errorf("%q: %q, %q, want %q, %q", s, word, rest, want, behind)
		}
	}
}

func TestCutOfAllWords(t *testing.T) {
	s := strings.Repeat("  one two", 1000) + "   "
	var all []string
	for word, behind := words.Cut(s); word != ""; word, behind = words.Cut(behind) {
		all = append(all, word)
	}
	if !slices.Equal(all, strings.Fields(s)) {
		t.Errorf("%d words: %q", len(all), all)
	}
}

func TestNumber(t *testing.T) {
	for _, n := range []int64{0, 1, -1, 9, 10, -10, 99, 100, 1 << 31, -1 << 31, 1 << 32, math.MaxInt64 - 1, math.MaxInt64, math.MinInt64 + 1, math.MinInt64} {
		if got, is := words.Number(strconv.FormatInt(n, 10)); got != n || !is {
			t.Errorf("%d: %d, %v", n, got, is)
		}
	}
}

func TestNoNumber(t *testing.T) {
	for _, s := range []string{
		"", " ", "-", "+", "--1", "-+1", "+0", "+1", "-0", "00", "01", "-01", "000", "1.", "1.0", ".1", "1e1", "0x1", "0b1", "0o1", "0x", "1_0", "1,0",
		" 1", "1 ", "- 1", "1-", "1-1", "1;", "a", "1a", "a1", "nan", "inf", "\x00", "1\x00", "1\n", "\t1", "\xff", "1\xff", "\u0661", "\uff11", "\u22121",
		"9223372036854775808", "-9223372036854775809", "18446744073709551615", "18446744073709551616", "18446744073709551617", "99999999999999999999",
		"09223372036854775807", "-09223372036854775808", "9223372036854775807 ", strings.Repeat("9", 1000), strings.Repeat("0", 1000), "1" + strings.Repeat("0", 1000),
	} {
		if n, is := words.Number(s); n != 0 || is {
			t.Errorf("%q: %d, %v", s, n, is)
		}
	}
}
