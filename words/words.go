// Package words: the words of a text, between blanks, and which of them are numbers.
package words

import (
	"strconv"
)

// Cut answers the first word of a text, and what stands behind it; an empty word: the text has none.
func Cut(s string) (word, behind string) {
	s = s[find(s, func(b byte) bool { return b != ' ' }):]
	end := find(s, func(b byte) bool { return b == ' ' })
	return s[:end], s[end:]
}

// Number tells the number that a word is; false: it is none of 64 bits, or not as short as can be.
func Number(word string) (int64, bool) {
	n, err := strconv.ParseInt(word, 10, 64)
	// There is one shortest way to write a number, and FormatInt takes it.
	if err != nil || strconv.FormatInt(n, 10) != word {
		return 0, false
	}
	return n, true
}

// find tells where the first byte is that is as asked for; the end of the text: there is none.
func find(s string, is func(byte) bool) int {
	for i := range len(s) {
		if is(s[i]) {
			return i
		}
	}
	return len(s)
}
