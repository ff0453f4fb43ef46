// Package text has the texts that are kept: runes, keys, and what a key is of.
package text

import (
	"strings"
	"unicode/utf8"

	"gossamer/api"
)

// Valid tells whether s is runes' bytes, one behind the other.
func Valid(s string) bool {
	return Runes(s) >= 0
}

// Runes answers how many runes s has; -1, unless it is valid.
func Runes(s string) int {
	n := 0
	for i, r := range s {
		if wrong(s[i:], r) {
			return -1
		}
		n++
	}
	return n
}

// Key tells whether s is a key.
func Key(s string) bool {
	return Kind(s) != api.KindNone
}

// Kind answers what the key is of, by its first rune; KindNone, if it is no key.
func Kind(key string) uint8 {
	if n := Runes(key); n < 1 || n > api.MaxKey {
		return api.KindNone
	}
	kinds := map[rune]uint8{
		api.KeyCounter: api.KindCounter,
		api.KeySet:     api.KindSet,
		api.KeyCell:    api.KindCell,
	}
	kind := api.KindNone
	for i, r := range key {
		if control(r) {
			return api.KindNone
		}
		if i == 0 {
			kind = kinds[r]
		}
	}
	return kind
}

// Compare answers -1, 0 or 1: byte by byte, a beginning ahead of what it begins.
func Compare(a, b string) int {
	return strings.Compare(a, b)
}

// Cut answers the first n runes of a valid text, or all, if it has fewer.
func Cut(s string, n int) string {
	if !Valid(s) {
		return ""
	}
	end := len(s)
	for i := range s {
		if n <= 0 {
			end = i
			break
		}
		n--
	}
	// A copy, so that a short answer does not hold on to a long text.
	return strings.Clone(s[:end])
}

// wrong tells whether rest, for whose front a range gave r, begins with bytes that are no rune's. The range gives utf8.RuneError for such bytes, but for the bytes of that rune, too: r alone does not tell.
func wrong(rest string, r rune) bool {
	return r == utf8.RuneError && !strings.HasPrefix(rest, string(utf8.RuneError))
}

// control tells whether r may not stand in a key.
func control(r rune) bool {
	return r < 32 || r >= 127 && r <= 159
}
