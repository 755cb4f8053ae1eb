package text

import (
	"unicode/utf8"

	"tally/api"
	"tally/code"
)

// folds are the ranges of code points that Fold moves; U+00D7, the sign of multiplying, has no small form and stands between the last two.
var folds = [...]struct{ first, last rune }{
	{'A', 'Z'},
	{'\u00c0', '\u00d6'},
	{'\u00d8', '\u00de'},
}

// foldBy is how far Fold moves a code point.
const foldBy = 'a' - 'A'

// Check tells whether an account may be called so.
func Check(name string) api.Errno {
	if name == "" || len(name) > api.MaxName || !utf8.ValidString(name) {
		return api.ErrTextName
	}
	for _, r := range name {
		if !mayName(r) {
			return api.ErrTextName
		}
	}
	return api.OK
}

func mayName(r rune) bool {
	switch {
	case 'a' <= r && r <= 'z', 'A' <= r && r <= 'Z', isDigit(r):
		return true
	case r == '-', r == '.', r == '_':
		return true
	}
	return r >= utf8.RuneSelf
}

// Fold tells the one spelling of a name.
func Fold(name string) string {
	out := []byte(name)
	for at, r := range name {
		if moves(r) {
			// What is moved takes as many bytes as ahead of it, so it fits into its own place.
			utf8.EncodeRune(out[at:], r+foldBy)
		}
	}
	return string(out)
}

func moves(r rune) bool {
	for _, f := range folds {
		if f.first <= r && r <= f.last {
			return true
		}
	}
	return false
}

// Home tells the shard of a name.
func Home(name string, shards int) int {
	if shards < 1 {
		return 0
	}
	sum := code.Sum([]byte(Fold(name)))
	return int(uint64(sum) % uint64(shards))
}
