package text

import (
	"strconv"
	"strings"

	"tally/api"
)

const (
	groupMark  = '\''
	groupSize  = 3   // digits of a group
	centDigits = 2   // digits behind the dot
	cents      = 100 // hundredths of one
)

// Amount reads an amount of money, in hundredths.
func Amount(s string) (uint64, api.Errno) {
	whole, part, dotted := strings.Cut(s, ".")
	if !isWhole(whole) || dotted && !isPart(part) {
		return 0, api.ErrTextAmount
	}
	if !dotted {
		part = "00"
	}
	n, ok := number(whole + part)
	if !ok {
		return 0, api.ErrTextOver
	}
	return n, api.OK
}

func isWhole(s string) bool {
	if s == "0" {
		return true
	}
	first, rest, grouped := strings.Cut(s, string(groupMark))
	if first == "" || first[0] == '0' || !allDigits(first) {
		return false
	}
	if !grouped {
		return true
	}
	return len(first) <= groupSize && areGroups(rest)
}

// areGroups tells whether s is groups of just three digits, parted by marks.
func areGroups(s string) bool {
	for _, g := range strings.Split(s, string(groupMark)) {
		if len(g) != groupSize || !allDigits(g) {
			return false
		}
	}
	return true
}

func isPart(s string) bool {
	return len(s) == centDigits && allDigits(s)
}

func allDigits(s string) bool {
	for _, r := range s {
		if !isDigit(r) {
			return false
		}
	}
	return true
}

func isDigit(r rune) bool {
	return '0' <= r && r <= '9'
}

// number tells what digits, with marks or without, say; false, if that is above MaxSupply.
func number(digits string) (uint64, bool) {
	n := uint64(0)
	for _, r := range digits {
		if r == groupMark {
			continue
		}
		n = n*10 + uint64(r-'0')
		// More digits make it no less, and it must not leave its type.
		if n > api.MaxSupply {
			return 0, false
		}
	}
	return n, true
}

// Money writes hundredths in the one form.
func Money(n uint64) string {
	whole := strconv.FormatUint(n/cents, 10)
	var out strings.Builder
	for at, r := range whole {
		if at > 0 && (len(whole)-at)%groupSize == 0 {
			out.WriteRune(groupMark)
		}
		out.WriteRune(r)
	}
	out.WriteRune('.')
	out.WriteRune('0' + rune(n%cents/10))
	out.WriteRune('0' + rune(n%10))
	return out.String()
}
