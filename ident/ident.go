// Package ident is layer 1: identifiers with check characters. See shared/doc/01-ident.md.
package ident

import "chargenet/api"

const (
	countryLength  = 2
	partyLength    = 3
	instanceLength = 9
)

// The byte positions of the parts of a contract identifier, each of which a hyphen precedes but for the first.
const (
	countryEnd    = countryLength
	partyStart    = countryEnd + 1
	partyEnd      = partyStart + partyLength
	instanceStart = partyEnd + 1
	instanceEnd   = instanceStart + instanceLength
	checkAt       = instanceEnd + 1
	length        = checkAt + 1
)

// firstLetter is the value of the letter A, and radix the number of values.
const (
	firstLetter = 10
	radix       = 36
)

// characters has for each value the character that has it.
const characters = "0123456789ABCDEFGHIJKLMNOPQRSTUVWXYZ"

// Valid reports whether s is an identifier.
func Valid(s string) bool {
	return len(s) >= 1 && len(s) <= api.MaxName && consists(s, permitted)
}

// Check returns the check character of s.
func Check(s string) (byte, api.Errno) {
	if !Valid(s) {
		return 0, api.ErrName
	}
	p, found := radix, false
	for _, r := range s {
		v := value(r)
		if v < 0 {
			continue
		}
		found = true
		q := (p + v) % radix
		if q == 0 {
			q = radix
		}
		p = 2 * q % (radix + 1)
	}
	if !found {
		return 0, api.ErrName
	}
	return characters[(radix+1-p)%radix], api.OK
}

// Make returns a contract identifier.
func Make(country, party, instance string) (string, api.Errno) {
	if len(country) != countryLength || !consists(country, letter) ||
		len(party) != partyLength || !consists(party, letterOrDigit) ||
		len(instance) != instanceLength || !consists(instance, letterOrDigit) {
		return "", api.ErrName
	}
	body := capitals(country + "-" + party + "-" + instance)
	c, e := Check(body)
	if e != api.OK {
		return "", e
	}
	return body + "-" + string(rune(c)), api.OK
}

// Parse returns the parts of a contract identifier.
func Parse(s string) (country, party, instance string, e api.Errno) {
	if !formed(s) {
		return "", "", "", api.ErrForm
	}
	whole, e := Make(s[:countryEnd], s[partyStart:partyEnd], s[instanceStart:instanceEnd])
	if e != api.OK {
		return "", "", "", api.ErrForm
	}
	if !Same(whole, s) {
		return "", "", "", api.ErrSum
	}
	return whole[:countryEnd], whole[partyStart:partyEnd], whole[instanceStart:instanceEnd], api.OK
}

// Same reports whether two strings are equal without regard to the case of the letters a to z.
func Same(a, b string) bool {
	return capitals(a) == capitals(b)
}

// formed reports whether s has the length, the hyphens and a possible check character of a contract identifier; it does not look at the parts.
func formed(s string) bool {
	return len(s) == length && s[countryEnd] == '-' && s[partyEnd] == '-' && s[instanceEnd] == '-' &&
		consists(s[checkAt:], letterOrDigit)
}

// consists reports whether all characters of s are permitted by the test. A byte that is not part of a character's encoding counts as a character above 127.
func consists(s string, test func(rune) bool) bool {
	for _, r := range s {
		if !test(r) {
			return false
		}
	}
	return true
}

func permitted(r rune) bool {
	switch r {
	case '-', '_', '.', ':', '*':
		return true
	}
	return letterOrDigit(r)
}

func letterOrDigit(r rune) bool {
	return value(r) >= 0
}

func letter(r rune) bool {
	return value(r) >= firstLetter
}

// value returns the value of a character, or -1 if it has none.
func value(r rune) int {
	switch {
	case '0' <= r && r <= '9':
		return int(r - '0')
	case 'A' <= r && r <= 'Z':
		return int(r-'A') + firstLetter
	case 'a' <= r && r <= 'z':
		return int(r-'a') + firstLetter
	}
	return -1
}

// capitals replaces the letters a to z by capitals. It goes by bytes, because s may be any string and its other bytes must stay as they are.
func capitals(s string) string {
	b := []byte(s)
	for i, c := range b {
		if 'a' <= c && c <= 'z' {
			b[i] = c - 'a' + 'A'
		}
	}
	return string(b)
}
