// Package spell is layer 1: see shared/doc/01-spell.md.
package spell

import (
	"slices"
	"strings"

	"vouchsafe/api"
)

// reserved stands in the order of the chapter, which Words hands on.
const reserved = "says if cansay principal pred clear quota budget"

// Principal reports whether s is a word that is not reserved.
func Principal(s string) bool { return word(s) && !Reserved(s) }

// Predicate reports whether s is a word that is not reserved.
func Predicate(s string) bool { return word(s) && !Reserved(s) }

// Constant reports whether s is a constant that is not reserved.
func Constant(s string) bool { return spelled(s, small, false) && !Reserved(s) }

// Variable reports whether s is a variable name. None is reserved: reserved words have no uppercase letter.
func Variable(s string) bool { return spelled(s, upper, true) }

// Reserved reports whether s is a reserved word.
func Reserved(s string) bool { return slices.Contains(Words(), s) }

// Words returns the reserved words.
func Words() []string { return strings.Split(reserved, " ") }

// word reports whether s is a word, reserved or not.
func word(s string) bool { return spelled(s, lower, false) }

// spelled reports whether s has the length of a name and begins with a byte that first allows;
// mixed tells whether later letters may be of either case.
func spelled(s string, first func(c byte) bool, mixed bool) bool {
	if len(s) < 1 || len(s) > api.MaxSpelling {
		return false
	}
	later := func(c byte) bool {
		return small(c) || c == '_' || mixed && upper(c)
	}
	return first(s[0]) && every(s[1:], later)
}

// every reports whether the rule allows each byte of s. It goes by bytes, not by runes: names have no bytes outside ASCII.
func every(s string, rule func(c byte) bool) bool {
	for i := range len(s) {
		if !rule(s[i]) {
			return false
		}
	}
	return true
}

func lower(c byte) bool { return 'a' <= c && c <= 'z' }

func upper(c byte) bool { return 'A' <= c && c <= 'Z' }

func digit(c byte) bool { return '0' <= c && c <= '9' }

// small is what constants begin with, and what all names may go on with.
func small(c byte) bool { return lower(c) || digit(c) }
