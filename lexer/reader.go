package lexer

import (
	"slices"
	"strings"

	"vouchsafe/api"
)

// The kinds of bytes.
const (
	other = iota // no token has it
	small        // a lowercase letter or a digit: what words begin with
	upper
	underscore
	sign
	blank
	percent
)

// kindOf returns the kind of a byte.
func kindOf(c byte) int {
	switch {
	case 'a' <= c && c <= 'z', '0' <= c && c <= '9':
		return small
	case 'A' <= c && c <= 'Z':
		return upper
	case c == '_':
		return underscore
	case strings.IndexByte("(),.:/?", c) >= 0:
		return sign
	case strings.IndexByte(" \n\t\r", c) >= 0:
		return blank
	case c == '%':
		return percent
	}
	return other
}

// reader returns a function that reads the next token of a text whenever it is called: without an error, an empty one at the end; with an error, an empty one and the position of what is wrong.
func reader(s string) func() (api.Token, int, api.Errno) {
	end := 0 // of what has been read
	return func() (api.Token, int, api.Errno) {
		if len(s) > api.MaxText {
			return api.Token{}, api.MaxText, api.ErrLong
		}
		at := between(s, end)
		if at == len(s) {
			return api.Token{}, 0, api.OK
		}
		kind := 0
		kind, end = token(s, at)
		switch {
		case kind == 0:
			return api.Token{}, at, api.ErrText
		case end-at > api.MaxSpelling:
			return api.Token{}, at, api.ErrLong
		}
		// A copy: who keeps a token is not to keep the whole text with it.
		return api.Token{Kind: kind, Text: strings.Clone(s[at:end]), At: at}, 0, api.OK
	}
}

// between returns where the blanks and comments that begin at a position end.
func between(s string, at int) int {
	for at < len(s) {
		switch kindOf(s[at]) {
		case blank:
			at++
		case percent:
			at += comment(s[at:])
		default:
			return at
		}
	}
	return at
}

// comment returns the length of the comment with which a text begins, without the end of its line, which is a blank.
func comment(s string) int {
	if n := strings.IndexByte(s, '\n'); n >= 0 {
		return n
	}
	return len(s)
}

// token returns the kind of the token that begins at a position, however long, and its end; the kind is 0 if none begins there.
func token(s string, at int) (kind, end int) {
	switch kindOf(s[at]) {
	case small:
		return api.TokWord, while(s, at+1, small, underscore)
	case upper:
		return api.TokVar, while(s, at+1, small, upper, underscore)
	case sign:
		return api.TokSign, at + 1
	}
	return 0, at
}

// while returns the first position, from one on, whose byte is of none of these kinds.
func while(s string, at int, kinds ...int) int {
	for at < len(s) && slices.Contains(kinds, kindOf(s[at])) {
		at++
	}
	return at
}
