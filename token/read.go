package token

import (
	"strconv"

	"weaver/api"
)

// read answers the token that s begins with, its text a part of s, and how many bytes it has; 0
// bytes, if none begins there.
func read(s string) (api.Token, int) {
	if s == "" {
		return api.Token{}, 0
	}
	switch setOf(s[0]) {
	case letter:
		return readWord(s)
	case digit:
		return readNumber(s)
	case quote:
		return readText(s)
	}
	return readSign(s)
}

func readWord(s string) (api.Token, int) {
	n := span(s, letter|digit)
	if n > api.MaxName {
		return api.Token{}, 0
	}
	return api.Token{Kind: api.TWord, S: s[:n]}, n
}

func readNumber(s string) (api.Token, int) {
	n := span(s, digit)
	if s[0] == '0' && n > 1 {
		return api.Token{}, 0
	}
	value, err := strconv.ParseInt(s[:n], 10, 64)
	if err != nil {
		return api.Token{}, 0
	}
	return api.Token{Kind: api.TNum, N: value}, n
}

func readText(s string) (api.Token, int) {
	inside := s[1:]
	n := upTo(inside, quote|feed)
	if n > api.MaxText || n == len(inside) || setOf(inside[n]) != quote {
		return api.Token{}, 0
	}
	return api.Token{Kind: api.TText, S: inside[:n]}, n + 2
}

func readSign(s string) (api.Token, int) {
	n := 0
	switch set := setOf(s[0]); {
	case set&(joins|begins) != 0 && len(s) > 1 && s[1] == '=':
		n = 2
	case set&(joins|alone) != 0:
		n = 1
	default:
		return api.Token{}, 0
	}
	return api.Token{Kind: api.TSign, S: s[:n]}, n
}
