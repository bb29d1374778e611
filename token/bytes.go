package token

// What a byte may be: a set, since a line feed is a blank that no text has, too.
const (
	blank uint8 = 1 << iota
	feed
	letter
	digit
	quote
	alone  // a sign by itself, whatever stands behind
	joins  // a sign by itself, or a longer one with a = behind it
	begins // a sign only with a = behind it
)

// sets has no row for the bytes from 128 on: they may be nothing but a part of a text.
var sets = [128]uint8{
	' ': blank, '\n': blank | feed, '\'': quote,
	'0': digit, '1': digit, '2': digit, '3': digit, '4': digit,
	'5': digit, '6': digit, '7': digit, '8': digit, '9': digit,
	'a': letter, 'b': letter, 'c': letter, 'd': letter, 'e': letter, 'f': letter, 'g': letter,
	'h': letter, 'i': letter, 'j': letter, 'k': letter, 'l': letter, 'm': letter, 'n': letter,
	'o': letter, 'p': letter, 'q': letter, 'r': letter, 's': letter, 't': letter, 'u': letter,
	'v': letter, 'w': letter, 'x': letter, 'y': letter, 'z': letter,
	'(': alone, ')': alone, ':': alone, ';': alone, '.': alone, '+': alone, '-': alone, '*': alone,
	'<': joins, '=': joins, '!': begins,
}

func setOf(b byte) uint8 {
	if int(b) >= len(sets) {
		return 0
	}
	return sets[b]
}

// span is how many bytes at the front of s are of the set.
func span(s string, set uint8) int {
	n := 0
	for n < len(s) && setOf(s[n])&set != 0 {
		n++
	}
	return n
}

// upTo is how many bytes stand ahead of the first one of the set, or in all of s.
func upTo(s string, set uint8) int {
	n := 0
	for n < len(s) && setOf(s[n])&set == 0 {
		n++
	}
	return n
}
