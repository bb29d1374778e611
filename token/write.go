package token

import (
	"strconv"

	"weaver/api"
)

// cutEnd parts the tokens ahead from an end as the last one; where none stands, the end is one that
// may be.
func cutEnd(l []api.Token) (ahead []api.Token, end api.Token) {
	last := len(l) - 1
	if last < 0 || l[last].Kind != api.TEnd {
		return l, api.Token{}
	}
	return l[:last], l[last]
}

// write answers a token as it is written; false, if that is not read as just this token. Reading is
// what tells, so that both can't come to differ.
func write(t api.Token) (string, bool) {
	if len(t.S) > api.MaxText { // it would be refused below, but copied for that first
		return "", false
	}
	s := spell(t)
	back, n := read(s)
	t.At = 0
	return s, n > 0 && back == t
}

func spell(t api.Token) string {
	switch t.Kind {
	case api.TNum:
		return strconv.FormatInt(t.N, 10)
	case api.TText:
		return "'" + t.S + "'"
	}
	return t.S
}
