package pattern

import (
	"weaver/api"
	"weaver/expr"
	"weaver/token"
)

func word(s string) api.Token { return api.Token{Kind: api.TWord, S: s} }

func sign(s string) api.Token { return api.Token{Kind: api.TSign, S: s} }

// stageTokens are the tokens of a stage that may be.
func stageTokens(s api.Stage) []api.Token {
	l := []api.Token{word(follows[s.How]), word(s.Name)}
	if s.Many {
		l = append(l, sign("+"))
	}
	l = append(l, sign(":"))
	l = append(l, condTokens(s.Cond)...)
	return append(l, sign(";"))
}

// condTokens parts what layer 11 writes again: only layer 10's Join, of all the tokens, knows
// whether the whole is too long.
func condTokens(x []api.Part) []api.Token {
	s, _ := expr.Write(x)
	l, _ := token.Tokens(s)
	return l[:len(l)-1] // without the end
}
