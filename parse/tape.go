package parse

import (
	"slices"

	"driftnet/lex"
)

// unexpected is the panic that a token causes with which the ones before it cannot continue, at its byte offset.
type unexpected struct{ at int }

// tape is the tokens that remain to be read.
type tape struct {
	tokens []lex.Token
	end    int // the length of the text
}

func (t *tape) isAtEnd() bool {
	return len(t.tokens) == 0
}

// fail reports the next token, or the end of the text.
func (t *tape) fail() {
	if t.isAtEnd() {
		panic(unexpected{t.end})
	}
	panic(unexpected{t.tokens[0].At})
}

// next reads the next token; there is one.
func (t *tape) next() lex.Token {
	token := t.tokens[0]
	t.tokens = t.tokens[1:]
	return token
}

// keyword returns the next token, if it is a word or a sign.
func (t *tape) keyword() string {
	if t.comesKind(lex.Word, lex.Sign) {
		return t.tokens[0].Text
	}
	return ""
}

// comes reports whether one of these words and signs comes next.
func (t *tape) comes(l ...string) bool {
	return !t.isAtEnd() && slices.Contains(l, t.keyword())
}

// comesKind reports whether a token of one of these kinds comes next.
func (t *tape) comesKind(l ...int) bool {
	return !t.isAtEnd() && slices.Contains(l, t.tokens[0].Kind)
}

// skip reads the next token, if it is one of these words and signs.
func (t *tape) skip(l ...string) bool {
	ok := t.comes(l...)
	if ok {
		t.next()
	}
	return ok
}

// expect reads the next token, which must be one of these words and signs.
func (t *tape) expect(l ...string) string {
	if !t.comes(l...) {
		t.fail()
	}
	return t.next().Text
}

// expectKind reads the next token, which must be of one of these kinds.
func (t *tape) expectKind(l ...int) lex.Token {
	token := t.comingKind(l...)
	t.next()
	return token
}

// comingKind returns the next token, which must be of one of these kinds, without reading it.
func (t *tape) comingKind(l ...int) lex.Token {
	if !t.comesKind(l...) {
		t.fail()
	}
	return t.tokens[0]
}
