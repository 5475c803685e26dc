package rex

import (
	"slices"
	"strconv"
	"strings"

	"driftnet/api"
	"driftnet/labels"
	"driftnet/quote"
	"driftnet/runes"
)

const mostHexDigits = 6

// fault is the panic by which parsing is abandoned, at a byte of the text.
type fault struct{ at int }

type parser struct {
	text          string
	at            int
	groups        form
	open, deepest int // parentheses
	escapes       map[byte]runes.Set
}

// Parse returns the node of a regular expression; with an error, a byte offset.
func Parse(s string) (n Node, at int, e api.Errno) {
	if len(s) > api.MaxPattern {
		return Node{}, 0, api.ErrLimit
	}
	defer func() {
		if f, ok := recover().(fault); ok {
			n, at, e = Node{}, f.at, api.ErrRegex
		}
	}()
	p := &parser{text: s, groups: form{names: map[string]struct{}{}}, escapes: classes()}
	n = p.alternative()
	if p.at < len(s) {
		p.fail()
	}
	if p.deepest > api.MaxDepth || isDeeper(n, api.MaxDepth) {
		return Node{}, 0, api.ErrDepth
	}
	return n, 0, api.OK
}

// classes returns the sets of escapes with one letter.
func classes() map[byte]runes.Set {
	digit := runes.Of(runes.Range{From: '0', To: '9'})
	word := runes.Join(digit, single('_'), runes.Of(runes.Range{From: 'a', To: 'z'}, runes.Range{From: 'A', To: 'Z'}))
	space := runes.Join(single('\t'), single('\n'), single('\f'), single('\r'), single(' '))
	return map[byte]runes.Set{
		'n': single('\n'), 't': single('\t'), 'r': single('\r'),
		'd': digit, 'w': word, 's': space,
		'D': digit.Not(), 'W': word.Not(), 'S': space.Not(),
	}
}

func (p *parser) fail() {
	panic(fault{p.at})
}

// next returns the byte at the current position, and 0 at the end.
func (p *parser) next() byte {
	if p.at < len(p.text) {
		return p.text[p.at]
	}
	return 0
}

// skip moves behind the text s, if that comes next.
func (p *parser) skip(s string) bool {
	ok := strings.HasPrefix(p.text[p.at:], s)
	if ok {
		p.at += len(s)
	}
	return ok
}

func (p *parser) expect(s string) {
	if !p.skip(s) {
		p.fail()
	}
}

func (p *parser) alternative() Node {
	var l []Node
	for more := true; more; more = p.skip("|") {
		if n := p.sequence(); n.Kind == Alt {
			l = append(l, n.L...)
		} else {
			l = append(l, n)
		}
	}
	if len(l) == 1 {
		return l[0]
	}
	return Node{Kind: Alt, L: l}
}

func (p *parser) sequence() Node {
	var l []Node
	for p.at < len(p.text) && p.next() != '|' && p.next() != ')' {
		switch n := p.repeated(); n.Kind {
		case Empty:
		case Seq:
			l = append(l, n.L...)
		default:
			l = append(l, n)
		}
	}
	switch len(l) {
	case 0:
		return Node{Kind: Empty}
	case 1:
		return l[0]
	}
	return Node{Kind: Seq, L: l}
}

// repeated reads an atom and its repetition; a second repetition is not an atom and fails there.
func (p *parser) repeated() Node {
	n := p.atom()
	least, most := 0, 0
	switch {
	case p.skip("*"):
		least, most = 0, -1
	case p.skip("+"):
		least, most = 1, -1
	case p.skip("?"):
		least, most = 0, 1
	case p.skip("{"):
		least, most = p.times()
	default:
		return n
	}
	if n.Kind == Empty {
		p.fail()
	}
	return Node{Kind: Repeat, L: []Node{n}, Min: least, Max: most, Lazy: p.skip("?")}
}

// times reads the numbers of a repetition, behind its opening brace.
func (p *parser) times() (least, most int) {
	least = p.number()
	most = least
	if p.skip(",") {
		most = -1
		if p.next() != '}' {
			most = p.number()
		}
	}
	if !areTimes(least, most) {
		p.fail()
	}
	p.expect("}")
	return least, most
}

func (p *parser) number() int {
	start := p.at
	for p.next() >= '0' && p.next() <= '9' {
		p.at++
	}
	digits := p.text[start:p.at]
	n, err := strconv.Atoi(digits)
	if err != nil || n > api.MaxRepeat || len(digits) > 1 && digits[0] == '0' {
		p.fail()
	}
	return n
}

func (p *parser) atom() Node {
	switch p.next() {
	case '(':
		return p.parenthesis()
	case '[':
		return Node{Kind: One, Set: p.class()}
	case '\\':
		return Node{Kind: One, Set: p.escape()}
	case '*', '+', '?', '{':
		p.fail()
	}
	switch {
	case p.skip("."):
		return Node{Kind: One, Set: Any()}
	case p.skip("^"):
		return Node{Kind: Begin}
	case p.skip("$"):
		return Node{Kind: End}
	}
	return Node{Kind: One, Set: p.literal()}
}

// parenthesis reads what is in parentheses, as a Group or by itself.
func (p *parser) parenthesis() Node {
	p.expect("(")
	p.open++
	p.deepest = max(p.deepest, p.open)
	name, isGroup := "", !p.skip("?:")
	if p.skip("?P<") {
		name = p.name()
	}
	if isGroup && (!p.groups.addGroup(name) || p.groups.groups > mostGroups) {
		p.fail()
	}
	n := p.alternative()
	p.expect(")")
	p.open--
	if isGroup {
		return Node{Kind: Group, L: []Node{n}, Name: name}
	}
	return n
}

// name reads the name of a Group, and the > behind it.
func (p *parser) name() string {
	name, _, found := strings.Cut(p.text[p.at:], ">")
	if !found || !labels.IsName(name) {
		p.fail()
	}
	p.at += len(name) + 1
	return name
}

// literal reads a rune that stands for itself.
func (p *parser) literal() runes.Set {
	r, size := quote.Decode(p.text[p.at:])
	// A replacement of one byte stands for a byte that is not UTF-8; there is no rune at the end.
	if size == 0 || size == 1 && r >= 0x80 {
		p.fail()
	}
	p.at += size
	return single(int(r))
}

// escape reads a \ and what belongs to it.
func (p *parser) escape() runes.Set {
	p.expect("\\")
	if p.skip("x{") {
		return single(p.hex())
	}
	c := p.next()
	if set, ok := p.escapes[c]; ok {
		p.at++
		return slices.Clone(set)
	}
	if c <= ' ' || c > '~' || isWord(int(c)) && c != '_' {
		p.fail()
	}
	p.at++
	return single(int(c))
}

// hex reads hexadecimal digits, and the brace behind them.
func (p *parser) hex() int {
	digits, _, found := strings.Cut(p.text[p.at:], "}")
	if !found || len(digits) > mostHexDigits {
		p.fail()
	}
	r, err := strconv.ParseUint(digits, 16, 32)
	if err != nil || r > runes.Max {
		p.fail()
	}
	p.at += len(digits) + 1
	return int(r)
}

// class reads a set in brackets.
func (p *parser) class() runes.Set {
	p.expect("[")
	isComplement := p.skip("^")
	set := p.item()
	for p.next() != ']' {
		set = runes.Join(set, p.item())
	}
	p.expect("]")
	if isComplement {
		return set.Not()
	}
	return set
}

func (p *parser) item() runes.Set {
	from := p.member()
	if !p.skip("-") {
		return from
	}
	to := p.member()
	if from.Size() != 1 || to.Size() != 1 || to[0].From < from[0].From {
		p.fail()
	}
	return runes.Of(runes.Range{From: from[0].From, To: to[0].From})
}

func (p *parser) member() runes.Set {
	switch p.next() {
	case '\\':
		return p.escape()
	case ']', '[', '^', '-':
		p.fail()
	}
	return p.literal()
}
