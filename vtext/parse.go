package vtext

import (
	"strconv"
	"strings"

	"workflow/api"
	"workflow/value"
)

const (
	blanks = " \t\n\r"
	// openers are the bytes that can begin a value.
	openers = `ntf"[{-0123456789`
)

// fault is what a parser panics with: the first error of the text, and its offset.
type fault struct {
	at   int
	code api.Errno
}

// Parse reads a payload; blanks between tokens are allowed. It returns the offset of an error.
func Parse(s string) (v api.Value, at int, e api.Errno) {
	defer func() {
		if f, found := recover().(fault); found {
			v, at, e = api.Value{}, f.at, f.code
		}
	}()
	p := parser{text: s}
	v = p.value(1)
	p.skipBlanks()
	p.require(p.at == len(s))
	return v, 0, api.OK
}

// parser reads a text from left to right. Its methods begin at the offset at and leave it behind what they have read; at the
// first error they panic with a fault.
type parser struct {
	text  string
	at    int
	begun int // values
}

// value reads a value and the blanks before it.
func (p *parser) value(depth int) api.Value {
	first := p.next()
	p.require(strings.IndexByte(openers, first) >= 0)
	p.begin(depth)
	switch first {
	case 'n':
		p.word("null")
		return value.Null()
	case 't':
		p.word("true")
		return value.Bool(true)
	case 'f':
		p.word("false")
		return value.Bool(false)
	case '"':
		return value.Text(p.literal())
	case '[':
		return p.list(depth)
	case '{':
		return p.dict(depth)
	}
	return p.integer()
}

// begin counts a value and checks the limits that a value exceeds with its first byte.
func (p *parser) begin(depth int) {
	if depth > api.MaxDepth {
		panic(fault{p.at, api.ErrDepth})
	}
	if p.begun == api.MaxNodes {
		panic(fault{p.at, api.ErrSize})
	}
	p.begun++
}

func (p *parser) word(word string) {
	for i := range len(word) {
		p.take(word[i])
	}
}

func (p *parser) integer() api.Value {
	start := p.at
	if p.peek() == '-' {
		p.at++
		p.require(p.peek() != '0')
	}
	first := p.peek()
	p.require(isDigit(first))
	p.at++
	if first == '0' {
		p.require(!p.atDigit())
	}
	for p.atDigit() {
		p.at++
	}
	n, err := strconv.ParseInt(p.text[start:p.at], 10, 64)
	if err != nil {
		panic(fault{start, api.ErrRange})
	}
	return value.Int(int(n))
}

// literal reads a literal and returns the string that it stands for.
func (p *parser) literal() string {
	start := p.at
	p.take('"')
	var text []byte
	for p.peek() != '"' {
		c := p.character()
		// A literal that is too long is read to its end, where its error is found, but it need not be stored.
		if len(text) <= api.MaxText {
			text = append(text, c)
		}
	}
	p.take('"')
	if len(text) > api.MaxText {
		panic(fault{start, api.ErrSize})
	}
	return string(text)
}

// character reads a byte of a literal that stands for itself, or an escape.
func (p *parser) character() byte {
	c := p.peek()
	if c == '\\' {
		p.at++
		return p.escape()
	}
	p.require(isPlain(c))
	p.at++
	return c
}

// escape reads what follows the backslash of an escape and returns the byte that the escape stands for.
func (p *parser) escape() byte {
	c := p.peek()
	p.require(strings.IndexByte(`"\ntx`, c) >= 0)
	p.at++
	switch c {
	case 'n':
		return '\n'
	case 't':
		return '\t'
	case 'x':
		high := p.hexDigit()
		return 16*high + p.hexDigit()
	}
	return c
}

func (p *parser) hexDigit() byte {
	n := strings.IndexByte(hexDigits, p.peek())
	p.require(n >= 0)
	p.at++
	return byte(n)
}

func (p *parser) list(depth int) api.Value {
	var items []api.Value
	p.elements('[', ']', func() {
		items = append(items, p.value(depth+1))
	})
	return value.List(items)
}

func (p *parser) dict(depth int) api.Value {
	var keys []string
	var items []api.Value
	seen := map[string]bool{}
	p.elements('{', '}', func() {
		keys = append(keys, p.key(seen))
		p.next()
		p.take(':')
		items = append(items, p.value(depth+1))
	})
	// Map has no error: the keys are distinct, and the limits have been checked.
	m, _ := value.Map(keys, items)
	return m
}

// key reads a key, with the blanks before it, and adds it to the keys of its map that have been seen.
func (p *parser) key(seen map[string]bool) string {
	p.next()
	start := p.at
	key := p.literal()
	if seen[key] {
		panic(fault{start, api.ErrTwice})
	}
	seen[key] = true
	return key
}

// elements reads a list or a map from its first bracket to its last one; element reads one element, with the blanks before it.
func (p *parser) elements(first, last byte, element func()) {
	p.take(first)
	if p.next() == last {
		p.take(last)
		return
	}
	element()
	for p.next() != last {
		p.take(',')
		element()
	}
	p.take(last)
}

// next skips blanks and returns the byte behind them, which must exist.
func (p *parser) next() byte {
	p.skipBlanks()
	return p.peek()
}

func (p *parser) skipBlanks() {
	for p.at < len(p.text) && strings.IndexByte(blanks, p.text[p.at]) >= 0 {
		p.at++
	}
}

// peek returns the byte at the present offset, which must exist.
func (p *parser) peek() byte {
	if p.at == len(p.text) {
		panic(fault{p.at, api.ErrShort})
	}
	return p.text[p.at]
}

// take reads the byte c.
func (p *parser) take(c byte) {
	p.require(p.peek() == c)
	p.at++
}

// require panics with ErrForm at the present offset unless the condition holds.
func (p *parser) require(holds bool) {
	if !holds {
		panic(fault{p.at, api.ErrForm})
	}
}

// atDigit reports whether a digit follows.
func (p *parser) atDigit() bool {
	return p.at < len(p.text) && isDigit(p.text[p.at])
}

func isDigit(c byte) bool {
	return c >= '0' && c <= '9'
}
