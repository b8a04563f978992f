package token

import (
	"strconv"
	"strings"

	"workflow/api"
)

const (
	blanks  = " \t\n"
	digits  = "0123456789"
	letters = "abcdefghijklmnopqrstuvwxyzABCDEFGHIJKLMNOPQRSTUVWXYZ_"
	signs   = "(){}[],;.:=<>+-*/%"
	// pairs are the signs that begin one of two bytes, of which the second is =.
	pairs = "=!<>"
	// end is the rune that is read where the text has ended.
	end rune = -1
)

// Scan splits a program into tokens and returns the offset of an error.
func Scan(src string) ([]api.Token, int, api.Errno) {
	if len(src) > api.MaxSource {
		return nil, 0, api.ErrSize
	}
	s := scanner{src: src}
	var l []api.Token
	for {
		s.span(among(blanks))
		start := s.at
		t, e := s.token()
		if e != api.OK {
			return nil, start, e
		}
		t.At = start
		l = append(l, t)
		if t.Kind == api.TokEnd {
			return l, 0, api.OK
		}
	}
}

// among returns the class of the given characters, all of one byte: a function that reports whether a rune is one of them.
func among(characters string) func(rune) bool {
	return func(r rune) bool { return strings.ContainsRune(characters, r) }
}

// scanner reads a text from left to right. Its methods begin at the offset at and leave it behind what they have read.
type scanner struct {
	src string
	at  int
}

// peek returns the byte at the present offset as a rune.
func (s *scanner) peek() rune {
	if s.at == len(s.src) {
		return end
	}
	return rune(s.src[s.at])
}

// read returns the byte at the present offset as a rune and moves behind it, if there is one.
func (s *scanner) read() rune {
	r := s.peek()
	if r != end {
		s.at++
	}
	return r
}

// span reads as many bytes of a class as follow.
func (s *scanner) span(class func(rune) bool) string {
	start := s.at
	for class(s.peek()) {
		s.at++
	}
	return s.src[start:s.at]
}

// token reads a token that begins at the present offset, which is not that of a blank.
func (s *scanner) token() (api.Token, api.Errno) {
	digit, letter := among(digits), among(letters)
	first := s.peek()
	switch {
	case first == end:
		return api.Token{Kind: api.TokEnd}, api.OK
	case letter(first):
		return s.word()
	case digit(first):
		return s.integer()
	case first == '"':
		return s.literal()
	}
	return s.sign()
}

func (s *scanner) word() (api.Token, api.Errno) {
	text := s.span(among(letters + digits))
	if len(text) > api.MaxName {
		return api.Token{}, api.ErrName
	}
	kind := api.TokName
	if Keyword(text) {
		kind = api.TokKeyword
	}
	return api.Token{Kind: kind, Text: text}, api.OK
}

func (s *scanner) integer() (api.Token, api.Errno) {
	text := s.span(among(digits))
	letter := among(letters)
	if len(text) > 1 && text[0] == '0' || letter(s.peek()) {
		return api.Token{}, api.ErrForm
	}
	n, err := strconv.ParseInt(text, 10, 64)
	if err != nil {
		return api.Token{}, api.ErrRange
	}
	return api.Token{Kind: api.TokInt, Int: int(n)}, api.OK
}

func (s *scanner) literal() (api.Token, api.Errno) {
	s.read()
	var text []byte
	for {
		r := s.read()
		switch {
		case r == '"' && len(text) > api.MaxText:
			return api.Token{}, api.ErrSize
		case r == '"':
			return api.Token{Kind: api.TokText, Text: string(text)}, api.OK
		case r == '\\':
			c, e := s.escape()
			if e != api.OK {
				return api.Token{}, e
			}
			text = append(text, c)
		case r < ' ' || r > '~':
			return api.Token{}, fault(r)
		default:
			text = append(text, byte(r))
		}
	}
}

// escape reads what follows a backslash and returns the byte that the escape stands for.
func (s *scanner) escape() (byte, api.Errno) {
	switch r := s.read(); r {
	case '"', '\\':
		return byte(r), api.OK
	case 'n':
		return '\n', api.OK
	case 't':
		return '\t', api.OK
	case 'x':
		return s.code()
	default:
		return 0, fault(r)
	}
}

// code reads two hexadecimal digits.
func (s *scanner) code() (byte, api.Errno) {
	n := 0
	for range 2 {
		r := s.read()
		digit := strings.IndexRune(hexDigits, r)
		if digit < 0 {
			return 0, fault(r)
		}
		n = 16*n + digit
	}
	return byte(n), api.OK
}

// fault returns the error of a literal that cannot continue with the rune r.
func fault(r rune) api.Errno {
	if r == end {
		return api.ErrShort
	}
	return api.ErrForm
}

// sign reads a sign, the longest one that fits.
func (s *scanner) sign() (api.Token, api.Errno) {
	start := s.at
	begins, single := among(pairs), among(signs)
	first := s.read()
	if begins(first) && s.peek() == '=' {
		s.read()
	} else if !single(first) {
		return api.Token{}, api.ErrForm
	}
	return api.Token{Kind: api.TokSign, Text: s.src[start:s.at]}, api.OK
}
