package token_test

import (
	"math/big"
	"regexp"
	"slices"
	"strconv"
	"strings"
	"testing"

	"workflow/api"
	"workflow/token"
)

const (
	least    = -1 << 63
	greatest = 1<<63 - 1
	keywords = "and await case catch check else false func go if let not null on or query return saga select signal throw true try undo update var while"
	signs    = "== != <= >= ( ) { } [ ] , ; . : = < > + - * / %"
	letters  = "abcdefghijklmnopqrstuvwxyzABCDEFGHIJKLMNOPQRSTUVWXYZ_"
)

func tokName(at int, text string) api.Token {
	return api.Token{Kind: api.TokName, At: at, Text: text}
}

func tokWord(at int, text string) api.Token {
	return api.Token{Kind: api.TokKeyword, At: at, Text: text}
}

func tokInt(at, n int) api.Token {
	return api.Token{Kind: api.TokInt, At: at, Int: n}
}

func tokText(at int, text string) api.Token {
	return api.Token{Kind: api.TokText, At: at, Text: text}
}

func tokSign(at int, text string) api.Token {
	return api.Token{Kind: api.TokSign, At: at, Text: text}
}

func tokEnd(at int) api.Token {
	return api.Token{Kind: api.TokEnd, At: at}
}

// checkScan tests that the tokens of src are those given, and behind them the end.
func checkScan(t *testing.T, src string, want ...api.Token) {
	t.Helper()
	want = append(want, tokEnd(len(src)))
	l, at, e := token.Scan(src)
	if !slices.Equal(l, want) || at != 0 || e != api.OK {
		t.Errorf("Scan(%s) = %v, %d, %d; want %v", short(src), l, at, e, want)
	}
}

// checkFault tests that Scan of src finds the error e at the offset at, and returns nothing else.
func checkFault(t *testing.T, src string, at int, e api.Errno) {
	t.Helper()
	l, gotAt, got := token.Scan(src)
	if len(l) != 0 || gotAt != at || got != e {
		t.Errorf("Scan(%s) = %v, %d, %d; want none, %d, %d", short(src), l, gotAt, got, at, e)
	}
}

// short returns a literal of s, or of its ends if it is long.
func short(s string) string {
	if len(s) > 200 {
		s = s[:100] + " .. " + s[len(s)-100:]
	}
	return strconv.Quote(s)
}

// words returns all strings of at most most letters of an alphabet.
func words(alphabet string, most int) []string {
	out, from := []string{""}, 0
	for range most {
		to := len(out)
		for _, s := range out[from:to] {
			for i := range len(alphabet) {
				out = append(out, s+alphabet[i:i+1])
			}
		}
		from = to
	}
	return out
}

// allBytes returns the string of all 256 bytes.
func allBytes() string {
	var b []byte
	for c := range 256 {
		b = append(b, byte(c))
	}
	return string(b)
}

// The forms of the section 'Tokens' as regular expressions, which share nothing with the scanner.
var (
	blankForm = regexp.MustCompile(`\A[ \t\n]*`)
	wordForm  = regexp.MustCompile(`\A[A-Za-z_][A-Za-z0-9_]*`)
	intForm   = regexp.MustCompile(`\A[0-9]+`)
	badInt    = regexp.MustCompile(`\A(?:0[0-9]|[0-9]+[A-Za-z_])`)
	textForm  = regexp.MustCompile(`\A"(?:[ !#-\[\]-~]|\\["\\nt]|\\x[0-9a-f][0-9a-f])*"`)
	cutText   = regexp.MustCompile(`\A"(?:[ !#-\[\]-~]|\\["\\nt]|\\x[0-9a-f][0-9a-f])*(?:\\(?:x[0-9a-f]?)?)?\z`)
	signForm  = regexp.MustCompile(`\A(?:==|!=|<=|>=|[(){}\[\],;.:=<>+\-*/%])`)
)

// model follows the sections 'Tokens' and P7.1 for a text within the limit of its length.
func model(src string) ([]api.Token, int, api.Errno) {
	var l []api.Token
	for at := 0; ; {
		at += len(blankForm.FindString(src[at:]))
		if at == len(src) {
			return append(l, tokEnd(at)), 0, api.OK
		}
		t, n, e := modelToken(src[at:])
		if e != api.OK {
			return nil, at, e
		}
		t.At = at
		l = append(l, t)
		at += n
	}
}

// modelToken returns the token at the beginning of s, and its length in bytes.
func modelToken(s string) (api.Token, int, api.Errno) {
	if word := wordForm.FindString(s); word != "" {
		if len(word) > 64 {
			return api.Token{}, 0, api.ErrName
		}
		if slices.Contains(strings.Fields(keywords), word) {
			return tokWord(0, word), len(word), api.OK
		}
		return tokName(0, word), len(word), api.OK
	}
	if digits := intForm.FindString(s); digits != "" {
		n, _ := new(big.Int).SetString(digits, 10)
		if badInt.MatchString(s) {
			return api.Token{}, 0, api.ErrForm
		}
		if !n.IsInt64() {
			return api.Token{}, 0, api.ErrRange
		}
		return tokInt(0, int(n.Int64())), len(digits), api.OK
	}
	if s[0] == '"' {
		return modelText(s)
	}
	if sign := signForm.FindString(s); sign != "" {
		return tokSign(0, sign), len(sign), api.OK
	}
	return api.Token{}, 0, api.ErrForm
}

// modelText returns the string literal at the beginning of s, and its length in bytes.
func modelText(s string) (api.Token, int, api.Errno) {
	literal := textForm.FindString(s)
	if literal == "" {
		if cutText.MatchString(s) {
			return api.Token{}, 0, api.ErrShort
		}
		return api.Token{}, 0, api.ErrForm
	}
	// The escapes of the chapter are a part of Go's, with the same meaning.
	text, err := strconv.Unquote(literal)
	if err != nil {
		panic(err)
	}
	if len(text) > 4096 {
		return api.Token{}, 0, api.ErrSize
	}
	return tokText(0, text), len(literal), api.OK
}

// checkModel compares Scan with the model.
func checkModel(t *testing.T, src string) {
	t.Helper()
	want, wantAt, wantE := model(src)
	l, at, e := token.Scan(src)
	if !slices.Equal(l, want) || at != wantAt || e != wantE {
		t.Errorf("Scan(%s) = %v, %d, %d; want %v, %d, %d", short(src), l, at, e, want, wantAt, wantE)
	}
}
