package token_test

import (
	"math/rand"
	"regexp"
	"slices"
	"strconv"
	"strings"
	"testing"

	"workflow/api"
	"workflow/token"
)

func TestKeyword(t *testing.T) { // P7.2
	all := strings.Fields(keywords)
	if len(all) != 27 {
		t.Fatalf("%d keywords", len(all))
	}
	for _, k := range all {
		if !token.Keyword(k) {
			t.Errorf("Keyword(%q) is false", k)
		}
		for i := range len(k) {
			for b := range 256 {
				checkKeyword(t, k[:i]+string([]byte{byte(b)})+k[i+1:])
				checkKeyword(t, k[:i]+string([]byte{byte(b)})+k[i:])
			}
			checkKeyword(t, k[:i]+k[i+1:])
			checkKeyword(t, k[:i])
		}
		for _, s := range []string{k + " ", " " + k, k + k, k + "s", k + "\x00", strings.ToUpper(k)} {
			checkKeyword(t, s)
		}
	}
	for _, s := range []string{"", "main", "len", "activity", "for", "or else", "=", "break", "continue", "do", "in", "int", "def", "fn", "class", "import", keywords} {
		checkKeyword(t, s)
	}
}

func checkKeyword(t *testing.T, s string) {
	t.Helper()
	if got, want := token.Keyword(s), slices.Contains(strings.Fields(keywords), s); got != want {
		t.Errorf("Keyword(%q) = %t", s, got)
	}
}

func TestQuote(t *testing.T) { // P7.3
	for s, want := range map[string]string{
		"": `""`, "a b": `"a b"`, `"`: `"\""`, `\`: `"\\"`, "\n": `"\n"`, "\t": `"\t"`, "\r": `"\x0d"`, "\x00": `"\x00"`, "\x1f": `"\x1f"`,
		" ": `" "`, "!": `"!"`, "~": `"~"`, "\x7f": `"\x7f"`, "\x80": `"\x80"`, "\xff": `"\xff"`, "é": `"\xc3\xa9"`, "\xab\xcd\xef": `"\xab\xcd\xef"`,
		`\n`: `"\\n"`, "\"\\\n\t\a": `"\"\\\n\t\x07"`, "'/": `"'/"`, "\x0a1": `"\n1"`, "\x0b1": `"\x0b1"`,
	} {
		if got := token.Quote(s); got != want {
			t.Errorf("Quote(%q) = %s, want %s", s, got, want)
		}
	}
	long := strings.Repeat("a\n", 1<<16)
	if got := token.Quote(long); got != `"`+strings.Repeat(`a\n`, 1<<16)+`"` {
		t.Error("Quote of a long string")
	}
}

func TestQuoteBytes(t *testing.T) { // P7.3
	// Everything but these bytes is written in hexadecimal.
	plain := regexp.MustCompile(`\A[ !#-\[\]-~]\z`)
	special := map[string]string{`"`: `\"`, `\`: `\\`, "\n": `\n`, "\t": `\t`}
	var all strings.Builder
	for b := range 256 {
		c := string([]byte{byte(b)})
		want, found := special[c]
		if !found {
			if want = c; !plain.MatchString(c) {
				want = `\x` + strconv.FormatInt(int64(b+256), 16)[1:]
			}
		}
		if got := token.Quote(c); got != `"`+want+`"` {
			t.Errorf("Quote(%q) = %s, want %s", c, got, want)
		}
		all.WriteString(want)
	}
	if got := token.Quote(allBytes()); got != `"`+all.String()+`"` {
		t.Errorf("Quote of all bytes: %s", got)
	}
}

func TestSpell(t *testing.T) { // P7.4
	for _, x := range []struct {
		want string
		l    []api.Token
	}{
		{"", nil}, {"", []api.Token{}}, {"", []api.Token{tokEnd(0)}}, {"a", []api.Token{tokName(0, "a")}}, {"if", []api.Token{tokWord(0, "if")}},
		{"<=", []api.Token{tokSign(0, "<=")}}, {"7", []api.Token{tokInt(0, 7)}}, {"0", []api.Token{tokInt(0, 0)}}, {`"a\n\xff"`, []api.Token{tokText(0, "a\n\xff")}},
		{"-1", []api.Token{tokInt(0, -1)}}, {"-9223372036854775808", []api.Token{tokInt(0, least)}}, {"9223372036854775807", []api.Token{tokInt(0, greatest)}},
		{`""`, []api.Token{tokText(0, "")}},
		{`let x = 10 ;`, []api.Token{tokWord(0, "let"), tokName(4, "x"), tokSign(6, "="), tokInt(8, 10), tokSign(10, ";"), tokEnd(11)}},
		// The offsets do not matter.
		{"b a", []api.Token{tokName(9, "b"), tokName(9, "a")}}, {"b a", []api.Token{tokName(-9, "b"), tokName(least, "a")}},
		// Any text is allowed; an empty one is not omitted.
		{"a b ( \x00\xff", []api.Token{tokName(0, "a b"), tokWord(0, "("), tokSign(0, "\x00\xff")}}, {"  ", []api.Token{tokName(0, ""), tokSign(0, ""), tokWord(0, "")}},
		{" a ", []api.Token{tokName(0, ""), tokName(0, "a"), tokName(0, "")}},
		// Tokens of other kinds leave no space behind, wherever they stand.
		{"a b", []api.Token{tokEnd(0), tokName(0, "a"), tokEnd(0), {Kind: 6, Text: "x", Int: 1}, tokName(0, "b"), {Kind: -1, Text: "y"}, {Kind: least}, {Kind: greatest}}},
		// Fields that a kind does not use do not matter.
		{`3 "s" n`, []api.Token{{Kind: api.TokInt, Text: "x", Int: 3}, {Kind: api.TokText, Text: "s", Int: 4}, {Kind: api.TokName, Text: "n", Int: 5}}},
		{"", []api.Token{{Kind: api.TokEnd, Text: "x", Int: 3}}},
	} {
		before := slices.Clone(x.l)
		if got := token.Spell(x.l); got != x.want {
			t.Errorf("Spell(%v) = %q, want %q", x.l, got, x.want)
		}
		if !slices.Equal(x.l, before) {
			t.Errorf("Spell changes %v to %v", before, x.l)
		}
	}
}

// sources returns texts that Scan accepts.
func sources() []string {
	out := []string{
		"", " \n", "let x = 10;", "a<=b", "a< =b", "f( 1,\"\\x61\")<x;", `"\x41\x0a\xff"`, "-0", "1.5.x", `1"a"2`, `a"b"c`, "a-1", "!=!===", "<=>", "0 0 1 ",
		strings.Repeat("n", api.MaxName) + " " + strings.Repeat("m", api.MaxName), `"` + strings.Repeat("s", api.MaxText) + `"`, keywords, signs,
		"9223372036854775807", `"` + strings.Repeat(`\n`, api.MaxText) + `"`, strings.Repeat("; ", api.MaxSource/2), strings.Repeat(" ", api.MaxSource),
		strings.Repeat(";", api.MaxSource/2), "func main(x) { saga { undo a(1); throw \"x\"; } }", `"""" ""`, `"a""b"`,
	}
	pieces := strings.Fields(keywords + " " + signs)
	pieces = append(pieces, "a", "x1", "_", "0", "42", `""`, `"a b"`, `"\"\\\n\t\x0f"`, `"\x0a"`)
	r := rand.New(rand.NewSource(11))
	for range 2000 {
		var b strings.Builder
		for range r.Intn(30) {
			b.WriteString(pieces[r.Intn(len(pieces))])
			b.WriteString([]string{"", " ", "\t", "\n"}[r.Intn(4)])
		}
		if _, _, e := token.Scan(b.String()); e == api.OK {
			out = append(out, b.String())
		}
	}
	return out
}

func TestOffsets(t *testing.T) { // P7.5
	for _, s := range sources() {
		l, at, e := token.Scan(s)
		if at != 0 || e != api.OK || len(l) == 0 {
			t.Errorf("Scan(%s): %d tokens, %d, %d", short(s), len(l), at, e)
			continue
		}
		last := l[len(l)-1]
		if last != tokEnd(len(s)) {
			t.Errorf("Scan(%s) ends with %v", short(s), last)
		}
		before := -1
		for _, x := range l[:len(l)-1] {
			if x.Kind == api.TokEnd || x.At <= before || x.At > last.At {
				t.Errorf("Scan(%s): %v behind an offset %d", short(s), x, before)
			}
			before = x.At
		}
	}
}

// checkSame tests that Scan of s returns the tokens of l, apart from their offsets.
func checkSame(t *testing.T, s string, l []api.Token) {
	t.Helper()
	got, at, e := token.Scan(s)
	same := slices.EqualFunc(got, l, func(a, b api.Token) bool {
		a.At, b.At = 0, 0
		return a == b
	})
	if !same || at != 0 || e != api.OK {
		t.Errorf("Scan(%s) = %v, %d, %d; want %v", short(s), got, at, e, l)
	}
}

func TestScanOfSpell(t *testing.T) { // P7.6
	compared := 0
	for _, s := range sources() {
		l, _, _ := token.Scan(s)
		text := token.Spell(l)
		if len(text) > api.MaxSource {
			checkFault(t, text, 0, api.ErrSize)
			continue
		}
		checkSame(t, text, l)
		compared++
		// What Spell has written, it writes again.
		again, _, _ := token.Scan(text)
		if got := token.Spell(again); got != text {
			t.Errorf("Spell writes %s, then %s", short(text), short(got))
		}
	}
	if compared < 500 {
		t.Errorf("only %d texts compared", compared)
	}
}

func TestScanOfQuote(t *testing.T) { // P7.7
	samples := []string{
		"", "a", allBytes(), `"`, `\`, `\x41`, `""`, "if", "10", " ", "é", strings.Repeat("s", api.MaxText), strings.Repeat("\"", api.MaxText),
		strings.Repeat("\x00", (api.MaxSource-2)/4), strings.Repeat("\x80", (api.MaxSource-2)/4),
	}
	for a := range 256 {
		for b := range 256 {
			samples = append(samples, string([]byte{byte(a), byte(b)}))
		}
	}
	for _, s := range samples {
		literal := token.Quote(s)
		checkScan(t, literal, tokText(0, s))
		if back, err := strconv.Unquote(literal); back != s || err != nil {
			t.Errorf("Quote(%s) = %s", short(s), short(literal))
		}
	}
	// Beyond one of the limits there is an error.
	checkFault(t, token.Quote(strings.Repeat("s", api.MaxText+1)), 0, api.ErrSize)
	checkFault(t, token.Quote(strings.Repeat("\x00", api.MaxText)), 0, api.ErrSize)
	full := strings.Repeat("\x00", 4095) + "\n"
	if n := len(token.Quote(full)); n != api.MaxSource {
		t.Fatalf("a literal of %d bytes", n)
	}
	checkScan(t, token.Quote(full), tokText(0, full))
}

func TestScanWithBlanks(t *testing.T) { // P7.7
	for _, s := range sources() {
		l, _, _ := token.Scan(s)
		if len(s)+len(l) > api.MaxSource {
			continue
		}
		for _, blank := range []string{" ", "\t", "\n"} {
			for i, x := range l {
				if i < 40 {
					checkSame(t, s[:x.At]+blank+s[x.At:], l)
				}
			}
			var b strings.Builder
			for i, x := range l {
				if i > 0 {
					b.WriteString(s[l[i-1].At:x.At])
				}
				b.WriteString(blank)
			}
			checkSame(t, b.String(), l)
		}
	}
}
