package vtext_test

import (
	"fmt"
	"strings"
	"testing"

	"workflow/api"
	"workflow/value"
	"workflow/vtext"
)

// spelled returns what stands for a byte in a literal.
func spelled(c byte) string {
	switch c {
	case 34:
		return `\"`
	case 92:
		return `\\`
	case 10:
		return `\n`
	case 9:
		return `\t`
	}
	if c < 32 || c > 126 {
		return fmt.Sprintf(`\x%02x`, c)
	}
	return string(rune(c))
}

func TestQuoteEveryByte(t *testing.T) { // P3.1
	for c := range 256 {
		one := string([]byte{byte(c)})
		if got, want := vtext.Quote(one), `"`+spelled(byte(c))+`"`; got != want {
			t.Errorf("Quote of the byte %d = %s, want %s", c, got, want)
		}
		if got, want := vtext.Quote("a"+one+one+"0"), `"a`+spelled(byte(c))+spelled(byte(c))+`0"`; got != want {
			t.Errorf("Quote of the byte %d among others = %s, want %s", c, got, want)
		}
	}
}

func TestQuote(t *testing.T) { // P3.1
	var all strings.Builder
	for _, c := range []byte(allBytes()) {
		all.WriteString(spelled(c))
	}
	for _, x := range []struct{ s, want string }{
		{"", `""`}, {"a\n\x07", `"a\n\x07"`}, {`"`, `"\""`}, {`\`, `"\\"`}, {`\n`, `"\\n"`}, {`\x41`, `"\\x41"`},
		{"\r", `"\x0d"`}, {" ~", `" ~"`}, {"\x1f\x7f", `"\x1f\x7f"`}, {"é", `"\xc3\xa9"`}, {"/'", `"/'"`},
		{allBytes(), `"` + all.String() + `"`},
		// Quote takes any string, whatever its length.
		{long(api.MaxText + 1), `"` + long(api.MaxText+1) + `"`},
		{strings.Repeat("\xff", 3*api.MaxText), `"` + strings.Repeat(`\xff`, 3*api.MaxText) + `"`},
	} {
		if got := vtext.Quote(x.s); got != x.want {
			t.Errorf("Quote(%q) = %s, want %s", x.s, got, x.want)
		}
	}
}

func TestPrint(t *testing.T) { // P3.1
	for _, x := range samples() {
		if got, e := vtext.Print(x.v); got != x.s || e != api.OK {
			t.Errorf("Print(%v) = %s, %d; want %s", x.v, short(got), e, short(x.s))
		}
	}
}

func TestPrintWritesLiteralsLikeQuote(t *testing.T) { // P3.1
	s := allBytes()
	if got, e := vtext.Print(value.Text(s)); got != vtext.Quote(s) || e != api.OK {
		t.Errorf("Print of a string with all bytes = %s, %d", got, e)
	}
	want := "{" + vtext.Quote(s) + ": " + vtext.Quote(s) + "}"
	if got, e := vtext.Print(dict(keys(s), value.Text(s))); got != want || e != api.OK {
		t.Errorf("Print of a map with all bytes = %s, %d", got, e)
	}
}

// invalid returns values that are not valid payloads.
func invalid() []api.Value {
	one, tooLong := value.Int(1), long(api.MaxText+1)
	leaves := []api.Value{
		{Kind: api.VFuture}, {Kind: api.VFuture, Int: 3}, {Kind: -1}, {Kind: 7}, {Kind: least}, {Kind: greatest},
		{Int: 1}, {Text: "x"}, {Items: []api.Value{{}}}, {Keys: keys("k")},
		{Kind: api.VBool, Int: 2}, {Kind: api.VBool, Int: -1}, {Kind: api.VBool, Int: 1, Text: "x"},
		{Kind: api.VInt, Text: "x"}, {Kind: api.VInt, Items: []api.Value{{}}}, {Kind: api.VText, Int: 1},
		{Kind: api.VText, Keys: keys("k")}, {Kind: api.VList, Int: 1}, {Kind: api.VList, Keys: keys("k")},
		dict(keys("a", "a"), one, one), dict(keys("b", "a"), one, one), dict(keys("a")), dict(nil, one),
		{Kind: api.VMap, Text: "x"}, value.Text(tooLong), dict(keys(tooLong), one),
	}
	out := []api.Value{nested(api.MaxDepth + 1), wide(api.MaxNodes + 1), list(wide(api.MaxNodes-1), one)}
	for _, v := range leaves {
		out = append(out, v, list(v), list(one, list(v)), dict(keys("a", "b"), one, v))
	}
	return out
}

func TestPrintRejects(t *testing.T) { // P3.1
	for _, v := range invalid() {
		if got, e := vtext.Print(v); got != "" || e != api.ErrArg {
			t.Errorf("Print(%v) = %s, %d", v, short(got), e)
		}
	}
}

func TestPrintLooksAtLengthsOnly(t *testing.T) { // P3.1, R5
	items := []api.Value{value.Int(1), value.Int(2), {Kind: 9}}
	names := keys("a", "b", "a")
	v := dict(names[:2], list(items[:1]...), api.Value{Kind: api.VList, Items: items[:2]})
	if got, e := vtext.Print(v); got != `{"a": [1], "b": [1, 2]}` || e != api.OK {
		t.Errorf("Print = %s, %d", got, e)
	}
	if items[2].Kind != 9 || names[2] != "a" {
		t.Error("Print has written between the length and the capacity of an argument")
	}
}
