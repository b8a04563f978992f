package vtext_test

import (
	"fmt"
	"strings"
	"testing"

	"workflow/api"
	"workflow/value"
	"workflow/vtext"
)

func TestParseCanonical(t *testing.T) { // P3.1
	for _, x := range samples() {
		checkParse(t, x.s, x.v)
	}
}

// pieces returns the tokens of a text with all signs and all kinds of values.
func pieces() []string {
	return strings.Split(`{ "b" : [ 1 , -20 , [ ] , { } , [ [ null ] ] ] , "a" : { "c" : "x" } , "" : true , "d" : false }`, " ")
}

func piecesValue() api.Value {
	items := list(value.Int(1), value.Int(-20), list(), dict(nil), list(list(value.Null())))
	inner := dict(keys("c"), value.Text("x"))
	return dict(keys("", "a", "b", "d"), value.Bool(true), inner, items, value.Bool(false))
}

// joined joins the pieces with a gap before each of them and one at the end.
func joined(gap func(i int) string) string {
	var b strings.Builder
	for i, piece := range pieces() {
		b.WriteString(gap(i) + piece)
	}
	return b.String() + gap(len(pieces()))
}

func TestParseBlanks(t *testing.T) { // P3.1
	for _, gap := range []string{"", " ", "\t", "\n", "\r", "  ", "\r\n", " \t\n\r\n\t ", strings.Repeat(" ", 100000)} {
		checkParse(t, joined(func(int) string { return gap }), piecesValue())
	}
	for i := range len(pieces()) + 1 {
		for _, gap := range []string{" ", "\t", "\n", "\r"} {
			checkParse(t, joined(func(at int) string {
				if at == i {
					return gap
				}
				return ""
			}), piecesValue())
		}
	}
	for _, x := range samples() {
		checkParse(t, " \t\r\n"+x.s+"\n\r\t ", x.v)
	}
}

func TestParseOtherBlanks(t *testing.T) { // P3.1
	// Only the bytes 32, 9, 10 and 13 are blanks.
	for c := range 256 {
		if strings.IndexByte(" \t\n\r", byte(c)) >= 0 {
			continue
		}
		b := string([]byte{byte(c)})
		checkFault(t, "null"+b, 4, api.ErrForm)
		if strings.IndexByte(`ntf"[{-0123456789`, byte(c)) < 0 {
			checkFault(t, b+"null", 0, api.ErrForm)
			checkFault(t, "  "+b, 2, api.ErrForm)
			checkFault(t, `{"a":`+b+"1}", 5, api.ErrForm)
			if c != ']' {
				checkFault(t, "["+b+"1]", 1, api.ErrForm)
			}
		}
	}
}

func TestParseBlanksWithinTokens(t *testing.T) { // P3.1
	for _, b := range []string{" ", "\t", "\n", "\r"} {
		for _, x := range []string{"n_ull", "nu_ll", "nul_l", "t_rue", "tru_e", "f_alse", "fals_e", "-_1", "1_0", "-1_0", "0_0"} {
			at := strings.IndexByte(x, '_')
			if x[at-1] >= '0' && x[at-1] <= '9' {
				at++ // A blank may stand behind an integer, but nothing may follow it.
			}
			checkFault(t, strings.Replace(x, "_", b, 1), at, api.ErrForm)
		}
		checkFault(t, `"\`+b+`n"`, 2, api.ErrForm)
		checkFault(t, `"\x`+b+`41"`, 3, api.ErrForm)
		checkFault(t, `"\x4`+b+`1"`, 4, api.ErrForm)
		if b == " " {
			checkParse(t, `" a "`, value.Text(" a "))
		} else {
			checkFault(t, `"`+b+`a"`, 1, api.ErrForm)
		}
	}
}

func TestParseKeysInAnyOrder(t *testing.T) { // P3.1
	names := keys("", "A", "a", "aa", "\xff")
	want := dict(names)
	for i := range names {
		want.Items = append(want.Items, value.Int(i))
	}
	orders := [][]int{{}}
	for i := range names {
		var longer [][]int
		for _, order := range orders {
			for at := range len(order) + 1 {
				next := append(append(append([]int{}, order[:at]...), i), order[at:]...)
				longer = append(longer, next)
			}
		}
		orders = longer
	}
	if len(orders) != 120 {
		t.Fatalf("%d orders", len(orders))
	}
	for _, order := range orders {
		var entries []string
		for _, i := range order {
			entries = append(entries, fmt.Sprintf("%s: %d", vtext.Quote(names[i]), i))
		}
		s := "{" + strings.Join(entries, ",") + "}"
		checkParse(t, s, want)
		checkParse(t, "["+s+", "+s+"]", list(want, want))
	}
}

func TestParseSameKeyInOtherMaps(t *testing.T) { // P3.1
	one := value.Int(1)
	inner := dict(keys("a"), one)
	checkParse(t, `{"a": {"a": 1}, "b": {"a": 1}}`, dict(keys("a", "b"), inner, inner))
	checkParse(t, `[{"a": 1}, {"a": 1}]`, list(inner, inner))
	checkParse(t, `{"b": {"a": 1}, "a": "a"}`, dict(keys("a", "b"), value.Text("a"), inner))
}

func TestParseBytesOfLiterals(t *testing.T) { // P3.1
	for c := range 256 {
		b := string([]byte{byte(c)})
		switch {
		case b == `"`:
			checkFault(t, `"a"b"`, 3, api.ErrForm)
			checkFault(t, `{"a"b": 1}`, 4, api.ErrForm)
		case b == `\`:
			checkParse(t, `"a\n"`, value.Text("a\n"))
		case c >= 32 && c <= 126:
			checkParse(t, `"a`+b+`b"`, value.Text("a"+b+"b"))
			checkParse(t, `{"`+b+`": 1}`, dict(keys(b), value.Int(1)))
		default:
			checkFault(t, `"a`+b+`b"`, 2, api.ErrForm)
			checkFault(t, `"`+b, 1, api.ErrForm)
			checkFault(t, ` {"`+b+`": 1}`, 3, api.ErrForm)
		}
	}
}

func TestParseEscapes(t *testing.T) { // P3.1
	for c := range 256 {
		b := string([]byte{byte(c)})
		stands := map[string]string{`"`: `"`, `\`: `\`, "n": "\n", "t": "\t", "x": "A"}[b]
		text := `"a\` + b + `41"`
		switch {
		case b == "x":
			checkParse(t, text, value.Text("aA"))
		case stands != "":
			checkParse(t, text, value.Text("a"+stands+"41"))
			checkParse(t, `{"\`+b+`": 1}`, dict(keys(stands), value.Int(1)))
		default:
			checkFault(t, text, 3, api.ErrForm)
			checkFault(t, `"\`+b, 2, api.ErrForm)
			checkFault(t, `{"\`+b+`": 1}`, 3, api.ErrForm)
		}
	}
	checkParse(t, `"\\n\\\"\"\n\t\x0a"`, value.Text("\\n\\\"\"\n\t\n"))
	checkParse(t, `"\x41"`, value.Text("A"))
	checkParse(t, `"\x22\x5c"`, value.Text(`"\`))
}

func TestParseHexadecimal(t *testing.T) { // P3.1
	for c := range 256 {
		one := string([]byte{byte(c)})
		checkParse(t, fmt.Sprintf(`"\x%02x"`, c), value.Text(one))
		checkParse(t, fmt.Sprintf(`{"\x%02x0": 1}`, c), dict(keys(one+"0"), value.Int(1)))
		if strings.IndexByte("0123456789abcdef", byte(c)) >= 0 {
			continue
		}
		checkFault(t, `"\x`+one+`0"`, 3, api.ErrForm)
		checkFault(t, `"\x0`+one+`"`, 4, api.ErrForm)
		checkFault(t, `"\x`+one, 3, api.ErrForm)
		checkFault(t, `"\xf`+one, 4, api.ErrForm)
	}
}

func TestParseIntegers(t *testing.T) { // P3.1
	for _, x := range []struct {
		s string
		n int
	}{
		{"0", 0}, {"1", 1}, {"9", 9}, {"-1", -1}, {"-9", -9}, {"10", 10}, {"100", 100}, {"-100", -100}, {"1234567890", 1234567890},
		{"9223372036854775807", greatest}, {"9223372036854775806", greatest - 1}, {"999999999999999999", 999999999999999999},
		{"-9223372036854775808", least}, {"-9223372036854775807", least + 1},
	} {
		checkParse(t, x.s, value.Int(x.n))
		checkParse(t, "["+x.s+","+x.s+"]", list(value.Int(x.n), value.Int(x.n)))
		checkParse(t, `{"k":`+x.s+"}", dict(keys("k"), value.Int(x.n)))
	}
}

func TestParseMalformedIntegers(t *testing.T) { // P3.1
	for _, x := range []struct {
		s  string
		at int
		e  api.Errno
	}{
		{"00", 1, api.ErrForm}, {"01", 1, api.ErrForm}, {"09", 1, api.ErrForm}, {"-0", 1, api.ErrForm}, {"-01", 1, api.ErrForm},
		{"-", 1, api.ErrShort}, {"--1", 1, api.ErrForm}, {"-a", 1, api.ErrForm}, {"- 1", 1, api.ErrForm}, {"+1", 0, api.ErrForm},
		{"1.5", 1, api.ErrForm}, {"1e3", 1, api.ErrForm}, {"1_0", 1, api.ErrForm}, {"0x1", 1, api.ErrForm}, {"1-", 1, api.ErrForm},
		{"0-", 1, api.ErrForm}, {"1a", 1, api.ErrForm}, {`1"`, 1, api.ErrForm}, {"[1-2]", 2, api.ErrForm}, {"[01]", 2, api.ErrForm},
		{"[-0]", 2, api.ErrForm}, {`{"a": 01}`, 7, api.ErrForm}, {`{"a": -}`, 7, api.ErrForm}, {"[-", 2, api.ErrShort},
		{"0" + strings.Repeat("0", 100), 1, api.ErrForm}, {"-0" + strings.Repeat("9", 100), 1, api.ErrForm},
	} {
		checkFault(t, x.s, x.at, x.e)
	}
}

func TestParseIntegersBeyond64Bits(t *testing.T) { // P3.1
	for _, n := range []string{
		"9223372036854775808", "9223372036854775810", "10000000000000000000", "18446744073709551615", "18446744073709551616",
		"18446744073709551617", "-9223372036854775809", "-10000000000000000000", "-18446744073709551615", "-18446744073709551617",
		"340282366920938463463374607431768211457", strings.Repeat("1", 1000), "1" + strings.Repeat("0", 1<<20), "-" + strings.Repeat("9", 1<<20),
	} {
		checkFault(t, n, 0, api.ErrRange)
		checkFault(t, " \n"+n+" ", 2, api.ErrRange)
		checkFault(t, "[1, "+n+"]", 4, api.ErrRange)
		checkFault(t, `{"a": `+n+"}", 6, api.ErrRange)
		// The digits have ended: what follows is not looked at.
		for _, tail := range []string{"", "x", " x", "\x00", "-", ".", "[", ",", "]", "}", `"`} {
			checkFault(t, n+tail, 0, api.ErrRange)
			checkFault(t, "["+n+tail, 1, api.ErrRange)
			checkFault(t, `{"a":`+n+tail, 5, api.ErrRange)
		}
		// An error in front of it is found first.
		checkFault(t, "[x, "+n, 1, api.ErrForm)
		checkFault(t, "[0"+n, 2, api.ErrForm)
	}
}

// slots returns the addresses of all elements of the slices in v, those between length and capacity among them.
func slots(v api.Value) []any {
	var out []any
	for i := range v.Items[:cap(v.Items)] {
		out = append(out, &v.Items[:cap(v.Items)][i])
	}
	for i := range v.Keys[:cap(v.Keys)] {
		out = append(out, &v.Keys[:cap(v.Keys)][i])
	}
	for _, item := range v.Items {
		out = append(out, slots(item)...)
	}
	return out
}

func TestParseMemory(t *testing.T) { // R5
	taken := map[any]bool{}
	for range 2 {
		v, _, e := vtext.Parse(`{"a": [[1, 2], [1, 2], {"k": [3]}], "b": {"k": [3]}, "c": [1, 2, 3]}`)
		if e != api.OK {
			t.Fatal(e)
		}
		for _, p := range slots(v) {
			if taken[p] {
				t.Fatal("two slices share memory")
			}
			taken[p] = true
		}
	}
}
