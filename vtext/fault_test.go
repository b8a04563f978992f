package vtext_test

import (
	"strings"
	"testing"

	"workflow/api"
	"workflow/value"
	"workflow/vtext"
)

func TestParseMalformed(t *testing.T) { // P3.1
	for _, x := range []struct {
		s  string
		at int
	}{
		{"x", 0}, {" x", 1}, {"]", 0}, {"}", 0}, {",", 0}, {":", 0}, {"'a'", 0}, {"\x00", 0}, {"\xff", 0}, {"\xef\xbb\xbfnull", 0},
		{"Null", 0}, {"nULL", 1}, {"nil", 1}, {"nuLl", 2}, {"nulL", 3}, {"nulll", 4}, {"null,", 4}, {"null null", 5}, {"null]", 4},
		{"True", 0}, {"trUe", 2}, {"truE", 3}, {"true1", 4}, {"tfalse", 1}, {"False", 0}, {"faLse", 2}, {"falsE", 4}, {"falsey", 5},
		{"1 1", 2}, {"1,", 1}, {"1]", 1}, {`"a" "b"`, 4}, {`"a"b`, 3}, {`"a""b"`, 3}, {"[] []", 3}, {"[]]", 2}, {"{}}", 2}, {"{}{}", 2},
		{"[,", 1}, {"[,1]", 1}, {"[1,,", 3}, {"[1,]", 3}, {"[1, ]", 4}, {"[1 2]", 3}, {"[1:2]", 2}, {"[1}", 2}, {"[}", 1}, {"[:", 1},
		{`["a": 1]`, 4}, {"[[1]2]", 4}, {"[[]x]", 3},
		{"{1: 2}", 1}, {"{null: 1}", 1}, {"{a: 1}", 1}, {"{[]: 1}", 1}, {"{,", 1}, {"{]", 1}, {"{:", 1}, {`{"a"}`, 4}, {`{"a",`, 4},
		{`{"a" 1}`, 5}, {`{"a"::`, 5}, {`{"a":}`, 5}, {`{"a": }`, 6}, {`{"a":,`, 5}, {`{"a": 1:`, 7}, {`{"a": 1]`, 7}, {`{"a": 1 "b"`, 8},
		{`{"a": 1,}`, 8}, {`{"a": 1, }`, 9}, {`{"a": 1,,`, 8}, {`{"a": 1, 2`, 9}, {`{"a": 1, b`, 9}, {`{"a" = 1`, 5}, {`{"a": x`, 6},
		{`{"a": {"b" 1`, 11}, {`[{"a": [}`, 8}, {`"\q"`, 2}, {`"\x4G"`, 4}, {`"\X41"`, 2}, {`"\u0041"`, 2}, {`"\/"`, 2}, {`"\r"`, 2},
		{"\"a\nb\"", 2}, {"\"a\x7fb\"", 2}, {`{"\q": 1}`, 3}, {`{"a": "\q"}`, 8}, {`["a\` + "\n", 4}, {"//", 0}, {"null//", 4}, {"null\x00", 4},
	} {
		checkFault(t, x.s, x.at, api.ErrForm)
	}
}

func TestParseTwice(t *testing.T) { // P3.1
	for _, x := range []struct {
		s  string
		at int
	}{
		{`{"a": 1, "a": 2}`, 9}, {`{"a":1,"a":1}`, 7}, {`{"a": 1, "b": 2, "a": 3}`, 17}, {`{"": 1, "": 2}`, 8},
		{`{"a": 1, "\x61": 2}`, 9}, {`{"\x61": 1, "a": 2}`, 12}, {`{"\n": 1, "\x0a": 2}`, 10}, {`{"b": 1, "a": 1, "b": 2}`, 17},
		{`[{"a": {"b": 1, "b"`, 16}, {`{"a": {"a": 1}, "a": 2}`, 16}, {` { "a" : 1 ,  "a" : 2 }`, 14},
		// It is found at the closing quote: what follows is not looked at.
		{`{"a": 1, "a"`, 9}, {`{"a": 1, "a"x`, 9}, {`{"a": 1, "a": x`, 9}, {`{"a": 1, "a": 99999999999999999999`, 9}, {`{"a": 1, "a"}`, 9},
	} {
		checkFault(t, x.s, x.at, api.ErrTwice)
	}
	// What stands in front of the closing quote is found first.
	checkFault(t, `{"a": 1, "a`, 11, api.ErrShort)
	checkFault(t, "{\"a\": 1, \"a\n\"", 11, api.ErrForm)
	checkFault(t, `{"a": x, "a": 1}`, 6, api.ErrForm)
	checkFault(t, `{"a": 99999999999999999999, "a": 1}`, 6, api.ErrRange)
	long1, long2 := long(api.MaxText-1)+"1", long(api.MaxText-1)+"2"
	checkFault(t, `{"`+long1+`": 1, "`+long1+`": 2}`, api.MaxText+8, api.ErrTwice)
	checkParse(t, `{"`+long2+`": 2, "`+long1+`": 1}`, dict(keys(long1, long2), value.Int(1), value.Int(2)))
	checkFault(t, `{"`+long1+`": 1, "`+long1+`1": 2}`, api.MaxText+8, api.ErrSize)
}

// whole are texts that do not end with an integer or a blank, so that something must follow every part of them.
func whole() []string {
	return []string{
		"null", "true", "false", `""`, `"ab"`, `"\"\\\n\t\x0f"`, "[]", "{}", "[ ]", "{ }", "[null]", "[1, -20]", ` [ 0 , "x" , [] ]`,
		`{"a": 1}`, ` { "a" : [true], "\x62": { "c" : {} } }`, "[[[-1]]]", nestedText(api.MaxDepth), joined(func(int) string { return "" }),
	}
}

func TestParseShort(t *testing.T) { // P3.1
	for _, s := range []string{"", " ", "\t\r\n "} {
		checkFault(t, s, len(s), api.ErrShort)
	}
	for _, s := range whole() {
		for k := range len(s) {
			checkFault(t, s[:k], k, api.ErrShort)
			// No literal of these texts contains a sign, so blanks are allowed behind each of them.
			if k > 0 && strings.IndexByte("[]{},:", s[k-1]) >= 0 {
				checkFault(t, s[:k]+" \n", k+2, api.ErrShort)
			}
		}
	}
	for _, s := range []string{
		"[1 ", "[1, ", "[null\t", `{"a" `, `{"a": `, `{"a": 1 `, `{"a": 1, `, `{"a": 1, "b" `, `{"a": 1, "b": `, "[[] ", "[{} ",
	} {
		checkFault(t, s, len(s), api.ErrShort)
	}
}

func TestParseLengthLimit(t *testing.T) { // P3.1
	most, more := long(api.MaxText), long(api.MaxText+1)
	checkParse(t, `"`+most+`"`, value.Text(most))
	checkParse(t, `{"`+most+`": "`+most+`"}`, dict(keys(most), value.Text(most)))
	checkParse(t, `"`+strings.Repeat(`\xff`, api.MaxText)+`"`, value.Text(strings.Repeat("\xff", api.MaxText)))
	checkParse(t, `"`+strings.Repeat(`\n`, api.MaxText)+`"`, value.Text(strings.Repeat("\n", api.MaxText)))
	for _, s := range []string{
		more, long(api.MaxText + 2), long(1 << 20), most + `\"`,
		strings.Repeat(`\x00`, api.MaxText+1), strings.Repeat(`\\`, api.MaxText+1),
	} {
		checkFault(t, `"`+s+`"`, 0, api.ErrSize)
		checkFault(t, ` [1, "`+s+`"]`, 5, api.ErrSize)
		checkFault(t, `{ "`+s+`": 1}`, 2, api.ErrSize)
		checkFault(t, `{"a": 1, "`+s+`": 1}`, 9, api.ErrSize)
		checkFault(t, `{"a": "`+s+`"}`, 6, api.ErrSize)
		// It is found at the closing quote, so what stands in front of that is found first, and nothing behind it.
		checkFault(t, `"`+s+`"x`, 0, api.ErrSize)
		checkFault(t, `{"`+s+`"x`, 1, api.ErrSize)
		checkFault(t, `"`+s, 1+len(s), api.ErrShort)
		checkFault(t, `"`+s+"\n\"", 1+len(s), api.ErrForm)
		checkFault(t, `"`+s+`\q"`, 2+len(s), api.ErrForm)
		checkFault(t, `{"`+s+`\x4`, 5+len(s), api.ErrShort)
	}
}

func TestParseDepthLimit(t *testing.T) { // P3.1
	most := strings.Repeat("[", api.MaxDepth)
	inner := strings.Repeat("[", api.MaxDepth-1)
	ends := strings.Repeat("]", api.MaxDepth-1)
	for _, s := range []string{"null", "true", "false", "-5", "0", `"x"`, "[]", "{}", "[ ]", "{ }"} {
		v, _, e := vtext.Parse(inner + s + ends)
		if e != api.OK || value.Depth(v) != api.MaxDepth {
			t.Errorf("%s at the depth %d: %d", s, api.MaxDepth, e)
		}
		checkFault(t, most+s+ends+"]", api.MaxDepth, api.ErrDepth)
		checkFault(t, most+" "+s+ends+"]", api.MaxDepth+1, api.ErrDepth)
		checkFault(t, inner+`{"a": `+s+"}"+ends, api.MaxDepth+5, api.ErrDepth)
	}
	checkFault(t, strings.Repeat("[", 1<<20), api.MaxDepth, api.ErrDepth)
	checkFault(t, strings.Repeat(`{"a":`, 1<<18), 5*api.MaxDepth, api.ErrDepth)
	// It is found at the first byte, if that can begin a value, so nothing behind it is found.
	for _, s := range []string{
		"n", "nx", "t", "f", "-", "-0", "00", `"`, "\"\n", "[", "[x", "{", "99999999999999999999", `"` + long(api.MaxText+1) + `"`,
	} {
		checkFault(t, most+s, api.MaxDepth, api.ErrDepth)
	}
	for _, s := range []string{"x", ",", "}", ":", "\x00", "+1"} {
		checkFault(t, most+s, api.MaxDepth, api.ErrForm)
	}
	checkFault(t, most, api.MaxDepth, api.ErrShort)
	// The errors of a key are found before that of its value.
	checkFault(t, inner+`{x`, api.MaxDepth, api.ErrForm)
	checkFault(t, inner+`{"`+long(api.MaxText+1)+`":1`, api.MaxDepth, api.ErrSize)
	checkFault(t, inner+`{"a"1`, api.MaxDepth+3, api.ErrForm)
	// The depth falls again behind a list.
	checkParse(t, "["+nestedText(api.MaxDepth-1)+","+nestedText(api.MaxDepth-1)+"]", list(nested(api.MaxDepth-1), nested(api.MaxDepth-1)))
}

func TestParseNodeLimit(t *testing.T) { // P3.1
	most := "[" + strings.Repeat("0,", api.MaxNodes-1)
	for _, s := range []string{"null", "true", "false", "-5", "0", `"x"`, "[]", "{}"} {
		v, _, e := vtext.Parse(most[:len(most)-2] + s + "]")
		if e != api.OK || value.Size(v) != api.MaxNodes {
			t.Errorf("%s as the last value: %d", s, e)
		}
		checkFault(t, most+s+"]", len(most), api.ErrSize)
		checkFault(t, most+" "+s+"]", len(most)+1, api.ErrSize)
		checkFault(t, most[:len(most)-2]+"["+s+"]]", len(most)-1, api.ErrSize)
		checkFault(t, most[:len(most)-2]+`{"a":`+s+"}]", len(most)+3, api.ErrSize)
	}
	// It is found at the first byte, if that can begin a value.
	for _, s := range []string{
		"n", "nx", "-", "-0", "00", `"`, "\"\n", "[", "{", "99999999999999999999", `"` + long(api.MaxText+1) + `"`,
	} {
		checkFault(t, most+s, len(most), api.ErrSize)
	}
	for _, s := range []string{"x", ",", "]", "}", ":", "\x00"} {
		checkFault(t, most+s, len(most), api.ErrForm)
	}
	checkFault(t, most, len(most), api.ErrShort)
	checkFault(t, most+strings.Repeat("0,", 1<<20), len(most), api.ErrSize)
}

func TestParseNodeLimitCountsAllValues(t *testing.T) { // P3.1
	// Every value counts as one, a key as none: a map of n lists of one integer has 2n + 1 nodes.
	var entries []string
	for i := range (api.MaxNodes - 1) / 2 {
		entries = append(entries, `"`+long(i)+`": [1]`)
	}
	s := "{" + strings.Join(entries, ", ")
	if v, _, e := vtext.Parse(s + `, "y": 1}`); e != api.OK || value.Size(v) != api.MaxNodes {
		t.Errorf("Parse of a map with %d nodes: %d", api.MaxNodes, e)
	}
	checkFault(t, s+`, "y": [1]}`, len(s)+8, api.ErrSize)
	checkFault(t, s+`, "y": 1, "z": 1}`, len(s)+15, api.ErrSize)
	checkFault(t, s+`, "y": 1, "y": 1}`, len(s)+10, api.ErrTwice)
	checkFault(t, s+`, "y": 1, "`+long(api.MaxText+1)+`": 1}`, len(s)+10, api.ErrSize)
}

func TestParseDepthBeforeNodes(t *testing.T) { // P3.1
	// The list at the greatest depth is the last value that is allowed, so the value in it exceeds both limits.
	s := "[" + strings.Repeat("0,", api.MaxNodes-api.MaxDepth) + strings.Repeat("[", api.MaxDepth-1)
	v, _, e := vtext.Parse(s + strings.Repeat("]", api.MaxDepth))
	if e != api.OK || value.Size(v) != api.MaxNodes || value.Depth(v) != api.MaxDepth {
		t.Errorf("Parse at both limits: %d", e)
	}
	checkFault(t, s+"0", len(s), api.ErrDepth)
	checkFault(t, s+"],0", len(s)+2, api.ErrSize)
	checkFault(t, s+"x", len(s), api.ErrForm)
}
