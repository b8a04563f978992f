package vtext_test

import (
	"reflect"
	"strings"
	"testing"

	"workflow/api"
	"workflow/value"
	"workflow/vtext"
)

const (
	least    = -1 << 63
	greatest = 1<<63 - 1
)

func list(items ...api.Value) api.Value {
	return api.Value{Kind: api.VList, Items: items}
}

// dict returns a map without any check, so that it may be malformed.
func dict(keys []string, items ...api.Value) api.Value {
	return api.Value{Kind: api.VMap, Keys: keys, Items: items}
}

func keys(list ...string) []string {
	return list
}

func long(n int) string {
	return strings.Repeat("x", n)
}

// nested returns lists in lists, with a null in the innermost one; its depth is n.
func nested(n int) api.Value {
	v := value.Null()
	for range n - 1 {
		v = list(v)
	}
	return v
}

// nestedText returns the text of nested(n).
func nestedText(n int) string {
	return strings.Repeat("[", n-1) + "null" + strings.Repeat("]", n-1)
}

// wide returns a list with n nodes.
func wide(n int) api.Value {
	return list(make([]api.Value, n-1)...)
}

// wideText returns the canonical text of wide(n).
func wideText(n int) string {
	return "[" + strings.Repeat("null, ", n-2) + "null]"
}

// allBytes returns the string of all 256 bytes.
func allBytes() string {
	var b []byte
	for c := range 256 {
		b = append(b, byte(c))
	}
	return string(b)
}

// sample is a payload and its canonical form.
type sample struct {
	v api.Value
	s string
}

func samples() []sample {
	one, text := value.Int(1), value.Text("x")
	return []sample{
		{value.Null(), "null"}, {value.Bool(true), "true"}, {value.Bool(false), "false"},
		{value.Int(0), "0"}, {value.Int(7), "7"}, {value.Int(-1), "-1"}, {value.Int(10), "10"}, {value.Int(-205), "-205"},
		{value.Int(greatest), "9223372036854775807"}, {value.Int(least), "-9223372036854775808"},
		{value.Text(""), `""`}, {value.Text("a b"), `"a b"`}, {value.Text("a\n\x07"), `"a\n\x07"`},
		{value.Text("\"\\\t\xff\xc3\xa9"), `"\"\\\t\xff\xc3\xa9"`}, {value.Text("{[,:]}"), `"{[,:]}"`},
		{value.Text(long(api.MaxText)), `"` + long(api.MaxText) + `"`},
		{value.Text(strings.Repeat("\x00", api.MaxText)), `"` + strings.Repeat(`\x00`, api.MaxText) + `"`},
		{list(), "[]"}, {list(one), "[1]"}, {list(one, text), `[1, "x"]`}, {list(list(), dict(nil)), "[[], {}]"},
		{list(value.Null(), value.Bool(true), value.Bool(false), value.Int(-3)), "[null, true, false, -3]"},
		{dict(nil), "{}"}, {dict(keys("a"), one), `{"a": 1}`}, {dict(keys(""), text), `{"": "x"}`},
		{dict(keys("A", "a", "aa", "b"), one, one, one, one), `{"A": 1, "a": 1, "aa": 1, "b": 1}`},
		{dict(keys("\x00", "\n", "\"", "\\", "\xff"), one, one, one, one, one),
			`{"\x00": 1, "\n": 1, "\"": 1, "\\": 1, "\xff": 1}`},
		{dict(keys("a", "b"), list(value.Null(), value.Bool(true)), value.Int(-5)), `{"a": [null, true], "b": -5}`},
		{dict(keys("a", "b"), dict(keys("a", "b"), one, list(one, one)), dict(nil)), `{"a": {"a": 1, "b": [1, 1]}, "b": {}}`},
		{list(dict(keys("k"), text), dict(keys("k"), text)), `[{"k": "x"}, {"k": "x"}]`},
		{dict(keys(long(api.MaxText)), one), `{"` + long(api.MaxText) + `": 1}`},
		{nested(api.MaxDepth), nestedText(api.MaxDepth)}, {wide(api.MaxNodes), wideText(api.MaxNodes)},
	}
}

// checkParse tests that s is the text of want.
func checkParse(t *testing.T, s string, want api.Value) {
	t.Helper()
	v, at, e := vtext.Parse(s)
	if e != api.OK || at != 0 || !value.Same(v, want) {
		t.Errorf("Parse(%s) = %v, %d, %d; want %v", short(s), v, at, e, want)
	}
}

// checkFault tests that Parse of s finds the error e at the offset at, and returns nothing else.
func checkFault(t *testing.T, s string, at int, e api.Errno) {
	t.Helper()
	v, gotAt, got := vtext.Parse(s)
	if got != e || gotAt != at {
		t.Errorf("Parse(%s) has the error %d at %d, want %d at %d", short(s), got, gotAt, e, at)
	}
	if !reflect.DeepEqual(v, api.Value{}) {
		t.Errorf("Parse(%s) returns the value %v with an error", short(s), v)
	}
}

// short returns a literal of s, or of its ends if it is long.
func short(s string) string {
	if len(s) > 200 {
		s = s[:100] + " .. " + s[len(s)-100:]
	}
	return vtext.Quote(s)
}
