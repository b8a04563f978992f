package vtext_test

import (
	"encoding/json"
	"strings"
	"testing"

	"workflow/api"
	"workflow/value"
	"workflow/vtext"
)

// canonical returns Print of a payload.
func canonical(t *testing.T, v api.Value) string {
	t.Helper()
	s, e := vtext.Print(v)
	if e != api.OK {
		t.Fatalf("Print(%v): %d", v, e)
	}
	return s
}

// forests returns payloads of many shapes: each level puts those of the level below into lists and maps.
func forests() []api.Value {
	level := []api.Value{value.Null(), value.Bool(true), value.Int(-12), value.Text("\"a\\\n")}
	out := level
	for range 3 {
		var next []api.Value
		for i, v := range level {
			w := level[(i+1)%len(level)]
			next = append(next, list(v), list(v, w), list(w, list(), v), dict(keys("k"), v), dict(keys("", "\t", "x y"), v, w, v))
		}
		level = next
		out = append(out, level...)
	}
	return out
}

func payloads() []api.Value {
	out := append(forests(), value.Text(allBytes()), dict(keys(allBytes()), value.Text(allBytes())))
	for _, x := range samples() {
		out = append(out, x.v)
	}
	return out
}

func TestPrintIsParsed(t *testing.T) { // P3.2
	for _, v := range payloads() {
		s := canonical(t, v)
		for _, gap := range []string{"", " ", "\n", "\t\r\n "} {
			checkParse(t, gap+s, v)
			checkParse(t, s+gap, v)
			checkParse(t, gap+s+gap, v)
		}
	}
}

// eachText calls visit with every text of at most n bytes of an alphabet, but not with those that go on behind a byte at which
// Parse finds ErrForm.
func eachText(alphabet, prefix string, n int, visit func(s string)) {
	visit(prefix)
	if _, _, e := vtext.Parse(prefix); n == 0 || e == api.ErrForm {
		return
	}
	for i := range len(alphabet) {
		eachText(alphabet, prefix+alphabet[i:i+1], n-1, visit)
	}
}

func TestParseLikeJSON(t *testing.T) { // P3.1
	// Over this alphabet the texts are those of JSON, apart from -0 and equal keys, which JSON allows.
	eachText("[]{},:\"012- a", "", 6, func(s string) {
		_, _, e := vtext.Parse(s)
		if valid := json.Valid([]byte(s)); valid != (e == api.OK) && !strings.Contains(s, "-0") && e != api.ErrTwice {
			t.Errorf("Parse(%s): %d, but JSON: %t", short(s), e, valid)
		}
	})
}

func TestPrintOfParse(t *testing.T) { // P3.3
	count := 0
	check := func(s string) {
		v, at, e := vtext.Parse(s)
		if e != api.OK {
			return
		}
		count++
		if at != 0 || !value.Right(v) {
			t.Errorf("Parse(%s) = %v, %d, which is not a payload", short(s), v, at)
		}
		checkParse(t, canonical(t, v), v)
	}
	eachText("[]{},:\"12- a", "", 5, check)
	eachText(`"\nx4af 0`, `"`, 6, check)
	for _, s := range whole() {
		check(s)
	}
	if count < 1000 {
		t.Errorf("only %d texts were accepted", count)
	}
}

func TestCanonicalForms(t *testing.T) { // P3.3
	for _, x := range samples() {
		if got := canonical(t, x.v); got != x.s {
			t.Errorf("Print of what Parse returns for %s is %s", short(x.s), short(got))
		}
	}
	for _, s := range []string{
		" 1", "1 ", "[ ]", "{ }", "[1,2]", "[1 , 2]", "[1,  2]", "[1,\n2]", "[ 1]", "[1 ]", `{"a":1}`, `{"a" : 1}`, `{"a":  1}`, `{ "a": 1}`,
		`{"a": 1 }`, `{"b": 1, "a": 2}`, `{"a": 1,"b": 2}`, `"\x41"`, `"\x0a"`, `"\x09"`, `"\x22"`, `"\x5c"`, `{"\x61": 1}`, `[["\x20"]]`,
	} {
		v, _, e := vtext.Parse(s)
		if got := canonical(t, v); e != api.OK || got == s {
			t.Errorf("Print of what Parse returns for %s is %s, %d", short(s), short(got), e)
		}
	}
	for _, s := range []string{"", "x", "01", "-0", `"`, "[1,]", `"\x4A"`, nestedText(api.MaxDepth + 1), wideText(api.MaxNodes + 1)} {
		v, _, e := vtext.Parse(s)
		if got := canonical(t, v); e == api.OK || got == s {
			t.Errorf("Parse(%s) = %v, %d", short(s), v, e)
		}
	}
}

// checkFirstBadByte tests P3.4 for a text and reports whether Parse returns ErrForm for it.
func checkFirstBadByte(t *testing.T, s string) bool {
	t.Helper()
	_, k, e := vtext.Parse(s)
	if e != api.ErrForm {
		return false
	}
	tails := []string{"0", "]", "}", `"`, ",", ":", " ", "null", "\x00", strings.Repeat("[", 20), "99999999999999999999"}
	for _, tail := range append(tails, "", s[k+1:]) {
		checkFault(t, s[:k+1]+tail, k, api.ErrForm)
	}
	if _, at, e := vtext.Parse(s[:k]); e != api.OK && e != api.ErrRange && (e != api.ErrShort || at != k) {
		t.Errorf("Parse(%s) has the error %d at %d", short(s[:k]), e, at)
	}
	return true
}

func TestFirstBadByte(t *testing.T) { // P3.4
	deep := strings.Repeat("[", 2*api.MaxDepth)
	texts := append(whole(), "-12", "0", "7 ", `[99999999999999999999, x]`, `{"a": 1, "a": x}`, deep+"x")
	for _, s := range texts {
		for k := range len(s) + 1 {
			bad := 0
			for c := range 256 {
				b := string([]byte{byte(c)})
				if checkFirstBadByte(t, s[:k]+b+s[min(k+1, len(s)):]) {
					bad++
				}
			}
			// Nowhere can all bytes continue a text, unless another error has been found before.
			if _, _, e := vtext.Parse(s[:k]); bad == 0 && (e == api.OK || e == api.ErrShort) {
				t.Errorf("every byte can continue %s", short(s[:k]))
			}
		}
	}
}

func TestFirstBadByteOfShortTexts(t *testing.T) { // P3.4
	eachText("[]{},:\"12-0 n", "", 5, func(s string) {
		if !checkFirstBadByte(t, s) {
			return
		}
		// eachText stops at the first bad byte, so that is the last one.
		checkFault(t, s, len(s)-1, api.ErrForm)
	})
	eachText(`"\nx4ag `, `"`, 5, func(s string) { checkFirstBadByte(t, s) })
}
