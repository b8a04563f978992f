package wire_test

import (
	"strings"
	"testing"

	"workflow/api"
	"workflow/wire"
)

// tails returns bytes that can follow an encoding without changing how it is read.
func tails() []string {
	return []string{"", "\x00", "\x01", "\x7f", "\x80", "\xff\xff\xff", "ab", strings.Repeat("\x80", 12)}
}

func open(s string) *wire.Reader { return wire.Open([]byte(s)) }

// expect checks the state of a reader that has no error.
func expect(t *testing.T, r *wire.Reader, left int) {
	t.Helper()
	if r.Err() != api.OK || r.Left() != left {
		t.Errorf("error %d with %d bytes left, want none with %d", r.Err(), r.Left(), left)
	}
}

// failed checks that a reader keeps the error e, whatever is called.
func failed(t *testing.T, r *wire.Reader, e api.Errno) {
	t.Helper()
	for range 2 {
		if r.Err() != e || r.End() != e || r.Left() != 0 {
			t.Errorf("Err %d, End %d, Left %d, want the error %d", r.Err(), r.End(), r.Left(), e)
		}
		r.Fail(api.ErrSum)
		r.Fail(api.OK)
		if n, s, yes := r.Int(least, greatest), r.Text(greatest), r.Bool(); n != 0 || s != "" || yes {
			t.Errorf("after an error: %d, %q, %v", n, s, yes)
		}
	}
}

func TestOpenReadsFromFront(t *testing.T) { // P1.2
	b := wire.PutInt(nil, -65)
	b = wire.PutText(b, "ab")
	b = wire.PutBool(b, true)
	b = wire.PutInt(b, 7)
	b = wire.PutBool(b, false)
	r := wire.Open(b)
	expect(t, r, 8)
	if n := r.Int(least, greatest); n != -65 {
		t.Errorf("Int = %d", n)
	}
	expect(t, r, 6)
	if s := r.Text(2); s != "ab" {
		t.Errorf("Text = %q", s)
	}
	expect(t, r, 3)
	if !r.Bool() {
		t.Error("Bool = false")
	}
	expect(t, r, 2)
	if n := r.Int(7, 7); n != 7 {
		t.Errorf("Int = %d", n)
	}
	expect(t, r, 1)
	if r.Bool() {
		t.Error("Bool = true")
	}
	expect(t, r, 0)
	if r.End() != api.OK {
		t.Errorf("End = %d", r.End())
	}
}

func TestOpenEmpty(t *testing.T) { // P1.2
	for _, b := range [][]byte{nil, {}, []byte("ab")[:0]} {
		r := wire.Open(b)
		expect(t, r, 0)
		if r.End() != api.OK {
			t.Errorf("End = %d", r.End())
		}
		r.Int(least, greatest)
		failed(t, r, api.ErrShort)
		r = wire.Open(b)
		_ = r.Text(9)
		failed(t, r, api.ErrShort)
		r = wire.Open(b)
		r.Bool()
		failed(t, r, api.ErrShort)
	}
}

func TestOpenCopies(t *testing.T) { // P1.2, R5
	b := []byte("\x02\x04ab\x01????")
	r, other := wire.Open(b[:5]), wire.Open(b[:5])
	expect(t, r, 5)
	clear(b)
	if n, s, yes := r.Int(0, 9), r.Text(9), r.Bool(); n != 1 || s != "ab" || !yes || r.End() != api.OK {
		t.Errorf("after a change of the argument: %d, %q, %v, %d", n, s, yes, r.End())
	}
	expect(t, other, 5)

	b = []byte("\x02\x04ab\x01????")
	r = wire.Open(b[:5])
	r.Int(0, 9)
	_ = r.Text(9)
	r.Bool()
	r.Bool()
	if string(b) != "\x02\x04ab\x01????" {
		t.Errorf("reading changed the argument: %q", b)
	}
	failed(t, r, api.ErrShort)
}

func TestTextKept(t *testing.T) { // P1.4, R5
	b := []byte("\x04ab\x04cd")
	r := wire.Open(b)
	one := r.Text(2)
	clear(b)
	two := r.Text(2)
	if one != "ab" || two != "cd" {
		t.Errorf("Text = %q, then %q", one, two)
	}
}

func TestIntLimits(t *testing.T) { // P1.3
	for _, x := range []struct {
		n, low, high int
		want         api.Errno
	}{
		{5, 5, 5, api.OK}, {5, 5, 9, api.OK}, {5, 0, 5, api.OK}, {5, least, greatest, api.OK},
		{5, 6, 9, api.ErrRange}, {5, 0, 4, api.ErrRange}, {5, 9, 0, api.ErrRange}, {5, 6, 4, api.ErrRange},
		{0, 1, greatest, api.ErrRange}, {0, least, -1, api.ErrRange}, {0, 0, 0, api.OK},
		{-5, -5, -5, api.OK}, {-5, -4, 0, api.ErrRange}, {-5, -9, -6, api.ErrRange},
		{least, least, least, api.OK}, {least, least + 1, greatest, api.ErrRange},
		{greatest, greatest, greatest, api.OK}, {greatest, least, greatest - 1, api.ErrRange},
		{64, 64, 64, api.OK}, {64, 65, 99, api.ErrRange}, {64, 0, 63, api.ErrRange},
	} {
		r := wire.Open(append(model(x.n), 1))
		n := r.Int(x.low, x.high)
		if x.want == api.OK {
			if n != x.n {
				t.Errorf("Int(%d, %d) = %d, want %d", x.low, x.high, n, x.n)
			}
			expect(t, r, 1)
			continue
		}
		if n != 0 {
			t.Errorf("Int(%d, %d) = %d with an error", x.low, x.high, n)
		}
		failed(t, r, x.want)
	}
}

// bad is bytes and the error that reading an integer from them has.
type bad struct {
	b    string
	want api.Errno
}

// malformed returns bytes that begin with no encoding of an integer.
func malformed() []bad {
	return []bad{
		{"", api.ErrShort},
		{"\x80", api.ErrShort},
		{"\xff", api.ErrShort},
		{run(0x80, 8, 0x80), api.ErrShort},
		{run(0xff, 8, 0xff), api.ErrShort},
		{run(0x80, 9, 0x80), api.ErrForm},
		{run(0xff, 9, 0xff), api.ErrForm},
		{run(0x80, 10, 0), api.ErrForm},
		{run(0x80, 10, 1), api.ErrForm},
		{run(0xff, 20, 1), api.ErrForm},
		{"\x80\x00", api.ErrForm},
		{"\xff\x00", api.ErrForm},
		{"\x80\x80\x00", api.ErrForm},
		{"\x80\x00\x01", api.ErrForm},
		{run(0x80, 8, 0), api.ErrForm},
		{run(0xff, 9, 0), api.ErrForm},
		{run(0x80, 9, 0), api.ErrForm},
		{run(0xff, 9, 2), api.ErrForm},
		{run(0x80, 9, 2), api.ErrForm},
		{run(0x80, 9, 0x7f), api.ErrForm},
		{run(0x80, 9, 3) + "\x01", api.ErrForm},
	}
}

func TestIntMalformed(t *testing.T) { // P1.3: the form is checked before the range
	for _, x := range malformed() {
		for _, limits := range [][2]int{{least, greatest}, {0, 0}, {1, 0}} {
			r := open(x.b)
			if n := r.Int(limits[0], limits[1]); n != 0 || r.Err() != x.want {
				t.Errorf("Int of %x = %d, error %d, want %d", x.b, n, r.Err(), x.want)
			}
			failed(t, r, x.want)
		}
	}
}

// look does what P1.3 says, clause by clause: it returns k and the error of Int without a limit.
func look(b string) (int, api.Errno) {
	k := 0
	for i := 0; i < 10 && i < len(b) && k == 0; i++ {
		if b[i] < 128 {
			k = i + 1
		}
	}
	switch {
	case k == 0 && len(b) >= 10:
		return 0, api.ErrForm
	case k == 0:
		return 0, api.ErrShort
	case k > 1 && b[k-1] == 0, k == 10 && b[k-1] > 1:
		return 0, api.ErrForm
	}
	return k, api.OK
}

// strangers returns many byte strings of up to 12 bytes: all of up to 4 bytes of an alphabet of edges, alone and behind
// bytes that continue an integer.
func strangers() []string {
	const edges = "\x00\x01\x02\x7f\x80\x81\xff"
	short := []string{""}
	for i := 0; len(short[i]) < 4; i++ {
		for j := range len(edges) {
			short = append(short, short[i]+edges[j:j+1])
		}
	}
	var out []string
	for _, s := range short {
		out = append(out, s, strings.Repeat("\x80", 6)+s, strings.Repeat("\xff", 7)+s, strings.Repeat("\x80", 8)+s)
	}
	return out
}

func TestIntOfAnyBytes(t *testing.T) { // P1.3, P1.9
	for _, s := range strangers() {
		r := open(s)
		n := r.Int(least, greatest)
		k, e := look(s)
		if r.Err() != e {
			t.Fatalf("Int of %x: error %d, want %d", s, r.Err(), e)
		}
		if e != api.OK {
			failed(t, r, e)
			continue
		}
		expect(t, r, len(s)-k)
		if s[:k] != string(model(n)) || s[:k] != string(wire.PutInt(nil, n)) {
			t.Fatalf("Int of %x = %d, whose encoding is %x", s, n, model(n))
		}
	}
}

func TestTextLimits(t *testing.T) { // P1.4
	for _, x := range []struct {
		b    string
		most int
		text string
		want api.Errno
	}{
		{"\x00", 0, "", api.OK}, {"\x00", 9, "", api.OK}, {"\x00", -1, "", api.ErrRange}, {"\x00", least, "", api.ErrRange},
		{"\x04ab", 2, "ab", api.OK}, {"\x04ab", 3, "ab", api.OK}, {"\x04ab", greatest, "ab", api.OK},
		{"\x04ab", 1, "", api.ErrRange}, {"\x04ab", 0, "", api.ErrRange}, {"\x04a", 1, "", api.ErrRange},
		{"\x04a", 2, "", api.ErrShort}, {"\x04", 2, "", api.ErrShort}, {"\x04a", 9, "", api.ErrShort},
		{"\x01", 9, "", api.ErrRange}, {"\x03ab", greatest, "", api.ErrRange},
		{"\x06\x00\xff\x80", 3, "\x00\xff\x80", api.OK},
		{string(model(greatest)) + "ab", greatest, "", api.ErrShort},
		{string(model(greatest)) + "ab", greatest - 1, "", api.ErrRange},
		{string(model(least)) + "ab", greatest, "", api.ErrRange},
	} {
		for _, tail := range []string{"", "z"} {
			if tail != "" && x.want == api.ErrShort {
				continue
			}
			r := open(x.b + tail)
			if s := r.Text(x.most); s != x.text || r.Err() != x.want {
				t.Errorf("Text(%d) of %x = %q, error %d, want %q, %d", x.most, x.b, s, r.Err(), x.text, x.want)
			}
			if x.want == api.OK {
				expect(t, r, len(tail))
				continue
			}
			failed(t, r, x.want)
		}
	}
}

func TestTextMalformedLength(t *testing.T) { // P1.4
	for _, x := range malformed() {
		r := open(x.b)
		if s := r.Text(greatest); s != "" || r.Err() != x.want {
			t.Errorf("Text of %x = %q, error %d, want %d", x.b, s, r.Err(), x.want)
		}
		failed(t, r, x.want)
	}
}

func TestTextOfAnyBytes(t *testing.T) { // P1.4, P1.9
	for _, s := range strangers() {
		r := open(s)
		got := r.Text(3)
		if r.Err() == api.OK && s[:len(s)-r.Left()] != string(wire.PutText(nil, got)) {
			t.Fatalf("Text of %x = %q, whose encoding differs", s, got)
		}
		if r.Err() != api.OK && got != "" {
			t.Fatalf("Text of %x = %q with an error", s, got)
		}
	}
}

func TestBoolOfAnyByte(t *testing.T) { // P1.4, P1.9
	for c := range 256 {
		r := wire.Open([]byte{byte(c), 1})
		yes := r.Bool()
		if c > 1 {
			if yes {
				t.Errorf("Bool of %d is true", c)
			}
			failed(t, r, api.ErrForm)
			continue
		}
		expect(t, r, 1)
		if yes != (c == 1) || wire.PutBool(nil, yes)[0] != byte(c) {
			t.Errorf("Bool of %d = %v", c, yes)
		}
	}
}

func TestErrorStays(t *testing.T) { // P1.5: also where good bytes would follow
	for i, x := range []struct {
		b    string
		want api.Errno
		read func(r *wire.Reader)
	}{
		{"\x12\x02\x02\x01", api.ErrRange, func(r *wire.Reader) { r.Int(0, 8) }},
		{"\x80\x00\x02\x01", api.ErrForm, func(r *wire.Reader) { r.Int(0, 8) }},
		{"\x02a\x80", api.ErrShort, func(r *wire.Reader) { _ = r.Text(9); r.Int(0, 8) }},
		{"\x08ab\x02", api.ErrShort, func(r *wire.Reader) { _ = r.Text(9) }},
		{"\x08abcd\x02", api.ErrRange, func(r *wire.Reader) { _ = r.Text(3) }},
		{"\x02\x01\x01", api.ErrForm, func(r *wire.Reader) { r.Bool() }},
		{"\x01\x01\x01", api.ErrGap, func(r *wire.Reader) { r.Fail(api.ErrGap) }},
	} {
		r := open(x.b)
		x.read(r)
		if r.Err() != x.want {
			t.Errorf("case %d: error %d, want %d", i, r.Err(), x.want)
		}
		failed(t, r, x.want)
	}
}

func TestFail(t *testing.T) { // P1.5
	for e := api.ErrNil; e <= api.ErrSeq; e++ {
		r := open("\x02")
		r.Fail(e)
		failed(t, r, e)
	}
	r := open("\x02\x04")
	r.Fail(api.OK)
	expect(t, r, 2)
	if n := r.Int(0, 9); n != 1 {
		t.Errorf("Int after Fail(OK) = %d", n)
	}
	r.Fail(api.ErrSum)
	r.Fail(api.OK)
	r.Fail(api.ErrArg)
	failed(t, r, api.ErrSum)
}

func TestEnd(t *testing.T) { // P1.6
	r := open("\x02\x04")
	for _, want := range []int{1, 2} {
		for range 2 {
			if r.End() != api.ErrForm || r.Err() != api.OK {
				t.Errorf("End = %d, then Err = %d", r.End(), r.Err())
			}
		}
		if n := r.Int(0, 9); n != want {
			t.Errorf("Int after End = %d, want %d", n, want)
		}
	}
	if r.End() != api.OK || r.End() != api.OK {
		t.Errorf("End at the end = %d", r.End())
	}
	r.Bool()
	if r.End() != api.ErrShort {
		t.Errorf("End after an error = %d", r.End())
	}
}

func TestReaderNotOpened(t *testing.T) { // P1.7
	opened := open("\x02\x02\x02")
	copied := *opened
	var zero wire.Reader
	for i, r := range []*wire.Reader{nil, &zero, new(wire.Reader), &copied} {
		r.Fail(api.ErrSum)
		if r.Err() != api.ErrNil || r.End() != api.ErrNil || r.Left() != 0 {
			t.Errorf("case %d: Err %d, End %d, Left %d", i, r.Err(), r.End(), r.Left())
		}
		if n, s, yes := r.Int(least, greatest), r.Text(9), r.Bool(); n != 0 || s != "" || yes {
			t.Errorf("case %d: %d, %q, %v", i, n, s, yes)
		}
	}
	expect(t, opened, 3)
}

func TestIntRoundTrip(t *testing.T) { // P1.8
	for _, n := range integers() {
		for _, tail := range tails() {
			for _, limits := range [][2]int{{n, n}, {least, n}, {n, greatest}, {least, greatest}} {
				r := wire.Open(append(wire.PutInt(nil, n), tail...))
				if got := r.Int(limits[0], limits[1]); got != n {
					t.Fatalf("Int(%d, %d) = %d, want %d", limits[0], limits[1], got, n)
				}
				expect(t, r, len(tail))
			}
		}
	}
}

func TestTextAndBoolRoundTrip(t *testing.T) { // P1.8
	for _, tail := range tails() {
		for _, s := range texts() {
			for _, most := range []int{len(s), len(s) + 1, greatest} {
				r := wire.Open(append(wire.PutText(nil, s), tail...))
				if got := r.Text(most); got != s {
					t.Fatalf("Text(%d) has %d bytes, want %d", most, len(got), len(s))
				}
				expect(t, r, len(tail))
			}
		}
		for _, yes := range []bool{true, false} {
			r := wire.Open(append(wire.PutBool(nil, yes), tail...))
			if got := r.Bool(); got != yes {
				t.Fatalf("Bool = %v", got)
			}
			expect(t, r, len(tail))
		}
	}
}

func TestNoProperPrefix(t *testing.T) { // P1.9
	seen := make(map[string]int)
	for _, n := range integers() {
		seen[string(wire.PutInt(nil, n))] = n
	}
	for s, n := range seen {
		for k := 1; k < len(s); k++ {
			if m, ok := seen[s[:k]]; ok {
				t.Errorf("the encoding of %d is a prefix of that of %d", m, n)
			}
			r := open(s[:k])
			r.Int(least, greatest)
			failed(t, r, api.ErrShort)
		}
	}
}

func TestExamples(t *testing.T) { // the chapter's examples 2 and 3
	r := open("\x04a")
	_ = r.Text(9)
	failed(t, r, api.ErrShort)
	r = open("\x04a")
	_ = r.Text(1)
	failed(t, r, api.ErrRange)
	r = open("\x80\x00")
	r.Int(least, greatest)
	failed(t, r, api.ErrForm)
	r = open("\x80")
	r.Int(least, greatest)
	failed(t, r, api.ErrShort)
}
