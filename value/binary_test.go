package value_test

import (
	"bytes"
	"strings"
	"testing"

	"workflow/api"
	"workflow/value"
	"workflow/wire"
)

// sample is a value and its encoding.
type sample struct {
	v api.Value
	b string
}

func samples() []sample {
	return []sample{
		{null(), "\x00"},
		{value.Bool(false), "\x02\x00"}, {value.Bool(true), "\x02\x02"},
		{value.Int(0), "\x04\x00"}, {value.Int(5), "\x04\x0a"}, {value.Int(-1), "\x04\x01"}, {value.Int(64), "\x04\x80\x01"},
		{value.Int(greatest), "\x04\xfe" + strings.Repeat("\xff", 8) + "\x01"},
		{value.Int(least), "\x04" + strings.Repeat("\xff", 9) + "\x01"},
		{value.Text(""), "\x06\x00"}, {value.Text("x"), "\x06\x02x"}, {value.Text("a\x00\xff"), "\x06\x06a\x00\xff"},
		{value.Text(long(api.MaxText)), "\x06\x80\x40" + long(api.MaxText)},
		{list(), "\x08\x00"}, {list(null()), "\x08\x02\x00"},
		{list(value.Int(5), value.Text("x")), "\x08\x04\x04\x0a\x06\x02x"},
		{list(list(), list(list(null()))), "\x08\x04\x08\x00\x08\x02\x08\x02\x00"},
		{dict(nil), "\x0a\x00"}, {dict(keys("", "b"), null(), value.Bool(true)), "\x0a\x04\x00\x00\x02b\x02\x02"},
		{dict(keys("a", "b"), dict(keys("a"), null()), list(value.Int(1))), "\x0a\x04\x02a\x0a\x02\x02a\x00\x02b\x08\x02\x04\x02"},
		{dict(keys(long(api.MaxText)), null()), "\x0a\x02\x80\x40" + long(api.MaxText) + "\x00"},
		{nested(api.MaxDepth), strings.Repeat("\x08\x02", api.MaxDepth-1) + "\x00"},
		{wide(api.MaxNodes), "\x08\xce\x0f" + strings.Repeat("\x00", api.MaxNodes-1)},
	}
}

// unreadable returns well-formed values that are not payloads, with their encodings.
func unreadable() []sample {
	return []sample{
		{future(0), "\x0c\x00"}, {future(3), "\x0c\x06"}, {list(future(3)), "\x08\x02\x0c\x06"},
		{dict(keys("k"), future(0)), "\x0a\x02\x02k\x0c\x00"},
		{nested(api.MaxDepth + 1), strings.Repeat("\x08\x02", api.MaxDepth) + "\x00"},
		{wide(api.MaxNodes + 1), "\x08\xd0\x0f" + strings.Repeat("\x00", api.MaxNodes)},
		{wide(api.MaxNodes + 2), "\x08\xd2\x0f" + strings.Repeat("\x00", api.MaxNodes+1)},
		{value.Text(long(api.MaxText + 1)), "\x06\x82\x40" + long(api.MaxText+1)},
		{dict(keys(long(api.MaxText+1)), null()), "\x0a\x02\x82\x40" + long(api.MaxText+1) + "\x00"},
	}
}

func TestEncode(t *testing.T) { // P2.7
	for _, s := range append(samples(), unreadable()...) {
		if got := string(value.Encode(nil, s.v)); got != s.b {
			t.Errorf("Encode(nil, %v) = %x, want %x", s.v, got, s.b)
		}
		for _, prefix := range []string{"", "\x00", "\x80abc"} {
			if got := string(value.Encode([]byte(prefix), s.v)); got != prefix+s.b {
				t.Errorf("Encode(%x, %v) = %x", prefix, s.v, got)
			}
		}
	}
	if got := string(value.Encode(nil, roomy(dict(keys("a"), null())))); got != "\x0a\x02\x02a\x00" {
		t.Errorf("Encode looks beyond the length of a slice: %x", got)
	}
}

func TestEncodeMalformed(t *testing.T) { // P2.7
	for _, v := range malformed() {
		if got := value.Encode(nil, v); len(got) != 0 {
			t.Errorf("Encode(nil, %v) = %x", v, got)
		}
		if got := string(value.Encode([]byte("ab"), v)); got != "ab" {
			t.Errorf("Encode(ab, %v) = %x", v, got)
		}
	}
}

func TestEncodeMemory(t *testing.T) { // P2.7, R5
	for _, v := range []api.Value{null(), list(value.Text("x")), {Kind: 9}} {
		room := []byte("abcdefghijklmnop")
		got := value.Encode(room[:2], v)
		for i := range got[:cap(got)] {
			got[:cap(got)][i] = '.'
		}
		if string(room) != "abcdefghijklmnop" {
			t.Errorf("Encode of %v shares memory: %s", v, room)
		}
	}
}

func TestDecode(t *testing.T) { // P2.8, P2.9
	for _, s := range samples() {
		for _, rest := range []string{"", "\x00", "\x08\x02", "\xff\xff"} {
			r := wire.Open([]byte(s.b + rest))
			if got := value.Decode(r); !value.Same(got, s.v) || r.Err() != api.OK || r.Left() != len(rest) {
				t.Errorf("Decode(%x) = %v, %v, with %d bytes left", s.b+rest, got, r.Err(), r.Left())
			}
		}
	}
	for _, v := range payloads() {
		r := wire.Open(value.Encode(nil, v))
		if got := value.Decode(r); !value.Same(got, v) || r.End() != api.OK {
			t.Errorf("Decode of the encoding of %v: %v, %v", v, got, r.End())
		}
	}
}

func TestDecodeInSequence(t *testing.T) { // P2.8: each call counts nodes anew
	b := []byte{9}
	for range 3 {
		b = value.Encode(b, wide(api.MaxNodes))
	}
	r := wire.Open(b[1:])
	for range 3 {
		if got := value.Decode(r); len(got.Items) != api.MaxNodes-1 {
			t.Errorf("Decode: %d items, %v", len(got.Items), r.Err())
		}
	}
	if e := r.End(); e != api.OK {
		t.Errorf("End: %v", e)
	}
}

func TestDecodeBrokenOff(t *testing.T) { // P2.8
	for _, s := range samples() {
		for n := 0; n < len(s.b); n += 1 + n/50 {
			r := wire.Open([]byte(s.b[:n]))
			if got := value.Decode(r); !value.Same(got, null()) || r.Err() != api.ErrShort {
				t.Errorf("Decode(%x) = %v, %v", s.b[:n], got, r.Err())
			}
		}
	}
}

func TestDecodeFails(t *testing.T) { // P2.8
	full := "\x08\xd0\x0f" + strings.Repeat("\x00", api.MaxNodes-1)
	deep := strings.Repeat("\x08\x02", api.MaxDepth)
	tooLong := "\x82\x40" + long(api.MaxText+1)
	for i, x := range []struct {
		b string
		e api.Errno
	}{
		{"", api.ErrShort},
		{"\x0c", api.ErrForm}, {"\x0e", api.ErrForm}, {"\x01", api.ErrForm}, {"\x03", api.ErrForm}, {"\x80\x01", api.ErrForm},
		{"\x80\x00", api.ErrForm}, {"\x80", api.ErrShort}, {"\x08\x02\x0c\x00", api.ErrForm}, {"\x08\x04\x0c", api.ErrForm},
		{"\x02\x04", api.ErrForm}, {"\x02\x01", api.ErrForm}, {"\x02", api.ErrShort}, {"\x02\x80\x00", api.ErrForm},
		{"\x04", api.ErrShort}, {"\x04\xff", api.ErrShort}, {"\x04\x80\x00", api.ErrForm},
		{"\x04" + strings.Repeat("\xff", 9) + "\x02", api.ErrForm},
		{"\x06\x01", api.ErrRange}, {"\x06\x02", api.ErrShort}, {"\x06\x80\x00", api.ErrForm},
		{"\x06" + tooLong, api.ErrForm}, {"\x06" + tooLong[:20], api.ErrShort},
		{"\x06" + strings.Repeat("\xff", 9) + "\x01", api.ErrRange}, {"\x06\xfe" + strings.Repeat("\xff", 8) + "\x01", api.ErrShort},
		{"\x08", api.ErrShort}, {"\x08\x01", api.ErrForm}, {"\x08\xd2\x0f", api.ErrForm}, {"\x0a\x01", api.ErrForm}, {"\x0a\xd2\x0f", api.ErrForm},
		{"\x08\xd0\x0f", api.ErrShort}, {"\x0a\xd0\x0f", api.ErrShort}, {"\x08\x80\x00", api.ErrForm},
		{"\x08" + strings.Repeat("\xff", 9) + "\x01", api.ErrForm}, {"\x08\xfe" + strings.Repeat("\xff", 8) + "\x01", api.ErrForm},
		{full, api.ErrForm}, {full[:len(full)-1], api.ErrShort}, // the bound on nodes comes before the byte that is missing
		{deep, api.ErrForm}, {deep[:len(deep)-2], api.ErrShort}, // so does the bound on the depth
		{"\x0a\x02" + tooLong, api.ErrForm}, {"\x0a\x02" + tooLong[:9], api.ErrShort}, {"\x0a\x02\x01", api.ErrRange},
		{"\x0a\x04\x02b\x00\x02a", api.ErrForm}, {"\x0a\x04\x02a\x00\x02a", api.ErrForm}, {"\x0a\x04\x00\x00\x00", api.ErrForm},
		{"\x0a\x04\x04ab\x00\x02a\x00", api.ErrForm}, {"\x0a\x06\x02a\x00\x02c\x00\x02b\x00", api.ErrForm},
		{"\x0a\x04\x02a\x00\x02b", api.ErrShort}, {"\x0a\x02\x02a\x02\x04", api.ErrForm},
		{"\x08\x04\x00\x06\x01\x0c", api.ErrRange}, {"\x08\x04\x0c\x06\x01", api.ErrForm}, // the first error counts
	} {
		r := wire.Open([]byte(x.b))
		if got := value.Decode(r); !value.Same(got, null()) || r.Err() != x.e || r.Left() != 0 {
			t.Errorf("case %d: Decode(%x) = %v, %v, want %v", i, x.b, got, r.Err(), x.e)
		}
	}
	for _, s := range unreadable() {
		r := wire.Open([]byte(s.b))
		if got := value.Decode(r); !value.Same(got, null()) || r.Err() != api.ErrForm {
			t.Errorf("Decode of the encoding of %v: %v, %v", s.v, got, r.Err())
		}
	}
}

func TestDecodeAfterError(t *testing.T) { // P2.8
	for _, s := range samples() {
		r := wire.Open([]byte(s.b))
		r.Fail(api.ErrSum)
		if got := value.Decode(r); !value.Same(got, null()) || r.Err() != api.ErrSum {
			t.Errorf("Decode after an error: %v, %v", got, r.Err())
		}
	}
}

func TestDecodeForeignReaders(t *testing.T) { // P2.8
	made := wire.Open([]byte("\x04\x0a"))
	copied := *made
	for i, r := range []*wire.Reader{nil, {}, &copied} {
		if got := value.Decode(r); !value.Same(got, null()) || r.Err() != api.ErrNil {
			t.Errorf("reader %d: %v, %v", i, got, r.Err())
		}
	}
	if got := value.Decode(made); !value.Same(got, value.Int(5)) {
		t.Errorf("Decode of the reader that was copied: %v", got)
	}
}

func TestDecodeMemory(t *testing.T) { // P2.8, R5
	b := value.Encode(nil, twig())
	r := wire.Open(append(b, b...))
	first := value.Decode(r)
	checkFresh(t, value.Decode(r), first)
	if !value.Same(first, twig()) {
		t.Errorf("Decode: %v", first)
	}
}

func TestDecodeAllShortTexts(t *testing.T) { // P2.9
	alphabet := []byte{0, 1, 2, 4, 6, 8, 10, 12, 128}
	texts := [][]byte{nil}
	for range 6 {
		var longer [][]byte
		for _, b := range texts {
			for _, c := range alphabet {
				longer = append(longer, append(bytes.Clone(b), c))
			}
		}
		for _, b := range longer {
			checkDecoded(t, b)
		}
		texts = longer
	}
}

// checkDecoded tests that a value that Decode returns without an error is a payload, and that it has read its encoding.
func checkDecoded(t *testing.T, b []byte) {
	t.Helper()
	r := wire.Open(b)
	v := value.Decode(r)
	if r.Err() != api.OK {
		if !value.Same(v, null()) {
			t.Errorf("Decode(%x) = %v with the error %v", b, v, r.Err())
		}
		return
	}
	if read := b[:len(b)-r.Left()]; !value.Right(v) || !bytes.Equal(value.Encode(nil, v), read) {
		t.Errorf("Decode(%x) = %v, whose encoding is %x", b, v, value.Encode(nil, v))
	}
}
