package wire_test

import (
	"bytes"
	"math/big"
	"strings"
	"testing"

	"workflow/wire"
)

const (
	least    = -1 << 63
	greatest = 1<<63 - 1
)

// model encodes n as the chapter describes it, with big integers, so that it shares no trick with the package.
func model(n int) []byte {
	u := new(big.Int).Mul(big.NewInt(2), big.NewInt(int64(n)))
	if n < 0 {
		u.Neg(u).Sub(u, big.NewInt(1))
	}
	base, group := big.NewInt(128), new(big.Int)
	var out []byte
	for {
		u.DivMod(u, base, group)
		out = append(out, byte(group.Int64()))
		if u.Sign() == 0 {
			return out
		}
		out[len(out)-1] += 128
	}
}

// integers returns small ones and those around every power of two, so that every number of groups and its edges occur.
func integers() []int {
	out := []int{0, least, least + 1, greatest, greatest - 1}
	for shift := 0; shift < 63; shift++ {
		p := 1 << shift
		for d := -2; d <= 2; d++ {
			out = append(out, p+d, -p+d)
		}
	}
	for n := -300; n <= 300; n++ {
		out = append(out, n)
	}
	return out
}

func texts() []string {
	return []string{
		"", "a", "ab", "\x00", "\xff\xfe", "\x80", "é", "日本",
		strings.Repeat("x", 63), strings.Repeat("y", 64), strings.Repeat("z", 9000),
	}
}

// run returns n bytes c and a last one.
func run(c byte, n int, last byte) string {
	return string(append(bytes.Repeat([]byte{c}, n), last))
}

func TestPutIntBytes(t *testing.T) { // P1.1
	for _, x := range []struct {
		n    int
		want string
	}{
		{0, "\x00"}, {-1, "\x01"}, {1, "\x02"}, {-2, "\x03"}, {63, "\x7e"}, {-64, "\x7f"},
		{64, "\x80\x01"}, {-65, "\x81\x01"}, {100, "\xc8\x01"}, {8191, "\xfe\x7f"}, {-8192, "\xff\x7f"},
		{8192, "\x80\x80\x01"}, {-8193, "\x81\x80\x01"},
		{1<<62 - 1, "\xfe" + run(0xff, 7, 0x7f)},
		{-1 << 62, "\xff" + run(0xff, 7, 0x7f)},
		{1 << 62, run(0x80, 9, 1)},
		{-1<<62 - 1, "\x81" + run(0x80, 8, 1)},
		{greatest, "\xfe" + run(0xff, 8, 1)},
		{least, run(0xff, 9, 1)},
	} {
		if got := string(wire.PutInt(nil, x.n)); got != x.want {
			t.Errorf("PutInt(nil, %d) = %x, want %x", x.n, got, x.want)
		}
	}
	for _, n := range integers() {
		if got := wire.PutInt(nil, n); !bytes.Equal(got, model(n)) {
			t.Errorf("PutInt(nil, %d) = %x, want %x", n, got, model(n))
		}
	}
}

func TestPutIntGroups(t *testing.T) { // P1.1: 1 to 10 groups, as few as possible
	for groups := 1; groups <= 9; groups++ {
		beyond := 1 << (7*groups - 1)
		for _, x := range []struct{ n, want int }{
			{beyond - 1, groups}, {-beyond, groups}, {beyond, groups + 1}, {-beyond - 1, groups + 1},
		} {
			if got := len(wire.PutInt(nil, x.n)); got != x.want {
				t.Errorf("PutInt(nil, %d) has %d bytes, want %d", x.n, got, x.want)
			}
		}
	}
}

func TestPutTextBytes(t *testing.T) { // P1.1
	if got := string(wire.PutText(nil, "ab")); got != "\x04ab" {
		t.Errorf("PutText(nil, ab) = %x", got)
	}
	for _, s := range texts() {
		if got := wire.PutText(nil, s); !bytes.Equal(got, append(model(len(s)), s...)) {
			t.Errorf("PutText of %d bytes = %x", len(s), got)
		}
	}
}

func TestPutBoolBytes(t *testing.T) { // P1.1
	if got := string(wire.PutBool(nil, true)); got != "\x01" {
		t.Errorf("PutBool(nil, true) = %x", got)
	}
	if got := string(wire.PutBool(nil, false)); got != "\x00" {
		t.Errorf("PutBool(nil, false) = %x", got)
	}
}

// put is a call of a Put function, and the bytes that it has to add.
type put struct {
	want string
	call func(b []byte) []byte
}

func puts() []put {
	return []put{
		{"\x02", func(b []byte) []byte { return wire.PutInt(b, 1) }},
		{run(0xff, 9, 1), func(b []byte) []byte { return wire.PutInt(b, least) }},
		{"\x00", func(b []byte) []byte { return wire.PutText(b, "") }},
		{"\x06xyz", func(b []byte) []byte { return wire.PutText(b, "xyz") }},
		{"\x01", func(b []byte) []byte { return wire.PutBool(b, true) }},
		{"\x00", func(b []byte) []byte { return wire.PutBool(b, false) }},
	}
}

func TestPutKeepsPrefix(t *testing.T) { // P1.1
	for _, prefix := range []string{"", "\x00", "\x80\x80", "abc", strings.Repeat("p", 100)} {
		for i, p := range puts() {
			if got := string(p.call([]byte(prefix))); got != prefix+p.want {
				t.Errorf("case %d: %x, want %x and %x", i, got, prefix, p.want)
			}
		}
	}
	for i, p := range puts() {
		if got := string(p.call(nil)); got != p.want {
			t.Errorf("case %d with nil: %x, want %x", i, got, p.want)
		}
	}
}

func TestPutSharesNothing(t *testing.T) { // P1.1, R5
	for i, p := range puts() {
		whole := []byte("abcdefghijklmnopqrstuvwxyz")
		b := whole[:3]
		one, two := p.call(b), p.call(b)
		if string(whole) != "abcdefghijklmnopqrstuvwxyz" {
			t.Errorf("case %d: the argument was changed to %q", i, whole)
		}
		clear(one[:cap(one)])
		if string(whole) != "abcdefghijklmnopqrstuvwxyz" || string(two) != "abc"+p.want {
			t.Errorf("case %d: a result shares memory with the argument or another result", i)
		}
		clear(whole)
		if string(two) != "abc"+p.want {
			t.Errorf("case %d: a result follows its argument", i)
		}
	}
}
