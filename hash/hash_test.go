package hash_test

import (
	"encoding/binary"
	"hash/crc32"
	"hash/fnv"
	"math/big"
	"strings"
	"testing"

	"workflow/hash"
)

const (
	least    = -1 << 63
	greatest = 1<<63 - 1
)

// allBytes returns every byte once, so that signed bytes, runes and zero bytes would show.
func allBytes() string {
	b := make([]byte, 256)
	for i := range b {
		b[i] = byte(i)
	}
	return string(b)
}

// texts returns strings of many lengths and contents.
func texts() []string {
	out := []string{
		"", "a", "b", "ab", "ba", "foobar", "123456789", "é", "日本", "\xff\xfe", "\x80", "a\xc3", "\ufffd",
		allBytes(), allBytes()[128:] + allBytes()[:128], strings.Repeat("workflow ", 1000),
	}
	for c := range 256 {
		out = append(out, string([]byte{byte(c)}), string([]byte{0, byte(c), 255}))
	}
	for n := range 70 {
		out = append(out, strings.Repeat("\x00", n), strings.Repeat("\xff", n), allBytes()[100:100+n])
	}
	return out
}

// integers returns small ones and those around every power of two.
func integers() []int {
	out := []int{0, least, least + 1, greatest, greatest - 1}
	for shift := range 63 {
		p := 1 << shift
		out = append(out, p-1, p, p+1, -p-1, -p, -p+1)
	}
	return out
}

// modelFnv follows the chapter with big integers, so that nothing wraps around by itself.
func modelFnv(s string) int {
	h, prime, modulus := big.NewInt(2166136261), big.NewInt(16777619), big.NewInt(1<<32)
	for _, c := range []byte(s) {
		h.Xor(h, big.NewInt(int64(c)))
		h.Mul(h, prime).Mod(h, modulus)
	}
	return int(h.Int64())
}

func TestFnvKnown(t *testing.T) { // P4.1
	for s, want := range map[string]int{
		"": 2166136261, "a": 3826002220, "b": 0xe70c2de5, "c": 0xe60c2c52, "fo": 0x6222e842, "foo": 0xa9f37ed7, "foobar": 0xbf9cf968,
		"\x00": 0x050c5d1f, "a\x00": 0x2b24d044, "foobar\x00": 0x0c1c9eb8, "chongo was here!\n": 0xd49930d5,
	} {
		if got := hash.Fnv(s); got != want {
			t.Errorf("Fnv(%q) = %d, want %d", s, got, want)
		}
	}
}

func TestFnv(t *testing.T) { // P4.1
	high := false
	for _, s := range texts() {
		h := fnv.New32a()
		h.Write([]byte(s))
		got := hash.Fnv(s)
		if want := int(h.Sum32()); got != want || got != modelFnv(s) {
			t.Errorf("Fnv(%q) = %d, want %d", s, got, want)
		}
		if got < 0 || got > 1<<32-1 {
			t.Errorf("Fnv(%q) = %d, which is out of range", s, got)
		}
		high = high || got >= 1<<31
	}
	if !high {
		t.Error("no hash has its highest bit set")
	}
}

func TestCrcKnown(t *testing.T) { // P4.2
	for s, want := range map[string]int{
		"": 0, "a": 0xe8b7be43, "abc": 0x352441c2, "123456789": 3421780262, "message digest": 0x20159d7f,
		"\x00": 0xd202ef8d, "\x00\x00\x00\x00": 0x2144df1c, "\xff\xff\xff\xff": 0xffffffff,
		"The quick brown fox jumps over the lazy dog": 0x414fa339,
	} {
		if got := hash.Crc([]byte(s)); got != want {
			t.Errorf("Crc(%q) = %d, want %d", s, got, want)
		}
	}
	if got := hash.Crc(nil); got != 0 {
		t.Errorf("Crc(nil) = %d, want 0", got)
	}
}

func TestCrc(t *testing.T) { // P4.2
	high := false
	for _, s := range texts() {
		got := hash.Crc([]byte(s))
		if want := int(crc32.ChecksumIEEE([]byte(s))); got != want {
			t.Errorf("Crc(%q) = %d, want %d", s, got, want)
		}
		if got < 0 || got > 1<<32-1 {
			t.Errorf("Crc(%q) = %d, which is out of range", s, got)
		}
		high = high || got >= 1<<31
	}
	if !high {
		t.Error("no checksum has its highest bit set")
	}
}

func TestCrcLooksAtLengthOnly(t *testing.T) { // P4.2, R5
	b := []byte("123456789 and more")
	if got := hash.Crc(b[:9]); got != 3421780262 {
		t.Errorf("Crc = %d, want 3421780262", got)
	}
	if got := hash.Crc(b[:0]); got != 0 {
		t.Errorf("Crc of no bytes = %d, want 0", got)
	}
	if string(b) != "123456789 and more" {
		t.Errorf("Crc has changed its argument to %q", b)
	}
}

// bytesOf returns the 16 bytes whose hash Mix takes.
func bytesOf(a, b int) string {
	out := binary.BigEndian.AppendUint64(nil, uint64(a))
	return string(binary.BigEndian.AppendUint64(out, uint64(b)))
}

func TestMix(t *testing.T) { // P4.3
	cut := false
	for _, a := range integers() {
		for _, b := range integers() {
			whole := modelFnv(bytesOf(a, b))
			if got, want := hash.Mix(a, b), whole%(1<<31); got != want {
				t.Fatalf("Mix(%d, %d) = %d, want %d", a, b, got, want)
			}
			cut = cut || whole >= 1<<31
		}
	}
	if !cut {
		t.Error("no hash has a bit that Mix leaves out")
	}
}

func TestMixBytes(t *testing.T) { // P4.3
	for _, x := range []struct {
		a, b int
		s    string
	}{
		{0, 0, strings.Repeat("\x00", 16)},
		{-1, -1, strings.Repeat("\xff", 16)},
		{5, -2, "\x00\x00\x00\x00\x00\x00\x00\x05\xff\xff\xff\xff\xff\xff\xff\xfe"},
		{-2, 5, "\xff\xff\xff\xff\xff\xff\xff\xfe\x00\x00\x00\x00\x00\x00\x00\x05"},
		{0x0102030405060708, 0x1112131415161718, "\x01\x02\x03\x04\x05\x06\x07\x08\x11\x12\x13\x14\x15\x16\x17\x18"},
		{least, greatest, "\x80\x00\x00\x00\x00\x00\x00\x00\x7f\xff\xff\xff\xff\xff\xff\xff"},
	} {
		if got, want := hash.Mix(x.a, x.b), modelFnv(x.s)%(1<<31); got != want {
			t.Errorf("Mix(%d, %d) = %d, want %d", x.a, x.b, got, want)
		}
	}
	if hash.Mix(5, -2) == hash.Mix(-2, 5) {
		t.Error("Mix does not depend on the order of its arguments")
	}
}

func TestBucket(t *testing.T) { // P4.4
	sizes := []int{1, 2, 3, 7, 10, 16, 100, 1 << 16, 1<<31 - 1, 1 << 31, 1<<32 - 1, 1 << 32, 1<<32 + 1, greatest}
	for _, s := range texts() {
		whole := modelFnv(s)
		for _, n := range append(sizes, whole-1, whole, whole+1) {
			if got := hash.Bucket(s, n); got != whole%n {
				t.Errorf("Bucket(%q, %d) = %d, want %d", s, n, got, whole%n)
			}
		}
	}
	for _, x := range []struct {
		s       string
		n, want int
	}{{"a", 10, 0}, {"", 100, 61}, {"a", 7, 5}, {"", greatest, 2166136261}} {
		if got := hash.Bucket(x.s, x.n); got != x.want {
			t.Errorf("Bucket(%q, %d) = %d, want %d", x.s, x.n, got, x.want)
		}
	}
}

func TestBucketOfNone(t *testing.T) { // P4.4
	for _, s := range texts() {
		for _, n := range []int{0, -1, -2, -5, -100, -1 << 31, -1 << 32, least + 1, least} {
			if got := hash.Bucket(s, n); got != 0 {
				t.Errorf("Bucket(%q, %d) = %d, want 0", s, n, got)
			}
		}
	}
}

func TestCrcOfOneOtherByte(t *testing.T) { // P4.5
	for _, s := range []string{"a", "\x00\x00", "123456789", strings.Repeat("\xff", 65), allBytes()} {
		whole := hash.Crc([]byte(s))
		for i := range len(s) {
			b := []byte(s)
			for c := range 256 {
				b[i] = byte(c)
				if same := hash.Crc(b) == whole; same != (b[i] == s[i]) {
					t.Errorf("Crc(%q) with the byte %d at %d: same checksum: %t", s, c, i, same)
				}
			}
		}
	}
}

func TestFnvOfOtherLastByte(t *testing.T) { // P4.5
	for _, s := range texts() {
		seen := map[int]bool{}
		for c := range 256 {
			seen[hash.Fnv(s+string([]byte{byte(c)}))] = true
		}
		if len(seen) != 256 {
			t.Errorf("the 256 strings of %q and a byte have %d hashes", s, len(seen))
		}
	}
}

func TestBucketRange(t *testing.T) { // P4.5
	for _, s := range texts() {
		if got := hash.Bucket(s, 1); got != 0 {
			t.Errorf("Bucket(%q, 1) = %d", s, got)
		}
		for _, n := range integers() {
			if got := hash.Bucket(s, n); n >= 1 && (got < 0 || got >= n) {
				t.Errorf("Bucket(%q, %d) = %d, which is out of range", s, n, got)
			}
		}
	}
}
