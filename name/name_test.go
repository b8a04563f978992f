package name_test

import (
	"math/big"
	"regexp"
	"strings"
	"testing"

	"workflow/api"
	"workflow/name"
)

const (
	least    = -1 << 63
	greatest = 1<<63 - 1
	// first holds the bytes that a name may begin with, and later those that may follow.
	first = "ABCDEFGHIJKLMNOPQRSTUVWXYZ_abcdefghijklmnopqrstuvwxyz"
	later = "0123456789" + first
)

// numbers returns small integers and some around every power of two and of ten, of both signs.
func numbers() []int {
	out := []int{least, least + 1, greatest, greatest - 1}
	for n := -1100; n <= 1100; n++ {
		out = append(out, n)
	}
	for shift := range 63 {
		p := 1 << shift
		out = append(out, p-1, p, p+1, -p)
	}
	for p := 1; p <= greatest/10; p *= 10 {
		out = append(out, p*10-1, p*10, p*10+1, p, -p)
	}
	return out
}

// words returns all strings of at most most letters of an alphabet.
func words(alphabet string, most int) []string {
	out, from := []string{""}, 0
	for range most {
		to := len(out)
		for _, s := range out[from:to] {
			for i := range len(alphabet) {
				out = append(out, s+alphabet[i:i+1])
			}
		}
		from = to
	}
	return out
}

func TestRightExamples(t *testing.T) { // P6.1
	for s, want := range map[string]bool{
		"_a1": true, "1a": false, "": false, "a-b": false,
		"_": true, "__": true, "a": true, "Z": true, "_0": true, "aZ_09": true, "main": true, "func": true,
		"0": false, "9": false, "0_": false, "a b": false, " a": false, "a ": false, "a\n": false, "a\x00": false,
		"a/b": false, "a\"": false, "'a'": false, "é": false, "aé": false, "a\xff": false, "\xc3": false, "ａ": false, "a１": false,
	} {
		if got := name.Right(s); got != want {
			t.Errorf("Right(%q) = %t, want %t", s, got, want)
		}
	}
}

func TestRightBytes(t *testing.T) { // P6.1
	for b := range 256 {
		c := string([]byte{byte(b)})
		if got, want := name.Right(c), strings.Contains(first, c); got != want {
			t.Errorf("Right(%q) = %t, want %t", c, got, want)
		}
		for _, s := range []string{"a" + c, "_" + c, "a" + c + "z", "Z0" + c + "9", strings.Repeat("x", api.MaxName-1) + c} {
			if got, want := name.Right(s), strings.Contains(later, c); got != want {
				t.Errorf("Right(%q) = %t, want %t", s, got, want)
			}
		}
	}
}

func TestRightPairs(t *testing.T) { // P6.1
	for b := range 256 {
		for c := range 256 {
			s := string([]byte{byte(b), byte(c)})
			want := strings.Contains(first, s[:1]) && strings.Contains(later, s[1:])
			if got := name.Right(s); got != want {
				t.Fatalf("Right(%q) = %t, want %t", s, got, want)
			}
		}
	}
}

func TestRightLength(t *testing.T) { // P6.1
	for _, c := range []string{"a", "Z", "_"} {
		for n := range 4 * api.MaxName {
			s := strings.Repeat(c, n)
			if got, want := name.Right(s), n >= 1 && n <= 64; got != want {
				t.Errorf("Right of %d times %s is %t, want %t", n, c, got, want)
			}
		}
	}
	// The limit counts bytes, but no name has a rune of several bytes, however short it is.
	if s := strings.Repeat("é", 32); name.Right(s) || name.Right(strings.Repeat("a", 1<<20)) {
		t.Error("a string of other letters, or a long one, is a name")
	}
}

func TestRightEveryPlace(t *testing.T) { // P6.1
	for n := 1; n <= api.MaxName; n++ {
		for i := range n {
			for _, c := range []byte{'5', '-', '/', '@', '[', '`', '{', ':', 0x80} {
				s := []byte(strings.Repeat("q", n))
				s[i] = c
				if got, want := name.Right(string(s)), c == '5' && i > 0; got != want {
					t.Fatalf("Right(%q) = %t, want %t", s, got, want)
				}
			}
		}
	}
}

func TestRightBanned(t *testing.T) { // P6.4
	for _, c := range []string{"/", " ", "\t", "\n", "\v", "\f", "\r", "\"", "'", "`", "\u00a0", "\u2028", "\u201c"} {
		for _, s := range []string{c, c + "a", "a" + c, "a" + c + "b", "_1" + c + "_", c + c} {
			if name.Right(s) {
				t.Errorf("Right(%q) is true", s)
			}
		}
	}
}

func TestRightLonger(t *testing.T) { // P6.4
	for _, start := range []string{"a", "Z", "_", "_9", "order", "R2_d2"} {
		for i := range len(later) {
			s := start
			for len(s) < api.MaxName {
				if s += later[i : i+1]; !name.Right(s) {
					t.Fatalf("Right(%q) is false", s)
				}
			}
			if s += later[i : i+1]; name.Right(s) {
				t.Fatalf("Right(%q) is true, but the string has %d bytes", s, len(s))
			}
		}
	}
}

func TestRun(t *testing.T) { // P6.1
	for _, n := range numbers() {
		want := ""
		if n > 0 {
			want = "r" + big.NewInt(int64(n)).String()
		}
		if got := name.Run(n); got != want {
			t.Errorf("Run(%d) = %q, want %q", n, got, want)
		}
	}
	for n, want := range map[int]string{
		1: "r1", 3: "r3", 9: "r9", 10: "r10", 12: "r12", 200: "r200", greatest: "r9223372036854775807", 0: "", -1: "", -3: "", least: "",
	} {
		if got := name.Run(n); got != want {
			t.Errorf("Run(%d) = %q, want %q", n, got, want)
		}
	}
}

// modelNumber follows the section of Number: the string has the form of an identifier, and its number is not too great.
func modelNumber(run string) (int, bool) {
	if !regexp.MustCompile(`\Ar[1-9][0-9]*\z`).MatchString(run) {
		return 0, false
	}
	n, _ := new(big.Int).SetString(run[1:], 10)
	if !n.IsInt64() {
		return 0, false
	}
	return int(n.Int64()), true
}

func checkNumber(t *testing.T, run string, n int, ok bool) {
	t.Helper()
	if gotN, gotOK := name.Number(run); gotN != n || gotOK != ok {
		t.Errorf("Number(%q) = %d, %t, want %d, %t", run, gotN, gotOK, n, ok)
	}
}

func TestNumber(t *testing.T) { // P6.1
	for run, n := range map[string]int{
		"r1": 1, "r3": 3, "r9": 9, "r10": 10, "r12": 12, "r100": 100, "r4294967296": 1 << 32, "r9223372036854775807": greatest, "r9223372036854775799": greatest - 8,
	} {
		checkNumber(t, run, n, true)
	}
}

func TestNumberNone(t *testing.T) { // P6.1
	for _, run := range []string{
		"", "r", "rr", "3", "12", "r0", "r00", "r01", "r012", "r0x1", "r1x", "rx1", "r-1", "r+1", "r-0", "r+0", "r 1", "r1 ", " r1", "\nr1", "r1\n", "r1\x00",
		"R1", "rr1", "r1r", "1r", "-r1", "r1_0", "r_1", "r1.", "r1.0", "r1e3", "r0b1", "r0o7", "r1,000", "r１", "r٣", "q1", "run1", "r\xff",
		"r9223372036854775808", "r9223372036854775809", "r9223372036854775810", "r10000000000000000000", "r18446744073709551615", "r18446744073709551616",
		"r18446744073709551617", "r-9223372036854775808", "r09223372036854775807", "r99999999999999999999", "order/r1", "/r1", "r1/",
		"r1" + strings.Repeat("0", 100000), "r" + strings.Repeat("0", 100000) + "1", strings.Repeat("r", 100000),
	} {
		if n, ok := name.Number(run); n != 0 || ok {
			t.Errorf("Number(%.40q) = %d, %t, want 0, false", run, n, ok)
		}
	}
}

func TestNumberWords(t *testing.T) { // P6.1
	for _, s := range words("r019+-_ x", 5) {
		n, ok := modelNumber(s)
		checkNumber(t, s, n, ok)
	}
	for b := range 256 {
		c := string([]byte{byte(b)})
		for _, s := range []string{c, c + "7", "r" + c, "r7" + c, "r" + c + "7", "r1" + c + "7", c + "r7"} {
			n, ok := modelNumber(s)
			checkNumber(t, s, n, ok)
		}
	}
}

func TestNumberOfRun(t *testing.T) { // P6.2
	seen := map[string]int{}
	for _, n := range numbers() {
		run := name.Run(n)
		if n < 1 {
			checkNumber(t, run, 0, false)
			continue
		}
		checkNumber(t, run, n, true)
		if other, found := seen[run]; found && other != n {
			t.Errorf("Run(%d) and Run(%d) are %q", n, other, run)
		}
		seen[run] = n
	}
}

func TestKey(t *testing.T) { // P6.1
	for _, x := range []struct{ workflow, run, want string }{
		{"order-7", "r2", "order-7/r2"}, {"a", "r1", "a/r1"}, {"", "", "/"}, {"", "r1", "/r1"}, {"a", "", "a/"},
		{"a/b", "r1", "a/b/r1"}, {"a", "b/c", "a/b/c"}, {"/", "/", "///"}, {"\xff\x00", "é ", "\xff\x00/é "},
	} {
		if got := name.Key(x.workflow, x.run); got != x.want {
			t.Errorf("Key(%q, %q) = %q, want %q", x.workflow, x.run, got, x.want)
		}
	}
	long := strings.Repeat("w", 100000)
	if got := name.Key(long, long); got != long+"/"+long {
		t.Error("a long key is cut")
	}
}

func checkSplit(t *testing.T, key, workflow, run string, ok bool) {
	t.Helper()
	if gotW, gotR, gotOK := name.Split(key); gotW != workflow || gotR != run || gotOK != ok {
		t.Errorf("Split(%q) = %q, %q, %t, want %q, %q, %t", key, gotW, gotR, gotOK, workflow, run, ok)
	}
}

func TestSplit(t *testing.T) { // P6.1
	for _, x := range []struct{ key, workflow, run string }{
		{"order-7/r2", "order-7", "r2"}, {"/", "", ""}, {"a/", "a", ""}, {"/r1", "", "r1"}, {"a b/\x00\xff", "a b", "\x00\xff"},
		{"a\\/b", "a\\", "b"}, {"é/∕", "é", "∕"}, {"x/not a run", "x", "not a run"},
	} {
		checkSplit(t, x.key, x.workflow, x.run, true)
	}
	for _, key := range []string{"", "a", "a/b/c", "//", "a//", "//a", "a//b", "/a/", "///", "order-7", "\\", "a∕b", "a%2fb", "a\\b", strings.Repeat("/", 100000)} {
		checkSplit(t, key, "", "", false)
	}
}

func TestSplitWords(t *testing.T) { // P6.1, P6.3
	for _, key := range words("/ar1", 7) {
		workflow, run, ok := "", "", false
		if parts := strings.Split(key, "/"); len(parts) == 2 {
			workflow, run, ok = parts[0], parts[1], true
		}
		checkSplit(t, key, workflow, run, ok)
		if workflow, run, ok := name.Split(key); ok && name.Key(workflow, run) != key {
			t.Errorf("Key(%q, %q) is not %q", workflow, run, key)
		}
	}
}

func TestSplitOfKey(t *testing.T) { // P6.3
	var parts []string
	for b := range 256 {
		if b != '/' {
			parts = append(parts, string([]byte{byte(b)}))
		}
	}
	parts = append(parts, "", "order-7", "r1", "r2", "a b", "\"", "\xff\xfe", "é", strings.Repeat("w", 5000))
	for _, workflow := range parts {
		for _, run := range parts {
			checkSplit(t, name.Key(workflow, run), workflow, run, true)
		}
	}
	// With a slash in a part, the key has more than one.
	for _, x := range [][2]string{{"a/b", "r1"}, {"a", "r/1"}, {"/", ""}, {"", "/"}, {"/", "/"}} {
		checkSplit(t, name.Key(x[0], x[1]), "", "", false)
	}
}
