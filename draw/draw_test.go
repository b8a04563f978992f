package draw_test

import (
	"math/big"
	"strings"
	"testing"

	"workflow/api"
	"workflow/draw"
)

const (
	least    = -1 << 63
	greatest = 1<<63 - 1
)

// integers returns small ones and some around every power of two.
func integers() []int {
	out := []int{0, 7, 10, least, least + 1, greatest, greatest - 1}
	for shift := range 63 {
		p := 1 << shift
		out = append(out, p-1, p, p+1, -p)
	}
	return out
}

// seeds returns a few integers of both signs and all sizes.
func seeds() []int {
	return []int{0, 1, -1, 7, -2, 1 << 31, 1 << 32, -1 << 31, 0x0102030405060708, least, greatest}
}

// modelFnv follows chapter 4 with big integers, so that nothing wraps around by itself.
func modelFnv(s string) int {
	h, prime, modulus := big.NewInt(2166136261), big.NewInt(16777619), big.NewInt(1<<32)
	for _, c := range []byte(s) {
		h.Xor(h, big.NewInt(int64(c)))
		h.Mul(h, prime).Mod(h, modulus)
	}
	return int(h.Int64())
}

func modelDraw(seed, k int) int {
	b := make([]byte, 16)
	for i := range 8 {
		b[i] = byte(uint64(seed) >> (56 - 8*i))
		b[8+i] = byte(uint64(k) >> (56 - 8*i))
	}
	return modelFnv(string(b)) % (1 << 31)
}

func modelBelow(seed, k, n int) int {
	if n < 1 {
		return 0
	}
	return modelDraw(seed, k) % n
}

// part returns base * factor / 100, rounded down, whatever the size and sign of the numbers.
func part(base, factor int) int {
	p := new(big.Int).Mul(big.NewInt(int64(base)), big.NewInt(int64(factor)))
	return int(p.Div(p, big.NewInt(100)).Int64())
}

func TestDrawKnown(t *testing.T) { // P5.1
	for _, x := range []struct{ seed, k, want int }{
		{0, 0, 1768495365}, {1, 0, 1210079250}, {0, 1, 1751717746}, {7, 3, 57399065}, {3, 7, 76469401}, {-1, -1, 906459637}, {5, -2, 2145029329},
		{least, greatest, 259721469}, {greatest, least, 886345725}, {0x0102030405060708, 0x1112131415161718, 1101769829},
	} {
		if got := draw.Draw(x.seed, x.k); got != x.want {
			t.Errorf("Draw(%d, %d) = %d, want %d", x.seed, x.k, got, x.want)
		}
	}
}

func TestDraw(t *testing.T) { // P5.1
	for _, seed := range seeds() {
		for _, k := range integers() {
			got := draw.Draw(seed, k)
			if want := modelDraw(seed, k); got != want {
				t.Fatalf("Draw(%d, %d) = %d, want %d", seed, k, got, want)
			}
			if got < 0 || got > 1<<31-1 {
				t.Fatalf("Draw(%d, %d) = %d, which is out of range", seed, k, got)
			}
		}
	}
}

func TestBelowKnown(t *testing.T) { // P5.2
	for _, x := range []struct{ seed, k, n, want int }{
		{0, 0, 10, 5}, {0, 0, 100, 65}, {7, 3, 100, 65}, {-1, -1, 10, 7}, {5, -2, 100, 29}, {least, greatest, 10, 9},
		{0, 0, 1768495364, 1}, {0, 0, 1768495365, 0}, {0, 0, 1768495366, 1768495365}, {0, 0, 1 << 31, 1768495365}, {0, 0, greatest, 1768495365},
	} {
		if got := draw.Below(x.seed, x.k, x.n); got != x.want {
			t.Errorf("Below(%d, %d, %d) = %d, want %d", x.seed, x.k, x.n, got, x.want)
		}
	}
}

func TestBelow(t *testing.T) { // P5.2, P5.5
	for _, seed := range seeds() {
		for k := range 10 {
			for _, n := range integers() {
				got := draw.Below(seed, k, n)
				if want := modelBelow(seed, k, n); got != want {
					t.Fatalf("Below(%d, %d, %d) = %d, want %d", seed, k, n, got, want)
				}
				if n >= 1 && (got < 0 || got > n-1) {
					t.Fatalf("Below(%d, %d, %d) = %d, which is out of range", seed, k, n, got)
				}
			}
		}
	}
}

func TestBelowNothing(t *testing.T) { // P5.2
	for _, seed := range seeds() {
		for _, n := range []int{0, -1, -2, -3, -10, -100, -1 << 31, -1 << 32, least + 1, least} {
			if got := draw.Below(seed, 3, n); got != 0 {
				t.Errorf("Below(%d, 3, %d) = %d, want 0", seed, n, got)
			}
		}
	}
}

func TestBelowOne(t *testing.T) { // P5.5
	for _, seed := range seeds() {
		for _, k := range integers() {
			if got := draw.Below(seed, k, 1); got != 0 {
				t.Errorf("Below(%d, %d, 1) = %d, want 0", seed, k, got)
			}
		}
	}
}

func TestJitterKnown(t *testing.T) { // P5.3
	for _, x := range []struct{ seed, k, base, percent, want int }{
		{7, 0, 100, 10, 92}, {7, 1, 100, 10, 97}, {7, 2, 100, 10, 102}, {-1, -1, 999, 1, 999}, {4, 5, 99, 99, 179},
		{7, 3, 7, 33, 6}, {7, 4, 1, 50, 1}, {7, 5, 3, 100, 5}, {1, 2, 1, 100, 0}, {0, 0, 0, 100, 0},
		{7, 6, 1 << 40, 100, 1572301627719}, {7, 7, 1 << 40, 10, 1165482325442},
		// These two draw the least and the greatest of the 201 factors.
		{7, 123, 50, 100, 0}, {7, 123, 1 << 40, 100, 0}, {7, 181, 50, 100, 100}, {7, 181, 1 << 40, 100, 1 << 41},
	} {
		if got := draw.Jitter(x.seed, x.k, x.base, x.percent); got != x.want {
			t.Errorf("Jitter(%d, %d, %d, %d) = %d, want %d", x.seed, x.k, x.base, x.percent, got, x.want)
		}
	}
}

func TestJitter(t *testing.T) { // P5.3, P5.5
	bases := []int{0, 1, 2, 3, 7, 49, 50, 51, 99, 100, 101, 999, 1000, 123456789, 1 << 31, 1 << 32, api.MaxTime - 1, api.MaxTime}
	for _, seed := range seeds() {
		for k := range 20 {
			for _, base := range bases {
				for _, percent := range []int{0, 1, 2, 9, 10, 33, 50, 99, 100} {
					got := draw.Jitter(seed, k, base, percent)
					if want := part(base, 100-percent+modelBelow(seed, k, 2*percent+1)); got != want {
						t.Fatalf("Jitter(%d, %d, %d, %d) = %d, want %d", seed, k, base, percent, got, want)
					}
					if got < part(base, 100-percent) || got > part(base, 100+percent) {
						t.Fatalf("Jitter(%d, %d, %d, %d) = %d, which is out of range", seed, k, base, percent, got)
					}
				}
			}
		}
	}
}

func TestJitterReachesItsBounds(t *testing.T) { // P5.3, P5.5
	for _, percent := range []int{1, 10, 100} {
		seen := map[int]bool{}
		for k := range 3000 {
			seen[draw.Jitter(7, k, 1000, percent)] = true
		}
		if len(seen) != 2*percent+1 || !seen[1000-10*percent] || !seen[1000+10*percent] {
			t.Errorf("percent %d gives %d results, the least one: %t, the greatest one: %t", percent, len(seen), seen[1000-10*percent], seen[1000+10*percent])
		}
	}
}

func TestJitterOfNoPercent(t *testing.T) { // P5.3
	for _, seed := range seeds() {
		for _, base := range integers() {
			if got := draw.Jitter(seed, 4, base, 0); got != base {
				t.Errorf("Jitter(%d, 4, %d, 0) = %d", seed, base, got)
			}
		}
	}
}

func TestJitterOutOfRange(t *testing.T) { // P5.3
	wrongBases := []int{-1, -5, -50, -100, -1 << 32, -api.MaxTime, least + 1, least, api.MaxTime + 1, api.MaxTime + 100, 2 * api.MaxTime, 1 << 56, greatest}
	wrongPercents := []int{-1, -10, -100, -1 << 31, least, 101, 102, 200, 1 << 32, 1 << 62, greatest}
	for _, seed := range seeds() {
		for k := range 20 {
			for _, base := range wrongBases {
				for _, percent := range append([]int{0, 1, 10, 50, 100}, wrongPercents...) {
					if got := draw.Jitter(seed, k, base, percent); got != base {
						t.Fatalf("Jitter(%d, %d, %d, %d) = %d", seed, k, base, percent, got)
					}
				}
			}
			for _, percent := range wrongPercents {
				for _, base := range []int{0, 1, 50, 1000, api.MaxTime} {
					if got := draw.Jitter(seed, k, base, percent); got != base {
						t.Fatalf("Jitter(%d, %d, %d, %d) = %d", seed, k, base, percent, got)
					}
				}
			}
		}
	}
}

func TestSeedKnown(t *testing.T) { // P5.4
	for _, x := range []struct {
		workflow, run string
		want          int
	}{
		{"", "", 705468254}, {"w", "r1", 4205795534}, {"order-7", "r2", 1962966760}, {"", "r1", 646792751}, {"w", "", 575099995},
		{"a/b", "c", 1199438699}, {"a", "b/c", 1199438699}, {"é", "r1", 1365767099}, {"w/", "r1", 16119809}, {"w", "/r1", 16119809},
	} {
		if got := draw.Seed(x.workflow, x.run); got != x.want {
			t.Errorf("Seed(%q, %q) = %d, want %d", x.workflow, x.run, got, x.want)
		}
	}
}

func TestSeed(t *testing.T) { // P5.4
	texts := []string{"", "/", "//", "a", "r1", "r2", "order-7", "A B", "\x00", "\xff\xfe", "日本", strings.Repeat("w", 64), strings.Repeat("long/", 1000)}
	high := false
	for _, workflow := range texts {
		for _, run := range texts {
			got := draw.Seed(workflow, run)
			if want := modelFnv(workflow + "/" + run); got != want {
				t.Errorf("Seed(%q, %q) = %d, want %d", workflow, run, got, want)
			}
			high = high || got >= 1<<31
		}
	}
	if !high {
		t.Error("no seed has its highest bit set")
	}
}
