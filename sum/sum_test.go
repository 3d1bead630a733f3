package sum_test

import (
	"hash/crc32"
	"strings"
	"testing"

	"thresher/sum"
)

// plain is P2.1 by its words, a bit at a time.
func plain(b string) uint32 {
	c := uint32(0xffffffff)
	for i := range len(b) {
		for bit := range 8 {
			low := (c ^ uint32(b[i])>>bit) & 1
			c >>= 1
			if low == 1 {
				c ^= 0xedb88320
			}
		}
	}
	return c ^ 0xffffffff
}

// text has n bytes from all over, by a fixed rule.
func text(n int, seed uint64) string {
	b := make([]byte, n)
	u := seed
	for i := range b {
		u = u*6364136223846793005 + 1442695040888963407
		b[i] = byte(u >> 56)
	}
	return string(b)
}

// lengths are short ones, all of them, and some long ones with their neighbours.
func lengths() []int {
	var l []int
	for n := range 300 {
		l = append(l, n)
	}
	for _, n := range []int{1 << 10, 1 << 12, 1 << 16, 1 << 20} {
		l = append(l, n-1, n, n+1)
	}
	return l
}

func wantSum(t *testing.T, b string, want uint32) {
	t.Helper()
	if n := sum.Sum(b); n != want {
		t.Errorf("Sum of %d bytes, %.40q: %#08x, not %#08x", len(b), b, n, want)
	}
}

// wantBoth holds the sum against the document's words and against the library's.
func wantBoth(t *testing.T, b string) {
	t.Helper()
	wantSum(t, b, plain(b))
	wantSum(t, b, crc32.ChecksumIEEE([]byte(b)))
}

// P2.1

func TestKnownSums(t *testing.T) {
	wantSum(t, "123456789", 0xcbf43926)
	wantSum(t, "a", 0xe8b7be43)
	wantSum(t, "abc", 0x352441c2)
	wantSum(t, "The quick brown fox jumps over the lazy dog", 0x414fa339)
	wantSum(t, "\x00", 0xd202ef8d)
	wantSum(t, "\xff", 0xff000000)
	wantSum(t, "\xff\xff\xff\xff", 0xffffffff)
}

func TestSumOfNothing(t *testing.T) {
	wantSum(t, "", 0)
}

func TestSumOfEachByte(t *testing.T) {
	seen := map[uint32]int{}
	for v := range 256 {
		b := string([]byte{byte(v)})
		wantBoth(t, b)
		seen[sum.Sum(b)]++
	}
	if len(seen) != 256 {
		t.Errorf("256 bytes have %d sums", len(seen))
	}
}

func TestSumOfEachPair(t *testing.T) {
	for v := range 1 << 16 {
		wantBoth(t, string([]byte{byte(v >> 8), byte(v)}))
	}
}

func TestSumOfTexts(t *testing.T) {
	for i, n := range lengths() {
		wantBoth(t, text(n, uint64(i)))
		wantBoth(t, strings.Repeat("\x00", n))
		wantBoth(t, strings.Repeat("\xff", n))
	}
}

func TestSumIsOfBytes(t *testing.T) {
	wantBoth(t, "ß, € and 𝄞")
	wantBoth(t, "cut short: \xe2\x82")
	wantBoth(t, "a\x00b\x00")
}

func TestSumCountsZerosAndOrder(t *testing.T) {
	seen := map[uint32]string{}
	for _, b := range []string{"", "\x00", "\x00\x00", "\x00\x00\x00", "ab", "ba", "\x00ab", "ab\x00", "a\x00b"} {
		n := sum.Sum(b)
		if was, ok := seen[n]; ok {
			t.Errorf("%q and %q have the one sum %#08x", was, b, n)
		}
		seen[n] = b
	}
}

func TestSumIsTheSameEachTime(t *testing.T) {
	b := text(1000, 7)
	first := sum.Sum(b)
	wantSum(t, text(999, 8), plain(text(999, 8)))
	wantSum(t, b, first)
}

// P2.2

func turned(b string, bit int) string {
	l := []byte(b)
	l[bit/8] ^= 1 << (bit % 8)
	return string(l)
}

// wantEachTold turns each bit in turn: no two of these texts, nor the text itself, have one sum as long as
// they have fewer bits than 2^32 - 1, for each bit changes the sum by another power of x.
func wantEachTold(t *testing.T, b string) {
	t.Helper()
	seen := map[uint32]int{sum.Sum(b): -1}
	for bit := range 8 * len(b) {
		n := sum.Sum(turned(b, bit))
		if was, ok := seen[n]; ok {
			t.Errorf("%d bytes, %.40q: bits %d and %d turned (-1: none) have the one sum %#08x", len(b), b, was, bit, n)
		}
		seen[n] = bit
	}
}

func TestEachTurnedBitIsTold(t *testing.T) {
	wantEachTold(t, "123456789")
	for n := 1; n <= 64; n++ {
		wantEachTold(t, text(n, uint64(n)))
		wantEachTold(t, strings.Repeat("\x00", n))
		wantEachTold(t, strings.Repeat("\xff", n))
	}
	wantEachTold(t, text(1000, 3))
}

func TestTurnedBitOfALongTextIsTold(t *testing.T) {
	const length = 1 << 20
	b := text(length, 5)
	was := sum.Sum(b)
	for _, at := range []int{0, 1, length / 2, length - 2, length - 1} {
		for bit := range 8 {
			if sum.Sum(turned(b, 8*at+bit)) == was {
				t.Errorf("bit %d of byte %d turned: the same sum", bit, at)
			}
		}
	}
}

func TestBitTurnedBackIsTheSumAgain(t *testing.T) {
	b := text(200, 11)
	was := sum.Sum(b)
	for bit := range 8 * len(b) {
		wantSum(t, turned(turned(b, bit), bit), was)
	}
}
