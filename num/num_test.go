package num_test

import (
	"math"
	"math/big"
	"strings"
	"testing"

	"thresher/api"
	"thresher/num"
)

// edges are the numbers around which something turns: 0, the signs, the powers of 2, the least and the greatest.
func edges() []int64 {
	l := []int64{0, math.MinInt64, math.MinInt64 + 1, math.MaxInt64, math.MaxInt64 - 1}
	for i := range 63 {
		p := int64(1) << i
		l = append(l, p-1, p, p+1, -p-1, -p, -p+1)
	}
	return l
}

// many are the edges, all small numbers, and some from all over the 64 bits, by a fixed rule.
func many() []int64 {
	l := edges()
	for n := int64(-20000); n <= 20000; n++ {
		l = append(l, n)
	}
	u := uint64(1)
	for i := range 20000 {
		u = u*6364136223846793005 + 1442695040888963407
		l = append(l, int64(u)>>(i%64))
	}
	return l
}

// turned is P1.1's number, in arithmetic without bounds.
func turned(n int64) *big.Int {
	t := new(big.Int).Mul(big.NewInt(n), big.NewInt(2))
	if n < 0 {
		t.Neg(t).Sub(t, big.NewInt(1))
	}
	return t
}

// groups are the bytes of a number not below 0, by division.
func groups(t *big.Int) string {
	var b []byte
	t = new(big.Int).Set(t)
	for {
		rest := new(big.Int)
		t.DivMod(t, big.NewInt(128), rest)
		if t.Sign() == 0 {
			return string(append(b, byte(rest.Int64())))
		}
		b = append(b, byte(rest.Int64())+128)
	}
}

func wantTake(t *testing.T, s string, n int64, k int, e api.Errno) {
	t.Helper()
	if gotN, gotK, gotE := num.Take(s); gotN != n || gotK != k || gotE != e {
		t.Errorf("Take(%q): %d, %d, %d; want %d, %d, %d", s, gotN, gotK, gotE, n, k, e)
	}
}

// P1.1

func TestBytesOfKnownNumbers(t *testing.T) {
	for _, c := range []struct {
		n int64
		s string
	}{
		{0, "\x00"},
		{-1, "\x01"},
		{1, "\x02"},
		{-2, "\x03"},
		{63, "\x7e"},
		{-64, "\x7f"},
		{64, "\x80\x01"},
		{-65, "\x81\x01"},
		{150, "\xac\x02"},
		{8191, "\xfe\x7f"},
		{-8192, "\xff\x7f"},
		{8192, "\x80\x80\x01"},
		{1<<62 - 1, "\xfe" + strings.Repeat("\xff", 7) + "\x7f"},
		{-1 << 62, strings.Repeat("\xff", 8) + "\x7f"},
		{1 << 62, strings.Repeat("\x80", 9) + "\x01"},
		{math.MaxInt64, "\xfe" + strings.Repeat("\xff", 8) + "\x01"},
		{math.MinInt64, strings.Repeat("\xff", 9) + "\x01"},
	} {
		if s := num.Bytes(c.n); s != c.s {
			t.Errorf("Bytes(%d): %q, want %q", c.n, s, c.s)
		}
		wantTake(t, c.s, c.n, len(c.s), api.OK)
	}
}

func TestBytesByDivision(t *testing.T) {
	for _, n := range many() {
		if s, want := num.Bytes(n), groups(turned(n)); s != want {
			t.Errorf("Bytes(%d): %q, want %q", n, s, want)
		}
	}
}

func TestBytesAreFew(t *testing.T) {
	for _, n := range many() {
		s := num.Bytes(n)
		bits := turned(n).BitLen()
		if want := max(1, (bits+6)/7); len(s) != want {
			t.Errorf("Bytes(%d): %d bytes, want %d", n, len(s), want)
		}
		for i := range len(s) {
			if goesOn := s[i]&128 != 0; goesOn != (i < len(s)-1) {
				t.Errorf("Bytes(%d): %q: byte %d", n, s, i)
			}
		}
	}
}

func TestTakePassesOverWhatFollows(t *testing.T) {
	for _, n := range edges() {
		s := num.Bytes(n)
		for _, behind := range []string{"\x00", "\x01", "\x80", "\xff", "abc", s} {
			wantTake(t, s+behind, n, len(s), api.OK)
		}
	}
}

func TestTakeCut(t *testing.T) {
	wantTake(t, "", 0, 0, api.ErrCut)
	for _, n := range edges() {
		s := num.Bytes(n)
		for i := range len(s) {
			wantTake(t, s[:i], 0, 0, api.ErrCut)
		}
	}
	for i := range 10 {
		wantTake(t, strings.Repeat("\x80", i), 0, 0, api.ErrCut)
		wantTake(t, strings.Repeat("\xff", i), 0, 0, api.ErrCut)
	}
}

func TestTakeTenthByte(t *testing.T) {
	for _, first := range []string{strings.Repeat("\xff", 9), strings.Repeat("\x80", 9)} {
		for b := 2; b < 256; b++ {
			s := first + string([]byte{byte(b)})
			wantTake(t, s, 0, 0, api.ErrBad)
			wantTake(t, s+"\x00", 0, 0, api.ErrBad)
			wantTake(t, s+"\x01", 0, 0, api.ErrBad)
		}
	}
	wantTake(t, strings.Repeat("\xff", 9)+"\x01", math.MinInt64, 10, api.OK)
	wantTake(t, strings.Repeat("\x80", 9)+"\x01", 1<<62, 10, api.OK)
	wantTake(t, strings.Repeat("\xff", 1000), 0, 0, api.ErrBad)
}

func TestTakeNeedlessLastByte(t *testing.T) {
	wantTake(t, "\x00", 0, 1, api.OK)
	wantTake(t, "\x00\x00", 0, 1, api.OK)
	for i := 1; i < 10; i++ {
		wantTake(t, strings.Repeat("\x80", i)+"\x00", 0, 0, api.ErrBad)
		wantTake(t, strings.Repeat("\xff", i)+"\x00", 0, 0, api.ErrBad)
		wantTake(t, strings.Repeat("\xff", i)+"\x00\x01", 0, 0, api.ErrBad)
	}
}

// P1.2

// wantCut is P1.2's, in arithmetic without bounds.
func wantCut(n int64, bits uint, signed bool) int64 {
	all := new(big.Int).Lsh(big.NewInt(1), bits)
	r := new(big.Int).Mod(big.NewInt(n), all)
	if signed && r.Bit(int(bits)-1) == 1 {
		r.Sub(r, all)
	}
	return r.Int64()
}

func TestCut(t *testing.T) {
	for _, n := range many() {
		for _, bits := range []int{8, 16, 32} {
			for _, signed := range []bool{false, true} {
				want := wantCut(n, uint(bits), signed)
				if got, e := num.Cut(n, bits, signed); got != want || e != api.OK {
					t.Errorf("Cut(%d, %d, %v): %d, %d; want %d", n, bits, signed, got, e, want)
				}
			}
		}
	}
}

func TestCutKnown(t *testing.T) {
	for _, c := range []struct {
		n      int64
		bits   int
		signed bool
		want   int64
	}{
		{127, 8, true, 127}, {128, 8, true, -128}, {255, 8, true, -1}, {256, 8, true, 0},
		{128, 8, false, 128}, {255, 8, false, 255}, {256, 8, false, 0}, {-1, 8, false, 255},
		{32767, 16, true, 32767}, {32768, 16, true, -32768}, {65535, 16, true, -1}, {-32769, 16, true, 32767},
		{32768, 16, false, 32768}, {65536, 16, false, 0}, {-1, 16, false, 65535},
		{1<<31 - 1, 32, true, 1<<31 - 1}, {1 << 31, 32, true, -1 << 31}, {1<<32 - 1, 32, true, -1},
		{1 << 31, 32, false, 1 << 31}, {1 << 32, 32, false, 0}, {-1, 32, false, 1<<32 - 1},
		{math.MinInt64, 32, true, 0}, {math.MinInt64, 8, false, 0},
		{math.MaxInt64, 32, true, -1}, {math.MaxInt64, 16, false, 65535},
	} {
		if got, e := num.Cut(c.n, c.bits, c.signed); got != c.want || e != api.OK {
			t.Errorf("Cut(%d, %d, %v): %d, %d; want %d", c.n, c.bits, c.signed, got, e, c.want)
		}
	}
}

func TestCutForm(t *testing.T) {
	wrong := []int{math.MinInt, -32, -16, -8, -1, 64, 128, 256, 264, 1 << 32, 1<<32 + 8, math.MaxInt}
	for bits := range 64 {
		if bits != 8 && bits != 16 && bits != 32 {
			wrong = append(wrong, bits)
		}
	}
	for _, bits := range wrong {
		for _, signed := range []bool{false, true} {
			if got, e := num.Cut(77, bits, signed); got != 0 || e != api.ErrForm {
				t.Errorf("Cut(77, %d, %v): %d, %d", bits, signed, got, e)
			}
		}
	}
}

// wantShift is P1.2's, in arithmetic without bounds.
func wantShift(n int64, by int64, kind int) int64 {
	k := uint(new(big.Int).Mod(big.NewInt(by), big.NewInt(64)).Int64())
	all := new(big.Int).Lsh(big.NewInt(1), 64)
	r := big.NewInt(n)
	switch kind {
	case 0:
		r.Lsh(r, k)
	case 1:
		r.Rsh(r, k)
	case 2:
		r.Mod(r, all).Rsh(r, k)
	}
	r.Mod(r, all)
	if r.Bit(63) == 1 {
		r.Sub(r, all)
	}
	return r.Int64()
}

func TestShift(t *testing.T) {
	for _, n := range edges() {
		for _, by := range shifts() {
			for kind := range 3 {
				want := wantShift(n, by, kind)
				if got, e := num.Shift(n, by, kind); got != want || e != api.OK {
					t.Errorf("Shift(%d, %d, %d): %d, %d; want %d", n, by, kind, got, e, want)
				}
			}
		}
	}
}

// shifts are below 0, from 0 to 63, 64 and more, and as far as it goes.
func shifts() []int64 {
	l := []int64{math.MinInt64, math.MinInt64 + 1, math.MaxInt64, math.MaxInt64 - 1, 1 << 32, 1<<32 + 3, -1 << 32, 1<<8 + 5}
	for by := int64(-130); by <= 130; by++ {
		l = append(l, by)
	}
	return l
}

func TestShiftKnown(t *testing.T) {
	for _, c := range []struct {
		n, by int64
		kind  int
		want  int64
	}{
		{3, 2, 0, 12}, {1, 63, 0, math.MinInt64}, {1, 64, 0, 1}, {1, 65, 0, 2}, {1, -1, 0, math.MinInt64}, {1, -64, 0, 1},
		{-8, 1, 1, -4}, {-1, 63, 1, -1}, {-1, 64, 1, -1}, {8, 1, 1, 4}, {-8, -63, 1, -4}, {math.MinInt64, 63, 1, -1},
		{-8, 1, 2, math.MaxInt64 - 3}, {-1, 63, 2, 1}, {-1, 64, 2, -1}, {-1, -4, 2, 15}, {math.MinInt64, 63, 2, 1},
		{5, math.MinInt64, 0, 5}, {1, math.MaxInt64, 0, math.MinInt64},
	} {
		if got, e := num.Shift(c.n, c.by, c.kind); got != c.want || e != api.OK {
			t.Errorf("Shift(%d, %d, %d): %d, %d; want %d", c.n, c.by, c.kind, got, e, c.want)
		}
	}
}

func TestShiftForm(t *testing.T) {
	for _, kind := range []int{math.MinInt, -3, -2, -1, 3, 4, 5, 64, 256, 1 << 32, math.MaxInt} {
		for _, by := range []int64{-1, 0, 1, 64} {
			if got, e := num.Shift(77, by, kind); got != 0 || e != api.ErrForm {
				t.Errorf("Shift(77, %d, %d): %d, %d", by, kind, got, e)
			}
		}
	}
}

// P1.3

func TestFour(t *testing.T) {
	for _, c := range []struct {
		n uint32
		s string
	}{
		{0, "\x00\x00\x00\x00"},
		{1, "\x00\x00\x00\x01"},
		{0x01020304, "\x01\x02\x03\x04"},
		{0xfedcba98, "\xfe\xdc\xba\x98"},
		{1 << 31, "\x80\x00\x00\x00"},
		{math.MaxUint32, "\xff\xff\xff\xff"},
	} {
		if s := num.Four(c.n); s != c.s {
			t.Errorf("Four(%#x): %q, want %q", c.n, s, c.s)
		}
		for _, behind := range []string{"", "\x00", "\xff\xff\xff\xff"} {
			if n, e := num.TakeFour(c.s + behind); n != c.n || e != api.OK {
				t.Errorf("TakeFour(%q): %#x, %d; want %#x", c.s+behind, n, e, c.n)
			}
		}
	}
}

func TestFourOfEachByte(t *testing.T) {
	for place := range 4 {
		for b := range 256 {
			want := []byte{0x5a, 0x5a, 0x5a, 0x5a}
			want[place] = byte(b)
			n, e := num.TakeFour(string(want))
			if s := num.Four(n); s != string(want) || e != api.OK {
				t.Errorf("%q: %#x, %d, %q", want, n, e, s)
			}
		}
	}
}

func TestTakeFourCut(t *testing.T) {
	for i := range 4 {
		for _, s := range []string{"\x00\x00\x00\x00", "\xff\xff\xff\xff", "\x01\x02\x03\x04"} {
			if n, e := num.TakeFour(s[:i]); n != 0 || e != api.ErrCut {
				t.Errorf("TakeFour(%q): %d, %d", s[:i], n, e)
			}
		}
	}
}

// P1.4

func TestTakeUndoesBytes(t *testing.T) {
	for _, n := range many() {
		s := num.Bytes(n)
		wantTake(t, s, n, len(s), api.OK)
	}
}

// Whatever Take takes, Bytes tells again: no number has two forms.
func TestBytesUndoesTake(t *testing.T) {
	check := func(s string) {
		n, k, e := num.Take(s)
		if e == api.OK && num.Bytes(n) != s[:k] {
			t.Errorf("Take(%q): %d, of %q; its Bytes: %q", s, n, s[:k], num.Bytes(n))
		}
	}
	for _, ahead := range []string{"", "\x80", "\xff", strings.Repeat("\x80", 7), strings.Repeat("\xff", 8)} {
		for a := range 256 {
			for b := range 256 {
				check(ahead + string([]byte{byte(a), byte(b)}))
			}
		}
	}
}
