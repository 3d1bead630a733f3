package key_test

import (
	"encoding/binary"
	"math"
	"slices"
	"strings"
	"testing"

	"thresher/api"
	"thresher/key"
)

// plainBytes are P3.1's, by the library's numbers of the same form.
func plainBytes(a int64, long int64, text string) string {
	b := binary.AppendVarint(nil, a)
	b = binary.AppendVarint(b, long)
	return string(b) + text
}

func bytesOf(k api.Key) string {
	return plainBytes(k.A, int64(len(k.B)), k.B)
}

// numbers are the signs, the powers of 2 with their neighbours, the least and the greatest.
func numbers() []int64 {
	l := []int64{0, math.MinInt64, math.MaxInt64}
	for i := range 63 {
		p := int64(1) << i
		l = append(l, p-1, p, p+1, -p-1, -p, -p+1)
	}
	return l
}

// texts have each length that may be, and each byte, at the end and ahead of another one.
func texts() []string {
	var l []string
	for n := range api.MaxText + 1 {
		l = append(l, strings.Repeat("x", n), strings.Repeat("\x00", n), strings.Repeat("\xff", n))
	}
	for b := range 256 {
		l = append(l, string([]byte{byte(b)}), string([]byte{'m', byte(b)}), string([]byte{byte(b), 'm'}))
	}
	return append(l, "é", "日本", "a\x00b", "\x80\x01")
}

func keys() []api.Key {
	var l []api.Key
	for _, a := range numbers() {
		l = append(l, api.Key{A: a}, api.Key{A: a, B: "key"})
	}
	for i, b := range texts() {
		l = append(l, api.Key{B: b}, api.Key{A: int64(i) - 300, B: b})
	}
	return l
}

// mixed has n keys, few of them different, by a fixed rule.
func mixed(n int, seed uint64) []api.Key {
	l := make([]api.Key, n)
	u := seed
	for i := range l {
		u = u*6364136223846793005 + 1442695040888963407
		l[i] = api.Key{A: int64(u>>60) - 8, B: strings.Repeat(string([]byte{byte(u >> 56)}), int(u>>50)%3)}
	}
	return l
}

func wantTake(t *testing.T, s string, k api.Key, n int, e api.Errno) {
	t.Helper()
	gotKey, gotN, gotE := key.Take(s)
	if gotKey != k || gotN != n || gotE != e {
		t.Errorf("Take(%q): %#v, %d, %d, not %#v, %d, %d", s, gotKey, gotN, gotE, k, n, e)
	}
}

func wantNoTake(t *testing.T, s string, e api.Errno) {
	t.Helper()
	wantTake(t, s, api.Key{}, 0, e)
}

// P3.1

func TestBytes(t *testing.T) {
	for _, c := range []struct {
		k    api.Key
		want string
	}{
		{api.Key{}, "\x00\x00"},
		{api.Key{A: 1, B: "a"}, "\x02\x02a"},
		{api.Key{A: 1, B: "b"}, "\x02\x02b"},
		{api.Key{A: -1, B: "ab\x00"}, "\x01\x06ab\x00"},
		{api.Key{A: 300}, "\xd8\x04\x00"},
		{api.Key{B: strings.Repeat("y", 63)}, "\x00\x7e" + strings.Repeat("y", 63)},
		{api.Key{B: strings.Repeat("y", 64)}, "\x00\x80\x01" + strings.Repeat("y", 64)},
	} {
		if s, e := key.Bytes(c.k); s != c.want || e != api.OK {
			t.Errorf("Bytes(%#v): %q, %d, not %q", c.k, s, e, c.want)
		}
	}
	for _, k := range keys() {
		if s, e := key.Bytes(k); s != bytesOf(k) || e != api.OK {
			t.Errorf("Bytes(%#v): %q, %d, not %q", k, s, e, bytesOf(k))
		}
	}
}

func TestCheck(t *testing.T) {
	for _, k := range keys() {
		if e := key.Check(k); e != api.OK {
			t.Errorf("Check(%#v): %d", k, e)
		}
	}
}

func TestTooLongText(t *testing.T) {
	for _, n := range []int{api.MaxText + 1, api.MaxText + 2, 128, 256, 256 + api.MaxText, 1 << 16} {
		for _, a := range []int64{0, -1, math.MaxInt64} {
			k := api.Key{A: a, B: strings.Repeat("x", n)}
			if e := key.Check(k); e != api.ErrForm {
				t.Errorf("Check of a text of %d bytes: %d", n, e)
			}
			if s, e := key.Bytes(k); s != "" || e != api.ErrForm {
				t.Errorf("Bytes of a text of %d bytes: %q, %d", n, s, e)
			}
		}
	}
}

// How long a text is goes by bytes: these have few runes.
func TestTextOfLongRunes(t *testing.T) {
	if e := key.Check(api.Key{B: strings.Repeat("é", api.MaxText/2)}); e != api.OK {
		t.Errorf("%d bytes: %d", api.MaxText, e)
	}
	if e := key.Check(api.Key{B: strings.Repeat("é", api.MaxText/2+1)}); e != api.ErrForm {
		t.Errorf("%d bytes: %d", api.MaxText+2, e)
	}
}

func TestTake(t *testing.T) {
	for _, k := range keys() {
		s := bytesOf(k)
		for _, behind := range []string{"", "\x00", "\x80", "x", s} {
			wantTake(t, s+behind, k, len(s), api.OK)
		}
	}
}

func TestTakeOfNothing(t *testing.T) {
	wantNoTake(t, "", api.ErrCut)
}

func TestTakeCutShort(t *testing.T) {
	for _, k := range keys() {
		s := bytesOf(k)
		for n := range len(s) {
			wantNoTake(t, s[:n], api.ErrCut)
		}
	}
}

func TestTakeOfLengths(t *testing.T) {
	text := strings.Repeat("x", 300)
	for _, a := range []int64{0, -7, math.MinInt64} {
		for _, long := range numbers() {
			s := plainBytes(a, long, text)
			if long < 0 || long > 64 {
				wantNoTake(t, s, api.ErrLimit)
				wantNoTake(t, s[:len(s)-len(text)], api.ErrLimit)
				continue
			}
			wantTake(t, s, api.Key{A: a, B: text[:long]}, len(s)-len(text)+int(long), api.OK)
		}
	}
}

func TestTakeOfBadNumbers(t *testing.T) {
	full := strings.Repeat("\xff", 9)
	for _, bad := range []string{"\x80\x00", "\xff\x80\x00", full + "\x02", full + "\x80", full + "\xff"} {
		wantNoTake(t, bad, api.ErrBad)
		wantNoTake(t, bad+"\x02a", api.ErrBad)
		wantNoTake(t, "\x00"+bad, api.ErrBad)
		wantNoTake(t, "\xd8\x04"+bad+"abc", api.ErrBad)
	}
	wantNoTake(t, full, api.ErrCut)
	wantNoTake(t, "\x00"+full, api.ErrCut)
}

// Where several errors apply, the one of the number is told ahead of the length's.
func TestTakeFirstError(t *testing.T) {
	wantNoTake(t, "\x80\x00\x01", api.ErrBad)
	wantNoTake(t, "\x80\x00", api.ErrBad)
	wantNoTake(t, "\x00\x01", api.ErrLimit)
	wantNoTake(t, "\x00\x82\x01", api.ErrLimit)
	wantNoTake(t, "\x00\x82", api.ErrCut)
}

// P3.2

// rising are keys in order, none twice.
func rising() []api.Key {
	return []api.Key{
		{A: math.MinInt64, B: "z"},
		{A: -256, B: "\xff\xff"},
		{A: -1},
		{A: 0},
		{A: 0, B: "\x00"},
		{A: 0, B: "\x00\x00"},
		{A: 0, B: "\x00\xff"},
		{A: 0, B: "B"},
		{A: 0, B: "a"},
		{A: 0, B: "aa"},
		{A: 0, B: "ab"},
		{A: 0, B: "b"},
		{A: 0, B: "\x7f"},
		{A: 0, B: "\x80"},
		{A: 0, B: "é"},
		{A: 0, B: "\xff"},
		{A: 1},
		{A: 1, B: "a"},
		{A: 1, B: "b"},
		{A: 1 << 40},
		{A: math.MaxInt64, B: ""},
		{A: math.MaxInt64, B: strings.Repeat("a", 64)},
	}
}

func TestCmp(t *testing.T) {
	l := rising()
	for i, a := range l {
		for j, b := range l {
			want := 0
			if i < j {
				want = -1
			} else if i > j {
				want = 1
			}
			if c := key.Cmp(a, b); c != want {
				t.Errorf("Cmp(%#v, %#v): %d, not %d", a, b, c, want)
			}
		}
	}
}

func TestExample(t *testing.T) {
	a, b := api.Key{A: 1, B: "a"}, api.Key{A: 1, B: "b"}
	if c := key.Cmp(b, a); c != 1 {
		t.Errorf("Cmp: %d", c)
	}
	if c := key.Cmp(a, b); c != -1 {
		t.Errorf("Cmp: %d", c)
	}
	if l := key.Sort([]api.Key{b, a}); !slices.Equal(l, []api.Key{a, b}) {
		t.Errorf("Sort: %#v", l)
	}
}

// Order asks for no key that may be.
func TestOrderOfLongTexts(t *testing.T) {
	long := strings.Repeat("x", api.MaxText+1)
	a, b := api.Key{B: long}, api.Key{B: long + "y"}
	if c := key.Cmp(a, b); c != -1 {
		t.Errorf("Cmp: %d", c)
	}
	if l := key.Sort([]api.Key{b, a}); !slices.Equal(l, []api.Key{a, b}) {
		t.Errorf("Sort: %#v", l)
	}
	if l, many := key.Count([]api.Key{b, a, b}); !slices.Equal(l, []api.Key{a, b}) || !slices.Equal(many, []int{1, 2}) {
		t.Errorf("Count: %#v, %#v", l, many)
	}
}

// lists are of no keys, of one, of equal ones, and long ones with some twice.
func lists() [][]api.Key {
	one := api.Key{A: -3, B: "one"}
	turned := rising()
	slices.Reverse(turned)
	l := [][]api.Key{nil, {}, {{}}, {one}, {one, one}, slices.Repeat([]api.Key{one}, 50), {{}, one, {}}, rising(), turned}
	for n := range 60 {
		l = append(l, mixed(n, uint64(n)))
	}
	return append(l, mixed(5000, 7))
}

// placed puts each key where it belongs, one by one.
func placed(l []api.Key) []api.Key {
	var out []api.Key
	for _, k := range l {
		i := 0
		for i < len(out) && (out[i].A < k.A || out[i].A == k.A && out[i].B <= k.B) {
			i++
		}
		out = slices.Insert(out, i, k)
	}
	return out
}

func TestSort(t *testing.T) {
	for _, l := range lists() {
		was := slices.Clone(l)
		got := key.Sort(l)
		if !slices.Equal(got, placed(l)) {
			t.Errorf("Sort(%#v): %#v", l, got)
		}
		if !slices.Equal(l, was) {
			t.Errorf("Sort changed %#v to %#v", was, l)
		}
	}
}

func TestCount(t *testing.T) {
	for _, l := range lists() {
		was := slices.Clone(l)
		var keys []api.Key
		var many []int
		for _, k := range placed(l) {
			if n := len(keys); n > 0 && keys[n-1] == k {
				many[n-1]++
				continue
			}
			keys, many = append(keys, k), append(many, 1)
		}
		gotKeys, gotMany := key.Count(l)
		if !slices.Equal(gotKeys, keys) || !slices.Equal(gotMany, many) {
			t.Errorf("Count(%#v): %#v, %#v", l, gotKeys, gotMany)
		}
		if !slices.Equal(l, was) {
			t.Errorf("Count changed %#v to %#v", was, l)
		}
	}
}

// R1: how a map is gone through is not to be seen.
func TestCountTellsTheSame(t *testing.T) {
	l := mixed(300, 11)
	keys, many := key.Count(l)
	for range 50 {
		k, m := key.Count(l)
		if !slices.Equal(k, keys) || !slices.Equal(m, many) {
			t.Fatalf("%#v, %#v, and then %#v, %#v", keys, many, k, m)
		}
	}
}

// R2: whoever writes into what was told changes nothing else.
func TestToldIsNew(t *testing.T) {
	for _, l := range [][]api.Key{rising(), rising()[:1], mixed(40, 3)} {
		// Spare room behind what is handed in is not to be written, either.
		room := append(slices.Clone(l), api.Key{A: 99}, api.Key{A: 98})
		was := slices.Clone(room)
		in := room[:len(l)]
		sorted, again := key.Sort(in), key.Sort(in)
		spoil(sorted)
		if !slices.Equal(room, was) || !slices.Equal(again, placed(l)) {
			t.Errorf("Sort of %d keys shares memory", len(l))
		}
		keys, many := key.Count(in)
		keysAgain, manyAgain := key.Count(in)
		wantKeys, wantMany := slices.Clone(keysAgain), slices.Clone(manyAgain)
		spoil(keys)
		for i := range many[:cap(many)] {
			many[:cap(many)][i] = -1
		}
		if !slices.Equal(room, was) || !slices.Equal(keysAgain, wantKeys) || !slices.Equal(manyAgain, wantMany) {
			t.Errorf("Count of %d keys shares memory", len(l))
		}
	}
}

func spoil(l []api.Key) {
	l = l[:cap(l)]
	for i := range l {
		l[i] = api.Key{A: -77, B: "spoilt"}
	}
}

// P3.3

func TestTakeUndoesBytes(t *testing.T) {
	for _, k := range append(keys(), mixed(500, 5)...) {
		s, e := key.Bytes(k)
		if e != api.OK {
			t.Errorf("Bytes(%#v): %d", k, e)
		}
		wantTake(t, s, k, len(s), api.OK)
		wantTake(t, s+s, k, len(s), api.OK)
	}
}

// Whatever can be taken comes back as the bytes that it was taken from.
func TestBytesUndoesTake(t *testing.T) {
	took := 0
	try := func(s string) {
		k, n, e := key.Take(s)
		if e != api.OK {
			return
		}
		took++
		if b, e := key.Bytes(k); b != s[:n] || e != api.OK {
			t.Errorf("Take(%q): %#v, %d, but Bytes: %q, %d", s, k, n, b, e)
		}
	}
	for a := range 256 {
		for b := range 256 {
			for _, c := range []byte{0, 1, 2, 6, 127, 128, 129, 255} {
				try(string([]byte{byte(a), byte(b), c}))
				try(string([]byte{byte(a), byte(b), c}) + strings.Repeat("k", api.MaxText))
			}
		}
	}
	if took < 10000 {
		t.Errorf("only %d could be taken", took)
	}
}
