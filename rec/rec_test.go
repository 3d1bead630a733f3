package rec_test

import (
	"encoding/binary"
	"math"
	"slices"
	"strings"
	"testing"

	"thresher/api"
	"thresher/rec"
)

// bytesOf are P4.1's, by the library's numbers of the same form.
func bytesOf(r api.Rec) string {
	b := binary.AppendVarint(nil, r.Key.A)
	b = binary.AppendVarint(b, int64(len(r.Key.B)))
	b = append(b, r.Key.B...)
	return string(binary.AppendVarint(b, r.Val))
}

func textOf(l []api.Rec) string {
	var s string
	for _, r := range l {
		s += bytesOf(r)
	}
	return s
}

// numbers are the signs, the powers of 2 with their neighbours, the least and the greatest.
func numbers() []int64 {
	l := []int64{0, math.MinInt64, math.MaxInt64}
	for i := range 63 {
		p := int64(1) << i
		l = append(l, p-1, p, p+1, -p-1, -p, -p+1)
	}
	return l
}

// records have each number, each length of a text that may be, and each byte in a text.
func records() []api.Rec {
	var l []api.Rec
	all := numbers()
	for i, n := range all {
		l = append(l, api.Rec{Val: n}, api.Rec{Key: api.Key{A: n, B: "key"}, Val: all[len(all)-1-i]})
	}
	for n := range api.MaxText + 1 {
		l = append(l, api.Rec{Key: api.Key{B: strings.Repeat("x", n)}, Val: int64(n)})
		l = append(l, api.Rec{Key: api.Key{A: -5, B: strings.Repeat("\xff", n)}, Val: math.MinInt64})
	}
	for b := range 256 {
		l = append(l, api.Rec{Key: api.Key{A: 7, B: string([]byte{byte(b), 'm', byte(b)})}, Val: int64(b)})
	}
	return l
}

// tooLong has a key that may not be.
func tooLong(n int) api.Rec {
	return api.Rec{Key: api.Key{A: 3, B: strings.Repeat("x", n)}, Val: 9}
}

// greatest has the most bytes that a record can have.
func greatest() api.Rec {
	return api.Rec{Key: api.Key{A: math.MinInt64, B: strings.Repeat("\xff", api.MaxText)}, Val: math.MinInt64}
}

func wantTake(t *testing.T, s string, r api.Rec, n int, e api.Errno) {
	t.Helper()
	gotRec, gotN, gotE := rec.Take(s)
	if gotRec != r || gotN != n || gotE != e {
		t.Errorf("Take(%q): %#v, %d, %d, not %#v, %d, %d", s, gotRec, gotN, gotE, r, n, e)
	}
}

func wantNoTake(t *testing.T, s string, e api.Errno) {
	t.Helper()
	wantTake(t, s, api.Rec{}, 0, e)
}

func wantAll(t *testing.T, s string, want []api.Rec) {
	t.Helper()
	if l, e := rec.All(s); !slices.Equal(l, want) || e != api.OK {
		t.Errorf("All of %d bytes: %#v, %d, not %#v", len(s), l, e, want)
	}
}

func wantNotAll(t *testing.T, s string, want api.Errno) {
	t.Helper()
	if l, e := rec.All(s); len(l) != 0 || e != want {
		t.Errorf("All of %d bytes: %d records, %d, not %d", len(s), len(l), e, want)
	}
}

func wantText(t *testing.T, l []api.Rec, want string) {
	t.Helper()
	if s, e := rec.Text(l); s != want || e != api.OK {
		t.Errorf("Text of %d records: %q, %d, not %q", len(l), s, e, want)
	}
}

func wantNoText(t *testing.T, l []api.Rec, want api.Errno) {
	t.Helper()
	if s, e := rec.Text(l); s != "" || e != want {
		t.Errorf("Text of %d records: %q, %d, not %d", len(l), s, e, want)
	}
}

// P4.1

func TestBytes(t *testing.T) {
	for _, c := range []struct {
		r    api.Rec
		want string
	}{
		{api.Rec{}, "\x00\x00\x00"},
		{api.Rec{Val: 1}, "\x00\x00\x02"},
		{api.Rec{Val: -1}, "\x00\x00\x01"},
		{api.Rec{Key: api.Key{A: 1, B: "b"}, Val: 5}, "\x02\x02b\x0a"},
		{api.Rec{Key: api.Key{A: 300, B: "\x00"}, Val: 300}, "\xd8\x04\x02\x00\xd8\x04"},
		{api.Rec{Key: api.Key{B: strings.Repeat("y", 64)}, Val: -2}, "\x00\x80\x01" + strings.Repeat("y", 64) + "\x03"},
	} {
		if s, e := rec.Bytes(c.r); s != c.want || e != api.OK {
			t.Errorf("Bytes(%#v): %q, %d, not %q", c.r, s, e, c.want)
		}
	}
	for _, r := range records() {
		if s, e := rec.Bytes(r); s != bytesOf(r) || e != api.OK {
			t.Errorf("Bytes(%#v): %q, %d, not %q", r, s, e, bytesOf(r))
		}
	}
}

func TestBytesOfKeyThatMayNotBe(t *testing.T) {
	for _, n := range []int{api.MaxText + 1, api.MaxText + 2, 128, 256, 256 + api.MaxText, api.MaxSplit + 1, 1 << 16} {
		if s, e := rec.Bytes(tooLong(n)); s != "" || e != api.ErrForm {
			t.Errorf("Bytes of a text of %d bytes: %q, %d", n, s, e)
		}
	}
}

func TestTake(t *testing.T) {
	for _, r := range records() {
		s := bytesOf(r)
		for _, behind := range []string{"", "\x00", "\x80", "\xff", s} {
			wantTake(t, s+behind, r, len(s), api.OK)
		}
	}
}

// Take is of one record: what stands behind it has no bound.
func TestTakeAheadOfMuch(t *testing.T) {
	r := api.Rec{Key: api.Key{A: 1, B: "b"}, Val: 5}
	wantTake(t, bytesOf(r)+strings.Repeat("\x80", 2*api.MaxSplit), r, 4, api.OK)
}

func TestTakeOfNothing(t *testing.T) {
	wantNoTake(t, "", api.ErrCut)
}

func TestTakeCutShort(t *testing.T) {
	for _, r := range records() {
		s := bytesOf(r)
		for n := range len(s) {
			wantNoTake(t, s[:n], api.ErrCut)
		}
	}
}

// badNumbers are of no number: one with fewer bytes, or one beyond 64 bits.
func badNumbers() []string {
	full := strings.Repeat("\xff", 9)
	return []string{"\x80\x00", "\xff\x80\x00", full + "\x02", full + "\x80", full + "\xff"}
}

func TestTakeOfBadNumbers(t *testing.T) {
	for _, bad := range badNumbers() {
		wantNoTake(t, bad, api.ErrBad)
		wantNoTake(t, bad+"\x00\x00", api.ErrBad)
		wantNoTake(t, "\x00"+bad+"\x00", api.ErrBad)
		wantNoTake(t, "\x02\x02b"+bad, api.ErrBad)
		wantNoTake(t, "\x02\x02b"+bad+"\x00", api.ErrBad)
	}
}

func TestTakeOfBadLengths(t *testing.T) {
	for _, long := range []int64{-1, -64, 65, 66, 128, 256 + 5, math.MinInt64, math.MaxInt64} {
		s := "\x02" + string(binary.AppendVarint(nil, long))
		wantNoTake(t, s, api.ErrLimit)
		wantNoTake(t, s+strings.Repeat("\x00", 300), api.ErrLimit)
	}
}

// The key's errors come ahead of the value's.
func TestTakeFirstError(t *testing.T) {
	wantNoTake(t, "\x00\x01\x80\x00", api.ErrLimit)
	wantNoTake(t, "\x00\x82\x01\x80\x00", api.ErrLimit)
	wantNoTake(t, "\x80\x00\x01", api.ErrBad)
	wantNoTake(t, "\x00\x06\x80\x00", api.ErrCut)
	wantNoTake(t, "\x00\x04\x80\x00", api.ErrCut)
	wantNoTake(t, "\x00\x04\x80\x00\x80\x00", api.ErrBad)
}

// P4.2

// The chapter's example.
func TestOfNothingNone(t *testing.T) {
	wantAll(t, "", nil)
	wantText(t, nil, "")
	wantText(t, []api.Rec{}, "")
}

func TestAllAndTextOfOne(t *testing.T) {
	for _, r := range records() {
		wantAll(t, bytesOf(r), []api.Rec{r})
		wantText(t, []api.Rec{r}, bytesOf(r))
	}
}

// runs are of each number of records that may be, with equal ones and in no order.
func runs() [][]api.Rec {
	all := records()
	var l [][]api.Rec
	for n := range api.MaxRecs + 1 {
		var run []api.Rec
		for i := range n {
			run = append(run, all[(n*31+i*i*17)%len(all)])
		}
		l = append(l, run, slices.Repeat([]api.Rec{all[n]}, n))
	}
	return append(l, slices.Repeat([]api.Rec{greatest()}, api.MaxRecs), slices.Repeat([]api.Rec{{}}, api.MaxRecs))
}

func TestAll(t *testing.T) {
	for _, run := range runs() {
		wantAll(t, textOf(run), run)
	}
}

func TestText(t *testing.T) {
	for _, run := range runs() {
		wantText(t, run, textOf(run))
	}
}

// A text cut short is of fewer records if it is cut between two of them, else of none.
func TestAllCutShort(t *testing.T) {
	run := []api.Rec{{Key: api.Key{A: 1, B: "b"}, Val: 5}, {Key: api.Key{A: -300}, Val: -64}, {}, greatest(), {Val: 1 << 40}}
	ends := map[int]int{}
	for n := range run {
		ends[len(textOf(run[:n]))] = n
	}
	s := textOf(run)
	for i := range len(s) {
		if n, there := ends[i]; there {
			wantAll(t, s[:i], run[:n])
			continue
		}
		wantNotAll(t, s[:i], api.ErrCut)
	}
}

func TestAllTellsTakesError(t *testing.T) {
	for _, ahead := range []int{0, 1, 2, api.MaxRecs - 1} {
		s := strings.Repeat("\x02\x02b\x0a", ahead)
		wantNotAll(t, s+"\x00", api.ErrCut)
		wantNotAll(t, s+"\x00\x80\x01", api.ErrCut)
		wantNotAll(t, s+"\x00\x82\x01\x00", api.ErrLimit)
		wantNotAll(t, s+"\x00\x01\x00", api.ErrLimit)
		for _, bad := range badNumbers() {
			wantNotAll(t, s+bad, api.ErrBad)
			wantNotAll(t, s+"\x00\x00"+bad+"\x00\x00\x00", api.ErrBad)
		}
	}
}

// The first record that cannot be taken tells the error.
func TestAllTellsFirstError(t *testing.T) {
	wantNotAll(t, "\x00\x00\x00"+"\x80\x00"+"\x00\x01", api.ErrBad)
	wantNotAll(t, "\x00\x00\x00"+"\x00\x01"+"\x80\x00", api.ErrLimit)
	wantNotAll(t, "\x00\x00\x80\x00"+strings.Repeat("\x00\x00\x00", api.MaxRecs+1), api.ErrBad)
}

// The record behind MaxRecs is not taken: it tells no error of its own.
func TestAllOfTooMany(t *testing.T) {
	for _, r := range []api.Rec{{}, {Key: api.Key{A: 1, B: "b"}, Val: 5}, greatest()} {
		run := slices.Repeat([]api.Rec{r}, api.MaxRecs)
		s := textOf(run)
		wantAll(t, s, run)
		for _, behind := range append(badNumbers(), bytesOf(r), "\x00", "\x80", "\x00\x01", s) {
			wantNotAll(t, s+behind, api.ErrLimit)
		}
	}
}

// MaxSplit bytes are taken, and tell what is wrong with them; of one more nothing is taken.
func TestAllOfLongTexts(t *testing.T) {
	for _, c := range []struct {
		ahead string
		at    api.Errno
	}{
		{"\x80\x00", api.ErrBad},
		{"\x02\x02b\x80\x00", api.ErrBad},
		{"\x00\x00\x00\x80\x00", api.ErrBad},
		{"\x00\x01", api.ErrLimit},
		{"", api.ErrLimit},
	} {
		s := c.ahead + strings.Repeat("\x00", api.MaxSplit-len(c.ahead))
		wantNotAll(t, s, c.at)
		wantNotAll(t, s[:len(s)-1], c.at)
		wantNotAll(t, s+"\x00", api.ErrLimit)
		wantNotAll(t, s+s, api.ErrLimit)
	}
}

func TestTextOfKeyThatMayNotBe(t *testing.T) {
	for _, n := range []int{1, 2, 3, api.MaxRecs} {
		for i := range n {
			l := slices.Repeat([]api.Rec{{Val: 1}}, n)
			l[i] = tooLong(api.MaxText + 1)
			wantNoText(t, l, api.ErrForm)
			l[i] = tooLong(api.MaxText)
			wantText(t, l, textOf(l))
		}
	}
}

// A record's error comes ahead of what all of them come to, but behind their number.
func TestTextFirstError(t *testing.T) {
	wantNoText(t, []api.Rec{tooLong(api.MaxSplit + 1)}, api.ErrForm)
	l := slices.Repeat([]api.Rec{greatest()}, api.MaxRecs)
	l[api.MaxRecs-1] = tooLong(api.MaxSplit)
	wantNoText(t, l, api.ErrForm)
	wantNoText(t, append(l, api.Rec{}), api.ErrLimit)
	wantNoText(t, slices.Repeat([]api.Rec{tooLong(65)}, api.MaxRecs+1), api.ErrLimit)
}

func TestTextOfTooMany(t *testing.T) {
	for _, n := range []int{api.MaxRecs + 1, api.MaxRecs + 2, 2 * api.MaxRecs, 256, 256 + api.MaxRecs, api.MaxSplit + 1} {
		wantNoText(t, make([]api.Rec, n), api.ErrLimit)
		wantNoText(t, slices.Repeat([]api.Rec{greatest()}, n), api.ErrLimit)
	}
}

// As many records as may be, each as long as may be, stay within MaxSplit: with these limits
// no list can be of too many bytes and yet of few enough records.
func TestMostRecordsFit(t *testing.T) {
	l := slices.Repeat([]api.Rec{greatest()}, api.MaxRecs)
	s, e := rec.Text(l)
	if len(s) != 86*api.MaxRecs || len(s) > api.MaxSplit || e != api.OK {
		t.Errorf("%d bytes, %d", len(s), e)
	}
}

// R1: the same call tells the same.
func TestTellsTheSame(t *testing.T) {
	for _, run := range runs() {
		s := textOf(run)
		for range 3 {
			wantAll(t, s, run)
			wantText(t, run, s)
		}
	}
}

// R2: what is handed in stays as it is, spare room too.
func TestTextChangesNothing(t *testing.T) {
	bad := []api.Rec{{Val: 4}, tooLong(api.MaxText + 1), {Val: 2}}
	for _, run := range append(runs(), bad, slices.Repeat([]api.Rec{{Val: 8}}, api.MaxRecs+1)) {
		room := append(slices.Clone(run), api.Rec{Val: 99}, api.Rec{Val: 98})
		was := slices.Clone(room)
		rec.Text(room[:len(run)])
		if !slices.Equal(room, was) {
			t.Errorf("Text changed %#v to %#v", was, room)
		}
	}
}

// R2: whoever writes into what was told changes nothing else.
func TestAllTellsNewMemory(t *testing.T) {
	for _, run := range runs() {
		s := textOf(run)
		first, _ := rec.All(s)
		second, _ := rec.All(s)
		first = first[:cap(first)]
		for i := range first {
			first[i] = api.Rec{Key: api.Key{A: -77, B: "spoilt"}, Val: -77}
		}
		if !slices.Equal(second, run) {
			t.Errorf("All of %d records shares memory", len(run))
		}
		wantAll(t, s, run)
	}
}

// P4.3

func TestTakeUndoesBytes(t *testing.T) {
	for _, r := range append(records(), greatest()) {
		s, e := rec.Bytes(r)
		if e != api.OK {
			t.Errorf("Bytes(%#v): %d", r, e)
		}
		wantTake(t, s, r, len(s), api.OK)
		wantTake(t, s+s, r, len(s), api.OK)
	}
}

func TestAllUndoesText(t *testing.T) {
	for _, run := range runs() {
		s, e := rec.Text(run)
		if e != api.OK {
			t.Errorf("Text of %d records: %d", len(run), e)
		}
		wantAll(t, s, run)
	}
}

// odd are texts of some bytes each, among them many that are no records.
func odd(tell func(s string)) {
	some := []byte{0, 1, 2, 4, 127, 128, 129, 255}
	for a := range 256 {
		for _, b := range some {
			for _, c := range some {
				for _, d := range some {
					tell(string([]byte{byte(a), b, c, d}))
					tell(string([]byte{b, c, d, byte(a), b, c}))
				}
			}
		}
	}
}

// Whatever can be taken comes back as the bytes that it was taken from.
func TestBytesUndoesTake(t *testing.T) {
	took := 0
	odd(func(s string) {
		r, n, e := rec.Take(s)
		if e != api.OK {
			return
		}
		took++
		if b, e := rec.Bytes(r); b != s[:n] || e != api.OK {
			t.Errorf("Take(%q): %#v, %d, but Bytes: %q, %d", s, r, n, b, e)
		}
	})
	if took < 10000 {
		t.Errorf("only %d could be taken", took)
	}
}

func TestTextUndoesAll(t *testing.T) {
	took := 0
	odd(func(s string) {
		l, e := rec.All(s)
		if e != api.OK {
			return
		}
		took++
		wantText(t, l, s)
	})
	if took < 1000 {
		t.Errorf("only %d could be taken", took)
	}
}
