package frame_test

import (
	"encoding/binary"
	"hash/crc32"
	"math"
	"slices"
	"strings"
	"testing"

	"thresher/api"
	"thresher/frame"
)

const head = 8

// frameOf is P5.1's, by the library's words and sums.
func frameOf(s string) string {
	long := binary.BigEndian.AppendUint32(nil, uint32(len(s)))
	c := crc32.ChecksumIEEE(append(slices.Clone(long), s...))
	return string(binary.BigEndian.AppendUint32(long, c)) + s
}

func framesOf(l []string) string {
	var b strings.Builder
	for _, s := range l {
		b.WriteString(frameOf(s))
	}
	return b.String()
}

// lying has the length told and a sum that fits it, whatever it holds.
func lying(long uint32, s string) string {
	w := binary.BigEndian.AppendUint32(nil, long)
	c := crc32.ChecksumIEEE(append(slices.Clone(w), s...))
	return string(binary.BigEndian.AppendUint32(w, c)) + s
}

// long has n bytes of all kinds.
func long(n int) string {
	b := make([]byte, n)
	for i := range b {
		b[i] = byte(i*7 + i>>8)
	}
	return string(b)
}

// texts have each byte, each short length, the lengths beside a power of 2, and MaxData.
func texts() []string {
	l := []string{"", "a", "abc", "\x00", "\x00\x00\x00\x00", "\xff\xff\xff\xff", frameOf(""), frameOf("abc")}
	for b := range 256 {
		l = append(l, string([]byte{byte(b)}), string([]byte{byte(b), 'm', byte(b)}))
	}
	for n := range 70 {
		l = append(l, long(n), strings.Repeat("\x00", n))
	}
	for n := 128; n <= api.MaxData; n *= 2 {
		l = append(l, long(n-1), long(n))
		if n < api.MaxData {
			l = append(l, long(n+1))
		}
	}
	return append(l, strings.Repeat("\x00", api.MaxData), strings.Repeat("\xff", api.MaxData))
}

// show tells the beginning of what may be long.
func show(s string) string {
	return s[:min(len(s), 40)]
}

func wantTake(t *testing.T, s string, want string, n int, e api.Errno) {
	t.Helper()
	got, gotN, gotE := frame.Take(s)
	if got != want || gotN != n || gotE != e {
		t.Errorf("Take(%q.. of %d bytes): %q, %d, %d, not %q, %d, %d", show(s), len(s), show(got), gotN, gotE, show(want), n, e)
	}
}

func wantNoTake(t *testing.T, s string, e api.Errno) {
	t.Helper()
	wantTake(t, s, "", 0, e)
}

func wantScan(t *testing.T, s string, want []string, n int) {
	t.Helper()
	l, gotN := frame.Scan(s)
	if !slices.Equal(l, want) || gotN != n {
		t.Errorf("Scan(%q.. of %d bytes): %d texts, %d, not %d texts, %d", show(s), len(s), len(l), gotN, len(want), n)
	}
}

// P5.1

// The chapter's example.
func TestOfNothing(t *testing.T) {
	s, e := frame.Bytes("")
	if s != "\x00\x00\x00\x00\x21\x44\xdf\x1c" || len(s) != 8 || e != api.OK {
		t.Errorf("%q, %d", s, e)
	}
	wantTake(t, s, "", 8, api.OK)
}

func TestBytes(t *testing.T) {
	for _, s := range texts() {
		if got, e := frame.Bytes(s); got != frameOf(s) || e != api.OK {
			t.Errorf("Bytes(%q.. of %d bytes): %q, %d", show(s), len(s), show(got), e)
		}
	}
}

func TestBytesOfTooMany(t *testing.T) {
	for _, n := range []int{api.MaxData + 1, api.MaxData + 2, 2 * api.MaxData, 1 << 16, 1<<16 + 1, 1 << 20} {
		if s, e := frame.Bytes(strings.Repeat("x", n)); s != "" || e != api.ErrLimit {
			t.Errorf("Bytes of %d bytes: %q, %d", n, show(s), e)
		}
	}
}

func TestTake(t *testing.T) {
	for _, s := range texts() {
		f := frameOf(s)
		for _, behind := range []string{"", "\x00", "\xff", "more", f, strings.Repeat("\xff", 300)} {
			wantTake(t, f+behind, s, len(f), api.OK)
		}
	}
}

// Take is of one frame: what stands behind it has no bound.
func TestTakeAheadOfMuch(t *testing.T) {
	behind := strings.Repeat("\x80", 3*api.MaxData)
	wantTake(t, frameOf("abc")+behind, "abc", 11, api.OK)
	most := long(api.MaxData)
	wantTake(t, frameOf(most)+behind, most, head+api.MaxData, api.OK)
}

func TestTakeOfFewerThanEight(t *testing.T) {
	for n := range head {
		for _, b := range []string{"\x00", "\x01", "\x80", "\xff", "a"} {
			wantNoTake(t, strings.Repeat(b, n), api.ErrCut)
		}
	}
}

func TestTakeCutShort(t *testing.T) {
	for _, s := range texts() {
		f := frameOf(s)
		for n := range len(f) {
			// All places of a long one would take long, and are alike.
			if n > 2*head && n < len(f)-2*head && n%997 != 0 {
				continue
			}
			wantNoTake(t, f[:n], api.ErrCut)
		}
	}
}

func TestTakeOfLengthAboveLimit(t *testing.T) {
	for _, n := range []uint32{api.MaxData + 1, api.MaxData + 2, 1 << 16, 1<<16 + 3, 1 << 24, 1<<31 - 1, 1 << 31, 1<<31 + 3, math.MaxUint32 - 8, math.MaxUint32} {
		wantNoTake(t, lying(n, ""), api.ErrLimit)
		wantNoTake(t, lying(n, "abc"), api.ErrLimit)
		wantNoTake(t, lying(n, long(api.MaxData+1)), api.ErrLimit)
		wantNoTake(t, lying(n, long(1<<17)), api.ErrLimit)
	}
}

func TestTakeOfAnotherSum(t *testing.T) {
	f := frameOf("abc")
	for _, s := range []string{
		"\x00\x00\x00\x00aaaa",
		"\x00\x00\x00\x00\x00\x00\x00\x00",
		"\x00\x00\x00\x03\x00\x00\x00\x00abc",
		"\x00\x00\x00\x03\xff\xff\xff\xffabc",
		f[:head] + "abd",
		f[:head] + "bac",
		f[:4] + frameOf("abd")[4:head] + "abc",
		// The sum of what it holds alone, of the length alone, and from the least byte on.
		"\x00\x00\x00\x03" + string(binary.BigEndian.AppendUint32(nil, crc32.ChecksumIEEE([]byte("abc")))) + "abc",
		"\x00\x00\x00\x03" + string(binary.BigEndian.AppendUint32(nil, crc32.ChecksumIEEE([]byte("\x00\x00\x00\x03")))) + "abc",
		f[:4] + string([]byte{f[7], f[6], f[5], f[4]}) + "abc",
		// A frame of another length, that fits neither with fewer nor with more bytes.
		"\x00\x00\x00\x02" + f[4:],
		"\x00\x00\x00\x04" + f[4:] + "\x00",
	} {
		wantNoTake(t, s, api.ErrSum)
		wantNoTake(t, s+f, api.ErrSum)
	}
}

// turned tells s with each of its bits turned alone, or a part of them if s is long.
func turned(s string, tell func(place int, s string)) {
	b := []byte(s)
	for i := range b {
		if i > 64 && i < len(b)-16 && i%1009 != 0 {
			continue
		}
		for bit := range 8 {
			b[i] ^= 1 << bit
			tell(i, string(b))
			b[i] ^= 1 << bit
		}
	}
}

// A bit of the length makes it too great, or longer than what is there, or a sum of other bytes;
// one behind it makes another sum.
func TestTakeOfTurnedBit(t *testing.T) {
	for _, s := range []string{"", "a", "abc", long(7), long(8), long(9), long(300), long(api.MaxData - 1), long(api.MaxData)} {
		turned(frameOf(s), func(place int, f string) {
			want := api.ErrSum
			n := binary.BigEndian.Uint32([]byte(f))
			switch {
			case place < 4 && n > api.MaxData:
				want = api.ErrLimit
			case place < 4 && int(n) > len(f)-head:
				want = api.ErrCut
			}
			wantNoTake(t, f, want)
		})
	}
}

// R4: fewer than eight bytes, then a length too great, then fewer than it says, then the sum.
func TestTakeFirstError(t *testing.T) {
	wantNoTake(t, "\x00\x00\x80\x01aaa", api.ErrCut)
	wantNoTake(t, "\xff\xff\xff\xffaaa", api.ErrCut)
	wantNoTake(t, "\x00\x00\x80\x01aaaa", api.ErrLimit)
	wantNoTake(t, "\xff\xff\xff\xffaaaa", api.ErrLimit)
	wantNoTake(t, "\x00\x00\x80\x01aaaa"+long(api.MaxData+1), api.ErrLimit)
	wantNoTake(t, "\x00\x00\x80\x00aaaa", api.ErrCut)
	wantNoTake(t, "\x00\x00\x80\x00aaaa"+long(api.MaxData-1), api.ErrCut)
	wantNoTake(t, "\x00\x00\x80\x00aaaa"+long(api.MaxData), api.ErrSum)
	wantNoTake(t, "\x00\x00\x00\x01aaaa", api.ErrCut)
	wantNoTake(t, "\x00\x00\x00\x01aaaaa", api.ErrSum)
}

func TestTakeUndoesBytes(t *testing.T) {
	for _, s := range texts() {
		f, e := frame.Bytes(s)
		if e != api.OK || len(f) != head+len(s) {
			t.Errorf("Bytes of %d bytes: %d bytes, %d", len(s), len(f), e)
		}
		wantTake(t, f, s, len(f), api.OK)
	}
}

// P5.2

func TestScanOfNoFrame(t *testing.T) {
	for _, s := range []string{"", "\x00", "abcdefg", "abcdefgh", "\x00\x00\x00\x00\x00\x00\x00\x00", lying(api.MaxData+1, long(api.MaxData+1)), frameOf("abc")[1:], frameOf("abc")[:10]} {
		wantScan(t, s, nil, 0)
	}
}

func TestScanOfOne(t *testing.T) {
	for _, s := range texts() {
		wantScan(t, frameOf(s), []string{s}, head+len(s))
	}
}

// runs are several texts behind each other: of nothing, equal, short and long ones.
func runs() [][]string {
	all := texts()
	most := long(api.MaxData)
	l := [][]string{
		{"", ""},
		{"", "", ""},
		{"abc", "", "abc"},
		{"", "abc", ""},
		{"a", "a", "a", "a"},
		{frameOf("abc"), "abc", frameOf(frameOf("abc"))},
		{most, "", most, "x", most},
		all,
	}
	for n := 2; n < 40; n++ {
		var run []string
		for i := range n {
			run = append(run, all[(n*31+i*i*17)%256])
		}
		l = append(l, run, slices.Repeat([]string{all[n]}, n))
	}
	return append(l, slices.Repeat([]string{""}, 5000))
}

func TestScan(t *testing.T) {
	for _, run := range runs() {
		s := framesOf(run)
		wantScan(t, s, run, len(s))
	}
}

// Each way in which a frame cannot be taken ends it, and what stands behind is not looked at.
func TestScanEndsAtWhatCannotBeTaken(t *testing.T) {
	good := frameOf("good")
	for _, bad := range []string{
		"x",
		"\x00\x00\x00\x00",
		"\x00\x00\x00\x00\x00\x00\x00\x00",
		"\x00\x00\x00\x04\x00\x00\x00\x00good",
		lying(api.MaxData+1, long(api.MaxData+1)),
		"\xff\xff\xff\xff\xff\xff\xff\xff",
		good[1:],
		good[:len(good)-1] + "x",
		frameOf(long(api.MaxData))[:api.MaxData],
	} {
		for _, run := range [][]string{nil, {""}, {"abc"}, {"abc", "", "de"}, {long(api.MaxData)}} {
			s := framesOf(run)
			wantScan(t, s+bad, run, len(s))
			wantScan(t, s+bad+good, run, len(s))
			wantScan(t, s+bad+good+good, run, len(s))
		}
	}
}

// What one holds is not looked into: frames in a frame are bytes.
func TestScanOfFramesInFrame(t *testing.T) {
	inner := framesOf([]string{"a", "", "b"})
	s := framesOf([]string{inner, "c"})
	wantScan(t, s, []string{inner, "c"}, len(s))
}

// Scan tells what Take tells, one behind the other.
func TestScanIsTakeAgain(t *testing.T) {
	for _, run := range runs() {
		s := framesOf(run) + "\x00\x00\x00\x01aaaaa"
		var want []string
		n := 0
		for {
			x, k, e := frame.Take(s[n:])
			if e != api.OK {
				break
			}
			want, n = append(want, x), n+k
		}
		wantScan(t, s, want, n)
	}
}

// P5.3

// whole are those of the run whose frames stand within n bytes, and how many bytes they have.
func whole(run []string, n int) (l []string, many int) {
	for _, s := range run {
		if many+head+len(s) > n {
			break
		}
		l, many = append(l, s), many+head+len(s)
	}
	return l, many
}

func TestCutOffAnywhere(t *testing.T) {
	for _, run := range [][]string{
		{""},
		{"abc"},
		{"", "", ""},
		{"abc", "", "abc"},
		{long(3), long(20), "", long(1), long(300), "", "\x00\x00\x00\x00\x00\x00\x00\x00", long(9)},
		{frameOf("abc"), frameOf(""), framesOf([]string{"a", "b"})},
	} {
		s := framesOf(run)
		for n := range len(s) + 1 {
			want, many := whole(run, n)
			wantScan(t, s[:n], want, many)
		}
	}
}

func TestLongOnesCutOff(t *testing.T) {
	run := []string{long(api.MaxData), "abc", long(api.MaxData - 1), "", long(api.MaxData)}
	s := framesOf(run)
	end := 0
	for _, x := range run {
		end += head + len(x)
		for n := max(0, end-20); n <= min(len(s), end+20); n++ {
			want, many := whole(run, n)
			wantScan(t, s[:n], want, many)
		}
	}
}

// A bit that is turned anywhere spoils its own frame: those ahead of it are told.
func TestTurnedBitSpoilsItsFrame(t *testing.T) {
	run := []string{"abc", "", long(40), "d"}
	s := framesOf(run)
	turned(s, func(place int, spoilt string) {
		want, many := whole(run, place)
		wantScan(t, spoilt, want, many)
	})
}

// Written anew behind what was whole, it goes on.
func TestGoesOnBehindWhatIsWhole(t *testing.T) {
	run := []string{"abc", "", long(40)}
	s := framesOf(run)
	for n := range len(s) + 1 {
		want, many := whole(run, n)
		_, k := frame.Scan(s[:n])
		wantScan(t, s[:k]+frameOf("new"), append(want, "new"), many+head+3)
	}
}

// R1: the same call tells the same.
func TestTellsTheSame(t *testing.T) {
	for _, run := range runs() {
		s := framesOf(run)
		for range 3 {
			wantScan(t, s, run, len(s))
			wantTake(t, s, run[0], head+len(run[0]), api.OK)
			if f, e := frame.Bytes(run[0]); f != frameOf(run[0]) || e != api.OK {
				t.Errorf("Bytes of %d bytes: %q, %d", len(run[0]), show(f), e)
			}
		}
	}
}

// R2: what is handed in is as it was behind each call, whether it could be taken or not.
func TestHandedInUnchanged(t *testing.T) {
	for _, run := range runs() {
		for _, s := range []string{framesOf(run), framesOf(run) + "torn", "x" + framesOf(run), run[0], run[0] + long(api.MaxData)} {
			was := strings.Clone(s)
			frame.Bytes(s)
			frame.Take(s)
			frame.Scan(s)
			if s != was {
				t.Errorf("%q.. became %q..", show(was), show(s))
			}
		}
	}
}

// R2: whoever writes into what was told, or appends to it, changes nothing else.
func TestScanTellsNewMemory(t *testing.T) {
	for _, run := range runs() {
		s := framesOf(run)
		first, _ := frame.Scan(s)
		second, _ := frame.Scan(s)
		first = first[:cap(first)]
		for i := range first {
			first[i] = "spoilt"
		}
		if !slices.Equal(second, run) {
			t.Errorf("Scan of %d frames shares memory", len(run))
		}
		wantScan(t, s, run, len(s))
	}
}
