package msg_test

import (
	"fmt"
	"math"
	"slices"
	"strings"
	"testing"

	"thresher/api"
	"thresher/msg"
)

const (
	mostID   = 1 << 20
	least    = int64(math.MinInt64)
	greatest = int64(math.MaxInt64)
)

// ordinary is one of each kind, by kinds from 1 on.
func ordinary() []api.Msg {
	return []api.Msg{
		{Kind: api.MsgRun, To: 2, Job: 5, Split: 70, Epoch: 3, Data: "a job"},
		{Kind: api.MsgChunk, From: 3, Job: 64, Split: 2, Epoch: 200, Off: 48, Len: 150, Sum: 1 << 31, Data: "some bytes"},
		{Kind: api.MsgAck, To: 1, Job: 7, Split: 8, Epoch: 9, Off: 96},
		{Kind: api.MsgFail, From: 1, Job: 2, Split: 3, Epoch: 4, Code: int(api.ErrFuel)},
		{Kind: api.MsgPrepare, To: 1, Job: 1},
		{Kind: api.MsgVote, From: 2, Job: 63},
		{Kind: api.MsgDecide, To: 3, Job: mostID, Code: 1},
		{Kind: api.MsgDone, From: 1, Job: 300},
	}
}

// greatestOnes have each field at its upper end, leastOnes at its lower one.
func greatestOnes() (l []api.Msg) {
	for kind := int64(api.MsgRun); kind <= api.MsgDone; kind++ {
		spans, most, _ := plainSpans(kind)
		var n [fields]int64
		for i, s := range spans {
			n[i] = s.most
		}
		l = append(l, plainMsg(n, strings.Repeat("\xff", most)))
	}
	return l
}

func leastOnes() (l []api.Msg) {
	for kind := int64(api.MsgRun); kind <= api.MsgDone; kind++ {
		spans, _, _ := plainSpans(kind)
		var n [fields]int64
		for i, s := range spans {
			n[i] = s.least
		}
		l = append(l, plainMsg(n, ""))
	}
	return l
}

// some are of each kind, short and long ones.
func some() []api.Msg { return slices.Concat(ordinary(), leastOnes(), greatestOnes()) }

func shown(s string) string { return fmt.Sprintf("%.300q", s) }

func show(m api.Msg) string { return fmt.Sprintf("%.300q", fmt.Sprintf("%+v", m)) }

func wantTake(t *testing.T, s string, want api.Msg, bad api.Errno) {
	t.Helper()
	if m, e := msg.Take(s); m != want || e != bad {
		t.Errorf("Take(%s): %s, %d, not %s, %d", shown(s), show(m), e, show(want), bad)
	}
}

func wantNoTake(t *testing.T, s string, bad api.Errno) {
	t.Helper()
	wantTake(t, s, api.Msg{}, bad)
}

// wantTaken holds Take to the second reading; what it took is written so.
func wantTaken(t *testing.T, s string) api.Errno {
	t.Helper()
	want, bad := plainTake(s)
	wantTake(t, s, want, bad)
	if bad == api.OK {
		wantBytes(t, want, s)
	}
	return bad
}

func wantBytes(t *testing.T, m api.Msg, want string) {
	t.Helper()
	if s, e := msg.Bytes(m); s != want || e != api.OK {
		t.Errorf("Bytes(%s): %s, %d, not %s", show(m), shown(s), e, shown(want))
	}
}

// wantStands is of a message that may be.
func wantStands(t *testing.T, m api.Msg) {
	t.Helper()
	if e := msg.Check(m); e != api.OK {
		t.Errorf("Check(%s): %d", show(m), e)
	}
	s := plainBytes(m)
	wantBytes(t, m, s)
	wantTake(t, s, m, api.OK)
}

// wantForm is of a message that may not be.
func wantForm(t *testing.T, m api.Msg) {
	t.Helper()
	if e := msg.Check(m); e != api.ErrForm {
		t.Errorf("Check(%s): %d", show(m), e)
	}
	if s, e := msg.Bytes(m); s != "" || e != api.ErrForm {
		t.Errorf("Bytes(%s): %s, %d", show(m), shown(s), e)
	}
	// What is too long for a frame is not to be had as bytes.
	if len(m.Data) < api.MaxData-64 {
		wantNoTake(t, plainBytes(m), api.ErrBad)
	}
}

// wantAsRead holds a message, which need not be, to the second reading; it tells whether it may be.
func wantAsRead(t *testing.T, m api.Msg) bool {
	t.Helper()
	may := plainMayBe(plainFields(m), m.Data)
	if may {
		wantStands(t, m)
	} else {
		wantForm(t, m)
	}
	return may
}

// with is the message with that in that field; of a number that has no room there it is another one.
func with(m api.Msg, at int, n int64) api.Msg {
	l := plainFields(m)
	l[at] = n
	return plainMsg(l, m.Data)
}

func filled(m api.Msg, n int) api.Msg {
	m.Data = strings.Repeat("x", n)
	return m
}

// bodyOf is what the frame holds, with that in that field.
func bodyOf(m api.Msg, at int, n int64) string {
	l := plainFields(m)
	l[at] = n
	return plainNumbers(l[:]...) + m.Data
}

// pieces are the bytes of each number, then the data.
func pieces(m api.Msg) (l []string) {
	for _, n := range plainFields(m) {
		l = append(l, plainNumber(n))
	}
	return append(l, m.Data)
}

// TestExample: MsgPrepare: a frame of ten numbers.
func TestExample(t *testing.T) {
	m := api.Msg{Kind: api.MsgPrepare, To: 1, Job: 1}
	body := "\x0a\x00\x02\x02\x00\x00\x00\x00\x00\x00"
	s := plainFrame(body)
	if len(s) != 8+fields || s[8:] != body || s[:4] != "\x00\x00\x00\x0a" {
		t.Fatalf("%q", s)
	}
	wantStands(t, m)
	wantBytes(t, m, s)
	wantTake(t, s, m, api.OK)
}

// TestOrdinary: of each kind one, and its bytes written out.
func TestOrdinary(t *testing.T) {
	bodies := []string{
		"\x02\x00\x04\x0a\x8c\x01\x06\x00\x00\x00\x00a job",
		"\x04\x06\x00\x80\x01\x04\x90\x03\x60\xac\x02\x80\x80\x80\x80\x10\x00some bytes",
		"\x06\x00\x02\x0e\x10\x12\xc0\x01\x00\x00\x00",
		"\x08\x02\x00\x04\x06\x08\x00\x00\x00\x14",
		"\x0a\x00\x02\x02\x00\x00\x00\x00\x00\x00",
		"\x0c\x04\x00\x7e\x00\x00\x00\x00\x00\x00",
		"\x0e\x00\x06\x80\x80\x80\x01\x00\x00\x00\x00\x00\x02",
		"\x10\x02\x00\xd8\x04\x00\x00\x00\x00\x00\x00",
	}
	for i, m := range ordinary() {
		if m.Kind != i+1 {
			t.Fatalf("%d is of kind %d", i, m.Kind)
		}
		wantStands(t, m)
		wantBytes(t, m, plainFrame(bodies[i]))
		wantTake(t, plainFrame(bodies[i]), m, api.OK)
	}
}

// TestFrame: one written out, its sum, too.
func TestFrame(t *testing.T) {
	m := api.Msg{Kind: api.MsgDone, From: 3, Job: 1}
	s, e := msg.Bytes(m)
	if e != api.OK || s[:4] != "\x00\x00\x00\x0a" || s[8:] != "\x10\x06\x00\x02\x00\x00\x00\x00\x00\x00" {
		t.Errorf("%q, %d", s, e)
	}
	for _, m := range some() {
		s, e := msg.Bytes(m)
		if e != api.OK || len(s) > 8+fields*5+2*api.MaxProg || plainFrame(s[8:]) != s {
			t.Errorf("%s: %s, %d", show(m), shown(s), e)
		}
	}
}

// TestEnds: of each kind with all fields at an end.
func TestEnds(t *testing.T) {
	for _, m := range slices.Concat(leastOnes(), greatestOnes()) {
		wantStands(t, m)
	}
	wantStands(t, api.Msg{Kind: api.MsgChunk, From: 3, Job: mostID, Split: mostID, Epoch: api.MaxEpoch, Off: api.MaxData, Len: api.MaxData, Sum: math.MaxUint32, Data: strings.Repeat("x", api.ChunkSize)})
	wantStands(t, api.Msg{Kind: api.MsgRun, To: 3, Job: mostID, Split: mostID, Epoch: api.MaxEpoch, Data: strings.Repeat("x", 2*api.MaxProg)})
	wantForm(t, api.Msg{})
}

// farNumbers are far from what any field may be, or are such a number when they are cut.
func farNumbers() []int64 {
	return []int64{least, least + 1, least + 2, -1 << 32, -1<<32 + 1, -1<<32 + 2, -256, -255, 1 << 21, 1<<31 - 1, 1 << 31, 1<<31 + 1, 1<<32 - 1, 1 << 32, 1<<32 + 1, 1<<32 + 2, 1<<32 + 3, 1<<33 - 1, 1<<40 + 1, greatest, greatest - 1}
}

// TestKinds: 0, below 0, one more than MsgDone, and far away, with the fields of any kind; and those of one kind in another one.
func TestKinds(t *testing.T) {
	for _, m := range some() {
		for _, kind := range slices.Concat([]int64{0, -1, -2, -8, 9, 10, 16, 256, 257, 258, 264, 1 << 16, 1<<16 + 5}, farNumbers()) {
			wantForm(t, with(m, kindAt, kind))
		}
		for kind := int64(api.MsgRun); kind <= api.MsgDone; kind++ {
			wantAsRead(t, with(m, kindAt, kind))
		}
	}
	// Votes and what is known are alike, but for the kind.
	wantStands(t, api.Msg{Kind: api.MsgVote, From: 1, Job: 1})
	wantStands(t, api.Msg{Kind: api.MsgDone, From: 1, Job: 1})
}

// nearNumbers are all ends of what any field may be, and what is beside them.
func nearNumbers() []int64 {
	return []int64{-3, -2, -1, 0, 1, 2, 3, 4, 5, 47, 48, 49, 63, 64, 65, 66, 95, 96, 97, 127, 128, 150, 151, 255, 256, 257, 512, 1023, 1024, 1025, 1<<15 - 64, 1<<15 - 1, 1 << 15, 1<<15 + 1, 1<<16 - 1, 1 << 16, 1<<16 + 1, mostID - 1, mostID, mostID + 1}
}

// TestFields: each field of each kind, at its ends, just outside, and far away.
func TestFields(t *testing.T) {
	for _, m := range some() {
		for at := fromAt; at < fields; at++ {
			for _, n := range slices.Concat(nearNumbers(), farNumbers()) {
				if at != sumAt || (span{0, math.MaxUint32}).has(n) {
					wantAsRead(t, with(m, at, n))
				}
			}
		}
	}
}

// TestEachFieldsEnds: these are told one by one: the second reading is held against what is written here.
func TestEachFieldsEnds(t *testing.T) {
	type end struct {
		at          int
		least, most int64
		kinds       []int
	}
	down := []int{api.MsgRun, api.MsgAck, api.MsgPrepare, api.MsgDecide}
	up := []int{api.MsgChunk, api.MsgFail, api.MsgVote, api.MsgDone}
	all := slices.Concat(down, up)
	tasks := []int{api.MsgRun, api.MsgChunk, api.MsgAck, api.MsgFail}
	without := func(l ...int) []int {
		return slices.DeleteFunc(slices.Clone(all), func(kind int) bool { return slices.Contains(l, kind) })
	}
	chunk := []int{api.MsgChunk}
	for _, c := range []end{
		{fromAt, 0, 0, down}, {toAt, 1, api.MaxSites, down}, {fromAt, 1, api.MaxSites, up}, {toAt, 0, 0, up}, {jobAt, 1, mostID, all},
		{splitAt, 1, mostID, tasks}, {epochAt, 1, api.MaxEpoch, tasks}, {splitAt, 0, 0, without(tasks...)}, {epochAt, 0, 0, without(tasks...)},
		{offAt, 0, 150, chunk}, {offAt, 0, api.MaxData, []int{api.MsgAck}}, {offAt, 0, 0, without(api.MsgChunk, api.MsgAck)},
		{lenAt, 48, api.MaxData, chunk}, {lenAt, 0, 0, without(api.MsgChunk)}, {sumAt, 0, math.MaxUint32, chunk}, {sumAt, 0, 0, without(api.MsgChunk)},
		{codeAt, 2, 64, []int{api.MsgFail}}, {codeAt, 1, 64, []int{api.MsgDecide}}, {codeAt, 0, 0, without(api.MsgFail, api.MsgDecide)},
	} {
		for _, kind := range c.kinds {
			m := ordinary()[kind-1]
			for _, n := range []int64{c.least, min(c.least+1, c.most), (c.least + c.most) / 2, max(c.most-1, c.least), c.most} {
				wantStands(t, with(m, c.at, n))
			}
			for _, n := range []int64{c.least - 1, c.most + 1} {
				if c.at == sumAt && !(span{0, math.MaxUint32}).has(n) {
					wantNoTake(t, plainFrame(bodyOf(m, c.at, n)), api.ErrBad)
				} else {
					wantForm(t, with(m, c.at, n))
				}
			}
		}
	}
}

// TestNodes: both 0, none 0, the wrong one 0, and each other pair.
func TestNodes(t *testing.T) {
	for _, m := range some() {
		may := 0
		for from := int64(-5); from <= 5; from++ {
			for to := int64(-5); to <= 5; to++ {
				if wantAsRead(t, with(with(m, fromAt, from), toAt, to)) {
					may++
				}
			}
		}
		if may != api.MaxSites {
			t.Errorf("%s: %d pairs may be", show(m), may)
		}
		for _, n := range farNumbers() {
			for _, other := range []int64{-n, n, 0, 1, 3, -1} {
				wantForm(t, with(with(m, fromAt, n), toAt, other))
				wantForm(t, with(with(m, fromAt, other), toAt, n))
			}
		}
		m.From, m.To = m.To, m.From
		wantForm(t, m)
	}
}

// TestOffAndLen: Off at most Len, at both ends.
func TestOffAndLen(t *testing.T) {
	near := []int64{-1 << 32, -api.MaxData, -2, -1, 0, 1, 2, 3, 47, 48, 49, 63, 64, 255, 256, 257, api.MaxData - 2, api.MaxData - 1, api.MaxData, api.MaxData + 1, api.MaxData + 2, 1<<32 + 1, least, greatest}
	for _, m := range some() {
		for _, off := range near {
			for _, long := range near {
				may := wantAsRead(t, with(with(m, offAt, off), lenAt, long))
				if m.Kind == api.MsgChunk && may != (0 <= off && off <= long && long <= api.MaxData) {
					t.Errorf("%s: %d of %d: %v", show(m), off, long, may)
				}
			}
		}
	}
	// What is in it need not have room behind Off, nor end with Len.
	wantStands(t, api.Msg{Kind: api.MsgChunk, From: 1, Job: 1, Split: 1, Epoch: 1, Data: "more than Len"})
	wantStands(t, api.Msg{Kind: api.MsgChunk, From: 1, Job: 1, Split: 1, Epoch: 1, Off: 7, Len: 7, Data: "x"})
	wantStands(t, api.Msg{Kind: api.MsgChunk, From: 1, Job: 1, Split: 1, Epoch: 1, Off: 1, Len: 100})
}

// TestSums: any of 32 bits, of a chunk alone.
func TestSums(t *testing.T) {
	for _, m := range some() {
		for _, sum := range []uint32{0, 1, 2, 63, 64, 255, 256, 1<<16 - 1, 1 << 16, 1<<31 - 1, 1 << 31, 1<<31 + 1, 1<<32 - 2, 1<<32 - 1} {
			m.Sum = sum
			if wantAsRead(t, m) != (m.Kind == api.MsgChunk || sum == 0) {
				t.Errorf("%s", show(m))
			}
		}
	}
}

// TestData: as long as may be, one byte more, and much more; any bytes may be in it.
func TestData(t *testing.T) {
	for _, m := range some() {
		most := map[int]int{api.MsgRun: 2 * api.MaxProg, api.MsgChunk: api.ChunkSize}[m.Kind]
		for _, n := range []int{0, 1, 2, 47, 48, 49, 50, 96, 255, 256, 257, 304, 511, 512, 513, 1023, 1024, 1025, 1026, 1280, 2048, 1 << 14, 1 << 15, 1<<16 + 1, 1<<16 + 48} {
			if wantAsRead(t, filled(m, n)) != (n <= most) {
				t.Errorf("%s with %d bytes", show(m), n)
			}
		}
		for b := range 256 {
			for _, s := range []string{string([]byte{byte(b)}), "x" + string([]byte{byte(b), byte(b)}) + "y"} {
				m.Data = s
				wantAsRead(t, m)
			}
		}
	}
}

// TestPairs: each two fields, so that no wrong one is made good by another one.
func TestPairs(t *testing.T) {
	values := []int64{-2, -1, 0, 1, 2, 3, 64, 65, api.MaxData, api.MaxData + 1, mostID, mostID + 1}
	for _, m := range slices.Concat(ordinary(), leastOnes()) {
		for a := range fields {
			for b := range a {
				for _, x := range values {
					for _, y := range values {
						if a != sumAt && b != sumAt || a == sumAt && x >= 0 || b == sumAt && y >= 0 {
							wantAsRead(t, with(with(m, a, x), b, y))
						}
					}
				}
			}
		}
	}
}

// TestTakeCutOff: the bytes cut off at each place, and none at all.
func TestTakeCutOff(t *testing.T) {
	for _, m := range some() {
		s := plainBytes(m)
		for n := range len(s) {
			wantNoTake(t, s[:n], api.ErrCut)
		}
		wantTake(t, s, m, api.OK)
	}
}

// TestTakeBytesLeft: a byte more, each of them, more bytes, and a whole frame behind it.
func TestTakeBytesLeft(t *testing.T) {
	for _, m := range some() {
		s := plainBytes(m)
		for b := range 256 {
			wantNoTake(t, s+string([]byte{byte(b)}), api.ErrBad)
		}
		for _, more := range []string{s, s[:4], s[:8], plainFrame(""), plainBytes(ordinary()[0]), strings.Repeat("\x00", 1<<16)} {
			wantNoTake(t, s+more, api.ErrBad)
		}
		wantTaken(t, "\x00"+s)
	}
}

// TestTakeTurned: each byte turned, each to every other one, and each bit of long ones: such a frame's sum is another one, or it is cut, or too long.
func TestTakeTurned(t *testing.T) {
	for _, m := range some() {
		s := plainBytes(m)
		for i := range len(s) {
			for x := 1; x < 256; x++ {
				if len(s) > 200 && x&(x-1) != 0 {
					continue
				}
				b := []byte(s)
				b[i] ^= byte(x)
				e := wantTaken(t, string(b))
				if e != api.ErrSum && (i >= 4 || e != api.ErrCut && e != api.ErrLimit) {
					t.Fatalf("%s, byte %d turned by %d: %d", show(m), i, x, e)
				}
			}
		}
	}
}

// TestBodyTurned: each byte of what a whole frame holds is another one.
func TestBodyTurned(t *testing.T) {
	seen := map[api.Errno]int{}
	for _, m := range some() {
		s := plainBytes(m)[8:]
		for i := range min(len(s), 60) {
			for x := 1; x < 256; x++ {
				b := []byte(s)
				b[i] ^= byte(x)
				seen[wantTaken(t, plainFrame(string(b)))]++
			}
		}
	}
	for _, e := range []api.Errno{api.OK, api.ErrCut, api.ErrBad} {
		if seen[e] == 0 {
			t.Errorf("none tells %d: %v", e, seen)
		}
	}
}

// TestBodyCutOff: a whole frame of a body that is cut off at each place, within each number and behind it.
func TestBodyCutOff(t *testing.T) {
	for _, m := range some() {
		l := pieces(m)
		s := strings.Join(l, "")
		ahead := len(s) - len(m.Data)
		for n := range ahead {
			wantNoTake(t, plainFrame(s[:n]), api.ErrCut)
		}
		// Less data is a message, too.
		for n := ahead; n <= len(s); n++ {
			less := m
			less.Data = m.Data[:n-ahead]
			wantTake(t, plainFrame(s[:n]), less, api.OK)
		}
		for at := range fields {
			without := slices.Concat(l[:at], l[at+1:])
			wantTaken(t, plainFrame(strings.Join(without, "")))
		}
	}
}

// TestBodyLonger: one byte more, which is data where there may be some, and else bad.
func TestBodyLonger(t *testing.T) {
	for _, m := range some() {
		s := plainBytes(m)[8:]
		_, most, _ := plainSpans(int64(m.Kind))
		for b := range 256 {
			more := string([]byte{byte(b)})
			if len(m.Data) == most {
				wantNoTake(t, plainFrame(s+more), api.ErrBad)
				continue
			}
			longer := m
			longer.Data += more
			wantTake(t, plainFrame(s+more), longer, api.OK)
		}
		wantNoTake(t, plainFrame(s+strings.Repeat("x", most+1)), api.ErrBad)
		wantNoTake(t, plainFrame(s+strings.Repeat("x", api.MaxData-len(s))), api.ErrBad)
	}
}

// TestNumbersLonger: each number longer than it need be, up to what no number is, and cut within it.
func TestNumbersLonger(t *testing.T) {
	for _, m := range some() {
		l := pieces(m)
		for at := range fields {
			ahead, behind := strings.Join(l[:at], ""), strings.Join(l[at+1:], "")
			last := len(l[at]) - 1
			open := l[at][:last] + string([]byte{l[at][last] | 0x80})
			for n := range 12 {
				longer := open + strings.Repeat("\x80", n)
				for _, end := range []string{"\x00", "\x00\x00"} {
					wantNoTake(t, plainFrame(ahead+longer+end+behind), api.ErrBad)
				}
				e := wantTaken(t, plainFrame(ahead+longer))
				if (e == api.ErrCut) != (len(longer) < 10) {
					t.Errorf("%s, field %d, %d bytes: %d", show(m), at, len(longer), e)
				}
			}
			for _, none := range []string{"\xff\xff\xff\xff\xff\xff\xff\xff\xff\x02", "\x80\x80\x80\x80\x80\x80\x80\x80\x80\x02", strings.Repeat("\xff", 20), strings.Repeat("\x80", 10)} {
				wantNoTake(t, plainFrame(ahead+none+behind), api.ErrBad)
			}
		}
	}
}

// TestNumbersTooGreat: of each field, by its bytes: also those of which its field has not the room, and would keep what may be.
func TestNumbersTooGreat(t *testing.T) {
	for _, m := range some() {
		for at, n := range plainFields(m) {
			for bit := range 63 {
				for _, sign := range []int64{1, -1} {
					wantTaken(t, plainFrame(bodyOf(m, at, n+sign<<bit)))
				}
			}
			for _, far := range []int64{least, greatest, n - 1<<32, n + 1<<32, n + 3<<32, n + least, n + 1<<62, -n - 1} {
				wantNoTake(t, plainFrame(bodyOf(m, at, far)), api.ErrBad)
			}
		}
	}
	m := ordinary()[api.MsgChunk-1]
	for _, sum := range []int64{0, 1, 1 << 31, 1<<32 - 1} {
		m.Sum = uint32(sum)
		wantTake(t, plainFrame(bodyOf(m, sumAt, sum)), m, api.OK)
	}
	for _, sum := range []int64{-1, -2, -1 << 31, -1 << 32, 1 << 32, 1<<32 + 1, 1<<33 - 1, 1 << 33, 1 << 40, least, greatest} {
		wantNoTake(t, plainFrame(bodyOf(m, sumAt, sum)), api.ErrBad)
	}
}

// TestFrameErrors: those of a frame, whatever it would hold.
func TestFrameErrors(t *testing.T) {
	for n := range 8 {
		for _, s := range []string{strings.Repeat("\x00", n), strings.Repeat("\xff", n), "\x00\x00\x00\x01xyz"[:min(n, 7)]} {
			wantNoTake(t, s, api.ErrCut)
		}
	}
	for _, m := range some() {
		s := plainBytes(m)
		for _, long := range []string{"\x00\x00\x80\x01", "\x00\x01\x00\x00", "\x01\x00\x00\x0a", "\x80\x00\x00\x0a", "\xff\xff\xff\xff"} {
			wantNoTake(t, long+s[4:], api.ErrLimit)
			wantNoTake(t, long+s[4:]+strings.Repeat("x", api.MaxData), api.ErrLimit)
		}
		wantNoTake(t, "\x00\x00\x80\x00"+s[4:], api.ErrCut)
		wantNoTake(t, "\x00\x00\x80\x00"+s[4:]+strings.Repeat("x", api.MaxData), api.ErrSum)
		wantNoTake(t, s[:4]+"\x00\x00\x00\x00"+s[8:], api.ErrSum)
		// The body alone is no frame.
		wantTaken(t, s[8:])
	}
	// A frame of as much as may be, and of nothing, are frames, but no messages.
	wantNoTake(t, plainFrame(""), api.ErrCut)
	wantNoTake(t, plainFrame(strings.Repeat("\x00", api.MaxData)), api.ErrBad)
	wantNoTake(t, plainFrame(strings.Repeat("\x00", api.MaxData+1)), api.ErrLimit)
}

// spoilt turns the lowest bit of a frame's sum.
func spoilt(s string) string {
	b := []byte(s)
	b[7] ^= 1
	return string(b)
}

// TestErrorsInOrder: of two errors that apply the first one is told, of each two.
func TestErrorsInOrder(t *testing.T) {
	bodies := map[string]string{
		"one that may be":   plainBytes(ordinary()[0])[8:],
		"cut":               "\x0a\x00\x02",
		"cut in a number":   "\x0a\x00\x02\x80",
		"a longer number":   "\x0a\x00\x02\x82\x00\x00\x00\x00\x00\x00\x00",
		"one that may not":  "\x0a\x00\x02\x00\x00\x00\x00\x00\x00\x00",
		"nothing":           "",
		"too much data":     plainBytes(filled(ordinary()[0], 2000))[8:],
		"another kind, cut": "\x12",
	}
	for name, body := range bodies {
		s := plainFrame(body)
		// Too long, ahead of being cut, and of another sum.
		wantNoTake(t, "\x00\x00\x80\x01"+s[4:], api.ErrLimit)
		wantNoTake(t, "\x00\x00\x80\x01"+spoilt(s)[4:]+"x", api.ErrLimit)
		// Fewer than eight, ahead of being too long.
		wantNoTake(t, "\xff\xff\xff\xff\x00\x00\x00", api.ErrCut)
		// The frame is cut, ahead of another sum.
		if len(body) > 0 {
			wantNoTake(t, spoilt(s)[:len(s)-1], api.ErrCut)
		}
		// Another sum, ahead of bytes that are left, and of all that it holds.
		wantNoTake(t, spoilt(s), api.ErrSum)
		wantNoTake(t, spoilt(s)+"x", api.ErrSum)
		wantNoTake(t, spoilt(s)+s, api.ErrSum)
		// Bytes that are left, ahead of all that it holds.
		for _, more := range []string{"x", "\x00", s, spoilt(s), strings.Repeat("\x00", 1<<15)} {
			if m, e := msg.Take(s + more); m != (api.Msg{}) || e != api.ErrBad {
				t.Errorf("%s, and %s left: %s, %d", name, shown(more), show(m), e)
			}
		}
		wantTaken(t, s)
	}
}

// TestNumbersInOrder: of two numbers that are none the first is told; what they would be comes behind all of them.
func TestNumbersInOrder(t *testing.T) {
	for _, m := range some() {
		l := pieces(m)
		for at := range fields {
			// One that may not be, and the body cut off behind it, or a number none.
			for _, wrong := range []int64{-1, 9, mostID + 1, 1 << 32, 1<<32 + 1, least, greatest} {
				for behind := at + 1; behind < fields; behind++ {
					ahead := strings.Join(l[:at], "") + plainNumber(wrong) + strings.Join(l[at+1:behind], "")
					wantNoTake(t, plainFrame(ahead), api.ErrCut)
					wantNoTake(t, plainFrame(ahead+"\x80"), api.ErrCut)
					wantNoTake(t, plainFrame(ahead+"\xff\xff"), api.ErrCut)
					wantNoTake(t, plainFrame(ahead+"\x80\x00"), api.ErrBad)
				}
			}
			ahead := strings.Join(l[:at], "")
			// One that is longer than it need be, and the body cut off behind it, or within the next one.
			for _, end := range []string{"", "\x80", "\x00", "\x80\x00", "\xff"} {
				wantNoTake(t, plainFrame(ahead+"\x80\x00"+end), api.ErrBad)
				wantNoTake(t, plainFrame(ahead+"\x80\x80\x80\x80\x80\x80\x80\x80\x80\x02"+end), api.ErrBad)
			}
		}
	}
}

// TestThoseThatMayNotBe: each body of ten numbers of some, of which few are a message.
func TestThoseThatMayNotBe(t *testing.T) {
	may := 0
	for _, kind := range []int64{0, 2, 3, 4, 5, 6, 7, 8, 9} {
		for n := range 1 << 9 {
			l := [fields]int64{kind}
			for at := fromAt; at < fields; at++ {
				l[at] = int64(n >> (at - 1) & 1)
			}
			for _, data := range []string{"", "x"} {
				if wantTaken(t, plainFrame(plainNumbers(l[:]...)+data)) == api.OK {
					may++
				}
			}
		}
	}
	// Of a chunk Off and Len are 0, 0, or 0, 1, or 1, 1, with either sum, and data or none; of MsgAck Off is 0 or 1; MsgFail's Code is not.
	if may != 3*2*2+2+0+1+1+1+1 {
		t.Errorf("%d may be", may)
	}
}

// TestShort: all of up to two bytes, as they stand, and as a frame's body.
func TestShort(t *testing.T) {
	for n := range 1 << 16 {
		for _, s := range []string{string([]byte{byte(n)}), string([]byte{byte(n), byte(n >> 8)})} {
			wantNoTake(t, s, api.ErrCut)
			wantTaken(t, plainFrame(s))
		}
	}
}

// maker makes what looks random by a fixed rule.
type maker struct{ state uint64 }

func (m *maker) pick(n int) int {
	m.state = m.state*6364136223846793005 + 1442695040888963407
	return int(m.state >> 33 % uint64(n))
}

// within is mostly near one of the ends.
func (m *maker) within(s span) int64 {
	width := s.most - s.least + 1
	switch m.pick(3) {
	case 0:
		return s.least + int64(m.pick(3))%width
	case 1:
		return s.most - int64(m.pick(3))%width
	}
	return s.least + (int64(m.pick(1<<30))<<30|int64(m.pick(1<<30)))%width
}

func (m *maker) bytes(n int) string {
	b := make([]byte, n)
	for i := range b {
		b[i] = byte(m.pick(256))
	}
	return string(b)
}

// message may be.
func (m *maker) message() api.Msg {
	spans, most, _ := plainSpans(int64(1 + m.pick(8)))
	var l [fields]int64
	for i, s := range spans {
		l[i] = m.within(s)
	}
	if spans[lenAt].most > 0 && l[offAt] > l[lenAt] {
		l[offAt], l[lenAt] = l[lenAt], l[offAt]
	}
	return plainMsg(l, m.bytes(m.pick(most+1)))
}

func TestAtRandom(t *testing.T) {
	m := &maker{15}
	for range 20000 {
		wantStands(t, m.message())
	}
}

// TestAtRandomWrong: one that may be, with a field or two of another one, or far away.
func TestAtRandomWrong(t *testing.T) {
	m := &maker{16}
	may, many := 0, 40000
	for range many {
		l, other := plainFields(m.message()), plainFields(m.message())
		for range 1 + m.pick(2) {
			at := m.pick(fields)
			if l[at] = other[at]; at != sumAt && m.pick(4) == 0 {
				l[at] = farNumbers()[m.pick(len(farNumbers()))]
			}
		}
		if wantAsRead(t, plainMsg(l, m.bytes(m.pick(4)))) {
			may++
		}
	}
	if may == 0 || may == many {
		t.Errorf("%d of %d may be", may, many)
	}
}

// TestAtRandomBytes: bytes of a message, in which some are other ones, missing, or there twice, in a whole frame and not.
func TestAtRandomBytes(t *testing.T) {
	m := &maker{17}
	seen := map[api.Errno]int{}
	for range 40000 {
		s := plainBytes(m.message())
		ahead := 8 * m.pick(2)
		for range m.pick(3) {
			at := ahead + m.pick(len(s)-ahead)
			at = min(at, ahead+m.pick(20))
			switch m.pick(3) {
			case 0:
				s = s[:at] + m.bytes(1) + s[at+1:]
			case 1:
				s = s[:at] + s[at+1:]
			case 2:
				s = s[:at] + m.bytes(1+m.pick(2)) + s[at:]
			}
		}
		if ahead > 0 {
			s = plainFrame(s[8:])
		}
		seen[wantTaken(t, s)]++
	}
	for _, e := range []api.Errno{api.OK, api.ErrCut, api.ErrBad, api.ErrSum, api.ErrLimit} {
		if seen[e] == 0 {
			t.Errorf("none tells %d: %v", e, seen)
		}
	}
}

// TestUndo: what is taken is written as it was, and what is written is taken as it was; no two are written alike.
func TestUndo(t *testing.T) {
	m := &maker{18}
	of := map[string]api.Msg{}
	for i := range 20000 {
		x := m.message()
		if i < len(some()) {
			x = some()[i]
		}
		s, e := msg.Bytes(x)
		y, bad := msg.Take(s)
		again, worse := msg.Bytes(y)
		if e != api.OK || bad != api.OK || worse != api.OK || x != y || s != again {
			t.Fatalf("%s: %s, %d, %s, %d, %s, %d", show(x), shown(s), e, show(y), bad, shown(again), worse)
		}
		if other, is := of[s]; is && other != x {
			t.Errorf("%s, %s: both %s", show(x), show(other), shown(s))
		}
		of[s] = x
	}
}

// TestSameAgain: the same call tells the same, whatever was done between.
func TestSameAgain(t *testing.T) {
	for range 2 {
		for _, m := range some() {
			s := plainBytes(m)
			for range 2 {
				wantStands(t, m)
				wantForm(t, with(m, kindAt, 0))
				wantNoTake(t, s[:len(s)-1], api.ErrCut)
				wantNoTake(t, spoilt(s), api.ErrSum)
			}
		}
	}
}
