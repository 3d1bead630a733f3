package msg_test

import (
	"encoding/binary"
	"hash/crc32"

	"thresher/api"
)

// A second reading of the chapter: a table of what each field of each kind may be, the library's numbers and its sum.

// Fields of a message, as they stand in its bytes; what is behind them is the data.
const (
	kindAt = iota
	fromAt
	toAt
	jobAt
	splitAt
	epochAt
	offAt
	lenAt
	sumAt
	codeAt
	fields
)

type span struct{ least, most int64 }

func (s span) has(n int64) bool { return s.least <= n && n <= s.most }

// plainSpans tells what each field may be, but for Off that is greater than Len, and how long the data.
func plainSpans(kind int64) (l [fields]span, data int, is bool) {
	none, node, id, size := span{}, span{1, 3}, span{1, 1048576}, span{0, 32768}
	this := span{kind, kind}
	switch kind {
	case 1:
		return [fields]span{this, none, node, id, id, id, none, none, none, none}, 1024, true
	case 2:
		return [fields]span{this, node, none, id, id, id, size, size, {0, 4294967295}, none}, 48, true
	case 3:
		return [fields]span{this, none, node, id, id, id, size, none, none, none}, 0, true
	case 4:
		return [fields]span{this, node, none, id, id, id, none, none, none, {2, 64}}, 0, true
	case 5:
		return [fields]span{this, none, node, id, none, none, none, none, none, none}, 0, true
	case 6:
		return [fields]span{this, node, none, id, none, none, none, none, none, none}, 0, true
	case 7:
		return [fields]span{this, none, node, id, none, none, none, none, none, {1, 64}}, 0, true
	case 8:
		return [fields]span{this, node, none, id, none, none, none, none, none, none}, 0, true
	}
	return l, 0, false
}

// plainMayBe is of what need not be a message: a number may be too great for its field.
func plainMayBe(l [fields]int64, data string) bool {
	spans, most, is := plainSpans(l[kindAt])
	if !is || len(data) > most || l[kindAt] == 2 && l[offAt] > l[lenAt] {
		return false
	}
	for i, n := range l {
		if !spans[i].has(n) {
			return false
		}
	}
	return true
}

func plainFields(m api.Msg) [fields]int64 {
	return [fields]int64{int64(m.Kind), int64(m.From), int64(m.To), int64(m.Job), int64(m.Split), int64(m.Epoch), int64(m.Off), int64(m.Len), int64(m.Sum), int64(m.Code)}
}

// plainMsg is of numbers that all have room in their fields.
func plainMsg(l [fields]int64, data string) api.Msg {
	return api.Msg{Kind: int(l[0]), From: int(l[1]), To: int(l[2]), Job: int(l[3]), Split: int(l[4]), Epoch: int(l[5]), Off: int(l[6]), Len: int(l[7]), Sum: uint32(l[8]), Code: int(l[9]), Data: data}
}

func plainNumber(n int64) string { return string(binary.AppendVarint(nil, n)) }

func plainNumbers(l ...int64) (s string) {
	for _, n := range l {
		s += plainNumber(n)
	}
	return s
}

func plainFrame(body string) string {
	long := binary.BigEndian.AppendUint32(nil, uint32(len(body)))
	sum := crc32.ChecksumIEEE(append(long[:4:4], body...))
	return string(binary.BigEndian.AppendUint32(long, sum)) + body
}

// plainBytes writes a message that need not be.
func plainBytes(m api.Msg) string {
	l := plainFields(m)
	return plainFrame(plainNumbers(l[:]...) + m.Data)
}

// plainTakeNumber tells a number at the beginning, and what is behind it.
func plainTakeNumber(s string) (n int64, rest string, e api.Errno) {
	n, k := binary.Varint([]byte(s))
	// Of just ten bytes that do not end the library tells that they are cut.
	if k == 0 && len(s) < binary.MaxVarintLen64 {
		return 0, "", api.ErrCut
	}
	// The library takes longer forms, too.
	if k <= 0 || k != len(plainNumber(n)) {
		return 0, "", api.ErrBad
	}
	return n, s[k:], api.OK
}

func plainTake(s string) (api.Msg, api.Errno) {
	if len(s) < 8 {
		return api.Msg{}, api.ErrCut
	}
	long := int64(binary.BigEndian.Uint32([]byte(s)))
	body := s[8:]
	switch {
	case long > 32768:
		return api.Msg{}, api.ErrLimit
	case long > int64(len(body)):
		return api.Msg{}, api.ErrCut
	case plainFrame(body[:long]) != s[:8+long]:
		return api.Msg{}, api.ErrSum
	case long < int64(len(body)):
		return api.Msg{}, api.ErrBad
	}
	var l [fields]int64
	for i := range l {
		var e api.Errno
		if l[i], body, e = plainTakeNumber(body); e != api.OK {
			return api.Msg{}, e
		}
	}
	if !plainMayBe(l, body) {
		return api.Msg{}, api.ErrBad
	}
	return plainMsg(l, body), api.OK
}
