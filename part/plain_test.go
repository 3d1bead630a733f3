package part_test

import (
	"encoding/binary"
	"hash/crc32"
	"hash/fnv"
	"slices"
	"strings"

	"thresher/api"
	"thresher/frame"
	"thresher/row"
)

// A second reading of the chapter: the library's hash, sums and numbers, and each partition picked out of all rows.

func numbers(l ...int64) string {
	var b []byte
	for _, v := range l {
		b = binary.AppendVarint(b, v)
	}
	return string(b)
}

func plainKey(k api.Key) string {
	return numbers(k.A, int64(len(k.B))) + k.B
}

func plainOf(k api.Key, parts int) int {
	h := fnv.New32a()
	h.Write([]byte(plainKey(k)))
	return int(int64(h.Sum32()) % int64(parts))
}

func plainPick(l []api.Row, p int, parts int) (rows []api.Row) {
	for _, r := range l {
		if plainOf(r.Key, parts) == p {
			rows = append(rows, r)
		}
	}
	return rows
}

func plainCmp(a api.Row, b api.Row) int {
	if a.Key.A != b.Key.A {
		if a.Key.A < b.Key.A {
			return -1
		}
		return 1
	}
	return strings.Compare(a.Key.B, b.Key.B)
}

// plainMayStand is of keys, order and number.
func plainMayStand(l []api.Row) bool {
	for i, r := range l {
		if len(r.Key.B) > 64 || i > 0 && plainCmp(l[i-1], r) >= 0 {
			return false
		}
	}
	return len(l) <= 1536
}

func plainRow(w way, r api.Row) string {
	if w.agg == api.AggSet {
		return plainKey(r.Key) + numbers(int64(len(r.Cell.Set))) + numbers(r.Cell.Set...)
	}
	return plainKey(r.Key) + numbers(r.Cell.N)
}

func plainRows(w way, l []api.Row) string {
	var b strings.Builder
	for _, r := range l {
		b.WriteString(plainRow(w, r))
	}
	return b.String()
}

func plainFrame(s string) string {
	long := binary.BigEndian.AppendUint32(nil, uint32(len(s)))
	sum := crc32.ChecksumIEEE(append(slices.Clone(long), s...))
	return string(binary.BigEndian.AppendUint32(long, sum)) + s
}

// plainFrames is the output, however long it is, of rows that need not be.
func plainFrames(w way, parts int, l []api.Row) (frames []string) {
	for p := range parts {
		frames = append(frames, plainFrame(plainRows(w, plainPick(l, p, parts))))
	}
	return frames
}

func plainOutput(w way, parts int, l []api.Row) string {
	return strings.Join(plainFrames(w, parts, l), "")
}

// plainRead asks at its end whether s is the output of what it has read.
func plainRead(w way, parts int, s string) (l []api.Row, e api.Errno) {
	if parts < 1 || parts > 8 || row.Check(w.agg, w.bound, nil) != api.OK {
		return nil, api.ErrForm
	}
	left := s
	for p := range parts {
		t, n, e := frame.Take(left)
		if e != api.OK {
			return nil, e
		}
		rows, e := row.Take(w.agg, w.bound, t)
		if e != api.OK {
			return nil, e
		}
		if len(plainPick(rows, p, parts)) != len(rows) {
			return nil, api.ErrBad
		}
		l, left = append(l, rows...), left[n:]
	}
	slices.SortFunc(l, plainCmp)
	if len(l) > 1536 || len(s) > 32704 || plainOutput(w, parts, l) != s {
		return nil, api.ErrBad
	}
	return l, api.OK
}
