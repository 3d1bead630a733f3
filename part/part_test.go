package part_test

import (
	"fmt"
	"math"
	"slices"
	"strings"
	"testing"

	"thresher/api"
	"thresher/part"
	"thresher/row"
)

const (
	mostRows  = api.MaxEmits * api.MaxSplits
	mostCount = int64(1) << 62
	least     = int64(math.MinInt64)
	greatest  = int64(math.MaxInt64)
)

// way is how it is gathered, with a bound.
type way struct{ agg, bound int }

var (
	sums   = way{api.AggSum, 0}
	counts = way{api.AggCount, 0}
	mins   = way{api.AggMin, 0}
	maxes  = way{api.AggMax, 0}
	ors    = way{api.AggOr, 0}
)

func sets(bound int) way { return way{api.AggSet, bound} }

// someWays is each way, and a few bounds.
func someWays() []way {
	return []way{sums, counts, mins, maxes, ors, sets(1), sets(2), sets(3), sets(api.MaxBound)}
}

func badWays() []way {
	l := []way{{api.AggNone, 0}, {-1, 0}, {api.AggSet + 1, 0}, {api.AggSet + 1, 1}, {math.MinInt, 0}, {math.MaxInt, 1}, {1<<8 + api.AggSum, 0}, {1<<32 + api.AggSum, 0}}
	for _, bound := range []int{0, -1, api.MaxBound + 1, math.MinInt, math.MaxInt, 1<<8 + 1, 1<<32 + 1} {
		l = append(l, sets(bound))
	}
	for _, w := range []way{sums, counts, mins, maxes, ors} {
		for _, bound := range []int{1, -1, api.MaxBound, math.MinInt, math.MaxInt, 1 << 32} {
			l = append(l, way{w.agg, bound})
		}
	}
	return l
}

func allParts() []int { return []int{1, 2, 3, 4, 5, 6, 7, 8} }

func badParts() []int {
	return []int{0, 9, -1, -8, 10, 16, math.MinInt, math.MaxInt, 1 << 8, 1<<8 + 1, 1 << 32, 1<<32 + 1, math.MinInt + 1}
}

func at(a int64, b string, n int64) api.Row {
	return api.Row{Key: api.Key{A: a, B: b}, Cell: api.Cell{N: n}}
}

func holding(a int64, b string, set ...int64) api.Row {
	return api.Row{Key: api.Key{A: a, B: b}, Cell: api.Cell{Set: set}}
}

// keysInOrder rise: numbers at both ends, texts of no bytes and of the most, some that begin others, bytes above 127.
func keysInOrder() []api.Key {
	long := strings.Repeat("x", api.MaxText)
	return []api.Key{{A: least}, {A: least, B: "\x00"}, {A: least, B: long}, {A: -65}, {A: -64}, {A: -1, B: "a"}, {A: -1, B: "b"}, {}, {B: "\x00"}, {B: "a"}, {B: "a\x00"}, {B: "aa"}, {B: "ab"}, {B: "b"}, {B: "\x7f"}, {B: "\x80"}, {B: "\xff"},
		{B: strings.Repeat("\xff", api.MaxText-1)}, {B: strings.Repeat("\xff", api.MaxText)}, {A: 1}, {A: 1, B: "a"}, {A: 63, B: long}, {A: 64}, {A: 1 << 32}, {A: greatest}, {A: greatest, B: long}, {A: greatest, B: "\xff"}}
}

// badKeys may not be.
func badKeys() []api.Key {
	return []api.Key{{B: strings.Repeat("x", api.MaxText+1)}, {A: least, B: strings.Repeat("\x00", api.MaxText+1)}, {A: greatest, B: strings.Repeat("y", 5000)}, {A: 1, B: strings.Repeat("ä", 33)}}
}

// one is a cell that may be in that way.
func one(w way) api.Cell {
	if w.agg == api.AggSet {
		return api.Cell{Set: []int64{7}}
	}
	return api.Cell{N: 7}
}

// oddCells may not be in that way.
func oddCells(w way) []api.Cell {
	l := []api.Cell{{N: 1, Set: []int64{1}}, {N: least, Set: []int64{2, 1}}}
	switch w.agg {
	case api.AggCount:
		return append(l, api.Cell{N: -1}, api.Cell{N: mostCount + 1}, api.Cell{Set: []int64{0}})
	case api.AggSet:
		return append(l, api.Cell{N: 1}, api.Cell{Set: []int64{1, 1}}, api.Cell{Set: []int64{greatest, least}}, api.Cell{Set: make([]int64, w.bound+1)})
	}
	return append(l, api.Cell{Set: []int64{0}})
}

// of has a row of each key.
func of(w way, keys []api.Key) (l []api.Row) {
	for _, k := range keys {
		l = append(l, api.Row{Key: k, Cell: one(w)})
	}
	return l
}

// many is rows of n keys, from that one on.
func many(w way, from int, n int) (l []api.Row) {
	for i := range n {
		l = append(l, api.Row{Key: api.Key{A: int64(from + i)}, Cell: one(w)})
	}
	return l
}

func same(a, b []api.Row) bool {
	return slices.EqualFunc(a, b, func(x, y api.Row) bool {
		return x.Key == y.Key && x.Cell.N == y.Cell.N && slices.Equal(x.Cell.Set, y.Cell.Set)
	})
}

func clone(l []api.Row) []api.Row {
	l = slices.Clone(l)
	for i := range l {
		l[i].Cell.Set = slices.Clone(l[i].Cell.Set)
	}
	return l
}

// brief is some of what it is, to be read in a report.
func brief(what any) string {
	s := fmt.Sprint(what)
	return strings.ToValidUTF8(s[:min(len(s), 300)], "?")
}

func wantOf(t *testing.T, k api.Key, parts int, want int, bad api.Errno) {
	t.Helper()
	if p, e := part.Of(k, parts); p != want || e != bad {
		t.Errorf("Of(%s, %d): %d, %d, not %d, %d", brief(k), parts, p, e, want, bad)
	}
}

// wantParts holds what is told to the second reading, or wants an error and nothing beside it.
func wantParts(t *testing.T, l []api.Row, parts int, bad api.Errno) {
	t.Helper()
	all, e := part.Parts(l, parts)
	if e != bad {
		t.Errorf("Parts(%s, %d): %d, not %d", brief(l), parts, e, bad)
	}
	if bad != api.OK {
		if len(all) > 0 {
			t.Errorf("Parts(%s, %d): %s beside %d", brief(l), parts, brief(all), e)
		}
		return
	}
	if len(all) != parts {
		t.Fatalf("Parts(%s, %d): %d of them", brief(l), parts, len(all))
	}
	for p := range parts {
		if want := plainPick(l, p, parts); !same(all[p], want) {
			t.Errorf("Parts(%s, %d): in %d %s, not %s", brief(l), parts, p, brief(all[p]), brief(want))
		}
	}
}

func wantOutput(t *testing.T, w way, parts int, l []api.Row, want string, bad api.Errno) {
	t.Helper()
	if s, e := part.Output(w.agg, w.bound, parts, l); s != want || e != bad {
		t.Errorf("Output(%v, %d, %s): %d bytes %.100q, %d, not %d bytes %.100q, %d", w, parts, brief(l), len(s), s, e, len(want), want, bad)
	}
}

func wantRead(t *testing.T, w way, parts int, s string, want []api.Row, bad api.Errno) {
	t.Helper()
	if l, e := part.Read(w.agg, w.bound, parts, s); !same(l, want) || e != bad {
		t.Errorf("Read(%v, %d, %d bytes %.100q): %s, %d, not %s, %d", w, parts, len(s), s, brief(l), e, brief(want), bad)
	}
}

// wantBoth: P11.3, what is written is read as it was.
func wantBoth(t *testing.T, w way, parts int, l []api.Row, s string) {
	t.Helper()
	wantOutput(t, w, parts, l, s, api.OK)
	wantRead(t, w, parts, s, l, api.OK)
}

// TestOfWrittenOut: P11.1, hashes that were reckoned apart from the program.
func TestOfWrittenOut(t *testing.T) {
	for _, c := range []struct {
		k api.Key
		h uint32
	}{
		{api.Key{}, 0x117697cd},
		{api.Key{A: 1, B: "a"}, 0xf3831f2c},
		{api.Key{A: 1, B: "b"}, 0xf68323e5},
		{api.Key{A: -1}, 0xeb741d64},
		{api.Key{A: 64}, 0xb154d7ce},
		{api.Key{A: -65, B: "\x00"}, 0xd82bebfd},
		{api.Key{A: least}, 0x77fadddf},
		{api.Key{A: greatest}, 0x707e1eb8},
		{api.Key{A: least, B: strings.Repeat("x", 64)}, 0x6f2948fa},
		{api.Key{A: greatest, B: strings.Repeat("\xff", 64)}, 0x1e02c07b},
		{api.Key{B: strings.Repeat("ä", 32)}, 0xb08f9624},
	} {
		for _, parts := range allParts() {
			wantOf(t, c.k, parts, int(c.h%uint32(parts)), api.OK)
		}
	}
	wantOf(t, api.Key{A: 1, B: "a"}, 5, 4, api.OK)
	wantOf(t, api.Key{A: 1, B: "b"}, 8, 5, api.OK)
}

// TestOf holds each length of a text, and numbers of each length, to the second reading; each partition is somebody's.
func TestOf(t *testing.T) {
	m := &maker{u: 3}
	for _, parts := range allParts() {
		seen := map[int]int{}
		ask := func(k api.Key) {
			wantOf(t, k, parts, plainOf(k, parts), api.OK)
			seen[plainOf(k, parts)]++
		}
		for _, k := range keysInOrder() {
			ask(k)
		}
		for n := range api.MaxText + 1 {
			for range 5 {
				ask(api.Key{A: int64(m.next()) >> m.pick(64), B: m.text(n)})
			}
		}
		if len(seen) != parts {
			t.Errorf("of %d there are keys in %v alone", parts, seen)
		}
	}
}

// TestNumbersThatMayNotBe: ErrForm from each call, just outside and far away, also where nothing else is handed in.
func TestNumbersThatMayNotBe(t *testing.T) {
	for _, parts := range badParts() {
		for _, k := range append(keysInOrder(), badKeys()...) {
			wantOf(t, k, parts, 0, api.ErrForm)
		}
		for _, w := range append(someWays(), badWays()...) {
			for _, l := range [][]api.Row{nil, {}, many(w, 1, 3), {{Key: badKeys()[0]}}, many(w, 1, mostRows+1)} {
				wantParts(t, l, parts, api.ErrForm)
				wantOutput(t, w, parts, l, "", api.ErrForm)
			}
			for _, s := range []string{"", "\x00", plainFrame(""), plainFrame("") + "x", plainFrame("\x80"), strings.Repeat("\xff", 9), strings.Repeat(plainFrame(""), 9)} {
				wantRead(t, w, parts, s, nil, api.ErrForm)
			}
		}
	}
}

// TestKeysThatMayNotBe: ErrForm, wherever the key stands, and however many partitions there are.
func TestKeysThatMayNotBe(t *testing.T) {
	for _, parts := range allParts() {
		for _, k := range badKeys() {
			wantOf(t, k, parts, 0, api.ErrForm)
			for _, w := range someWays() {
				l := of(w, []api.Key{k})
				wantParts(t, l, parts, api.ErrForm)
				wantOutput(t, w, parts, l, "", api.ErrForm)
			}
		}
		l := of(maxes, keysInOrder())
		for i := range l {
			wrong := clone(l)
			wrong[i].Key.B += strings.Repeat("\x00", api.MaxText+1-len(wrong[i].Key.B))
			wantParts(t, wrong, parts, api.ErrForm)
			wantOutput(t, maxes, parts, wrong, "", api.ErrForm)
		}
	}
}

// TestWaysThatMayNotBe: ErrForm, with nothing at all, and ahead of what else is wrong (R4).
func TestWaysThatMayNotBe(t *testing.T) {
	for _, w := range badWays() {
		for _, parts := range allParts() {
			for _, l := range [][]api.Row{nil, {}, {at(1, "", 1)}, {holding(1, "", 1)}, {holding(1, "")}, {at(2, "", 0), at(1, "", 0)}} {
				wantOutput(t, w, parts, l, "", api.ErrForm)
			}
			for _, s := range []string{"", "\x00", plainFrame("\x02\x00\x02"), plainFrame("\x80"), "\xff" + plainFrame(""), strings.Repeat(plainFrame(""), parts), strings.Repeat("x", 40000)} {
				wantRead(t, w, parts, s, nil, api.ErrForm)
			}
		}
	}
}

// TestNothing: no rows: all partitions are there, and stay empty.
func TestNothing(t *testing.T) {
	for _, parts := range allParts() {
		for _, l := range [][]api.Row{nil, {}} {
			wantParts(t, l, parts, api.OK)
			for _, w := range someWays() {
				wantBoth(t, w, parts, l, strings.Repeat("\x00\x00\x00\x00\x21\x44\xdf\x1c", parts))
			}
		}
	}
}

// TestParts: P11.1, rows with all kinds of keys; each lies in just one partition, and in order.
func TestParts(t *testing.T) {
	for _, parts := range allParts() {
		l := of(sums, keysInOrder())
		for i := range l {
			l[i].Cell.N = int64(i)
			wantParts(t, l[i:], parts, api.OK)
			wantParts(t, l[i:i+1], parts, api.OK)
		}
		all, _ := part.Parts(l, parts)
		var together []api.Row
		for p, rows := range all {
			if !slices.IsSortedFunc(rows, plainCmp) {
				t.Errorf("of %d, %d is not in order: %s", parts, p, brief(rows))
			}
			together = append(together, rows...)
		}
		slices.SortFunc(together, plainCmp)
		if !same(together, l) {
			t.Errorf("%d partitions have together %s", parts, brief(together))
		}
	}
}

// TestPartsOfAnyCells: cells that no way allows are told as they came.
func TestPartsOfAnyCells(t *testing.T) {
	var l []api.Row
	for _, w := range append(someWays(), sets(500)) {
		for _, c := range append(oddCells(w), one(w), api.Cell{Set: []int64{}}, api.Cell{N: greatest}) {
			l = append(l, api.Row{Key: api.Key{A: int64(len(l)) - 20}, Cell: c})
		}
	}
	for _, parts := range allParts() {
		wantParts(t, l, parts, api.OK)
		for i := range l {
			wantParts(t, l[i:i+1], parts, api.OK)
		}
	}
}

// TestKeysOfTwo: only the ones that rise, whichever two they are.
func TestKeysOfTwo(t *testing.T) {
	for i, a := range keysInOrder() {
		for j, b := range keysInOrder() {
			l := of(mins, []api.Key{a, b})
			for _, parts := range []int{1, 2, 8} {
				if i < j {
					wantParts(t, l, parts, api.OK)
					wantBoth(t, mins, parts, l, plainOutput(mins, parts, l))
				} else {
					wantParts(t, l, parts, api.ErrForm)
					wantOutput(t, mins, parts, l, "", api.ErrForm)
				}
			}
		}
	}
}

// TestPartsShort holds all lists of up to four of some rows, odd cells among them, to the words.
func TestPartsShort(t *testing.T) {
	some := []api.Row{at(1, "", 5), holding(1, "a", 2, 1), at(1, "b", least), {Key: api.Key{A: 2}, Cell: api.Cell{N: 1, Set: []int64{1}}}, holding(0, "a", 9), at(3, strings.Repeat("x", 65), 0)}
	for n := range 5 {
		eachText(n, "\x00\x01\x02\x03\x04\x05", func(s string) {
			var l []api.Row
			for _, i := range []byte(s) {
				l = append(l, some[i])
			}
			bad := api.OK
			if !plainMayStand(l) {
				bad = api.ErrForm
			}
			wantParts(t, l, 1+n, bad)
			wantParts(t, l, 8, bad)
		})
	}
}

// TestRowsOutOfOrder: at each place, also where the two lie in different partitions.
func TestRowsOutOfOrder(t *testing.T) {
	for _, parts := range allParts() {
		l := of(ors, keysInOrder())
		for i := 1; i < len(l); i++ {
			twice, back := clone(l), clone(l)
			twice[i].Key = twice[i-1].Key
			back[i], back[i-1] = back[i-1], back[i]
			for _, wrong := range [][]api.Row{twice, back} {
				wantParts(t, wrong, parts, api.ErrForm)
				wantOutput(t, ors, parts, wrong, "", api.ErrForm)
			}
		}
	}
}

// TestManyRows: just as many as may be, and one more.
func TestManyRows(t *testing.T) {
	for _, parts := range allParts() {
		for _, w := range []way{sums, sets(2)} {
			l := many(w, -700, mostRows)
			wantParts(t, l, parts, api.OK)
			wantBoth(t, w, parts, l, plainOutput(w, parts, l))
			for _, n := range []int{mostRows + 1, 5 * mostRows} {
				wantParts(t, many(w, -700, n), parts, api.ErrForm)
				wantOutput(t, w, parts, many(w, -700, n), "", api.ErrForm)
			}
		}
	}
}

// TestOutputWrittenOut: the chapter's example, and P11.2 byte by byte.
func TestOutputWrittenOut(t *testing.T) {
	l := []api.Row{at(-1, "", 5), at(1, "a", 2), at(1, "b", -3), at(2, "", 64)}
	wantBoth(t, sums, 1, l, "\x00\x00\x00\x0f\x9bX\x02x"+"\x01\x00\n\x02\x02a\x04\x02\x02b\x05\x04\x00\x80\x01")
	wantBoth(t, sums, 2, l, "\x00\x00\x00\x07_\x83)\xfa"+"\x01\x00\n\x02\x02a\x04"+"\x00\x00\x00\x08[\x8dl\x88"+"\x02\x02b\x05\x04\x00\x80\x01")
	wantBoth(t, maxes, 3, l, "\x00\x00\x00\x07Nc\x94j"+"\x01\x00\n\x04\x00\x80\x01"+"\x00\x00\x00\x00!D\xdf\x1c"+"\x00\x00\x00\x08\xad\xb3\xe9S"+"\x02\x02a\x04\x02\x02b\x05")
	set := []api.Row{holding(1, "a", -1, 5), holding(1, "b")}
	wantBoth(t, sets(2), 1, set, plainFrame("\x02\x02a\x04\x01\x0a\x02\x02b\x00"))
	wantBoth(t, sets(2), 2, set, plainFrame("\x02\x02a\x04\x01\x0a")+plainFrame("\x02\x02b\x00"))
}

// TestOutput: P11.2 and P11.3, in each way, by each number of partitions.
func TestOutput(t *testing.T) {
	m := &maker{u: 8}
	for _, parts := range allParts() {
		for _, w := range someWays() {
			l := m.all(w)
			for i := range l {
				wantBoth(t, w, parts, l[i:], plainOutput(w, parts, l[i:]))
				wantBoth(t, w, parts, l[i:i+1], plainOutput(w, parts, l[i:i+1]))
			}
		}
	}
}

// TestOutputInEachWay: each bound, too, up to just as many numbers.
func TestOutputInEachWay(t *testing.T) {
	for bound := 1; bound <= api.MaxBound; bound++ {
		w := sets(bound)
		var set []int64
		for i := range bound {
			set = append(set, int64(i*i*i)-100)
		}
		l := []api.Row{holding(-1, "", set...), holding(0, ""), holding(1, "", set[:bound-1]...)}
		for _, parts := range allParts() {
			s := plainOutput(w, parts, l)
			wantBoth(t, w, parts, l, s)
			if bound > 1 {
				wantOutput(t, sets(bound-1), parts, l, "", api.ErrForm)
				wantRead(t, sets(bound-1), parts, s, nil, api.ErrBad)
			}
		}
	}
}

// TestOutputOfOddCells: cells that may not be in that way are ErrForm, wherever they stand.
func TestOutputOfOddCells(t *testing.T) {
	for _, w := range someWays() {
		l := of(w, keysInOrder())
		for _, c := range oddCells(w) {
			for _, parts := range []int{1, 3, 8} {
				for i := range l {
					wrong := clone(l)
					wrong[i].Cell = c
					wantOutput(t, w, parts, wrong, "", api.ErrForm)
				}
			}
		}
	}
}

// filled is rows that have n bytes in all (n from 64 on), all of them in those partitions where in is told true.
func filled(w way, n int, in func(api.Key) bool) (l []api.Row) {
	const most = 60
	bare := len(plainRow(w, api.Row{Key: api.Key{A: 100}, Cell: one(w)}))
	for a := int64(100); n > 0; a++ {
		size := min(n, most)
		if most < n && n < 2*most {
			// The last two share what is left, so that none is too short.
			size = n / 2
		}
		k := api.Key{A: a, B: strings.Repeat("k", size-bare)}
		if in(k) {
			l = append(l, api.Row{Key: k, Cell: one(w)})
			n -= size
		}
	}
	return l
}

func everywhere(api.Key) bool { return true }

func inPartition(p int, parts int) func(api.Key) bool {
	return func(k api.Key) bool { return plainOf(k, parts) == p }
}

// TestOutputOfMaxPart: just as long as may be, and longer by one byte, and by many; to Read that is ErrBad.
func TestOutputOfMaxPart(t *testing.T) {
	for _, parts := range allParts() {
		for i, in := range []func(api.Key) bool{everywhere, inPartition(0, parts), inPartition(parts-1, parts)} {
			w := []way{sums, sets(3), counts}[i]
			room := api.MaxPart - 8*parts
			for _, n := range []int{room - 1, room} {
				l := filled(w, n, in)
				s := plainOutput(w, parts, l)
				if len(s) != n+8*parts {
					t.Fatalf("%d bytes were to be %d", len(s), n+8*parts)
				}
				wantBoth(t, w, parts, l, s)
			}
			for _, n := range []int{room + 1, room + 9, api.MaxData} {
				l := filled(w, n, in)
				wantOutput(t, w, parts, l, "", api.ErrLimit)
				wantRead(t, w, parts, plainOutput(w, parts, l), nil, api.ErrBad)
			}
			for _, n := range []int{api.MaxData + 1, 2 * api.MaxData} {
				wantOutput(t, w, parts, filled(w, n, in), "", api.ErrLimit)
			}
		}
	}
}

// TestOutputOfTheMost: the longest rows that may be.
func TestOutputOfTheMost(t *testing.T) {
	w := sets(api.MaxBound)
	var set []int64
	for i := range api.MaxBound {
		set = append(set, least+int64(i))
	}
	var l []api.Row
	for i := range mostRows {
		l = append(l, holding(least+int64(i), strings.Repeat("x", api.MaxText), set...))
	}
	for _, parts := range allParts() {
		wantOutput(t, w, parts, l, "", api.ErrLimit)
		wantParts(t, l, parts, api.OK)
	}
}

// TestFormAheadOfLimit: ErrForm, even of the last row, where it is too long from the first partition on (R4).
func TestFormAheadOfLimit(t *testing.T) {
	for _, parts := range allParts() {
		l := filled(counts, 2*api.MaxData, everywhere)
		wantOutput(t, counts, parts, l, "", api.ErrLimit)
		for _, i := range []int{0, 1, len(l) / 2, len(l) - 1} {
			cell, long, twice := clone(l), clone(l), clone(l)
			cell[i].Cell.N = -1
			long[i].Key.B = badKeys()[0].B
			twice[i].Key = l[max(i, 1)-1].Key
			twice[max(i, 1)-1].Key = l[max(i, 1)-1].Key
			if i == 0 {
				twice[0].Key = l[1].Key
			}
			for _, wrong := range [][]api.Row{cell, long, twice} {
				wantOutput(t, counts, parts, wrong, "", api.ErrForm)
			}
		}
		wantOutput(t, sets(1), parts, l, "", api.ErrForm)
		wantOutput(t, way{api.AggSum, 1}, parts, l, "", api.ErrForm)
	}
	for _, parts := range badParts() {
		wantOutput(t, counts, parts, filled(counts, 2*api.MaxData, everywhere), "", api.ErrForm)
	}
	// A frame that is too long on its own, and what may not be in a partition behind it.
	for _, parts := range allParts()[1:] {
		l := filled(counts, api.MaxData+1, inPartition(0, parts))
		wantOutput(t, counts, parts, l, "", api.ErrLimit)
		for p := range parts {
			last := at(1<<40, "", -1)
			for plainOf(last.Key, parts) != p {
				last.Key.B += "k"
			}
			wantOutput(t, counts, parts, append(l, last), "", api.ErrForm)
		}
	}
}

// TestReadCutOff: ErrCut at each place: a frame is cut short, or there is none where one should be.
func TestReadCutOff(t *testing.T) {
	m := &maker{u: 5}
	for _, parts := range allParts() {
		for _, w := range someWays() {
			for _, l := range [][]api.Row{nil, m.rows(w), m.rows(w), of(w, keysInOrder()[20:])} {
				s := plainOutput(w, parts, l)
				for k := range len(s) {
					wantRead(t, w, parts, s[:k], nil, api.ErrCut)
				}
			}
		}
	}
}

// TestReadBehind: ErrBad, whatever stands behind the last partition; an output by more partitions is none by fewer.
func TestReadBehind(t *testing.T) {
	for _, parts := range allParts() {
		for _, w := range someWays() {
			for _, l := range [][]api.Row{nil, many(w, 1, 9), of(w, keysInOrder())} {
				s := plainOutput(w, parts, l)
				for _, behind := range []string{"\x00", "x", "\xff\xff\xff\xff\xff\xff\xff\xff", s[:8], plainFrame(""), plainFrame("\x80"), s, strings.Repeat("y", 40000)} {
					wantRead(t, w, parts, s+behind, nil, api.ErrBad)
				}
			}
			wantRead(t, w, parts, plainOutput(w, parts+1, nil), nil, api.ErrBad)
			wantRead(t, w, parts, strings.Repeat(plainFrame(""), parts-1), nil, api.ErrCut)
		}
	}
}

// TestReadTurnedBits: of a sum, or of what it is of, ErrSum; of a length what frame.Take tells.
func TestReadTurnedBits(t *testing.T) {
	m := &maker{u: 6}
	for _, parts := range allParts() {
		for _, w := range []way{sums, counts, sets(2)} {
			for _, l := range [][]api.Row{nil, many(w, 1, 5), m.rows(w)} {
				s := plainOutput(w, parts, l)
				begin := 0
				for _, f := range plainFrames(w, parts, l) {
					for i := range 8 * len(f) {
						b := []byte(s)
						b[begin+i/8] ^= 1 << (i % 8)
						want, bad := plainRead(w, parts, string(b))
						if i >= 4*8 && bad != api.ErrSum || bad == api.OK || bad == api.ErrBad {
							t.Fatalf("the second reading: bit %d is told %d", i, bad)
						}
						wantRead(t, w, parts, string(b), want, bad)
					}
					begin += len(f)
				}
			}
		}
	}
}

// TestReadFramesInAnotherOrder: ErrBad, unless it is the same text.
func TestReadFramesInAnotherOrder(t *testing.T) {
	for _, parts := range allParts() {
		for _, w := range someWays() {
			for _, l := range [][]api.Row{nil, many(w, 3, 1), many(w, -8, 16), of(w, keysInOrder())} {
				s := plainOutput(w, parts, l)
				for i := range parts {
					for j := range parts {
						frames := plainFrames(w, parts, l)
						frames[i], frames[j] = frames[j], frames[i]
						if other := strings.Join(frames, ""); other != s {
							wantRead(t, w, parts, other, nil, api.ErrBad)
						} else {
							wantRead(t, w, parts, other, l, api.OK)
						}
					}
				}
			}
		}
	}
}

// TestReadWrongPartition: each key is taken in its own partition alone, at whichever place it stands there.
func TestReadWrongPartition(t *testing.T) {
	for _, parts := range allParts() {
		for _, w := range []way{sums, sets(2)} {
			others := many(w, 500, 8)
			for _, k := range keysInOrder() {
				for p := range parts {
					r := api.Row{Key: k, Cell: one(w)}
					lone := slices.Repeat([]string{plainFrame("")}, parts)
					lone[p] = plainFrame(plainRow(w, r))
					among := plainFrames(w, parts, others)
					l := append(plainPick(others, p, parts), r)
					slices.SortFunc(l, plainCmp)
					among[p] = plainFrame(plainRows(w, l))
					all := append(clone(others), r)
					slices.SortFunc(all, plainCmp)
					if plainOf(k, parts) == p {
						wantRead(t, w, parts, strings.Join(lone, ""), []api.Row{r}, api.OK)
						wantRead(t, w, parts, strings.Join(among, ""), all, api.OK)
					} else {
						wantRead(t, w, parts, strings.Join(lone, ""), nil, api.ErrBad)
						wantRead(t, w, parts, strings.Join(among, ""), nil, api.ErrBad)
					}
				}
			}
		}
	}
}

// TestReadRowsOutOfOrder: ErrBad, where rows of one partition do not rise.
func TestReadRowsOutOfOrder(t *testing.T) {
	for _, parts := range allParts() {
		for _, w := range []way{maxes, sets(1)} {
			l := many(w, -30, 60)
			for p := range parts {
				mine := plainPick(l, p, parts)
				for i := 1; i < len(mine); i++ {
					twice, back := clone(mine), clone(mine)
					twice[i].Key = twice[i-1].Key
					back[i], back[i-1] = back[i-1], back[i]
					for _, wrong := range [][]api.Row{twice, back} {
						frames := plainFrames(w, parts, l)
						frames[p] = plainFrame(plainRows(w, wrong))
						wantRead(t, w, parts, strings.Join(frames, ""), nil, api.ErrBad)
					}
				}
			}
		}
	}
}

// TestReadTooManyRows: just as many as may be in all partitions together, and one more, wherever it lies.
func TestReadTooManyRows(t *testing.T) {
	for _, parts := range allParts() {
		for _, w := range []way{counts, sets(1)} {
			l := many(w, -60, mostRows)
			wantRead(t, w, parts, plainOutput(w, parts, l), l, api.OK)
			for _, a := range []int64{-61, -1000, mostRows - 60, 5000, 5001, 5002, 5003, greatest} {
				more := append(clone(l), api.Row{Key: api.Key{A: a}, Cell: one(w)})
				slices.SortFunc(more, plainCmp)
				s := plainOutput(w, parts, more)
				if len(s) > api.MaxPart {
					t.Fatalf("%d bytes are too many of their own", len(s))
				}
				wantRead(t, w, parts, s, nil, api.ErrBad)
			}
			wantRead(t, w, parts, plainOutput(w, parts, many(w, 0, 3*mostRows)), nil, api.ErrBad)
		}
	}
}

// TestReadTooManyRowsLastOfAll: what is wrong with any partition comes ahead of all of them having too many.
func TestReadTooManyRowsLastOfAll(t *testing.T) {
	for _, parts := range allParts()[1:] {
		l := many(sums, -60, mostRows+1)
		for p, f := range plainFrames(sums, parts, l) {
			if len(f) < 9 {
				continue
			}
			for _, c := range []struct {
				f   string
				bad api.Errno
			}{{f, api.ErrBad}, {f[:len(f)-1] + "\xee", api.ErrSum}, {"\xff" + f, api.ErrLimit}, {plainFrame(f[8:] + "\x80"), api.ErrCut}, {plainFrame(f[8:] + "\x80\x00"), api.ErrBad}, {plainFrame(f[8:] + "\x7e\x01"), api.ErrLimit}} {
				frames := plainFrames(sums, parts, l)
				frames[p] = c.f
				wantRead(t, sums, parts, strings.Join(frames, ""), nil, c.bad)
			}
		}
		s := plainOutput(sums, parts, l)
		wantRead(t, sums, parts, s[:len(s)-1], nil, api.ErrCut)
		wantRead(t, sums, parts, s+"x", nil, api.ErrBad)
	}
}

// TestReadTooLong: what is longer than MaxPart, and told by another error first.
func TestReadTooLong(t *testing.T) {
	for _, parts := range allParts() {
		w := sums
		frames := plainFrames(w, parts, filled(w, api.MaxPart-8*parts+1, everywhere))
		s := strings.Join(frames, "")
		if len(s) != api.MaxPart+1 {
			t.Fatalf("%d bytes", len(s))
		}
		wantRead(t, w, parts, s, nil, api.ErrBad)
		ahead, last := strings.Join(frames[:parts-1], ""), frames[parts-1]
		for _, c := range []struct {
			last string
			bad  api.Errno
		}{
			{last[:len(last)-1] + "\xee", api.ErrSum},
			{last[:8], api.ErrCut},
			{last[:7], api.ErrCut},
			{"\x00\x00\x80\x01" + last[4:], api.ErrLimit},
			{"\xff\xff\xff\xff" + last[4:], api.ErrLimit},
			{plainFrame(last[8:] + "\x80"), api.ErrCut},
			{plainFrame(last[8:] + "\x02\x01\x02"), api.ErrLimit},
			{plainFrame(last[8:] + "\x80\x00\x02"), api.ErrBad},
			{last + "x", api.ErrBad},
		} {
			behind := ""
			if len(c.last) > 8 {
				behind = strings.Repeat("\xff", 40000)
			}
			wantRead(t, w, parts, ahead+c.last, nil, c.bad)
			wantRead(t, w, parts, ahead+c.last+behind, nil, c.bad)
		}
		wantRead(t, w, parts, "\xff"+s[1:], nil, api.ErrLimit)
		wantRead(t, w, parts, s[:7]+"\xee"+s[8:], nil, api.ErrSum)
		wantRead(t, w, parts, strings.Repeat("\x00", 40000), nil, api.ErrSum)
		wantRead(t, w, parts, strings.Repeat("\xff", 40000), nil, api.ErrLimit)
		wantRead(t, counts, parts, plainFrame(plainRow(sums, at(1, "", -1)))+strings.Repeat("x", 40000), nil, api.ErrBad)
	}
	for _, w := range badWays() {
		wantRead(t, w, 2, strings.Repeat("\xff", 40000), nil, api.ErrForm)
	}
}

// TestReadErrorsInOrder: partition by partition, and in each the frame, the rows, then where they lie.
func TestReadErrorsInOrder(t *testing.T) {
	w := counts
	const home, away = "\x02\x02a\x0e", "\x02\x02b\x0e"
	torn := plainFrame(home)[:9] + "\xee\xee\xee"
	good := plainFrame(home) + plainFrame(away)
	wantRead(t, w, 2, good, []api.Row{at(1, "a", 7), at(1, "b", 7)}, api.OK)
	for _, c := range []struct {
		s   string
		bad api.Errno
	}{
		// of the first partition
		{torn + "\xff\xff\xff\xff\xff\xff\xff\xff", api.ErrSum},
		{plainFrame(away) + torn, api.ErrBad},
		{plainFrame(away) + "\xff\xff\xff\xff\xff\xff\xff\xff", api.ErrBad},
		{plainFrame(away), api.ErrBad},
		{plainFrame(away + "\x80"), api.ErrCut},
		{plainFrame(away+"\x80\x00") + torn, api.ErrBad},
		{plainFrame(away+"\x7f\x01\x02") + torn, api.ErrLimit},
		{plainFrame(home+"\x80") + torn, api.ErrCut},
		{plainFrame(home+home) + torn, api.ErrBad},
		{plainFrame("\x00\x00\x01") + torn, api.ErrBad},
		{plainFrame("\x02\x81\x01") + torn, api.ErrLimit},
		{"\x00\x00\x80\x00" + strings.Repeat("x", 32771), api.ErrCut},
		{"\x00\x00\x80\x00" + strings.Repeat("x", 32772), api.ErrSum},
		{"\x00\x00\x80\x01" + strings.Repeat("x", 32772), api.ErrLimit},
		// of the second one
		{plainFrame(home) + torn, api.ErrSum},
		{plainFrame(home) + plainFrame(home), api.ErrBad},
		{plainFrame(home) + plainFrame(home+"\x80"), api.ErrCut},
		{plainFrame(home) + plainFrame(home)[:10], api.ErrCut},
		{plainFrame(home) + plainFrame(away+"\x7e\x01") + "x", api.ErrLimit},
		{plainFrame(home) + plainFrame(away+"\x7e") + "x", api.ErrCut},
		{plainFrame(home) + "\xff" + plainFrame(away), api.ErrLimit},
		// of what stands behind
		{good + "\xff\xff\xff\xff\xff\xff\xff\xff", api.ErrBad},
		{good + torn, api.ErrBad},
	} {
		wantRead(t, w, 2, c.s, nil, c.bad)
	}
}

func eachText(n int, of string, do func(string)) {
	if n == 0 {
		do("")
		return
	}
	eachText(n-1, of, func(s string) {
		for i := range len(of) {
			do(s + of[i:i+1])
		}
	})
}

// TestReadShort: all frames of up to five bytes of some, in each partition; what is read is written as it was.
func TestReadShort(t *testing.T) {
	for n := range 6 {
		eachText(n, "\x00\x01\x02\x04a\x80", func(s string) {
			f := plainFrame(s)
			for _, w := range []way{sums, counts, sets(1), sets(2)} {
				for _, c := range []struct {
					parts int
					s     string
				}{{1, f}, {2, f + plainFrame("")}, {2, plainFrame("") + f}} {
					want, bad := plainRead(w, c.parts, c.s)
					wantRead(t, w, c.parts, c.s, want, bad)
					if bad == api.OK {
						wantOutput(t, w, c.parts, want, c.s, api.OK)
					}
				}
			}
		})
	}
}

// maker makes what is asked for by a fixed rule.
type maker struct{ u uint64 }

func (m *maker) next() uint64 {
	m.u = m.u*6364136223846793005 + 1442695040888963407
	return m.u ^ m.u>>29
}

func (m *maker) pick(n int) int { return int(m.next() >> 33 % uint64(n)) }

func (m *maker) text(n int) string {
	b := make([]byte, n)
	for i := range b {
		b[i] = byte(m.pick(256))
	}
	return string(b)
}

func (m *maker) number() int64 {
	return []int64{0, 1, -1, 63, 64, -64, -65, least, greatest, mostCount, -mostCount, int64(m.pick(1000))}[m.pick(12)]
}

func (m *maker) cell(w way) api.Cell {
	switch w.agg {
	case api.AggCount:
		return api.Cell{N: []int64{0, 1, int64(m.pick(100)), mostCount - int64(m.pick(4))}[m.pick(4)]}
	case api.AggSet:
		var l []int64
		for range m.pick(w.bound + 1) {
			l = append(l, m.number())
		}
		slices.Sort(l)
		return api.Cell{Set: slices.Compact(l)}
	}
	return api.Cell{N: m.number()}
}

// all has a row of each key.
func (m *maker) all(w way) (l []api.Row) {
	for _, k := range keysInOrder() {
		l = append(l, api.Row{Key: k, Cell: m.cell(w)})
	}
	return l
}

// rows are a few that may be, with short texts.
func (m *maker) rows(w way) (l []api.Row) {
	a := int64(m.pick(9)) - 4
	for range m.pick(9) {
		l = append(l, api.Row{Key: api.Key{A: a, B: m.text(m.pick(4))}, Cell: m.cell(w)})
		a += 1 + int64(m.pick(70))
	}
	return l
}

// TestAtRandom: P11.3 of many rows, and what is written with another byte, frame or piece is told as in the second reading.
func TestAtRandom(t *testing.T) {
	m := &maker{u: 10}
	ends := map[api.Errno]int{}
	for i := range 4000 {
		w, parts := someWays()[i%len(someWays())], 1+m.pick(api.MaxParts)
		l := m.rows(w)
		wantParts(t, l, parts, api.OK)
		s := plainOutput(w, parts, l)
		wantBoth(t, w, parts, l, s)
		frames := plainFrames(w, parts, l)
		b := []byte(frames[m.pick(parts)][8:])
		if len(b) > 0 {
			b[m.pick(len(b))] = byte(m.pick(256))
		}
		frames[m.pick(parts)] = plainFrame(string(b))
		piece := m.pick(len(s))
		for _, other := range []string{strings.Join(frames, ""), s[:piece] + m.text(1) + s[piece+1:], s[:piece] + s[piece+1:], s[:piece] + "\x00" + s[piece:], s[piece:] + s[:piece]} {
			want, bad := plainRead(w, parts, other)
			ends[bad]++
			wantRead(t, w, parts, other, want, bad)
		}
	}
	for _, e := range []api.Errno{api.OK, api.ErrCut, api.ErrBad, api.ErrSum, api.ErrLimit} {
		if ends[e] < 20 {
			t.Errorf("what was read ends in too few ways: %v", ends)
		}
	}
}

// TestSameAgain: R1, the same call tells the same, whatever is handed in, and it ends.
func TestSameAgain(t *testing.T) {
	m := &maker{u: 2}
	for range 2000 {
		w, parts := way{m.pick(9) - 1, m.pick(4) * m.pick(2)}, m.pick(12)-1
		l, s := m.rows(sets(3)), m.text(m.pick(60))
		a, e := part.Output(w.agg, w.bound, parts, l)
		b, f := part.Output(w.agg, w.bound, parts, clone(l))
		if a != b || e != f || e != api.OK && a != "" {
			t.Errorf("Output(%v, %d, %s): %q, %d, then %q, %d", w, parts, brief(l), a, e, b, f)
		}
		x, e := part.Read(w.agg, w.bound, parts, a+s)
		y, f := part.Read(w.agg, w.bound, parts, b+s)
		if !same(x, y) || e != f || e != api.OK && len(x) > 0 {
			t.Errorf("Read(%v, %d, %q): %s, %d, then %s, %d", w, parts, a+s, brief(x), e, brief(y), f)
		}
	}
}

// roomy has room behind it, and its sets have room behind them, filled with what is known.
func roomy(l ...api.Row) []api.Row {
	room := slices.Repeat([]api.Row{at(77, "room", 77)}, len(l)+8)
	copy(room, l)
	for i, r := range l {
		set := slices.Repeat([]int64{77}, len(r.Cell.Set)+8)
		copy(set, r.Cell.Set)
		room[i].Cell.Set = set[:len(r.Cell.Set)]
	}
	return room[:len(l)]
}

// wholly is all that is there, also behind the lengths.
func wholly(l []api.Row) (all []api.Row) {
	for _, r := range l[:cap(l)] {
		all = append(all, api.Row{Key: r.Key, Cell: api.Cell{N: int64(len(r.Cell.Set)) + r.Cell.N, Set: r.Cell.Set[:cap(r.Cell.Set)]}})
	}
	return clone(all)
}

// spoil writes over all of it, and the room behind it.
func spoil(l []api.Row) {
	for i, r := range l[:cap(l)] {
		for j := range r.Cell.Set[:cap(r.Cell.Set)] {
			r.Cell.Set[:cap(r.Cell.Set)][j] = -99
		}
		l[:cap(l)][i] = at(-99, "spoilt", -99)
	}
}

func handedIn() [][]api.Row {
	shared := []int64{1, 2, 3, 4}
	return [][]api.Row{
		roomy(), roomy(holding(1, "", 1, 2)), roomy(holding(1, "", 1, 2), holding(2, ""), holding(3, "c", 9), holding(4, "", 5, 6), holding(5, "", 7)), roomy(at(1, "", 5), at(2, "", -6), at(3, "", 7)),
		roomy(holding(1, "", 2, 1), at(2, "", 4)), roomy(at(2, "", 1), at(1, "", 2)), roomy(at(1, strings.Repeat("x", 65), 3)),
		{holding(1, "", shared...), holding(2, "", shared...), holding(3, "", shared[1:]...), holding(4, "", shared[:0]...), holding(5, "", shared[:1]...)},
	}
}

// TestHandedInStays: R2, rows, their sets, and the room behind them.
func TestHandedInStays(t *testing.T) {
	for _, l := range handedIn() {
		for _, w := range append(someWays(), sets(0)) {
			for _, parts := range append(allParts(), 0, 9) {
				was := wholly(l)
				part.Parts(l, parts)
				part.Output(w.agg, w.bound, parts, l)
				if !same(wholly(l), was) {
					t.Fatalf("%v, %d: %s became %s", w, parts, brief(was), brief(wholly(l)))
				}
			}
		}
	}
}

// TestToldIsNew: R2, whoever writes into an answer changes neither what was handed in nor what else was told, and the other way round.
func TestToldIsNew(t *testing.T) {
	for i := range handedIn() {
		for _, parts := range allParts() {
			l := handedIn()[i]
			was := wholly(l)
			first, e := part.Parts(l, parts)
			second, _ := part.Parts(l, parts)
			if e != api.OK {
				continue
			}
			want := slices.Clone(second)
			for p := range want {
				want[p] = clone(second[p])
			}
			for p := range first {
				spoil(first[p])
				for q := p + 1; q < parts; q++ {
					if !same(first[q], want[q]) {
						t.Errorf("of %d, partitions %d and %d share: %s", parts, p, q, brief(first[q]))
					}
				}
			}
			clear(first[:cap(first)])
			if !same(wholly(l), was) || !slices.EqualFunc(second, want, same) {
				t.Errorf("Parts of %s shares what it tells", brief(was))
			}
			spoil(l)
			if !slices.EqualFunc(second, want, same) {
				t.Errorf("Parts of %s keeps what was handed in", brief(was))
			}
		}
	}
}

// TestAppendedToTold: R2, spare room is nobody else's.
func TestAppendedToTold(t *testing.T) {
	l := many(sets(3), 1, 90)
	for _, parts := range allParts() {
		all, _ := part.Parts(l, parts)
		for p := range all {
			all[p] = append(all[p], at(-99, "more", -99))
			for i, r := range all[p] {
				all[p][i].Cell.Set = append(r.Cell.Set, -99)
			}
		}
		for p := range all {
			rows := all[p][:len(all[p])-1]
			for i, r := range rows {
				rows[i].Cell.Set = r.Cell.Set[:len(r.Cell.Set)-1]
			}
			if !same(rows, plainPick(l, p, parts)) {
				t.Errorf("of %d, %d became %s", parts, p, brief(rows))
			}
		}
	}
}

// TestReadIsNew: R2, no two sets of what is read, and no two answers, share any memory.
func TestReadIsNew(t *testing.T) {
	w := sets(4)
	l := handedIn()[7]
	for _, parts := range allParts() {
		s := plainOutput(w, parts, l)
		first, _ := part.Read(w.agg, w.bound, parts, s)
		second, e := part.Read(w.agg, w.bound, parts, s)
		if e != api.OK || !same(first, l) {
			t.Fatalf("%s, %d", brief(first), e)
		}
		for i := range first {
			want := clone(first)
			set := first[i].Cell.Set
			for j := range set[:cap(set)] {
				set[:cap(set)][j] = -99
			}
			want[i] = first[i]
			if !same(first, want) {
				t.Errorf("the set of row %d is another's, too: %s", i, brief(first))
			}
		}
		spoil(first)
		if !same(second, l) || row.Check(w.agg, w.bound, second) != api.OK {
			t.Errorf("Read shares what it tells: %s", brief(second))
		}
	}
}
