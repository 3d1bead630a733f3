package row_test

import (
	"fmt"
	"math"
	"slices"
	"strings"
	"testing"

	"thresher/api"
	"thresher/row"
)

const (
	mostRows  = api.MaxEmits * api.MaxSplits
	mostCount = int64(1) << 62
	least     = int64(math.MinInt64)
	greatest  = int64(math.MaxInt64)
)

// way is how it is gathered, with a bound.
type way struct{ agg, bound int }

var (
	sums   = way{api.AggSum, 0}
	counts = way{api.AggCount, 0}
	mins   = way{api.AggMin, 0}
	maxes  = way{api.AggMax, 0}
	ors    = way{api.AggOr, 0}
)

func sets(bound int) way { return way{api.AggSet, bound} }

func goodWays() []way {
	l := []way{sums, counts, mins, maxes, ors}
	for bound := 1; bound <= api.MaxBound; bound++ {
		l = append(l, sets(bound))
	}
	return l
}

// someWays is each way, and a few bounds.
func someWays() []way {
	return []way{sums, counts, mins, maxes, ors, sets(1), sets(2), sets(3), sets(5), sets(api.MaxBound)}
}

func badWays() []way {
	l := []way{sets(0), sets(-1), sets(api.MaxBound + 1), sets(math.MinInt), sets(math.MaxInt), sets(1<<32 + 1), sets(1<<8 + 1)}
	for _, w := range []way{sums, counts, mins, maxes, ors} {
		for _, bound := range []int{1, -1, 2, api.MaxBound, math.MinInt, math.MaxInt, 1 << 32, 1 << 8} {
			l = append(l, way{w.agg, bound})
		}
	}
	for _, agg := range []int{api.AggNone, -1, api.AggSet + 1, -api.AggSet, math.MinInt, math.MaxInt, 1<<32 + api.AggSum, 1<<8 + api.AggSet} {
		for _, bound := range []int{0, 1, -1, api.MaxBound, api.MaxBound + 1} {
			l = append(l, way{agg, bound})
		}
	}
	return l
}

func number(n int64) api.Cell                    { return api.Cell{N: n} }
func set(l ...int64) api.Cell                    { return api.Cell{Set: l} }
func rec(a int64, b string, v int64) api.Rec     { return api.Rec{Key: api.Key{A: a, B: b}, Val: v} }
func at(a int64, b string, c api.Cell) api.Row   { return api.Row{Key: api.Key{A: a, B: b}, Cell: c} }
func rows(l ...api.Row) []api.Row                { return l }
func counted(a int64, b string, n int64) api.Row { return at(a, b, number(n)) }

func same(a, b []api.Row) bool {
	return slices.EqualFunc(a, b, func(x, y api.Row) bool {
		return x.Key == y.Key && x.Cell.N == y.Cell.N && slices.Equal(x.Cell.Set, y.Cell.Set)
	})
}

func clone(l []api.Row) []api.Row {
	l = slices.Clone(l)
	for i := range l {
		l[i].Cell.Set = slices.Clone(l[i].Cell.Set)
	}
	return l
}

func cloneAll(l [][]api.Row) (all [][]api.Row) {
	for _, rows := range l {
		all = append(all, clone(rows))
	}
	return all
}

// upTo has n numbers, rising from that one on.
func upTo(from int64, n int) (l []int64) {
	for i := range n {
		l = append(l, from+int64(i))
	}
	return l
}

// one is a cell that may be in that way.
func one(w way) api.Cell {
	if w.agg == api.AggSet {
		return set(7)
	}
	return number(7)
}

// many is rows of n keys, from that one on.
func many(w way, from int, n int) (l []api.Row) {
	for i := range n {
		l = append(l, at(int64(from+i), "", one(w)))
	}
	return l
}

func records(from int, n int) (l []api.Rec) {
	for i := range n {
		l = append(l, rec(int64(from+i), "", 7))
	}
	return l
}

// keysInOrder rise, also where one begins another, and where a byte is above 127.
func keysInOrder() []api.Key {
	return []api.Key{{A: least}, {A: least, B: "\xff"}, {A: -300}, {A: -2, B: "z"}, {A: -1, B: "a"}, {}, {B: "\x00"}, {B: "\x00\x00"}, {B: "\x01"}, {B: "A"}, {B: "a"}, {B: "a\x00"}, {B: "aa"}, {B: "ab"}, {B: "b"},
		{B: "\x7f"}, {B: "\x80"}, {B: "\xc3\xa4"}, {B: "\xff"}, {B: "\xff\x00"}, {B: strings.Repeat("\xff", 63)}, {B: strings.Repeat("\xff", 64)}, {A: 1}, {A: 1, B: "a"}, {A: 2}, {A: 10}, {A: 256}, {A: 1 << 32}, {A: greatest}, {A: greatest, B: strings.Repeat("x", 64)}}
}

// badKeys may not be.
func badKeys() []api.Key {
	return []api.Key{{A: 5, B: strings.Repeat("x", api.MaxText+1)}, {A: least, B: strings.Repeat("\x00", api.MaxText+1)}, {A: greatest, B: strings.Repeat("y", 1000)}, {B: strings.Repeat("ä", 33)}}
}

// badCells may not be, of that way.
func badCells(w way) []api.Cell {
	switch w.agg {
	case api.AggCount:
		return []api.Cell{number(-1), number(mostCount + 1), number(greatest), number(least), set(1), {N: 1, Set: []int64{1}}}
	case api.AggSet:
		return []api.Cell{number(1), number(-1), {N: 5, Set: []int64{1}}, set(1, 1), set(2, 1), set(greatest, least), set(upTo(0, w.bound+1)...), set(upTo(0, 500)...)}
	}
	return []api.Cell{set(0), set(1), {N: 1, Set: []int64{1}}, {N: -1, Set: []int64{2, 1}}}
}

// brief is some of what it is, to be read in a report.
func brief(what any) string {
	s := fmt.Sprint(what)
	return strings.ToValidUTF8(s[:min(len(s), 300)], "?")
}

func wantCheck(t *testing.T, w way, l []api.Row, want api.Errno) {
	t.Helper()
	if e := row.Check(w.agg, w.bound, l); e != want {
		t.Errorf("Check(%v, %s): %d, not %d", w, brief(l), e, want)
	}
	// What may not be is told alike by all that ask for it.
	if s, e := row.Bytes(w.agg, w.bound, l); e != want || e != api.OK && s != "" {
		t.Errorf("Bytes(%v, %s): %.100q, %d, not %d", w, brief(l), s, e, want)
	}
	if told, e := row.Join(w.agg, w.bound, l); e != want || e == api.OK && !same(told, l) || e != api.OK && len(told) > 0 {
		t.Errorf("Join(%v, %s): %s, %d, not %d", w, brief(l), brief(told), e, want)
	}
}

func wantFold(t *testing.T, w way, l []api.Rec, want []api.Row, bad api.Errno) {
	t.Helper()
	if told, e := row.Fold(w.agg, w.bound, l); !same(told, want) || e != bad {
		t.Errorf("Fold(%v, %s): %s, %d, not %s, %d", w, brief(l), brief(told), e, brief(want), bad)
	}
}

func wantJoin(t *testing.T, w way, l [][]api.Row, want []api.Row, bad api.Errno) {
	t.Helper()
	if told, e := row.Join(w.agg, w.bound, l...); !same(told, want) || e != bad {
		t.Errorf("Join(%v, %s): %s, %d, not %s, %d", w, brief(l), brief(told), e, brief(want), bad)
	}
}

func wantTake(t *testing.T, w way, s string, want []api.Row, bad api.Errno) {
	t.Helper()
	if told, e := row.Take(w.agg, w.bound, s); !same(told, want) || e != bad {
		t.Errorf("Take(%v, %.100q): %s, %d, not %s, %d", w, s, brief(told), e, brief(want), bad)
	}
}

func eachList[T any](n int, of []T, do func([]T)) {
	l := make([]T, n)
	var fill func(int)
	fill = func(i int) {
		if i == n {
			do(slices.Clone(l))
			return
		}
		for _, v := range of {
			l[i] = v
			fill(i + 1)
		}
	}
	fill(0)
}

// TestNothing: the chapter's example, and the other calls with nothing.
func TestNothing(t *testing.T) {
	for _, w := range goodWays() {
		for _, l := range [][]api.Rec{nil, {}} {
			wantFold(t, w, l, nil, api.OK)
		}
		for _, l := range [][][]api.Row{nil, {}, {nil}, {{}}, {nil, {}, nil}} {
			wantJoin(t, w, l, nil, api.OK)
		}
		wantCheck(t, w, nil, api.OK)
		wantCheck(t, w, []api.Row{}, api.OK)
		wantTake(t, w, "", nil, api.OK)
	}
}

// TestWaysThatMayNotBe: ErrForm from each call, with nothing at all, and ahead of whatever else is wrong (R4).
func TestWaysThatMayNotBe(t *testing.T) {
	for _, w := range badWays() {
		for _, l := range [][]api.Rec{nil, {rec(1, "", 1)}, {rec(1, "", 1), rec(1, "", 2)}} {
			wantFold(t, w, l, nil, api.ErrForm)
		}
		for _, l := range [][]api.Row{nil, {}, {at(1, "", number(1))}, {at(1, "", set(1))}, {at(1, "", set())}} {
			wantCheck(t, w, l, api.ErrForm)
			wantJoin(t, w, [][]api.Row{l, nil, l}, nil, api.ErrForm)
		}
		wantJoin(t, w, nil, nil, api.ErrForm)
		wantJoin(t, w, [][]api.Row{nil, {}}, nil, api.ErrForm)
		for _, s := range []string{"", "\x02\x00\x02", "\x02\x00\x02\x02", "\x80", "\x80\x00", "\x02\x01", "\x02\x00\x02\x02\x00\x02"} {
			wantTake(t, w, s, nil, api.ErrForm)
		}
	}
}

// TestCheck: P10.1, rows that may be, and rows with one thing wrong, at each place.
func TestCheck(t *testing.T) {
	for _, w := range someWays() {
		var good []api.Row
		for _, k := range keysInOrder() {
			wantCheck(t, w, []api.Row{{Key: k, Cell: one(w)}}, api.OK)
			good = append(good, api.Row{Key: k, Cell: one(w)})
		}
		wantCheck(t, w, good, api.OK)
		for i := range good {
			for _, c := range badCells(w) {
				l := clone(good)
				l[i].Cell = c
				wantCheck(t, w, l, api.ErrForm)
			}
			for _, k := range badKeys() {
				l := clone(good)
				l[i].Key = k
				wantCheck(t, w, l, api.ErrForm)
			}
			if i == 0 {
				continue
			}
			twice, back := clone(good), clone(good)
			twice[i].Key = twice[i-1].Key
			back[i], back[i-1] = back[i-1], back[i]
			wantCheck(t, w, twice, api.ErrForm)
			wantCheck(t, w, back, api.ErrForm)
		}
		for _, k := range badKeys() {
			wantCheck(t, w, []api.Row{{Key: k, Cell: one(w)}}, api.ErrForm)
		}
		for _, c := range badCells(w) {
			wantCheck(t, w, []api.Row{at(0, "", c)}, api.ErrForm)
		}
	}
}

// TestCheckKeysOfTwo: only the ones that rise, whichever two they are.
func TestCheckKeysOfTwo(t *testing.T) {
	l := keysInOrder()
	for i, a := range l {
		for j, b := range l {
			want := api.ErrForm
			if i < j {
				want = api.OK
			}
			wantCheck(t, maxes, []api.Row{{Key: a, Cell: number(3)}, {Key: b, Cell: number(-3)}}, want)
		}
	}
}

// TestCheckShort holds all lists of up to three of some rows to the words.
func TestCheckShort(t *testing.T) {
	some := rows(at(1, "", number(0)), at(1, "", number(1)), at(1, "a", number(-1)), at(2, "", set(1)), at(2, "", set(1, 2)), at(2, "b", set(2, 1)), at(0, "", number(5)), at(3, strings.Repeat("x", 65), number(0)))
	for n := range 4 {
		eachList(n, some, func(l []api.Row) {
			for _, w := range []way{sums, counts, sets(1), sets(2), {api.AggSum, 1}} {
				want := api.OK
				if !plainMayBe(w, l) {
					want = api.ErrForm
				}
				wantCheck(t, w, l, want)
			}
		})
	}
}

// TestCheckEdges: the greatest cells that may be, and just as many rows.
func TestCheckEdges(t *testing.T) {
	wantCheck(t, counts, rows(counted(0, "", 0), counted(1, "", mostCount)), api.OK)
	wantCheck(t, sums, rows(counted(0, "", least), counted(1, "", greatest)), api.OK)
	for _, bound := range []int{1, 2, 31, api.MaxBound} {
		wantCheck(t, sets(bound), rows(at(0, "", set()), at(1, "", set(upTo(least, bound)...)), at(2, "", set(upTo(-1, bound)...))), api.OK)
		wantCheck(t, sets(bound), rows(at(0, "", set()), at(1, "", set(upTo(least, bound+1)...))), api.ErrForm)
	}
	for _, w := range someWays() {
		wantCheck(t, w, many(w, -5, mostRows), api.OK)
		wantCheck(t, w, many(w, -5, mostRows+1), api.ErrForm)
		wantCheck(t, w, many(w, -5, 4*mostRows), api.ErrForm)
	}
}

// TestFold: P10.1, written out, in each way.
func TestFold(t *testing.T) {
	l := []api.Rec{rec(2, "ab", 6), rec(1, "z", -3), rec(2, "a", 3), rec(2, "ab", 9), rec(-1, "", 4), rec(2, "ab", 6), rec(2, "", 0), rec(1, "z", -3)}
	all := func(minusOne, oneZ, two, twoA, twoAB api.Cell) []api.Row {
		return rows(at(-1, "", minusOne), at(1, "z", oneZ), at(2, "", two), at(2, "a", twoA), at(2, "ab", twoAB))
	}
	wantFold(t, sums, l, all(number(4), number(-6), number(0), number(3), number(21)), api.OK)
	wantFold(t, counts, l, all(number(1), number(2), number(1), number(1), number(3)), api.OK)
	wantFold(t, mins, l, all(number(4), number(-3), number(0), number(3), number(6)), api.OK)
	wantFold(t, maxes, l, all(number(4), number(-3), number(0), number(3), number(9)), api.OK)
	wantFold(t, ors, l, all(number(4), number(-3), number(0), number(3), number(15)), api.OK)
	wantFold(t, sets(2), l, all(set(4), set(-3), set(0), set(3), set(6, 9)), api.OK)
	wantFold(t, sets(1), l, nil, api.ErrBound)
}

// TestFoldOfOne: one record, and many like it.
func TestFoldOfOne(t *testing.T) {
	for _, k := range keysInOrder() {
		for _, v := range []int64{0, 1, -1, 64, least, greatest, mostCount} {
			for n := 1; n <= 3; n++ {
				l := slices.Repeat([]api.Rec{{Key: k, Val: v}}, n)
				wantFold(t, sums, l, rows(at(k.A, k.B, number(int64(n)*v))), api.OK)
				wantFold(t, counts, l, rows(at(k.A, k.B, number(int64(n)))), api.OK)
				for _, w := range []way{mins, maxes, ors} {
					wantFold(t, w, l, rows(at(k.A, k.B, number(v))), api.OK)
				}
				wantFold(t, sets(1), l, rows(at(k.A, k.B, set(v))), api.OK)
			}
		}
	}
}

// TestFoldInOrder: each key once, handed in in whatever order, told by rising keys.
func TestFoldInOrder(t *testing.T) {
	m := &maker{u: 4}
	var l []api.Rec
	for i, k := range keysInOrder() {
		l = append(l, api.Rec{Key: k, Val: int64(i + 1)})
	}
	for _, w := range someWays() {
		var want []api.Row
		for i, k := range keysInOrder() {
			c := number(int64(i + 1))
			if w.agg == api.AggCount {
				c = number(1)
			}
			if w.agg == api.AggSet {
				c = set(int64(i + 1))
			}
			want = append(want, api.Row{Key: k, Cell: c})
		}
		for range 20 {
			wantFold(t, w, l, want, api.OK)
			shuffle(m, l)
		}
	}
}

// TestFoldAtTheEnds: sums that go round, and the least and the greatest.
func TestFoldAtTheEnds(t *testing.T) {
	l := []api.Rec{rec(0, "", greatest), rec(0, "", 1), rec(1, "", least), rec(1, "", -1), rec(2, "", greatest), rec(2, "", least), rec(3, "", least), rec(3, "", least)}
	tell := func(a, b, c, d int64) []api.Row {
		return rows(counted(0, "", a), counted(1, "", b), counted(2, "", c), counted(3, "", d))
	}
	wantFold(t, sums, l, tell(least, greatest, -1, 0), api.OK)
	wantFold(t, counts, l, tell(2, 2, 2, 2), api.OK)
	wantFold(t, mins, l, tell(1, least, least, least), api.OK)
	wantFold(t, maxes, l, tell(greatest, -1, greatest, least), api.OK)
	wantFold(t, ors, l, tell(greatest, -1, -1, least), api.OK)
	wantFold(t, sets(2), l, rows(at(0, "", set(1, greatest)), at(1, "", set(least, -1)), at(2, "", set(least, greatest)), at(3, "", set(least))), api.OK)
}

// TestFoldBound: just as many as the bound, and one more, in whichever row.
func TestFoldBound(t *testing.T) {
	for bound := 1; bound <= api.MaxBound; bound++ {
		for _, in := range []int64{0, 1, 2} {
			var l []api.Rec
			for i := range bound {
				l = append(l, rec(0, "", 5), rec(1, "", 5), rec(2, "", 5), rec(in, "", int64(5-i)), rec(in, "", int64(5-i)))
			}
			want := rows(at(0, "", set(5)), at(1, "", set(5)), at(2, "", set(5)))
			want[in].Cell = set(upTo(int64(6-bound), bound)...)
			wantFold(t, sets(bound), l, want, api.OK)
			wantFold(t, sets(bound), append(l, rec(in, "", 6)), nil, api.ErrBound)
			wantFold(t, sets(bound), append(l, rec(in, "", 6), rec(0, "", 5), rec(3, "", 1)), nil, api.ErrBound)
			wantFold(t, sets(bound), append([]api.Rec{rec(in, "", least)}, l...), nil, api.ErrBound)
		}
	}
}

// TestFoldOfManyRecords: just as many as may be, and one more, though fewer rows come of it.
func TestFoldOfManyRecords(t *testing.T) {
	one := rec(1, "k", 7)
	for _, w := range someWays() {
		c := number(7)
		switch w.agg {
		case api.AggSum:
			c = number(7 * mostRows)
		case api.AggCount:
			c = number(mostRows)
		case api.AggSet:
			c = set(7)
		}
		wantFold(t, w, slices.Repeat([]api.Rec{one}, mostRows), rows(at(1, "k", c)), api.OK)
		wantFold(t, w, slices.Repeat([]api.Rec{one}, mostRows+1), nil, api.ErrForm)
		each, bad := plainFold(w, records(-9, mostRows))
		if bad != api.OK || len(each) != mostRows {
			t.Fatalf("the plain fold: %d rows, %d", len(each), bad)
		}
		wantFold(t, w, records(-9, mostRows), each, api.OK)
		wantFold(t, w, records(-9, mostRows+1), nil, api.ErrForm)
		wantFold(t, w, records(-9, 5*mostRows), nil, api.ErrForm)
	}
}

// TestFoldOfBadKeys: ErrForm, wherever the key stands, and ahead of ErrBound (R4).
func TestFoldOfBadKeys(t *testing.T) {
	for _, k := range badKeys() {
		for _, w := range someWays() {
			for i := range 4 {
				l := slices.Insert(records(0, 3), i, api.Rec{Key: k, Val: 1})
				wantFold(t, w, l, nil, api.ErrForm)
			}
			wantFold(t, w, []api.Rec{{Key: k}}, nil, api.ErrForm)
		}
		over := []api.Rec{rec(1, "", 1), rec(1, "", 2)}
		wantFold(t, sets(1), over, nil, api.ErrBound)
		for i := range 3 {
			wantFold(t, sets(1), slices.Insert(slices.Clone(over), i, api.Rec{Key: k, Val: 1}), nil, api.ErrForm)
		}
	}
	// More records than may be, with too many in a set from the first two on.
	over := append([]api.Rec{rec(1, "", 1), rec(1, "", 2)}, records(0, mostRows-2)...)
	wantFold(t, sets(1), over, nil, api.ErrBound)
	wantFold(t, sets(1), append(over, rec(0, "", 7)), nil, api.ErrForm)
	// A bound that may not be is not one that is passed over.
	wantFold(t, sets(33), []api.Rec{rec(1, "", 1), rec(1, "", 2)}, nil, api.ErrForm)
	wantFold(t, sets(0), []api.Rec{rec(1, "", 1)}, nil, api.ErrForm)
}

// TestFoldShort holds all lists of up to five of some records to the second reading.
func TestFoldShort(t *testing.T) {
	some := []api.Rec{rec(1, "", 1), rec(1, "", 2), rec(1, "a", 1), rec(0, "b", greatest), rec(1, "", -1)}
	for n := range 6 {
		eachList(n, some, func(l []api.Rec) {
			for _, w := range []way{sums, counts, mins, maxes, ors, sets(1), sets(2), sets(3)} {
				want, bad := plainFold(w, l)
				wantFold(t, w, l, want, bad)
			}
		})
	}
}

// TestJoin: P10.1, written out, in each way; empty ones among them change nothing.
func TestJoin(t *testing.T) {
	for _, c := range []struct {
		w       way
		a, b, c []api.Row
		want    []api.Row
		bad     api.Errno
	}{
		{sums, rows(counted(1, "", 5)), rows(counted(0, "z", 1), counted(1, "", -7)), rows(counted(1, "a", 2)), rows(counted(0, "z", 1), counted(1, "", -2), counted(1, "a", 2)), api.OK},
		{sums, rows(counted(1, "", greatest)), rows(counted(1, "", 1)), nil, rows(counted(1, "", least)), api.OK},
		{sums, rows(counted(1, "", least)), rows(counted(1, "", least)), rows(counted(1, "", -1)), rows(counted(1, "", -1)), api.OK},
		{counts, rows(counted(1, "", 5)), rows(counted(1, "", 7)), rows(counted(1, "", 1), counted(2, "", 1)), rows(counted(1, "", 13), counted(2, "", 1)), api.OK},
		{counts, rows(counted(1, "", mostCount-2)), rows(counted(1, "", 1)), rows(counted(1, "", 1)), rows(counted(1, "", mostCount)), api.OK},
		{counts, rows(counted(1, "", mostCount)), rows(counted(1, "", mostCount)), rows(counted(1, "", mostCount)), rows(counted(1, "", mostCount)), api.OK},
		{counts, rows(counted(1, "", 0)), rows(counted(1, "", 0)), rows(counted(2, "", 0)), rows(counted(1, "", 0), counted(2, "", 0)), api.OK},
		{mins, rows(counted(1, "", 5)), rows(counted(1, "", -7)), rows(counted(1, "", 2)), rows(counted(1, "", -7)), api.OK},
		{mins, rows(counted(1, "", greatest), counted(2, "", greatest)), rows(counted(1, "", least)), nil, rows(counted(1, "", least), counted(2, "", greatest)), api.OK},
		{maxes, rows(counted(1, "", 5)), rows(counted(1, "", -7)), rows(counted(1, "", 2)), rows(counted(1, "", 5)), api.OK},
		{maxes, rows(counted(1, "", greatest), counted(2, "", least)), rows(counted(1, "", least)), nil, rows(counted(1, "", greatest), counted(2, "", least)), api.OK},
		{ors, rows(counted(1, "", 1)), rows(counted(1, "", 6)), rows(counted(1, "", 8)), rows(counted(1, "", 15)), api.OK},
		{sets(3), rows(at(1, "", set(1, 2))), rows(at(1, "", set(3))), rows(at(1, "", set(2, 3)), at(2, "", set())), rows(at(1, "", set(1, 2, 3)), at(2, "", set())), api.OK},
		{sets(2), rows(at(1, "", set(1, 2))), rows(at(1, "", set(3))), rows(at(1, "", set())), nil, api.ErrBound},
		{sets(2), rows(at(1, "", set(1))), rows(at(1, "", set(2)), at(2, "", set(3))), rows(at(2, "", set(4))), rows(at(1, "", set(1, 2)), at(2, "", set(3, 4))), api.OK},
		{sets(1), rows(at(1, "", set())), rows(at(1, "", set())), rows(at(1, "", set())), rows(at(1, "", set())), api.OK},
		{sets(32), rows(at(1, "", set(upTo(0, 32)...))), rows(at(1, "", set(upTo(0, 32)...))), rows(at(1, "", set(31))), rows(at(1, "", set(upTo(0, 32)...))), api.OK},
		{sets(32), rows(at(1, "", set(upTo(0, 16)...))), rows(at(1, "", set(upTo(16, 15)...))), rows(at(1, "", set(31))), rows(at(1, "", set(upTo(0, 32)...))), api.OK},
		{sets(32), rows(at(1, "", set(upTo(0, 16)...))), rows(at(1, "", set(upTo(16, 16)...))), rows(at(1, "", set(32))), nil, api.ErrBound},
	} {
		for _, l := range [][][]api.Row{{c.a, c.b, c.c}, {c.a, c.c, c.b}, {c.b, c.a, c.c}, {c.b, c.c, c.a}, {c.c, c.a, c.b}, {c.c, c.b, c.a}} {
			wantJoin(t, c.w, l, c.want, c.bad)
			for i := range 4 {
				wantJoin(t, c.w, slices.Insert(slices.Clone(l), i, nil, []api.Row{}), c.want, c.bad)
			}
		}
	}
}

// TestJoinOfOne: rows joined with nothing, or with themselves.
func TestJoinOfOne(t *testing.T) {
	for _, w := range someWays() {
		l := many(w, -3, 9)
		wantJoin(t, w, [][]api.Row{l}, l, api.OK)
		twice := clone(l)
		for i := range twice {
			if w.agg == api.AggSum || w.agg == api.AggCount {
				twice[i].Cell.N *= 2
			}
		}
		wantJoin(t, w, [][]api.Row{l, l}, twice, api.OK)
	}
}

// TestJoinOfManyLists: there are more of them than rows may come of it.
func TestJoinOfManyLists(t *testing.T) {
	for _, w := range someWays() {
		for _, n := range []int{mostRows, mostRows + 1, 3 * mostRows} {
			l := slices.Repeat([][]api.Row{rows(at(1, "", one(w)), at(2, "", one(w)))}, n)
			c := one(w)
			if w.agg == api.AggSum || w.agg == api.AggCount {
				c.N *= int64(n)
			}
			wantJoin(t, w, l, rows(at(1, "", c), at(2, "", c)), api.OK)
		}
	}
}

// TestJoinOfManyRows: just as many as may be come of it, and one more, though each of them may be.
func TestJoinOfManyRows(t *testing.T) {
	for _, w := range someWays() {
		a, b := many(w, 0, 1000), many(w, 500, mostRows-500)
		want, bad := plainJoin(w, a, b)
		if len(want) != mostRows || bad != api.OK {
			t.Fatalf("the plain join: %d rows, %d", len(want), bad)
		}
		wantJoin(t, w, [][]api.Row{a, b}, want, api.OK)
		wantJoin(t, w, [][]api.Row{b, a}, want, api.OK)
		wantJoin(t, w, [][]api.Row{b, a, b, a}, plainly(w, b, a, b, a), api.OK)
		all := many(w, 0, mostRows)
		wantJoin(t, w, [][]api.Row{all, all}, plainly(w, all, all), api.OK)
		for _, more := range [][]api.Row{many(w, mostRows, 1), many(w, -1, 1), many(w, 1, mostRows), many(w, 5*mostRows, mostRows)} {
			wantJoin(t, w, [][]api.Row{all, more}, nil, api.ErrForm)
			wantJoin(t, w, [][]api.Row{more, all}, nil, api.ErrForm)
			wantJoin(t, w, [][]api.Row{nil, all, a, more, b, nil}, nil, api.ErrForm)
		}
		var single [][]api.Row
		for _, r := range all {
			single = append(single, rows(r))
		}
		wantJoin(t, w, single, all, api.OK)
		wantJoin(t, w, append(single, many(w, mostRows, 1)), nil, api.ErrForm)
	}
}

func plainly(w way, l ...[]api.Row) []api.Row {
	rows, _ := plainJoin(w, l...)
	return rows
}

// TestJoinFormFirst: ErrForm, whichever of them has it, ahead of ErrBound (R4).
func TestJoinFormFirst(t *testing.T) {
	a, b := rows(at(1, "", set(1, 2))), rows(at(1, "", set(3)))
	wantJoin(t, sets(2), [][]api.Row{a, b}, nil, api.ErrBound)
	long := strings.Repeat("x", 65)
	for _, bad := range [][]api.Row{
		rows(at(1, "", number(5))), rows(at(1, "", set(2, 1))), rows(at(1, "", set(1, 1))), rows(at(1, "", set(1, 2, 3))), rows(at(1, long, set())),
		rows(at(1, "", set()), at(1, "", set())), rows(at(2, "", set()), at(1, "", set())), rows(at(1, "b", set()), at(1, "a", set())), rows(at(1, "ab", set()), at(1, "a", set())),
		many(sets(2), 0, mostRows+1),
	} {
		for i := range 3 {
			wantJoin(t, sets(2), slices.Insert([][]api.Row{a, b}, i, bad), nil, api.ErrForm)
			wantJoin(t, sets(2), slices.Insert([][]api.Row{nil, a}, i, bad), nil, api.ErrForm)
		}
		wantJoin(t, sets(2), [][]api.Row{bad, bad}, nil, api.ErrForm)
	}
	// A set has too many and too many rows come of it, in all orders.
	full, more := many(sets(2), 0, mostRows), many(sets(2), mostRows, 1)
	for _, l := range [][][]api.Row{{a, b, full, more}, {full, more, a, b}, {a, full, b, more}, {more, b, full, a}, {full, a, b, more}} {
		wantJoin(t, sets(2), l, nil, api.ErrForm)
	}
	wantJoin(t, sets(2), [][]api.Row{a, b, full}, nil, api.ErrBound)
	wantJoin(t, sets(2), [][]api.Row{full, b, a}, nil, api.ErrBound)
}

// TestJoinBound: ErrBound in whichever row, also where later rows would fit again.
func TestJoinBound(t *testing.T) {
	for bound := 1; bound <= api.MaxBound; bound++ {
		w := sets(bound)
		full := set(upTo(0, bound)...)
		for in := range 5 {
			a := rows(at(0, "", full), at(1, "", full), at(2, "", full), at(3, "", full), at(4, "", full))
			more := rows(at(int64(in), "", set(int64(bound))))
			inside := rows(at(int64(in), "", set(int64(bound-1))))
			wantJoin(t, w, [][]api.Row{a, inside}, a, api.OK)
			wantJoin(t, w, [][]api.Row{inside, a, a, inside}, a, api.OK)
			wantJoin(t, w, [][]api.Row{a, more}, nil, api.ErrBound)
			wantJoin(t, w, [][]api.Row{more, a}, nil, api.ErrBound)
			wantJoin(t, w, [][]api.Row{a, more, inside, a}, nil, api.ErrBound)
		}
	}
}

// TestJoinShort holds all lists of up to three of some rows to the second reading.
func TestJoinShort(t *testing.T) {
	some := [][]api.Row{nil, rows(at(1, "", number(1))), rows(at(1, "", number(0)), at(2, "", number(3))), rows(at(1, "", set(1))), rows(at(1, "", set(2)), at(1, "a", set(2, 3))), rows(at(1, "a", set(1, 2))), rows(at(0, "b", number(-5))), rows(at(2, "", set()), at(1, "", set()))}
	for n := range 5 {
		eachList(n, some, func(l [][]api.Row) {
			for _, w := range []way{sums, counts, mins, maxes, ors, sets(1), sets(2), sets(3)} {
				want, bad := plainJoin(w, l...)
				wantJoin(t, w, l, want, bad)
			}
		})
	}
}

// TestBytesWrittenOut: P10.2, byte by byte.
func TestBytesWrittenOut(t *testing.T) {
	for _, c := range []struct {
		w    way
		l    []api.Row
		want string
	}{
		{sums, rows(counted(0, "", 0)), "\x00\x00\x00"},
		{sums, rows(counted(-1, "", -64), counted(1, "b", 64)), "\x01\x00\x7f" + "\x02\x02b\x80\x01"},
		{counts, rows(counted(1, "a", 3), counted(1, "ab", 1)), "\x02\x02a\x06" + "\x02\x04ab\x02"},
		{mins, rows(counted(1, "\x00", least)), "\x02\x02\x00\xff\xff\xff\xff\xff\xff\xff\xff\xff\x01"},
		{maxes, rows(counted(64, "", 1)), "\x80\x01\x00\x02"},
		{ors, rows(counted(0, strings.Repeat("y", 64), 1)), "\x00\x80\x01" + strings.Repeat("y", 64) + "\x02"},
		{sets(3), rows(at(-1, "", set(5)), at(1, "b", set()), at(1, "c", set(-1, 0, 64))), "\x01\x00\x02\x0a" + "\x02\x02b\x00" + "\x02\x02c\x06\x01\x00\x80\x01"},
	} {
		if s, e := row.Bytes(c.w.agg, c.w.bound, c.l); s != c.want || e != api.OK {
			t.Errorf("Bytes(%v, %v): %q, %d, not %q", c.w, c.l, s, e, c.want)
		}
		wantTake(t, c.w, c.want, c.l, api.OK)
	}
}

// goodRows are rows of many forms that may be.
func goodRows(w way) (l [][]api.Row) {
	m := &maker{u: 77}
	l = [][]api.Row{nil, {at(0, "", one(w))}, many(w, -70, 140)}
	for range 12 {
		l = append(l, m.rows(w))
	}
	var all []api.Row
	for _, k := range keysInOrder() {
		all = append(all, api.Row{Key: k, Cell: m.cell(w)})
	}
	return append(l, all)
}

// TestBytes: P10.2, what is written, that it is taken as it was, and cut off at each place.
func TestBytes(t *testing.T) {
	for _, w := range someWays() {
		for _, l := range goodRows(w) {
			want, _ := plainBytes(w, l)
			s, e := row.Bytes(w.agg, w.bound, l)
			if s != want || e != api.OK {
				t.Errorf("Bytes(%v, %s): %.100q, %d, not %.100q", w, brief(l), s, e, want)
			}
			wantTake(t, w, s, l, api.OK)
			ends := map[int]int{}
			for i := range l {
				ahead, _ := plainBytes(w, l[:i])
				ends[len(ahead)] = i
			}
			for k := range len(s) {
				if i, end := ends[k]; end {
					wantTake(t, w, s[:k], l[:i], api.OK)
				} else {
					wantTake(t, w, s[:k], nil, api.ErrCut)
				}
			}
		}
	}
}

// TestTakeAheadOfOthers: all of s is taken; what stands behind rows must be rows, and rise.
func TestTakeAheadOfOthers(t *testing.T) {
	w := sets(2)
	l := rows(at(-1, "", set(5)), at(1, "b", set()), at(1, "c", set(-1, 0)))
	s, _ := plainBytes(w, l)
	for _, c := range []struct {
		behind string
		more   []api.Row
		bad    api.Errno
	}{
		{"\x02\x02d\x00", rows(at(1, "d", set())), api.OK},
		{"\x02\x04ca\x02\x12", rows(at(1, "ca", set(9))), api.OK},
		{"\x04\x00\x04\x02\x04", rows(at(2, "", set(1, 2))), api.OK},
		{"\x00", nil, api.ErrCut},
		{"\x80", nil, api.ErrCut},
		{"\x80\x00", nil, api.ErrBad},
		{"\x04", nil, api.ErrCut},
		{"\x04\x80\x00", nil, api.ErrBad},
		{"\x04\x01", nil, api.ErrLimit},
		{"\x04\x82\x01", nil, api.ErrLimit},
		{"\x04\x82\x01" + strings.Repeat("x", 65) + "\x00", nil, api.ErrLimit},
		{"\x04\x80\x01" + strings.Repeat("x", 64), nil, api.ErrCut},
		{"\x04\x80\x01" + strings.Repeat("x", 63), nil, api.ErrCut},
		{"\x04\x04a", nil, api.ErrCut},
		{"\x04\x02a", nil, api.ErrCut},
		{"\x04\x02a\x80\x00", nil, api.ErrBad},
		{"\x04\x02a\x01", nil, api.ErrBad},
		{"\x04\x02a\x06", nil, api.ErrBad},
		{"\x04\x02a\x04", nil, api.ErrCut},
		{"\x04\x02a\x04\x02", nil, api.ErrCut},
		{"\x04\x02a\x04\x02\x02", nil, api.ErrBad},
		{"\x04\x02a\x04\x04\x02", nil, api.ErrBad},
		{"\x02\x02c\x00", nil, api.ErrBad},
		{"\x02\x02b\x00", nil, api.ErrBad},
		{"\x02\x00\x00", nil, api.ErrBad},
		{"\x01\x00\x00", nil, api.ErrBad},
		{s, nil, api.ErrBad},
		// A key that does not rise: what is wrong with its own bytes comes ahead of that, what comes behind it does not.
		{"\x02\x02b", nil, api.ErrCut},
		{"\x02\x04b", nil, api.ErrCut},
		{"\x02\x01b", nil, api.ErrLimit},
		{"\x02\x02b\x04\x02", nil, api.ErrCut},
		{"\x02\x02b\x00\x02\x01", nil, api.ErrBad},
		{"\x02\x02b\x00\x04", nil, api.ErrBad},
		{"\x04\x02a\x06\x04", nil, api.ErrBad},
	} {
		if c.bad == api.OK {
			wantTake(t, w, s+c.behind, slices.Concat(l, c.more), api.OK)
		} else {
			wantTake(t, w, s+c.behind, nil, c.bad)
		}
	}
}

// TestTakeOfBadNumbers: num.Take's errors, in each of a row's numbers, in each way.
func TestTakeOfBadNumbers(t *testing.T) {
	long := strings.Repeat("\x80", 9)
	for _, c := range []struct {
		s   string
		bad api.Errno
	}{{"\x80", api.ErrCut}, {long, api.ErrCut}, {long + "\x02", api.ErrBad}, {"\x80\x00", api.ErrBad}, {long + "\x00", api.ErrBad}, {strings.Repeat("\xff", 9) + "\x03", api.ErrBad}} {
		for _, w := range someWays() {
			for _, ahead := range []string{"", "\x02", "\x02\x02a"} {
				wantTake(t, w, ahead+c.s, nil, c.bad)
				s, _ := plainBytes(w, many(w, -20, 5))
				wantTake(t, w, s+ahead+c.s, nil, c.bad)
			}
		}
		wantTake(t, sets(2), "\x02\x02a\x04"+c.s, nil, c.bad)
		wantTake(t, sets(2), "\x02\x02a\x04\x02"+c.s, nil, c.bad)
	}
	wantTake(t, counts, "\x02\x00\x01", nil, api.ErrBad)
	wantTake(t, counts, "\x02\x00"+numbers(mostCount), rows(counted(1, "", mostCount)), api.OK)
	wantTake(t, counts, "\x02\x00"+numbers(mostCount+1), nil, api.ErrBad)
	wantTake(t, sums, "\x02\x00"+numbers(mostCount+1), rows(counted(1, "", mostCount+1)), api.OK)
}

// TestTakeOfKeysOfTwo: only the ones that rise, whichever two they are.
func TestTakeOfKeysOfTwo(t *testing.T) {
	bytesOf := func(r api.Row) string { s, _ := plainBytes(ors, rows(r)); return s }
	for i, a := range keysInOrder() {
		for j, b := range keysInOrder() {
			l := rows(api.Row{Key: a, Cell: number(9)}, api.Row{Key: b, Cell: number(8)})
			if i < j {
				wantTake(t, ors, bytesOf(l[0])+bytesOf(l[1]), l, api.OK)
			} else {
				wantTake(t, ors, bytesOf(l[0])+bytesOf(l[1]), nil, api.ErrBad)
			}
		}
	}
}

// TestTakeOfManyRows: just as many as may be, and one more, of which its own errors come first.
func TestTakeOfManyRows(t *testing.T) {
	for _, w := range someWays() {
		s, e := row.Bytes(w.agg, w.bound, many(w, 1, mostRows))
		if e != api.OK {
			t.Fatalf("Bytes of just as many: %d", e)
		}
		wantTake(t, w, s, many(w, 1, mostRows), api.OK)
		next, _ := plainBytes(w, many(w, mostRows+1, 1))
		wantTake(t, w, s+next, nil, api.ErrBad)
		wantTake(t, w, s+next+"\x80", nil, api.ErrBad)
		for k := 1; k < len(next); k++ {
			wantTake(t, w, s+next[:k], nil, api.ErrCut)
		}
		wantTake(t, w, s+next[:2]+"\x01", nil, api.ErrLimit)
		if got, e := row.Bytes(w.agg, w.bound, many(w, 1, mostRows+1)); got != "" || e != api.ErrForm {
			t.Errorf("Bytes of one more: %d bytes, %d", len(got), e)
		}
	}
}

// TestTakeShort: all of up to six bytes of some, and what is taken is written as it was.
func TestTakeShort(t *testing.T) {
	some := []byte{0, 1, 2, 4, 'a', 0x80, 0x82}
	for n := range 7 {
		eachList(n, some, func(b []byte) {
			s := string(b)
			for _, w := range []way{sums, counts, sets(1), sets(2)} {
				want, bad := plainTake(w, s)
				wantTake(t, w, s, want, bad)
				if bad != api.OK {
					continue
				}
				if back, e := row.Bytes(w.agg, w.bound, want); back != s || e != api.OK {
					t.Errorf("Bytes(%v, %v): %q, %d, not %q", w, want, back, e, s)
				}
			}
		})
	}
}

// TestTakeOfOtherBytes: what is written, with one byte another one, is told as in the second reading.
func TestTakeOfOtherBytes(t *testing.T) {
	m := &maker{u: 12}
	for _, w := range someWays() {
		for range 40 {
			s, _ := plainBytes(w, m.rows(w))
			if s == "" {
				continue
			}
			b := []byte(s)
			b[m.pick(len(b))] = byte(m.pick(256))
			want, bad := plainTake(w, string(b))
			wantTake(t, w, string(b), want, bad)
		}
	}
}

// maker makes what is asked for by a fixed rule.
type maker struct{ u uint64 }

func (m *maker) pick(n int) int {
	m.u = m.u*6364136223846793005 + 1442695040888963407
	return int(m.u >> 33 % uint64(n))
}

func (m *maker) key() api.Key {
	if m.pick(4) == 0 {
		l := keysInOrder()
		return l[m.pick(len(l))]
	}
	return api.Key{A: int64(m.pick(5) - 2), B: []string{"", "a", "ab", "b", "\xff"}[m.pick(5)]}
}

func (m *maker) number() int64 {
	return []int64{0, 1, -1, 63, 64, -64, -65, least, greatest, mostCount, mostCount + 1, -mostCount, int64(m.pick(1000))}[m.pick(13)]
}

func (m *maker) cell(w way) api.Cell {
	switch w.agg {
	case api.AggCount:
		return number([]int64{0, 1, int64(m.pick(100)), mostCount - int64(m.pick(4))}[m.pick(4)])
	case api.AggSet:
		var l []int64
		for range m.pick(w.bound + 1) {
			l = append(l, int64(m.pick(2*w.bound)-w.bound))
		}
		slices.Sort(l)
		return api.Cell{Set: slices.Compact(l)}
	}
	return number(m.number())
}

// rows are some that may be.
func (m *maker) rows(w way) (l []api.Row) {
	keys := keysInOrder()
	for i := m.pick(3); i < len(keys); i += 1 + m.pick(9) {
		l = append(l, api.Row{Key: keys[i], Cell: m.cell(w)})
	}
	return l
}

func (m *maker) records(w way, n int) (l []api.Rec) {
	for range n {
		r := api.Rec{Key: m.key(), Val: m.number()}
		if w.agg == api.AggSet {
			r.Val = int64(m.pick(w.bound+2)) - 1
		}
		l = append(l, r)
	}
	return l
}

func shuffle[T any](m *maker, l []T) {
	for i := range l {
		j := m.pick(i + 1)
		l[i], l[j] = l[j], l[i]
	}
}

// inParts folds each run of l; an error of a part is the whole's.
func (m *maker) inParts(w way, l []api.Rec) (parts [][]api.Row, e api.Errno) {
	for len(l) > 0 {
		n := min(len(l), m.pick(6))
		rows, e := row.Fold(w.agg, w.bound, l[:n])
		if e != api.OK {
			return nil, e
		}
		parts = append(parts, rows)
		l = l[n:]
	}
	return parts, api.OK
}

// tree joins some at a time, wherever they stand, until there is one.
func (m *maker) tree(w way, l [][]api.Row) ([]api.Row, api.Errno) {
	l = slices.Clone(l)
	for len(l) > 1 {
		shuffle(m, l)
		n := min(len(l), 1+m.pick(4))
		rows, e := row.Join(w.agg, w.bound, l[:n]...)
		if e != api.OK {
			return nil, e
		}
		l = append(l[n:], rows)
		if m.pick(4) == 0 {
			l = append(l, nil)
		}
	}
	return row.Join(w.agg, w.bound, l...)
}

// TestInWhateverOrder: P10.3, however records are cut into runs, and in whatever order what came of them is joined.
func TestInWhateverOrder(t *testing.T) {
	m := &maker{u: 9}
	ends := map[api.Errno]int{}
	for i := range 3000 {
		w := someWays()[i%len(someWays())]
		l := m.records(w, m.pick(40))
		want, bad := plainFold(w, l)
		ends[bad]++
		wantFold(t, w, l, want, bad)
		for range 3 {
			parts, e := m.inParts(w, l)
			if e != api.OK && e != bad {
				t.Errorf("%v, %s: a part is told %d, all %d", w, brief(l), e, bad)
			}
			if e == api.OK {
				wantJoin(t, w, parts, want, bad)
				shuffle(m, parts)
				wantJoin(t, w, parts, want, bad)
				if told, e := m.tree(w, parts); !same(told, want) || e != bad {
					t.Errorf("%v, %s: some at a time %s, %d, not %s, %d", w, brief(l), brief(told), e, brief(want), bad)
				}
			}
			shuffle(m, l)
			wantFold(t, w, l, want, bad)
		}
	}
	if ends[api.OK] < 1500 || ends[api.ErrBound] < 300 {
		t.Errorf("what was folded ends in too few ways: %v", ends)
	}
}

// TestInAllOrders: P10.3 of four records, by each cut in two and three, in all orders of the parts.
func TestInAllOrders(t *testing.T) {
	some := []api.Rec{rec(1, "", 1), rec(1, "", 2), rec(1, "a", 2), rec(1, "", -3)}
	eachList(4, some, func(l []api.Rec) {
		for _, w := range []way{sums, counts, mins, maxes, ors, sets(1), sets(2), sets(3)} {
			want, bad := row.Fold(w.agg, w.bound, l)
			for i := range 5 {
				for j := i; j < 5; j++ {
					a, e1 := row.Fold(w.agg, w.bound, l[:i])
					b, e2 := row.Fold(w.agg, w.bound, l[i:j])
					c, e3 := row.Fold(w.agg, w.bound, l[j:])
					if max(e1, e2, e3) != api.OK {
						if bad != api.ErrBound {
							t.Errorf("%v, %v: parts are told %d, %d, %d, all %d", w, l, e1, e2, e3, bad)
						}
						continue
					}
					for _, parts := range [][][]api.Row{{a, b, c}, {c, b, a}, {b, a, c}, {b, c, a}, {a, c, b}, {c, a, b}} {
						wantJoin(t, w, parts, want, bad)
					}
				}
			}
		}
	})
}

// TestJoinedAtRandom holds cells that no records give, too, to the second reading.
func TestJoinedAtRandom(t *testing.T) {
	m := &maker{u: 21}
	for i := range 1500 {
		w := someWays()[i%len(someWays())]
		var l [][]api.Row
		for range m.pick(6) {
			l = append(l, m.rows(w))
		}
		want, bad := plainJoin(w, l...)
		wantJoin(t, w, l, want, bad)
		if told, e := m.tree(w, l); !same(told, want) || e != bad {
			t.Errorf("%v, %s: some at a time %s, %d, not %s, %d", w, brief(l), brief(told), e, brief(want), bad)
		}
	}
}

// TestSameAgain: R1, the same call tells the same, whatever is handed in, and it ends.
func TestSameAgain(t *testing.T) {
	m := &maker{u: 1}
	for range 1500 {
		w := way{m.pick(9) - 1, m.pick(4) * m.pick(2)}
		l := m.records(sets(3), m.pick(60))
		a, e := row.Fold(w.agg, w.bound, l)
		b, f := row.Fold(w.agg, w.bound, slices.Clone(l))
		if !same(a, b) || e != f || e != api.OK && len(a) > 0 {
			t.Errorf("Fold(%v, %s): %s, %d, then %s, %d", w, brief(l), brief(a), e, brief(b), f)
		}
		x, y := m.rows(sets(2)), m.rows(sums)
		a, e = row.Join(w.agg, w.bound, x, y, x)
		b, f = row.Join(w.agg, w.bound, clone(x), clone(y), clone(x))
		if !same(a, b) || e != f || e != api.OK && len(a) > 0 {
			t.Errorf("Join(%v, %s, %s): %s, %d, then %s, %d", w, brief(x), brief(y), brief(a), e, brief(b), f)
		}
	}
}

// roomy has room behind it, and its sets have room behind them, filled with what is known.
func roomy(l ...api.Row) []api.Row {
	room := slices.Repeat(rows(counted(77, "room", 77)), len(l)+8)
	copy(room, l)
	for i, r := range l {
		set := slices.Repeat([]int64{77}, len(r.Cell.Set)+8)
		copy(set, r.Cell.Set)
		room[i].Cell.Set = set[:len(r.Cell.Set)]
	}
	return room[:len(l)]
}

// wholly is all that is there, also behind the lengths.
func wholly(l []api.Row) (all []api.Row) {
	for _, r := range l[:cap(l)] {
		all = append(all, api.Row{Key: r.Key, Cell: api.Cell{N: int64(len(r.Cell.Set)) + r.Cell.N, Set: r.Cell.Set[:cap(r.Cell.Set)]}})
	}
	return clone(all)
}

// spoil writes over all of it, and the room behind it.
func spoil(l []api.Row) {
	for i, r := range l[:cap(l)] {
		for j := range r.Cell.Set[:cap(r.Cell.Set)] {
			r.Cell.Set[:cap(r.Cell.Set)][j] = -99
		}
		l[:cap(l)][i] = counted(-99, "spoilt", -99)
	}
}

func handedIn() [][]api.Row {
	return [][]api.Row{
		roomy(at(1, "", set(1, 5)), at(2, "", set()), at(3, "c", set(9))), roomy(at(0, "", set(2)), at(1, "", set(1))), roomy(), roomy(at(2, "", set(4))),
		roomy(at(2, "", set(4)), at(1, "", set())), roomy(at(2, "", set(4, 3))), roomy(at(5, "", set(1, 2, 3, 4, 5, 6))), roomy(counted(1, "", 5), counted(2, "", -6)), roomy(counted(1, "", 3)),
	}
}

// TestHandedInStays: R2, rows, their sets, records, and the room behind them.
func TestHandedInStays(t *testing.T) {
	l := handedIn()
	for _, w := range append(someWays(), sets(0)) {
		for i := range l {
			for j := range l {
				pair := [][]api.Row{l[i], l[j], nil, {{}}}
				a, b := wholly(l[i]), wholly(l[j])
				row.Check(w.agg, w.bound, l[i])
				row.Bytes(w.agg, w.bound, l[i])
				row.Join(w.agg, w.bound, pair[:3]...)
				if !same(wholly(l[i]), a) || !same(wholly(l[j]), b) {
					t.Fatalf("%v: %v became %v, or %v became %v", w, a, l[i], b, l[j])
				}
				if &pair[0][:1][0] != &l[i][:1][0] || &pair[1][:1][0] != &l[j][:1][0] || pair[2] != nil || len(pair[3]) != 1 {
					t.Fatalf("%v: the list of rows became %v", w, pair)
				}
			}
		}
		room := []api.Rec{rec(3, "", 1), rec(1, "z", 2), rec(3, "", 1), rec(2, "", 9), rec(77, "", 77), rec(76, "", 76)}
		was := slices.Clone(room)
		row.Fold(w.agg, w.bound, room[:4])
		if !slices.Equal(room, was) {
			t.Errorf("%v: records became %v", w, room)
		}
	}
}

// TestToldIsNew: R2, whoever writes into an answer changes neither what was handed in nor what else was told.
func TestToldIsNew(t *testing.T) {
	for _, w := range []way{sets(2), sets(3), sets(8), sums, maxes} {
		for i := range handedIn() {
			for j := range handedIn() {
				l := handedIn()
				a, b := wholly(l[i]), wholly(l[j])
				first, _ := row.Join(w.agg, w.bound, l[i], l[j])
				second, _ := row.Join(w.agg, w.bound, l[i], l[j])
				alone, _ := row.Join(w.agg, w.bound, l[i])
				want, wantAlone := clone(second), clone(alone)
				spoil(first)
				if !same(second, want) || !same(alone, wantAlone) || !same(wholly(l[i]), a) || !same(wholly(l[j]), b) {
					t.Errorf("%v: Join of %v and %v shares what it tells", w, a, b)
				}
				spoil(l[i])
				spoil(l[j])
				if !same(second, want) || !same(alone, wantAlone) {
					t.Errorf("%v: Join of %v and %v keeps what was handed in", w, a, b)
				}
			}
		}
	}
	recs := []api.Rec{rec(1, "", 5), rec(2, "", 5), rec(1, "", 5), rec(1, "", 6)}
	folded, _ := row.Fold(api.AggSet, 4, recs)
	again, _ := row.Fold(api.AggSet, 4, recs)
	want := rows(at(1, "", set(5, 6)), at(2, "", set(5)))
	spoil(folded)
	clear(recs)
	if !same(again, want) {
		t.Errorf("Fold shares what it tells: %v", again)
	}
	taken, _ := row.Take(api.AggSet, 4, "\x02\x00\x04\x02\x04\x04\x00\x00")
	again, _ = row.Take(api.AggSet, 4, "\x02\x00\x04\x02\x04\x04\x00\x00")
	spoil(taken)
	if !same(again, rows(at(1, "", set(1, 2)), at(2, "", set()))) {
		t.Errorf("Take shares what it tells: %v", again)
	}
}

// TestSetsOfOneAnswer: R2, no two lists of one answer share any memory, spare room too.
func TestSetsOfOneAnswer(t *testing.T) {
	apart := func(call string, l []api.Row) {
		t.Helper()
		for i := range l {
			want := clone(l)
			s := l[i].Cell.Set
			for j := range s[:cap(s)] {
				s[:cap(s)][j] = -99
			}
			want[i] = l[i]
			if !same(l, want) {
				t.Errorf("%s: the set of row %d is another's, too: %v, not %v", call, i, l, want)
			}
		}
	}
	shared := []int64{1, 2, 3}
	l := rows(at(1, "", set(shared...)), at(2, "", set(shared...)), at(3, "", set(shared[:2]...)), at(4, "", set(shared[:0]...)))
	joined, _ := row.Join(api.AggSet, 5, l)
	apart("Join of one", joined)
	joined, _ = row.Join(api.AggSet, 5, l, l, l[1:])
	apart("Join of three", joined)
	if !slices.Equal(shared, []int64{1, 2, 3}) {
		t.Errorf("Join shares the set that was handed in: %v", shared)
	}
	folded, _ := row.Fold(api.AggSet, 5, []api.Rec{rec(1, "", 5), rec(2, "", 5), rec(1, "", 6), rec(3, "", 6), rec(2, "", 7)})
	apart("Fold", folded)
	taken, _ := row.Take(api.AggSet, 5, "\x02\x00\x04\x02\x04\x04\x00\x04\x02\x04\x06\x00\x02\x02")
	apart("Take", taken)
}
