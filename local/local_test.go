package local_test

import (
	"fmt"
	"math"
	"slices"
	"strconv"
	"strings"
	"testing"

	"thresher/api"
	"thresher/local"
	"thresher/row"
)

const (
	mostRows  = api.MaxEmits * api.MaxSplits
	mostCount = int64(1) << 62
	least     = int64(math.MinInt64)
	greatest  = int64(math.MaxInt64)
)

// way is how it is gathered, with a bound.
type way struct{ agg, bound int }

var (
	sums   = way{api.AggSum, 0}
	counts = way{api.AggCount, 0}
	mins   = way{api.AggMin, 0}
	maxes  = way{api.AggMax, 0}
	ors    = way{api.AggOr, 0}
)

func sets(bound int) way { return way{api.AggSet, bound} }

func goodWays() []way {
	l := []way{sums, counts, mins, maxes, ors}
	for bound := 1; bound <= api.MaxBound; bound++ {
		l = append(l, sets(bound))
	}
	return l
}

// someWays is each way, and a few bounds.
func someWays() []way {
	return []way{sums, counts, mins, maxes, ors, sets(1), sets(2), sets(3), sets(api.MaxBound)}
}

func badWays() []way {
	l := []way{sets(0), sets(-1), sets(api.MaxBound + 1), sets(math.MinInt), sets(math.MaxInt), sets(1<<32 + 1), sets(1<<8 + 1)}
	for _, w := range []way{sums, counts, mins, maxes, ors} {
		for _, bound := range []int{1, -1, 2, api.MaxBound, math.MinInt, math.MaxInt, 1 << 32, 1 << 8} {
			l = append(l, way{w.agg, bound})
		}
	}
	for _, agg := range []int{api.AggNone, -1, api.AggSet + 1, -api.AggSet, math.MinInt, math.MaxInt, 1<<32 + api.AggSum, 1<<8 + api.AggSet} {
		for _, bound := range []int{0, 1, -1, api.MaxBound, api.MaxBound + 1} {
			l = append(l, way{agg, bound})
		}
	}
	return l
}

func badFuels() []int {
	return []int{-1, api.MaxFuel + 1, -api.MaxFuel, math.MinInt, math.MaxInt, 1 << 32, 1<<32 + 9, 1<<16 + 9, 1<<8*9 + 1, -1 << 32, math.MinInt + 9}
}

// program is a job that runs it with all the fuel there may be.
func program(w way, s string) api.Job {
	return api.Job{Prog: s, Agg: w.agg, Bound: w.bound, Fuel: api.MaxFuel}
}

func fuelled(w way, s string, fuel int) api.Job {
	return api.Job{Prog: s, Agg: w.agg, Bound: w.bound, Fuel: fuel}
}

func rec(a int64, b string, v int64) api.Rec { return api.Rec{Key: api.Key{A: a, B: b}, Val: v} }

func at(a int64, b string, n int64) api.Row {
	return api.Row{Key: api.Key{A: a, B: b}, Cell: api.Cell{N: n}}
}

func holding(a int64, b string, set ...int64) api.Row {
	return api.Row{Key: api.Key{A: a, B: b}, Cell: api.Cell{Set: set}}
}

func rows(l ...api.Row) []api.Row { return l }

// records are n of one key, each of that value.
func records(n int, v int64) []api.Rec { return slices.Repeat([]api.Rec{rec(0, "", v)}, n) }

// valued is a record of each value, of one key.
func valued(l ...int64) (all []api.Rec) {
	for _, v := range l {
		all = append(all, rec(0, "", v))
	}
	return all
}

// keyed are n records of n keys, from that one on.
func keyed(from int, n int) (l []api.Rec) {
	for i := range n {
		l = append(l, rec(int64(from+i), "", 7))
	}
	return l
}

// one is a cell that may be in that way.
func one(w way) api.Cell {
	if w.agg == api.AggSet {
		return api.Cell{Set: []int64{7}}
	}
	return api.Cell{N: 7}
}

// many is rows of n keys, from that one on.
func many(w way, from int, n int) (l []api.Row) {
	for i := range n {
		l = append(l, api.Row{Key: api.Key{A: int64(from + i)}, Cell: one(w)})
	}
	return l
}

// keysInOrder rise: numbers at both ends, texts of no bytes and of the most, some that begin others, bytes above 127.
func keysInOrder() []api.Key {
	long := strings.Repeat("x", api.MaxText)
	return []api.Key{{A: least}, {A: least, B: "\x00"}, {A: least, B: long}, {A: -65}, {A: -1, B: "a"}, {A: -1, B: "b"}, {}, {B: "\x00"}, {B: "a"}, {B: "a\x00"}, {B: "aa"}, {B: "ab"}, {B: "b"}, {B: "\x7f"}, {B: "\x80"}, {B: "\xff"},
		{B: strings.Repeat("\xff", api.MaxText-1)}, {B: strings.Repeat("\xff", api.MaxText)}, {A: 1}, {A: 1, B: "a"}, {A: 63, B: long}, {A: 64}, {A: 1 << 32}, {A: greatest}, {A: greatest, B: long}, {A: greatest, B: "\xff"}}
}

// badKeys may not be.
func badKeys() []api.Key {
	return []api.Key{{B: strings.Repeat("x", api.MaxText+1)}, {A: least, B: strings.Repeat("\x00", api.MaxText+1)}, {A: greatest, B: strings.Repeat("y", 5000)}, {A: 1, B: strings.Repeat("ä", 33)}}
}

func same(a, b []api.Row) bool {
	return slices.EqualFunc(a, b, func(x, y api.Row) bool {
		return x.Key == y.Key && x.Cell.N == y.Cell.N && slices.Equal(x.Cell.Set, y.Cell.Set)
	})
}

func sameAll(a, b [][]api.Row) bool { return slices.EqualFunc(a, b, same) }

func clone(l []api.Row) []api.Row {
	l = slices.Clone(l)
	for i := range l {
		l[i].Cell.Set = slices.Clone(l[i].Cell.Set)
	}
	return l
}

func cloneAll(l [][]api.Row) (all [][]api.Row) {
	for _, rows := range l {
		all = append(all, clone(rows))
	}
	return all
}

// brief is some of what it is, to be read in a report.
func brief(what any) string {
	s := fmt.Sprint(what)
	return strings.ToValidUTF8(s[:min(len(s), 300)], "?")
}

func wantMap(t *testing.T, j api.Job, l []api.Rec, want []api.Rec, bad api.Errno) {
	t.Helper()
	if told, e := local.Map(j, l); !slices.Equal(told, want) || e != bad {
		t.Errorf("Map(%s, %s): %s, %d, not %s, %d", brief(j), brief(l), brief(told), e, brief(want), bad)
	}
}

func wantRuns(t *testing.T, w way, size int, l []api.Rec, want [][]api.Row, bad api.Errno) {
	t.Helper()
	if told, e := local.Runs(w.agg, w.bound, size, l); !sameAll(told, want) || e != bad {
		t.Errorf("Runs(%v, %d, %s): %s, %d, not %s, %d", w, size, brief(l), brief(told), e, brief(want), bad)
	}
}

func wantMerge(t *testing.T, w way, l [][]api.Row, want []api.Row, bad api.Errno) {
	t.Helper()
	if told, e := local.Merge(w.agg, w.bound, l...); !same(told, want) || e != bad {
		t.Errorf("Merge(%v, %s): %s, %d, not %s, %d", w, brief(l), brief(told), e, brief(want), bad)
	}
}

func wantGather(t *testing.T, j api.Job, l []api.Rec, want string, bad api.Errno) {
	t.Helper()
	if told, e := local.Gather(j, l); told != want || e != bad {
		t.Errorf("Gather(%s, %s): %q, %d, not %q, %d", brief(j), brief(l), told[:min(len(told), 100)], e, want[:min(len(want), 100)], bad)
	}
}

func wantOpen(t *testing.T, w way, s string, want []api.Row, bad api.Errno) {
	t.Helper()
	if told, e := local.Open(program(w, ""), s); !same(told, want) || e != bad {
		t.Errorf("Open(%v, %q): %s, %d, not %s, %d", w, s[:min(len(s), 100)], brief(told), e, brief(want), bad)
	}
}

// wantAsRead holds Map and Gather to the second reading.
func wantAsRead(t *testing.T, j api.Job, l []api.Rec) {
	t.Helper()
	out, bad := plainMap(j, l)
	wantMap(t, j, l, out, bad)
	s, bad := plainSplit(j, l)
	wantGather(t, j, l, s, bad)
}

var some = []api.Rec{rec(1, "x", 10), rec(2, "y", -4), rec(1, "x", 7), rec(-3, "", 0)}

// TestNothing: the chapter's example, in each way: of no records nothing is emitted, and it is the frame of nothing.
func TestNothing(t *testing.T) {
	for _, w := range goodWays() {
		for _, s := range []string{"", "a v emit", " \n ", "v rep [ 0 1 emit ]"} {
			for _, l := range [][]api.Rec{nil, {}} {
				wantMap(t, program(w, s), l, nil, api.OK)
				wantGather(t, program(w, s), l, "\x00\x00\x00\x00\x21\x44\xdf\x1c", api.OK)
			}
		}
		for _, size := range []int{1, 2, math.MaxInt} {
			wantRuns(t, w, size, nil, nil, api.OK)
		}
		wantMerge(t, w, nil, nil, api.OK)
		wantMerge(t, w, [][]api.Row{nil, {}, nil}, nil, api.OK)
		wantOpen(t, w, plainFrame(""), nil, api.OK)
	}
}

// TestMapWrittenOut: what is emitted, in order: by the program's order within a record, and record by record.
func TestMapWrittenOut(t *testing.T) {
	for s, want := range map[string][]api.Rec{
		"a v emit":                       some,
		"":                               nil,
		" \n \n":                         nil,
		"v pop":                          nil,
		"0 a emit v 1 emit":              {rec(0, "x", 1), rec(10, "x", 1), rec(0, "y", 2), rec(-4, "y", 1), rec(0, "x", 1), rec(7, "x", 1), rec(0, "", -3), rec(0, "", 1)},
		"v 0 < if [ len v emit ]":        {rec(1, "y", -4)},
		"v 7 = if [ 5 6 emit 5 6 emit ]": {rec(5, "x", 6), rec(5, "x", 6)},
		"a rep [ v a emit ]":             {rec(10, "x", 1), rec(-4, "y", 2), rec(-4, "y", 2), rec(7, "x", 1)},
		"9223372036854775807 v + a emit": {rec(least+9, "x", 1), rec(greatest-4, "y", 2), rec(least+6, "x", 1), rec(greatest, "", -3)},
		"v not if [ a -9223372036854775808 emit ]": {rec(-3, "", least)},
	} {
		wantMap(t, program(sums, s), some, want, api.OK)
		wantAsRead(t, program(counts, s), some)
	}
	wantMap(t, program(sums, "v v emit"), some[:1], []api.Rec{rec(10, "x", 10)}, api.OK)
}

// TestMapOfWhatCounts: of the job just Prog, Agg, Bound and Fuel count.
func TestMapOfWhatCounts(t *testing.T) {
	j := program(sums, "a v emit")
	s, _ := plainSplit(j, some)
	for _, id := range []int{0, 1, -1, 1 << 20, math.MaxInt, math.MinInt} {
		for _, splits := range [][]int{nil, {}, {1, 2}, {3, 2, 2}, make([]int, 99)} {
			j.ID, j.Splits, j.Parts = id, splits, id
			wantMap(t, j, some, some, api.OK)
			wantGather(t, j, some, s, api.OK)
			for prog := range badPrograms() {
				for _, fuel := range badFuels() {
					k := j
					k.Prog, k.Fuel = prog, fuel
					if l, e := local.Open(k, s); e != api.OK || len(l) != 3 {
						t.Errorf("Open(%v): %v, %d", k, l, e)
					}
				}
			}
		}
	}
}

// badPrograms are those that cannot be parsed, or may not be checked, each with its error.
func badPrograms() map[string]api.Errno {
	return map[string]api.Errno{
		"q": api.ErrBad, "a v emit ]": api.ErrBad, "if a": api.ErrBad, "007": api.ErrBad, "a\tv": api.ErrBad, "9223372036854775808": api.ErrBad,
		"if": api.ErrCut, "v if [": api.ErrCut, "v rep [ 1 pop": api.ErrCut, "v rep": api.ErrCut,
		strings.Repeat(" ", api.MaxProg+1): api.ErrLimit, strings.Repeat("1 ", api.MaxOps) + "1": api.ErrLimit, strings.Repeat("1 if [ ", api.MaxDeep+1): api.ErrLimit,
		"v": api.ErrStack, "emit": api.ErrStack, "a v emit pop": api.ErrStack, "v if [ 1 ]": api.ErrStack, "v rep [ pop ]": api.ErrStack, strings.Repeat("1 ", api.MaxStack+1) + strings.Repeat("pop ", api.MaxStack+1): api.ErrStack,
	}
}

// TestProgramsThatMayNotBe: their error is ahead of all others, and told though there is no record.
func TestProgramsThatMayNotBe(t *testing.T) {
	long := []api.Rec{{Key: badKeys()[0]}}
	for s, bad := range badPrograms() {
		for _, w := range []way{sums, sets(2), sets(0), {api.AggNone, 0}, {api.AggMax, 1}} {
			for _, fuel := range []int{api.MaxFuel, 1, 0, -1, api.MaxFuel + 1, math.MinInt, math.MaxInt} {
				for _, l := range [][]api.Rec{nil, some, long, records(api.MaxRecs+1, 1), slices.Concat(some, long)} {
					wantMap(t, fuelled(w, s, fuel), l, nil, bad)
					wantGather(t, fuelled(w, s, fuel), l, "", bad)
				}
			}
		}
	}
	for s, bad := range map[string]api.Errno{"v q": api.ErrBad, "pop if": api.ErrCut, "v" + strings.Repeat(" ", api.MaxProg): api.ErrLimit} {
		wantMap(t, program(sums, s), nil, nil, bad)
	}
}

// TestProgramsAtTheirLimits may just be.
func TestProgramsAtTheirLimits(t *testing.T) {
	for _, s := range []string{
		strings.Repeat(" ", api.MaxProg), strings.Repeat("a pop ", api.MaxOps/2), strings.Repeat("1 if [ ", api.MaxDeep) + "a v emit" + strings.Repeat(" ]", api.MaxDeep),
		strings.Repeat("a ", api.MaxStack) + strings.Repeat("pop ", api.MaxStack), "a v emit" + strings.Repeat("\n", api.MaxProg-8),
	} {
		if out, e := local.Map(program(sums, s), some); e != api.OK || len(out) != len(some) && len(out) != 0 {
			t.Errorf("%q: %v, %d", s, out, e)
		}
		wantAsRead(t, program(sums, s), some)
	}
}

// TestWays: all that may be, and the ones beside them and far away.
func TestWays(t *testing.T) {
	for _, w := range goodWays() {
		wantMap(t, program(w, "a v emit"), some, some, api.OK)
		wantAsRead(t, program(w, "a v emit"), some)
	}
	f := plainFrame(plainRows(sums, rows(at(1, "x", 3))))
	for _, w := range badWays() {
		for _, l := range [][]api.Rec{nil, some, records(api.MaxRecs+1, 1), {{Key: badKeys()[0]}}} {
			for _, s := range []string{"", "a v emit", "1 rep [ 1 1 emit ]"} {
				wantMap(t, program(w, s), l, nil, api.ErrForm)
				wantGather(t, program(w, s), l, "", api.ErrForm)
				wantMap(t, fuelled(w, s, 0), l, nil, api.ErrForm)
			}
			for _, size := range []int{1, 2, 1000} {
				wantRuns(t, w, size, l, nil, api.ErrForm)
			}
		}
		for _, l := range [][][]api.Row{nil, {nil}, {nil, {}}, {rows(at(1, "", 0))}, {rows(at(1, "", 0)), rows(at(1, "", 0), at(2, "", 0))}} {
			wantMerge(t, w, l, nil, api.ErrForm)
		}
		for _, s := range []string{"", f, f + "x", f[:9], plainFrame(""), plainFrame("\x00"), "\xff\xff\xff\xff    "} {
			wantOpen(t, w, s, nil, api.ErrForm)
		}
	}
}

// TestFuel: its ends, and outside of them.
func TestFuel(t *testing.T) {
	for _, w := range someWays() {
		for _, l := range [][]api.Rec{nil, some} {
			for _, fuel := range []int{0, 1, 2, api.MaxFuel - 1, api.MaxFuel} {
				wantMap(t, fuelled(w, "", fuel), l, nil, api.OK)
			}
			for _, fuel := range badFuels() {
				for _, s := range []string{"", "a v emit", "1 rep [ 1 rep [ ] ]"} {
					wantMap(t, fuelled(w, s, fuel), l, nil, api.ErrForm)
					wantGather(t, fuelled(w, s, fuel), l, "", api.ErrForm)
				}
			}
		}
	}
	// two ops, and two of each round: 2000 of 999 rounds
	loop := "v rep [ 1 pop ]"
	wantMap(t, fuelled(sums, loop, api.MaxFuel), valued(999, 999), nil, api.OK)
	wantMap(t, fuelled(sums, loop, api.MaxFuel), valued(999, 1000), nil, api.ErrFuel)
	wantMap(t, fuelled(sums, loop, api.MaxFuel-1), valued(999, 999), nil, api.ErrFuel)
}

// TestFuelOfEachRecord: each has all of it anew; just enough, or one too little, for the first, a middle and the last.
func TestFuelOfEachRecord(t *testing.T) {
	for _, fuel := range []int{3, 4, 50, 500, 1000} {
		many := int64(fuel-2) / 2
		j := fuelled(counts, "v rep [ 1 pop ]", fuel)
		for n := 1; n <= 5; n++ {
			wantMap(t, j, records(n, many), nil, api.OK)
			for i := range n {
				l := records(n, many)
				l[i].Val++
				wantMap(t, j, l, nil, api.ErrFuel)
				wantGather(t, j, l, "", api.ErrFuel)
				l[i].Val = greatest
				wantMap(t, j, l, nil, api.ErrFuel)
			}
		}
	}
	for fuel := range 6 {
		l, bad := some, api.OK
		if fuel < 3 {
			l, bad = nil, api.ErrFuel
		}
		wantMap(t, fuelled(sums, "a v emit", fuel), some, l, bad)
	}
	wantMap(t, fuelled(sums, "1 pop", 0), nil, nil, api.OK)
	wantMap(t, fuelled(sums, "1 pop", 0), some, nil, api.ErrFuel)
}

// TestRecords: none, as many as may be, one more, and those that may not be, wherever they stand.
func TestRecords(t *testing.T) {
	for n := range api.MaxRecs + 1 {
		l := keyed(-9, n)
		wantMap(t, program(sets(1), "a v emit"), l, l, api.OK)
	}
	for _, n := range []int{api.MaxRecs + 1, api.MaxRecs + 2, 2 * api.MaxRecs, api.MaxEmits, api.MaxEmits + 1, mostRows, mostRows + 1, 1<<16 + 1} {
		for _, s := range []string{"", "a v emit", "1 rep [ 1 rep [ ] ]"} {
			wantMap(t, program(sums, s), keyed(0, n), nil, api.ErrForm)
			wantGather(t, program(sums, s), keyed(0, n), "", api.ErrForm)
			wantMap(t, fuelled(sums, s, 0), keyed(0, n), nil, api.ErrForm)
		}
	}
	for _, k := range badKeys() {
		for n := 1; n <= api.MaxRecs; n += 9 {
			for i := range n {
				l := records(n, 1)
				l[i].Key = k
				for _, j := range []api.Job{program(sums, ""), program(sets(1), "a v emit"), fuelled(sums, "a v emit", 2), program(sums, "257 rep [ 1 1 emit ]")} {
					wantMap(t, j, l, nil, api.ErrForm)
					wantGather(t, j, l, "", api.ErrForm)
				}
			}
		}
	}
	var l []api.Rec
	for _, k := range keysInOrder() {
		l = append(l, api.Rec{Key: k, Val: greatest}, api.Rec{Key: k, Val: least})
	}
	wantMap(t, program(sums, "a v emit"), l, l, api.OK)
	wantAsRead(t, program(sums, "len v emit a len emit"), l)
}

// TestRecordsOfManyValues: a set's bound holds for what is emitted, not for the records.
func TestRecordsOfManyValues(t *testing.T) {
	l := valued(1, 2, 3, 4)
	wantMap(t, program(sets(1), ""), l, nil, api.OK)
	wantMap(t, program(sets(1), "a v emit"), l, l, api.OK)
	wantMap(t, program(sets(1), "v 9 emit"), l, []api.Rec{rec(1, "", 9), rec(2, "", 9), rec(3, "", 9), rec(4, "", 9)}, api.OK)
	wantGather(t, program(sets(1), "v 9 emit"), l, plainFrame("\x02\x00\x02\x12\x04\x00\x02\x12\x06\x00\x02\x12\x08\x00\x02\x12"), api.OK)
	wantGather(t, program(sets(1), "a v emit"), l, "", api.ErrBound)
	wantGather(t, program(sets(1), "a v 2 / emit"), l[1:3], plainFrame("\x00\x00\x02\x02"), api.OK)
}

// rounds emits so often as the record's value says.
const rounds = "v rep [ a 1 emit ]"

// TestEmitsOfAllTogether: 256 are told, with one more nothing is, whichever record brings it.
func TestEmitsOfAllTogether(t *testing.T) {
	j := program(counts, rounds)
	for _, c := range []struct {
		l   []int64
		bad api.Errno
	}{
		{[]int64{256}, api.OK}, {[]int64{257}, api.ErrLimit}, {[]int64{255, 1}, api.OK}, {[]int64{255, 2}, api.ErrLimit}, {[]int64{256, 0, -5, 0}, api.OK}, {[]int64{256, 0, 1}, api.ErrLimit}, {[]int64{1, 256}, api.ErrLimit}, {[]int64{0, 0, 256, 0}, api.OK},
		{[]int64{128, 128}, api.OK}, {[]int64{128, 128, 1}, api.ErrLimit}, {[]int64{100, 100, 56, 0}, api.OK}, {[]int64{100, 100, 57}, api.ErrLimit}, {[]int64{100, 100, 100, 100}, api.ErrLimit}, {[]int64{256, 256}, api.ErrLimit}, {[]int64{0, 257, 0}, api.ErrLimit},
		{slices.Repeat([]int64{4}, 64), api.OK}, {append(slices.Repeat([]int64{4}, 63), 5), api.ErrLimit}, {append([]int64{5}, slices.Repeat([]int64{4}, 63)...), api.ErrLimit}, {slices.Repeat([]int64{5}, 64), api.ErrLimit},
	} {
		want := 0
		for _, v := range c.l {
			want += int(max(v, 0))
		}
		out, e := local.Map(j, valued(c.l...))
		if e != c.bad || e == api.OK && !slices.Equal(out, slices.Repeat([]api.Rec{rec(0, "", 1)}, want)) || e != api.OK && len(out) > 0 {
			t.Errorf("Map of %v: %d, %d", c.l, len(out), e)
		}
		wantAsRead(t, j, valued(c.l...))
	}
	for a := int64(0); a <= 258; a++ {
		for _, b := range []int64{0, 255 - a, 256 - a, 257 - a} {
			out, e := local.Map(j, valued(a, b))
			if n := int(a + max(b, 0)); n <= 256 && (len(out) != n || e != api.OK) || n > 256 && (len(out) != 0 || e != api.ErrLimit) {
				t.Errorf("Map of %d, %d: %d, %d", a, b, len(out), e)
			}
		}
	}
}

// TestFirstErrorOfRecords: record by record, and at each eval's error ahead of there being too many.
func TestFirstErrorOfRecords(t *testing.T) {
	// 2 and 3 of each round: 200 is enough for 66 rounds
	j := fuelled(counts, rounds, 200)
	for _, c := range []struct {
		l   []int64
		bad api.Errno
	}{
		{[]int64{66, 66, 66, 58}, api.OK}, {[]int64{66, 66, 66, 59}, api.ErrLimit}, {[]int64{66, 66, 66, 66}, api.ErrLimit}, {[]int64{66, 66, 66, 66, 67}, api.ErrLimit}, {[]int64{66, 66, 66, 67, 66}, api.ErrFuel}, {[]int64{67, 66, 66, 66, 66}, api.ErrFuel},
		{[]int64{66, 67, 66, 66, 66}, api.ErrFuel}, {[]int64{66, 66, 66, 300}, api.ErrFuel}, {[]int64{66, 66, 66, 58, 67}, api.ErrFuel}, {[]int64{66, 66, 66, 58, 1, 67}, api.ErrLimit}, {[]int64{66, 66, 66, 58, 0, 67}, api.ErrFuel},
	} {
		out, bad := plainMap(j, valued(c.l...))
		if bad != c.bad {
			t.Errorf("the second reading of %v: %d, not %d", c.l, bad, c.bad)
		}
		wantMap(t, j, valued(c.l...), out, c.bad)
		wantAsRead(t, j, valued(c.l...))
	}
	// within a record: the fuel is gone just behind emit 256, or just ahead of emit 257
	most := fuelled(counts, rounds, 2+3*256)
	for _, l := range [][]int64{{256}, {256, 257}, {257}, {257, 256}, {1, 256}, {1, 257}, {256, 1}, {256, 0}} {
		wantAsRead(t, most, valued(l...))
		for fuel := 2 + 3*256 - 3; fuel <= 2+3*256+6; fuel++ {
			wantAsRead(t, fuelled(counts, rounds, fuel), valued(l...))
		}
	}
	wantMap(t, most, valued(257), nil, api.ErrFuel)
	wantMap(t, fuelled(counts, rounds, 2+3*256+3), valued(257), nil, api.ErrLimit)
}

// TestErrorsOfEachRecord: each error of a run, at each record of several.
func TestErrorsOfEachRecord(t *testing.T) {
	for n := 1; n <= 7; n++ {
		for i := range n {
			for v, bad := range map[int64]api.Errno{500: api.ErrLimit, 1000: api.ErrLimit, greatest: api.ErrLimit, -1: api.ErrFuel} {
				l := records(n, 3)
				l[i].Val = v
				j := program(counts, "v 0 < if [ 1000 rep [ 1 pop ] ] v rep [ a 1 emit ]")
				wantMap(t, j, l, nil, bad)
				wantGather(t, j, l, "", bad)
			}
		}
	}
}

// sizes are of runs: below one, one, some, as many as there are, more, and very many.
func sizes(n int) []int {
	return []int{0, -1, -2, -n, math.MinInt, math.MinInt + 1, -1 << 32, 1, 2, 3, n - 1, n, n + 1, 2 * n, 1 << 8, 1 << 16, 1 << 31, 1 << 32, 1<<32 + 1, 1 << 62, math.MaxInt - 1, math.MaxInt}
}

// TestRuns: of each size, in each way.
func TestRuns(t *testing.T) {
	l := []api.Rec{rec(1, "x", 10), rec(2, "y", -4), rec(1, "x", 7), rec(0, "q", 1), rec(2, "y", 2)}
	wantRuns(t, sums, 2, l, [][]api.Row{rows(at(1, "x", 10), at(2, "y", -4)), rows(at(0, "q", 1), at(1, "x", 7)), rows(at(2, "y", 2))}, api.OK)
	wantRuns(t, sums, 5, l, [][]api.Row{rows(at(0, "q", 1), at(1, "x", 17), at(2, "y", -2))}, api.OK)
	wantRuns(t, counts, 3, l, [][]api.Row{rows(at(1, "x", 2), at(2, "y", 1)), rows(at(0, "q", 1), at(2, "y", 1))}, api.OK)
	wantRuns(t, mins, 4, l, [][]api.Row{rows(at(0, "q", 1), at(1, "x", 7), at(2, "y", -4)), rows(at(2, "y", 2))}, api.OK)
	wantRuns(t, sets(2), 4, l, [][]api.Row{rows(holding(0, "q", 1), holding(1, "x", 7, 10), holding(2, "y", -4)), rows(holding(2, "y", 2))}, api.OK)
	wantRuns(t, maxes, 1, l, [][]api.Row{rows(at(1, "x", 10)), rows(at(2, "y", -4)), rows(at(1, "x", 7)), rows(at(0, "q", 1)), rows(at(2, "y", 2))}, api.OK)
	for n := range 12 {
		for _, l := range [][]api.Rec{slices.Repeat(l, 3)[:n], keyed(0, n), records(n, 5)} {
			for _, w := range someWays() {
				for _, size := range sizes(n) {
					want, bad := plainRuns(w, size, l)
					wantRuns(t, w, size, l, want, bad)
				}
			}
		}
	}
}

// TestRunsOfManyRecords: as many as may be, and one more, however short the runs are.
func TestRunsOfManyRecords(t *testing.T) {
	for _, n := range []int{api.MaxRecs + 1, api.MaxEmits + 1, mostRows - 1, mostRows} {
		for _, l := range [][]api.Rec{keyed(-7, n), records(n, 1)} {
			for _, size := range []int{1, 7, api.MaxRecs, n - 1, n, n + 1, math.MaxInt} {
				for _, w := range []way{sums, counts, sets(1)} {
					want, bad := plainRuns(w, size, l)
					if bad != api.OK || len(want) != 1+(n-1)/size {
						t.Fatalf("the second reading of %d by %d: %d, %d", n, size, len(want), bad)
					}
					wantRuns(t, w, size, l, want, api.OK)
				}
			}
		}
	}
	for _, n := range []int{mostRows + 1, mostRows + 2, 2 * mostRows, 1<<16 + 1} {
		for _, size := range []int{1, 7, api.MaxEmits, mostRows, n, math.MaxInt} {
			wantRuns(t, sums, size, keyed(0, n), nil, api.ErrForm)
			wantRuns(t, sets(1), size, records(n, 1), nil, api.ErrForm)
		}
	}
}

// TestRunsOfBadKeys: wherever one stands, ahead of a set with too many.
func TestRunsOfBadKeys(t *testing.T) {
	for _, k := range badKeys() {
		for n := 1; n < 9; n++ {
			for i := range n {
				for _, l := range [][]api.Rec{keyed(0, n), valued(1, 2, 3, 4, 5, 6, 7, 8)[:n]} {
					l[i].Key = k
					for _, w := range []way{sums, counts, sets(1), sets(2), sets(32)} {
						for _, size := range []int{1, 2, 3, n, 99} {
							wantRuns(t, w, size, l, nil, api.ErrForm)
						}
					}
				}
			}
		}
	}
	var l []api.Rec
	for _, k := range keysInOrder() {
		l = append(l, api.Rec{Key: k, Val: 3})
	}
	slices.Reverse(l)
	for _, size := range []int{1, 2, 5, len(l)} {
		want, _ := plainRuns(ors, size, l)
		wantRuns(t, ors, size, l, want, api.OK)
	}
	for _, size := range []int{0, -1, 1, 2, 9999} {
		wantRuns(t, sets(1), size, append(valued(1, 2, 3), records(mostRows-2, 4)...), nil, api.ErrForm)
	}
}

// TestRunsBound: a run with a set of too many, the first, a middle or the last; not told of all together.
func TestRunsBound(t *testing.T) {
	for bound := 1; bound <= 4; bound++ {
		for _, n := range []int{1, 2, 5} {
			var l []api.Rec
			for i := range n {
				for v := range bound {
					l = append(l, rec(0, "", int64(i*bound+v)))
				}
			}
			want, _ := plainRuns(sets(bound), bound, l)
			if len(want) != n {
				t.Fatalf("the second reading of %d runs has %d", n, len(want))
			}
			wantRuns(t, sets(bound), bound, l, want, api.OK)
			if bound > 1 {
				wantRuns(t, sets(bound-1), bound, l, nil, api.ErrBound)
			}
			for i := range n {
				// one record more in each run, new in that one alone
				var more []api.Rec
				for k := range n {
					run := append(slices.Clone(l[k*bound:k*bound+bound]), l[k*bound])
					if k == i {
						run[bound].Val = -1
					}
					more = append(more, run...)
				}
				wantRuns(t, sets(bound), bound+1, more, nil, api.ErrBound)
				for _, size := range []int{0, -1, math.MinInt} {
					wantRuns(t, sets(bound), size, more, nil, api.ErrForm)
				}
			}
		}
	}
}

// TestMerge: written out: the same keys, other ones, runs of nothing.
func TestMerge(t *testing.T) {
	a, b, c := rows(at(1, "", 5), at(3, "", -2)), rows(at(1, "", 4), at(2, "", 0)), rows(at(3, "", 7))
	for _, x := range []struct {
		w    way
		l    [][]api.Row
		want []api.Row
	}{
		{sums, [][]api.Row{a, b, nil, c}, rows(at(1, "", 9), at(2, "", 0), at(3, "", 5))}, {sums, [][]api.Row{a}, a}, {sums, [][]api.Row{nil, a, {}}, a}, {sums, [][]api.Row{b, c}, rows(at(1, "", 4), at(2, "", 0), at(3, "", 7))}, {sums, [][]api.Row{c, b}, rows(at(1, "", 4), at(2, "", 0), at(3, "", 7))},
		{sums, [][]api.Row{a, a, a}, rows(at(1, "", 15), at(3, "", -6))}, {mins, [][]api.Row{a, b, c}, rows(at(1, "", 4), at(2, "", 0), at(3, "", -2))}, {maxes, [][]api.Row{a, b, c}, rows(at(1, "", 5), at(2, "", 0), at(3, "", 7))}, {ors, [][]api.Row{a, b, c}, rows(at(1, "", 5), at(2, "", 0), at(3, "", -1))},
		{counts, [][]api.Row{b, c, b}, rows(at(1, "", 8), at(2, "", 0), at(3, "", 7))}, {counts, [][]api.Row{rows(at(0, "", mostCount)), rows(at(0, "", 1)), rows(at(0, "", mostCount))}, rows(at(0, "", mostCount))}, {counts, [][]api.Row{rows(at(0, "", mostCount-1)), rows(at(0, "", 1))}, rows(at(0, "", mostCount))},
		{sums, [][]api.Row{rows(at(0, "", greatest)), rows(at(0, "", 1))}, rows(at(0, "", least))}, {sums, [][]api.Row{rows(at(0, "", least)), rows(at(0, "", least))}, rows(at(0, "", 0))},
		{sets(2), [][]api.Row{rows(holding(1, "", 5), holding(3, "", 1, 2)), rows(holding(1, "", 4), holding(2, "")), rows(holding(3, "", 2))}, rows(holding(1, "", 4, 5), holding(2, ""), holding(3, "", 1, 2))},
		{sets(2), [][]api.Row{rows(holding(1, "")), rows(holding(1, ""))}, rows(holding(1, ""))}, {sums, [][]api.Row{rows(at(1, "b", 1)), rows(at(1, "", 1)), rows(at(0, "c", 1)), rows(at(1, "a", 1))}, rows(at(0, "c", 1), at(1, "", 1), at(1, "a", 1), at(1, "b", 1))},
	} {
		wantMerge(t, x.w, x.l, x.want, api.OK)
	}
}

// TestMergeInOrder: each key in a run of its own, the runs in any order, and each key in several of them.
func TestMergeInOrder(t *testing.T) {
	m := &maker{u: 4}
	for _, w := range someWays() {
		var all []api.Row
		for _, k := range keysInOrder() {
			all = append(all, api.Row{Key: k, Cell: one(w)})
		}
		for range 20 {
			n := 1 + m.pick(len(all))
			l := make([][]api.Row, n)
			for _, r := range all {
				p := m.pick(n)
				l[p] = append(l[p], r)
			}
			wantMerge(t, w, l, all, api.OK)
			var single [][]api.Row
			for _, i := range m.order(len(all)) {
				single = append(single, all[i:i+1])
			}
			wantMerge(t, w, single, all, api.OK)
			want, bad := plainMerge(w, append(l, single...)...)
			wantMerge(t, w, append(l, single...), want, bad)
		}
	}
}

// TestMergeOfManyRuns: very many, of nothing, of one key, of many keys.
func TestMergeOfManyRuns(t *testing.T) {
	wantMerge(t, sums, make([][]api.Row, 100000), nil, api.OK)
	wantMerge(t, sums, slices.Repeat([][]api.Row{rows(at(1, "", 3))}, 50000), rows(at(1, "", 150000)), api.OK)
	wantMerge(t, sums, slices.Repeat([][]api.Row{many(sums, 0, 500)}, 100), func() (l []api.Row) {
		for i := range 500 {
			l = append(l, at(int64(i), "", 700))
		}
		return l
	}(), api.OK)
	var l [][]api.Row
	for i := range mostRows {
		l = append(l, rows(at(int64(mostRows-i), "", 7)))
	}
	wantMerge(t, sums, l, many(sums, 1, mostRows), api.OK)
	wantMerge(t, sums, append(l, rows(at(0, "", 0))), nil, api.ErrForm)
	wantMerge(t, sums, append(l, rows(at(mostRows+1, "", 0))), nil, api.ErrForm)
}

// TestMergeOfManyRows: as many as may be in one run, and come of it; one more of either.
func TestMergeOfManyRows(t *testing.T) {
	for _, w := range []way{sums, counts, sets(1)} {
		full, more := many(w, 0, mostRows), many(w, 0, mostRows+1)
		wantMerge(t, w, [][]api.Row{full}, full, api.OK)
		wantMerge(t, w, [][]api.Row{more}, nil, api.ErrForm)
		wantMerge(t, w, [][]api.Row{nil, more, full}, nil, api.ErrForm)
		wantMerge(t, w, [][]api.Row{more[mostRows:], full}, nil, api.ErrForm)
		wantMerge(t, w, [][]api.Row{full, more[mostRows:]}, nil, api.ErrForm)
		for _, n := range []int{1, 700, mostRows - 1} {
			wantMerge(t, w, [][]api.Row{full[:n], full[n:]}, full, api.OK)
			wantMerge(t, w, [][]api.Row{full[n:], nil, full[:n]}, full, api.OK)
			wantMerge(t, w, [][]api.Row{more[n:], full[:n]}, nil, api.ErrForm)
		}
		twice, bad := plainMerge(w, full, full)
		wantMerge(t, w, [][]api.Row{full, full}, twice, bad)
		odd, even := []api.Row(nil), []api.Row(nil)
		for i, r := range full {
			if i%2 == 0 {
				even = append(even, r)
			} else {
				odd = append(odd, r)
			}
		}
		wantMerge(t, w, [][]api.Row{odd, even}, full, api.OK)
		wantMerge(t, w, [][]api.Row{odd, even, more[mostRows:]}, nil, api.ErrForm)
	}
	// half of them with one number, and half of them with one text
	for _, key := range []func(i int) api.Key{
		func(i int) api.Key { return api.Key{A: int64(i / 800), B: strconv.Itoa(10000 + i)} },
		func(i int) api.Key { return api.Key{A: int64(i), B: strconv.Itoa(i / 800)} },
	} {
		var l []api.Row
		for i := range mostRows + 1 {
			l = append(l, api.Row{Key: key(i)})
		}
		wantMerge(t, sums, [][]api.Row{l[900:mostRows], l[:100], l[100:900]}, l[:mostRows], api.OK)
		wantMerge(t, sums, [][]api.Row{l[900:], l[:100], l[100:900]}, nil, api.ErrForm)
	}
}

// oddRuns may not be in that way.
func oddRuns(w way) (all [][]api.Row) {
	c := one(w)
	row := func(a int64, b string) api.Row { return api.Row{Key: api.Key{A: a, B: b}, Cell: c} }
	all = append(all, rows(row(2, ""), row(1, "")), rows(row(1, ""), row(1, "")), rows(row(1, "b"), row(1, "a")), rows(row(0, ""), row(5, ""), row(3, "")), rows(row(greatest, ""), row(least, "")), rows(row(1, "\x80"), row(1, "\x7f")))
	for _, k := range badKeys() {
		all = append(all, rows(api.Row{Key: k, Cell: c}))
	}
	cells := []api.Cell{{N: 1, Set: []int64{1}}, {N: least, Set: []int64{2, 1}}}
	switch w.agg {
	case api.AggCount:
		cells = append(cells, api.Cell{N: -1}, api.Cell{N: mostCount + 1}, api.Cell{Set: []int64{0}})
	case api.AggSet:
		cells = append(cells, api.Cell{N: 1}, api.Cell{Set: []int64{1, 1}}, api.Cell{Set: []int64{greatest, least}}, api.Cell{Set: make([]int64, w.bound+1)})
	default:
		cells = append(cells, api.Cell{Set: []int64{0}})
	}
	for _, odd := range cells {
		all = append(all, rows(api.Row{Cell: odd}), rows(row(-1, ""), api.Row{Cell: odd}, row(1, "")))
	}
	return all
}

// TestMergeFormFirst: a run that may not be, wherever it stands, ahead of a set with too many and of nothing.
func TestMergeFormFirst(t *testing.T) {
	for _, w := range someWays() {
		for _, odd := range oddRuns(w) {
			wantMerge(t, w, [][]api.Row{odd}, nil, api.ErrForm)
			good := [][]api.Row{many(w, 0, 2), nil, many(w, 1, 3)}
			if w.agg == api.AggSet {
				full := rows(holding(1, "", upTo(0, w.bound)...))
				good = append(good, full, rows(holding(1, "", -1)))
			}
			for i := range len(good) + 1 {
				wantMerge(t, w, slices.Insert(slices.Clone(good), i, odd), nil, api.ErrForm)
			}
		}
	}
	// too many rows come of it, behind or ahead of a set with too many
	for _, from := range []int64{-5, 5, mostRows + 5} {
		two := [][]api.Row{rows(holding(from, "", 1)), rows(holding(from, "", 2))}
		for _, n := range []int{mostRows - 1, mostRows} {
			bad := api.ErrBound
			if n == mostRows && from != 5 {
				bad = api.ErrForm
			}
			l := many(sets(1), 0, n)
			wantMerge(t, sets(1), append(two, l), nil, bad)
			wantMerge(t, sets(1), [][]api.Row{two[0], l, two[1]}, nil, bad)
			wantMerge(t, sets(1), [][]api.Row{l[:700], two[0], l[700:], two[1]}, nil, bad)
		}
	}
}

// upTo has n numbers, rising from that one on.
func upTo(from int64, n int) (l []int64) {
	for i := range n {
		l = append(l, from+int64(i))
	}
	return l
}

// TestMergeBound: sets that come to more than the bound only when they are joined, at the first, a middle or the last key.
func TestMergeBound(t *testing.T) {
	for _, bound := range []int{1, 2, 3, 16, api.MaxBound} {
		for n := 1; n <= 4; n++ {
			for i := range n {
				var a, b, c []api.Row
				for k := range n {
					a = append(a, holding(int64(k), "", upTo(0, bound)...))
					b = append(b, holding(int64(k), "", 0))
					c = append(c, holding(int64(k), ""))
				}
				wantMerge(t, sets(bound), [][]api.Row{a, b, c, a}, a, api.OK)
				wantMerge(t, sets(bound), [][]api.Row{c, b, nil, a[i:]}, func() []api.Row { l, _ := plainMerge(sets(bound), c, b, a[i:]); return l }(), api.OK)
				b[i].Cell.Set = []int64{int64(bound)}
				for _, l := range [][][]api.Row{{a, b}, {b, a}, {c, a, nil, c, b[i : i+1]}, {b[i : i+1], a[i : i+1]}} {
					wantMerge(t, sets(bound), l, nil, api.ErrBound)
				}
			}
		}
	}
	wantMerge(t, sets(2), [][]api.Row{rows(holding(0, "", 1)), rows(holding(0, "", 2)), rows(holding(0, "", 3))}, nil, api.ErrBound)
	wantMerge(t, sets(3), [][]api.Row{rows(holding(0, "", 1)), rows(holding(0, "", 2)), rows(holding(0, "", 3))}, rows(holding(0, "", 1, 2, 3)), api.OK)
}

// eachList does it with all lists of up to n of them.
func eachList[T any](n int, of []T, do func([]T)) {
	var list func(l []T)
	list = func(l []T) {
		do(l)
		if len(l) == n {
			return
		}
		for _, x := range of {
			list(append(slices.Clone(l), x))
		}
	}
	list(nil)
}

// TestMergeOfAllShort: all lists of up to four short runs, also of some that may not be.
func TestMergeOfAllShort(t *testing.T) {
	of := [][]api.Row{nil, rows(holding(1, "", 1)), rows(holding(1, "", 2), holding(2, "")), rows(holding(0, "", 3), holding(1, ""), holding(1, "a", 1)), rows(holding(2, ""), holding(1, "")), rows(at(2, "", 5)), rows(holding(1, "", 1, 2, 3))}
	eachList(4, of, func(l [][]api.Row) {
		for _, w := range []way{sets(1), sets(2), sets(3), sums} {
			want, bad := plainMerge(w, l...)
			wantMerge(t, w, l, want, bad)
		}
	})
}

// TestGatherWrittenOut: a split's bytes, in each way.
func TestGatherWrittenOut(t *testing.T) {
	l := []api.Rec{rec(1, "x", 10), rec(2, "y", -4), rec(1, "x", 7), rec(1, "", 10)}
	for w, s := range map[way]string{
		sums: "\x02\x00\x14\x02\x02x\x22\x04\x02y\x07", counts: "\x02\x00\x02\x02\x02x\x04\x04\x02y\x02", mins: "\x02\x00\x14\x02\x02x\x0e\x04\x02y\x07", maxes: "\x02\x00\x14\x02\x02x\x14\x04\x02y\x07",
		ors: "\x02\x00\x14\x02\x02x\x1e\x04\x02y\x07", sets(2): "\x02\x00\x02\x14\x02\x02x\x04\x0e\x14\x04\x02y\x02\x07", sets(32): "\x02\x00\x02\x14\x02\x02x\x04\x0e\x14\x04\x02y\x02\x07",
	} {
		wantGather(t, program(w, "a v emit"), l, plainFrame(s), api.OK)
		want, _ := plainTake(w, s)
		wantOpen(t, w, plainFrame(s), want, api.OK)
	}
	wantGather(t, program(sums, "a v emit"), l[:1], "\x00\x00\x00\x04\xc4\x13\x42\xcf\x02\x02x\x14", api.OK)
	wantGather(t, program(sums, ""), l, plainFrame(""), api.OK)
	wantGather(t, program(sets(1), "a v emit"), l, "", api.ErrBound)
	wantGather(t, program(sets(1), "a v emit"), l[1:3], plainFrame("\x02\x02x\x02\x0e\x04\x02y\x02\x07"), api.OK)
}

// TestGatherBound: behind all of Map's errors, at the first, a middle or the last record.
func TestGatherBound(t *testing.T) {
	for bound := 1; bound <= 4; bound++ {
		l := make([]api.Rec, 0, 9)
		for v := range bound + 1 {
			l = append(l, rec(0, "", int64(v)))
		}
		wantGather(t, program(sets(bound), "0 v emit"), l, "", api.ErrBound)
		wantMap(t, program(sets(bound), "0 v emit"), l, l, api.OK)
		wantGather(t, program(sets(bound+1), "0 v emit"), l, plainFrame("\x00\x00"+numbers(int64(bound)+1)+numbers(upTo(0, bound+1)...)), api.OK)
		wantGather(t, fuelled(sets(bound), "0 v emit", 2), l, "", api.ErrFuel)
		wantGather(t, program(sets(bound), "0 v emit emit"), l, "", api.ErrStack)
		wantGather(t, program(sets(bound), "0 v emit rep"), l, "", api.ErrCut)
		wantGather(t, program(sets(0), "0 v emit"), l, "", api.ErrForm)
		j := program(sets(bound), "0 v emit v 9 = if [ 300 rep [ 0 0 emit ] ]")
		wantGather(t, j, append(l, rec(0, "", 9)), "", api.ErrLimit)
		wantGather(t, j, l, "", api.ErrBound)
	}
	// of one record: as many unlike values as may be, and one more
	for n := 1; n <= api.MaxBound+1; n++ {
		s := ""
		for v := range n {
			s += "0 " + strconv.Itoa(v) + " emit "
		}
		want, bad := plainFrame("\x00\x00"+numbers(int64(n))+numbers(upTo(0, n)...)), api.OK
		if n > api.MaxBound {
			want, bad = "", api.ErrBound
		}
		wantGather(t, program(sets(api.MaxBound), s), valued(5), want, bad)
		wantGather(t, program(sets(api.MaxBound), s), valued(5, 6, 5), want, bad)
		wantGather(t, program(sets(max(1, n-1)), s+"0 "+strconv.Itoa(n)+" emit"), valued(5), "", api.ErrBound)
	}
}

// TestGatherOfTheMost: 256 keys, each with the longest number, text and value: there is no more that a split gives, and it is no longer than a part.
func TestGatherOfTheMost(t *testing.T) {
	var l []api.Rec
	for i := range api.MaxRecs {
		l = append(l, rec(0, string(rune('0'+i/8))+string(rune('0'+i%8))+strings.Repeat("t", api.MaxText-2), least+int64(4*i)))
	}
	emits := "v v emit v 1 + v emit v 2 + v emit v 3 + v emit"
	for w, long := range map[way]int{sums: 86, mins: 86, sets(1): 87, sets(api.MaxBound): 87, counts: 77} {
		s, e := local.Gather(program(w, emits), l)
		if e != api.OK || len(s) != 8+api.MaxEmits*long || len(s) > api.MaxPart {
			t.Errorf("%v: %d bytes, %d", w, len(s), e)
		}
		wantAsRead(t, program(w, emits), l)
		want, _ := plainOpen(w, s)
		wantOpen(t, w, s, want, api.OK)
		wantGather(t, program(w, emits+" v 1000000 + pop v -9223372036854775808 = if [ v v emit ]"), l, "", api.ErrLimit)
	}
}

// TestOpenCutOff: at each place, in each way, and with other bytes in each place.
func TestOpenCutOff(t *testing.T) {
	for _, w := range someWays() {
		s, e := local.Gather(program(w, "a 2 * v emit"), some[1:])
		if e != api.OK {
			t.Fatalf("%v: %d", w, e)
		}
		for n := range len(s) {
			wantOpen(t, w, s[:n], nil, api.ErrCut)
			for _, b := range []byte{0, 1, 2, 0x7f, 0x80, 0xff, s[n] ^ 1, s[n] ^ 0x80} {
				other := s[:n] + string([]byte{b}) + s[n+1:]
				want, bad := plainOpen(w, other)
				wantOpen(t, w, other, want, bad)
				if b != s[n] && bad == api.OK {
					t.Errorf("%v: %q opens", w, other)
				}
			}
		}
		for _, more := range []string{"\x00", "x", s, plainFrame(""), strings.Repeat("\x00", 8)} {
			wantOpen(t, w, s+more, nil, api.ErrBad)
			wantOpen(t, w, plainFrame("")+more, nil, api.ErrBad)
		}
	}
}

// TestOpenSums: another sum, also beside bytes left and rows that may not be.
func TestOpenSums(t *testing.T) {
	for _, held := range []string{"", "\x02\x02x\x14", "\x02", "\x00\x00\x00\x00\x00\x00"} {
		f := plainFrame(held)
		for bit := range 32 {
			b := []byte(f)
			b[4+bit/8] ^= 1 << (bit % 8)
			wantOpen(t, sums, string(b), nil, api.ErrSum)
			wantOpen(t, sums, string(b)+"more", nil, api.ErrSum)
		}
	}
}

// TestOpenRowsThatMayNotBe: their error, in order; behind all that is wrong with the frame, and behind bytes left.
func TestOpenRowsThatMayNotBe(t *testing.T) {
	for _, c := range []struct {
		w   way
		s   string
		bad api.Errno
	}{
		{sums, "\x02", api.ErrCut}, {sums, "\x02\x02", api.ErrCut}, {sums, "\x02\x02x", api.ErrCut}, {sums, "\x02\x02x\x80", api.ErrCut}, {sums, "\x80\x00\x00\x00", api.ErrBad}, {sums, "\x02\x02x\x80\x00", api.ErrBad},
		{sums, "\x02\x01", api.ErrLimit}, {sums, "\x02\x82\x01" + strings.Repeat("x", 65) + "\x00", api.ErrLimit}, {sums, "\x02\x00\x00\x02\x00\x00", api.ErrBad}, {sums, "\x02\x00\x00\x00\x00\x00", api.ErrBad}, {sums, "\x02\x02b\x00\x02\x02a\x00", api.ErrBad},
		{sums, "\x02\x00\x00\x02\x00", api.ErrCut}, {sums, "\x02\x00\x00\x02\x01", api.ErrLimit}, {counts, "\x00\x00\x01", api.ErrBad}, {counts, "\x00\x00" + numbers(mostCount), api.OK}, {counts, "\x00\x00" + numbers(mostCount+1), api.ErrBad},
		{sets(2), "\x00\x00\x06\x00\x02\x04", api.ErrBad}, {sets(2), "\x00\x00\x06", api.ErrBad}, {sets(2), "\x00\x00\x04\x02", api.ErrCut}, {sets(2), "\x00\x00\x04\x02\x02", api.ErrBad}, {sets(2), "\x00\x00\x04\x04\x02", api.ErrBad}, {sets(2), "\x00\x00\x01", api.ErrBad}, {sets(2), "\x00\x00\x00", api.OK},
		{sets(3), "\x00\x00\x06\x00\x02\x04", api.OK}, {sums, numbers(least) + "\x00" + numbers(greatest), api.OK},
	} {
		f := plainFrame(c.s)
		want, bad := plainTake(c.w, c.s)
		if bad != c.bad {
			t.Errorf("the second reading of %v, %q: %d, not %d", c.w, c.s, bad, c.bad)
		}
		wantOpen(t, c.w, f, want, c.bad)
		wantOpen(t, c.w, f+"x", nil, api.ErrBad)
		wantOpen(t, c.w, f[:len(f)-1], nil, api.ErrCut)
		wantOpen(t, c.w, f[:4]+"\x00\x00\x00\x00"+f[8:]+"x", nil, api.ErrSum)
	}
}

// TestOpenLong: a frame may be longer than a part, but no longer than a frame.
func TestOpenLong(t *testing.T) {
	var l []api.Row
	for i := range mostRows + 1 {
		l = append(l, at(int64(i), strings.Repeat("x", 14), 1<<20))
	}
	for n, bad := range map[int]api.Errno{1: api.OK, mostRows - 1: api.OK, mostRows: api.OK, mostRows + 1: api.ErrBad} {
		s := plainFrame(plainRows(sums, l[:n]))
		if bad == api.OK {
			wantOpen(t, sums, s, l[:n], api.OK)
		} else {
			wantOpen(t, sums, s, nil, bad)
		}
	}
	for long := api.MaxPart - 10; long <= api.MaxData+3; long++ {
		// each row has 8 bytes of its own, and the last one makes up for what is lacking
		var l []api.Row
		left := long
		for i := 0; left > 0; i++ {
			n := min(60, max(0, left-4), left-4)
			if rest := left - n - 4; rest > 0 && rest < 4 {
				n -= 4
			}
			l = append(l, at(int64(i+64), strings.Repeat("x", n), 0))
			left -= len(plainRows(sums, l[i:]))
			if left < 0 {
				t.Fatalf("%d: %d", long, left)
			}
		}
		s := plainFrame(plainRows(sums, l))
		if len(s) != long+8 {
			t.Fatalf("%d bytes, not %d", len(s), long+8)
		}
		if long <= api.MaxData {
			wantOpen(t, sums, s, l, api.OK)
		} else {
			wantOpen(t, sums, s, nil, api.ErrLimit)
			wantOpen(t, sums, s[:8], nil, api.ErrLimit)
			wantOpen(t, sums, s+"x", nil, api.ErrLimit)
		}
	}
	for _, long := range []string{"\x00\x00\x80\x01", "\x00\x01\x00\x00", "\xff\xff\xff\xff", "\x80\x00\x00\x00", "\x7f\xff\xff\xff"} {
		wantOpen(t, sums, long+"    ", nil, api.ErrLimit)
		wantOpen(t, sums, long+"   ", nil, api.ErrCut)
	}
}

// TestOpenShort: all short bytes, framed, in a few ways; and as they are.
func TestOpenShort(t *testing.T) {
	eachList(5, []byte{0, 1, 2, 4, 0x80}, func(b []byte) {
		for _, w := range []way{sums, counts, sets(1), sets(2)} {
			s := plainFrame(string(b))
			want, bad := plainOpen(w, s)
			wantOpen(t, w, s, want, bad)
			wantOpen(t, w, string(b), nil, api.ErrCut)
		}
	})
}

// maker makes what is asked for by a fixed rule.
type maker struct{ u uint64 }

func (m *maker) pick(n int) int {
	m.u = m.u*6364136223846793005 + 1442695040888963407
	return int(m.u >> 33 % uint64(n))
}

// order is all numbers below n, in some order.
func (m *maker) order(n int) (l []int) {
	for i := range n {
		l = slices.Insert(l, m.pick(i+1), i)
	}
	return l
}

func (m *maker) key() api.Key {
	if m.pick(4) == 0 {
		l := keysInOrder()
		return l[m.pick(len(l))]
	}
	return api.Key{A: int64(m.pick(5) - 2), B: []string{"", "a", "ab", "b", "\xff"}[m.pick(5)]}
}

func (m *maker) number() int64 {
	return []int64{0, 1, -1, 63, 64, -64, -65, least, greatest, mostCount, mostCount + 1, -mostCount, int64(m.pick(1000))}[m.pick(13)]
}

func (m *maker) records(w way, n int) (l []api.Rec) {
	for range n {
		r := api.Rec{Key: m.key(), Val: m.number()}
		if w.agg == api.AggSet {
			r.Val = int64(m.pick(w.bound+2)) - 1
		}
		l = append(l, r)
	}
	return l
}

// rows are some that may be, of cells that no records need to give.
func (m *maker) rows(w way) (l []api.Row) {
	keys := keysInOrder()
	for i := m.pick(3); i < len(keys); i += 1 + m.pick(9) {
		c := api.Cell{N: m.number()}
		switch w.agg {
		case api.AggCount:
			c.N = []int64{0, 1, int64(m.pick(100)), mostCount - int64(m.pick(4))}[m.pick(4)]
		case api.AggSet:
			set := upTo(int64(m.pick(3)), m.pick(w.bound+1))
			c = api.Cell{Set: set}
		}
		l = append(l, api.Row{Key: keys[i], Cell: c})
	}
	return l
}

// text is a program, mostly one that checks.
func (m *maker) text() string {
	parts := []string{"a v emit", "v a emit", "len v emit", "v 3 & rep [ a v emit ]", "v 0 < if [ 0 1 emit ]", "v rep [ 0 v emit ]", "a u8 v s8 emit", "v 7 % a + v 2 / emit", "a not if [ v v emit v 1 + v emit ]", "v pop", "5 rep [ 1 rep [ ] ]", "v 90 % rep [ a 1 emit ]", "v 999 & rep [ a 1 emit ]", "0 v 40 % emit"}
	var l []string
	for range m.pick(4) {
		l = append(l, parts[m.pick(len(parts))])
	}
	if m.pick(15) == 0 {
		l = append(l, []string{"v", "]", "rep", "a emit", "if v", "08"}[m.pick(6)])
	}
	return strings.Join(l, []string{" ", "\n", "  "}[m.pick(3)])
}

// TestAtRandom holds Map and Gather to the second reading, and Open to what Gather wrote.
func TestAtRandom(t *testing.T) {
	m := &maker{u: 13}
	ends, opened := map[api.Errno]int{}, 0
	for i := range 4000 {
		w := someWays()[i%len(someWays())]
		j := fuelled(w, m.text(), []int{api.MaxFuel, 500, 60, m.pick(20)}[m.pick(4)])
		if m.pick(40) == 0 {
			l := badWays()
			j.Agg, j.Bound = l[m.pick(len(l))].agg, l[m.pick(len(l))].bound
			w = way{j.Agg, j.Bound}
		}
		l := m.records(sets(5), m.pick(20))
		if m.pick(20) == 0 {
			l = append(l, m.records(sums, 30+m.pick(30))...)
		}
		wantAsRead(t, j, l)
		s, e := local.Gather(j, l)
		ends[e]++
		if e != api.OK {
			continue
		}
		out, _ := plainMap(j, l)
		want, _ := plainFold(w, out)
		wantOpen(t, w, s, want, api.OK)
		opened += len(want)
	}
	for _, e := range []api.Errno{api.OK, api.ErrForm, api.ErrLimit, api.ErrBad, api.ErrCut, api.ErrStack, api.ErrFuel, api.ErrBound} {
		if ends[e] < 10 {
			t.Errorf("too few end in %d: %v", e, ends)
		}
	}
	if ends[api.OK] < 1000 || opened < 2000 {
		t.Errorf("too little is gathered: %v, %d", ends, opened)
	}
}

// TestHoweverCut: P13.4, runs of any size come to the fold of all once they are merged, in whatever order.
func TestHoweverCut(t *testing.T) {
	m := &maker{u: 31}
	ends := map[api.Errno]int{}
	for i := range 700 {
		w := someWays()[i%len(someWays())]
		l := m.records(w, m.pick(40))
		want, bad := plainFold(w, l)
		ends[bad]++
		for _, size := range []int{1, 2, 3, 7, 1 + m.pick(40), len(l) + 1, math.MaxInt} {
			all, e := local.Runs(w.agg, w.bound, size, l)
			if e != api.OK {
				if e != bad {
					t.Errorf("%v, %s: runs of %d are told %d, all %d", w, brief(l), size, e, bad)
				}
				continue
			}
			wantMerge(t, w, all, want, bad)
			var other [][]api.Row
			for _, k := range m.order(len(all)) {
				other = append(other, all[k])
			}
			wantMerge(t, w, other, want, bad)
			wantTwice(t, w, all, want, bad)
		}
		if told, e := row.Fold(w.agg, w.bound, l); !same(told, want) || e != bad {
			t.Errorf("Fold of %s: %s, %d, not %s, %d", brief(l), brief(told), e, brief(want), bad)
		}
	}
	if ends[api.OK] < 300 || ends[api.ErrBound] < 50 {
		t.Errorf("what was folded ends in too few ways: %v", ends)
	}
}

// wantTwice merges each half, and then both.
func wantTwice(t *testing.T, w way, l [][]api.Row, want []api.Row, bad api.Errno) {
	t.Helper()
	a, e := local.Merge(w.agg, w.bound, l[:len(l)/2]...)
	b, f := local.Merge(w.agg, w.bound, l[len(l)/2:]...)
	if max(e, f) != api.OK {
		if max(e, f) != bad {
			t.Errorf("%v, %s: halves are told %d, %d, all %d", w, brief(l), e, f, bad)
		}
		return
	}
	wantMerge(t, w, [][]api.Row{a, b}, want, bad)
}

// TestHoweverCutShort: P13.4 of all lists of up to five records, of each size.
func TestHoweverCutShort(t *testing.T) {
	eachList(5, []api.Rec{rec(1, "", 1), rec(1, "", 2), rec(0, "a", 2), rec(1, "", -3)}, func(l []api.Rec) {
		for _, w := range []way{sums, counts, maxes, sets(1), sets(2), sets(3)} {
			want, bad := plainFold(w, l)
			for size := 1; size <= 6; size++ {
				all, e := plainRuns(w, size, l)
				wantRuns(t, w, size, l, all, e)
				if e == api.OK {
					wantMerge(t, w, all, want, bad)
				} else if e != bad {
					t.Errorf("%v, %v: runs are told %d, all %d", w, l, e, bad)
				}
			}
		}
	})
}

// TestMergedAtRandom holds cells that no records give, too, to the second reading.
func TestMergedAtRandom(t *testing.T) {
	m := &maker{u: 21}
	for i := range 3000 {
		w := someWays()[i%len(someWays())]
		var l [][]api.Row
		for range m.pick(7) {
			l = append(l, m.rows(w))
		}
		want, bad := plainMerge(w, l...)
		wantMerge(t, w, l, want, bad)
		if joined, e := row.Join(w.agg, w.bound, l...); !same(joined, want) || e != bad {
			t.Errorf("Join(%v, %s): %s, %d, not %s, %d", w, brief(l), brief(joined), e, brief(want), bad)
		}
	}
}

// roomy has room behind it, and its sets have room behind them, filled with what is known.
func roomy(l ...api.Row) []api.Row {
	room := slices.Repeat(rows(at(77, "room", 77)), len(l)+8)
	copy(room, l)
	for i, r := range l {
		set := slices.Repeat([]int64{77}, len(r.Cell.Set)+8)
		copy(set, r.Cell.Set)
		room[i].Cell.Set = set[:len(r.Cell.Set)]
	}
	return room[:len(l)]
}

// wholly is all that is there, also behind the lengths.
func wholly(l []api.Row) (all []api.Row) {
	for _, r := range l[:cap(l)] {
		all = append(all, api.Row{Key: r.Key, Cell: api.Cell{N: int64(len(r.Cell.Set)) + r.Cell.N, Set: r.Cell.Set[:cap(r.Cell.Set)]}})
	}
	return clone(all)
}

// spoil writes over all of it, and the room behind it.
func spoil(l []api.Row) {
	for i, r := range l[:cap(l)] {
		for j := range r.Cell.Set[:cap(r.Cell.Set)] {
			r.Cell.Set[:cap(r.Cell.Set)][j] = -99
		}
		l[:cap(l)][i] = at(-99, "spoilt", -99)
	}
}

func handedIn() [][]api.Row {
	return [][]api.Row{
		roomy(holding(1, "", 1, 5), holding(2, ""), holding(3, "c", 9)), roomy(holding(0, "", 2), holding(1, "", 1)), roomy(), roomy(holding(2, "", 4)),
		roomy(holding(2, "", 4), holding(1, "")), roomy(holding(2, "", 4, 3)), roomy(holding(5, "", 1, 2, 3, 4, 5, 6)), roomy(at(1, "", 5), at(2, "", -6)), roomy(at(1, "", 3)),
	}
}

// TestHandedInStays: R2, runs, their rows and sets, records, and the room behind them.
func TestHandedInStays(t *testing.T) {
	l := handedIn()
	for _, w := range append(someWays(), sets(0)) {
		for i := range l {
			for j := range l {
				list := [][]api.Row{l[i], l[j], nil, l[i], rows(at(9, "", 9))}
				a, b := wholly(l[i]), wholly(l[j])
				local.Merge(w.agg, w.bound, list[:4]...)
				if !same(wholly(l[i]), a) || !same(wholly(l[j]), b) {
					t.Fatalf("%v: %v became %v, or %v became %v", w, a, l[i], b, l[j])
				}
				if &list[0][:1][0] != &l[i][:1][0] || &list[1][:1][0] != &l[j][:1][0] || list[2] != nil || &list[3][:1][0] != &l[i][:1][0] || len(list[0]) != len(l[i]) || len(list[1]) != len(l[j]) || !same(list[4], rows(at(9, "", 9))) {
					t.Fatalf("%v: the list of runs became %v", w, list)
				}
			}
		}
		room := []api.Rec{rec(3, "", 1), rec(1, "z", 2), rec(3, "", 1), rec(2, "", 9), rec(77, "", 77), rec(76, "", 76)}
		was := slices.Clone(room)
		for _, s := range []string{"a v emit", "v rep [ a v emit a v emit ]", "500 rep [ 1 1 emit ]", ""} {
			local.Map(program(w, s), room[:4])
			local.Gather(program(w, s), room[:4])
		}
		for size := range 6 {
			local.Runs(w.agg, w.bound, size, room[:4])
		}
		if !slices.Equal(room, was) {
			t.Errorf("%v: records became %v", w, room)
		}
	}
	splits := []int{1, 2, 3, 77}
	j := program(sums, "a v emit")
	j.Splits = splits[:3]
	local.Map(j, some)
	s, _ := local.Gather(j, some)
	local.Open(j, s)
	if !slices.Equal(splits, []int{1, 2, 3, 77}) {
		t.Errorf("a job's splits became %v", splits)
	}
}

// TestMergeIsNew: R2, whoever writes into an answer changes neither what was handed in nor what else was told, and the other way round.
func TestMergeIsNew(t *testing.T) {
	for _, w := range []way{sets(2), sets(3), sets(8), sums, maxes} {
		for i := range handedIn() {
			for j := range handedIn() {
				l := handedIn()
				a, b := wholly(l[i]), wholly(l[j])
				first, _ := local.Merge(w.agg, w.bound, l[i], l[j])
				second, _ := local.Merge(w.agg, w.bound, l[i], l[j])
				alone, _ := local.Merge(w.agg, w.bound, l[i])
				want, wantAlone := clone(second), clone(alone)
				spoil(first)
				if !same(second, want) || !same(alone, wantAlone) || !same(wholly(l[i]), a) || !same(wholly(l[j]), b) {
					t.Errorf("%v: Merge of %v and %v shares what it tells", w, a, b)
				}
				spoil(l[i])
				spoil(l[j])
				if !same(second, want) || !same(alone, wantAlone) {
					t.Errorf("%v: Merge of %v and %v keeps what was handed in", w, a, b)
				}
			}
		}
	}
}

// apart writes over each set with the room behind it, and looks at the others.
func apart(t *testing.T, call string, l []api.Row) {
	t.Helper()
	for i := range l {
		want := clone(l)
		s := l[i].Cell.Set
		for j := range s[:cap(s)] {
			s[:cap(s)][j] = -99
		}
		want[i] = l[i]
		if !same(l, want) {
			t.Errorf("%s: the set of row %d is another's, too: %v, not %v", call, i, l, want)
		}
	}
}

// TestSetsOfOneAnswer: R2, no two lists of one answer share any memory, spare room too.
func TestSetsOfOneAnswer(t *testing.T) {
	shared := []int64{1, 2, 3}
	l := rows(holding(1, "", shared...), holding(2, "", shared...), holding(3, "", shared[:2]...), holding(4, "", shared[:0]...))
	merged, _ := local.Merge(api.AggSet, 5, l)
	apart(t, "Merge of one", merged)
	merged, _ = local.Merge(api.AggSet, 5, l, l, l[1:])
	apart(t, "Merge of three", merged)
	if !slices.Equal(shared, []int64{1, 2, 3}) {
		t.Errorf("Merge shares the set that was handed in: %v", shared)
	}
	s, _ := local.Gather(program(sets(5), "a v emit 0 v emit"), some)
	opened, _ := local.Open(program(sets(5), ""), s)
	again, _ := local.Open(program(sets(5), ""), s)
	want := clone(again)
	apart(t, "Open", opened)
	spoil(opened)
	if !same(again, want) {
		t.Errorf("Open shares what it tells: %v, not %v", again, want)
	}
}

// TestRunsAreNew: R2, whoever writes into a run, or appends to it, changes neither the others nor the records.
func TestRunsAreNew(t *testing.T) {
	recs := slices.Concat(some, some, some)
	was := slices.Clone(recs)
	for _, w := range []way{sums, sets(3)} {
		for _, size := range []int{1, 2, 3, 5, 99} {
			all, _ := local.Runs(w.agg, w.bound, size, recs)
			again, _ := local.Runs(w.agg, w.bound, size, recs)
			wantAgain := cloneAll(again)
			for i := range all {
				want := cloneAll(all)
				apart(t, "Runs", all[i])
				spoil(all[i])
				want[i] = all[i]
				if !sameAll(all, want) {
					t.Errorf("%v, %d: run %d is another's, too: %v, not %v", w, size, i, all, want)
				}
			}
			clear(all[:cap(all)])
			if !sameAll(again, wantAgain) || !slices.Equal(recs, was) {
				t.Errorf("%v, %d: Runs shares what it tells: %v, %v", w, size, again, recs)
			}
		}
	}
	all, _ := local.Runs(api.AggSet, 3, 2, recs)
	want := cloneAll(all)
	clear(recs)
	if !sameAll(all, want) {
		t.Errorf("Runs keeps what was handed in: %v, not %v", all, want)
	}
}

// TestEmittedIsNew: R2 of Map.
func TestEmittedIsNew(t *testing.T) {
	recs := slices.Clone(some)
	for _, s := range []string{"a v emit", "a v emit v a emit"} {
		first, _ := local.Map(program(sums, s), recs)
		second, _ := local.Map(program(sums, s), recs)
		want := slices.Clone(second)
		clear(first[:cap(first)])
		if !slices.Equal(second, want) || !slices.Equal(recs, some) {
			t.Errorf("Map of %q shares what it tells: %v, %v", s, second, recs)
		}
		other := slices.Clone(recs)
		third, _ := local.Map(program(sums, s), other)
		clear(other)
		if !slices.Equal(third, want) {
			t.Errorf("Map of %q keeps what was handed in: %v", s, third)
		}
	}
}

// TestSameAgain: R1, the same call tells the same, whatever is handed in, and it ends.
func TestSameAgain(t *testing.T) {
	m := &maker{u: 1}
	for range 1500 {
		w := way{m.pick(9) - 1, m.pick(4) * m.pick(2)}
		j := fuelled(w, m.text(), m.pick(2300)-100)
		l := m.records(sets(3), m.pick(80))
		a, e := local.Map(j, l)
		b, f := local.Map(j, slices.Clone(l))
		if !slices.Equal(a, b) || e != f || e != api.OK && len(a) > 0 {
			t.Errorf("Map(%s, %s): %s, %d, then %s, %d", brief(j), brief(l), brief(a), e, brief(b), f)
		}
		size := m.pick(30) - 3
		x, e := local.Runs(w.agg, w.bound, size, l)
		y, f := local.Runs(w.agg, w.bound, size, slices.Clone(l))
		if !sameAll(x, y) || e != f || e != api.OK && len(x) > 0 {
			t.Errorf("Runs(%v, %d, %s): %s, %d, then %s, %d", w, size, brief(l), brief(x), e, brief(y), f)
		}
		one, other := m.rows(sets(2)), m.rows(sums)
		c, e := local.Merge(w.agg, w.bound, one, other, one)
		d, f := local.Merge(w.agg, w.bound, clone(one), clone(other), clone(one))
		if !same(c, d) || e != f || e != api.OK && len(c) > 0 {
			t.Errorf("Merge(%v, %s, %s): %s, %d, then %s, %d", w, brief(one), brief(other), brief(c), e, brief(d), f)
		}
	}
}
