package cell_test

import (
	"encoding/binary"
	"math"
	"math/big"
	"slices"
	"strings"
	"testing"

	"thresher/api"
	"thresher/cell"
)

const most = int64(1) << 62

// way is how it is gathered, with a bound.
type way struct{ agg, bound int }

func number(n int64) api.Cell             { return api.Cell{N: n} }
func set(l ...int64) api.Cell             { return api.Cell{Set: l} }
func both(n int64, l ...int64) api.Cell   { return api.Cell{N: n, Set: l} }
func same(a api.Cell, b api.Cell) bool    { return a.N == b.N && slices.Equal(a.Set, b.Set) }
func spare(l []int64) []int64             { return l[len(l):cap(l)] }
func clone(c api.Cell) api.Cell           { return api.Cell{N: c.N, Set: slices.Clone(c.Set)} }
func zero(c api.Cell) bool                { return c.N == 0 && len(c.Set) == 0 }
func reverse(l []api.Cell) (r []api.Cell) { r = slices.Clone(l); slices.Reverse(r); return r }

// upTo has n numbers, rising from that one on.
func upTo(from int64, n int) (l []int64) {
	for i := range n {
		l = append(l, from+int64(i))
	}
	return l
}

// edges are the signs, the powers of 2 with their neighbours, the least and the greatest.
func edges() (l []int64) {
	l = []int64{math.MinInt64, math.MinInt64 + 1, math.MaxInt64, 0}
	for i := range 63 {
		p := int64(1) << i
		l = append(l, p-1, p, p+1, -p-1, -p, -p+1)
	}
	return l
}

// plainWays are all that have no bound.
func plainWays() []way {
	return []way{{api.AggSum, 0}, {api.AggCount, 0}, {api.AggMin, 0}, {api.AggMax, 0}, {api.AggOr, 0}}
}

func goodWays() []way {
	l := plainWays()
	for bound := 1; bound <= api.MaxBound; bound++ {
		l = append(l, way{api.AggSet, bound})
	}
	return l
}

func badWays() []way {
	l := []way{{api.AggSet, 0}, {api.AggSet, -1}, {api.AggSet, api.MaxBound + 1}, {api.AggSet, math.MinInt}, {api.AggSet, math.MaxInt},
		{api.AggSet, 1<<32 + 1}, {api.AggSet, 1<<8 + 1}}
	for _, w := range plainWays() {
		for _, bound := range []int{1, -1, 2, api.MaxBound, api.MaxBound + 1, math.MinInt, math.MaxInt, 1 << 32, 1 << 8} {
			l = append(l, way{w.agg, bound})
		}
	}
	for _, agg := range []int{api.AggNone, -1, api.AggSet + 1, 8, -api.AggSum, -api.AggSet, math.MinInt, math.MaxInt, 1<<32 + api.AggSum, 1<<8 + api.AggSet} {
		for _, bound := range []int{0, 1, -1, api.MaxBound, api.MaxBound + 1} {
			l = append(l, way{agg, bound})
		}
	}
	return l
}

// goodCells may be, of that way.
func goodCells(w way) (l []api.Cell) {
	switch w.agg {
	case api.AggCount:
		for _, n := range edges() {
			if n >= 0 && n <= most {
				l = append(l, number(n))
			}
		}
		return l
	case api.AggSet:
		return goodSets(w.bound)
	}
	for _, n := range edges() {
		l = append(l, number(n))
	}
	return append(l, api.Cell{N: 5, Set: []int64{}}, api.Cell{N: 5, Set: make([]int64, 0, 4)})
}

func goodSets(bound int) []api.Cell {
	l := []api.Cell{set(), {Set: []int64{}}, set(0), set(math.MinInt64), set(math.MaxInt64), set(-64), set(63), set(64)}
	for n := 1; n <= bound; n++ {
		l = append(l, set(upTo(-3, n)...), set(upTo(math.MinInt64, n)...), set(upTo(math.MaxInt64-int64(n)+1, n)...))
	}
	if bound >= 2 {
		l = append(l, set(math.MinInt64, math.MaxInt64), set(-1, 0), set(0, 1), set(-2, -1), set(most, most+1))
	}
	if bound >= 3 {
		l = append(l, set(-1, 0, 64), set(math.MinInt64, 0, math.MaxInt64))
	}
	return l
}

// badCells may not be, of that way.
func badCells(w way) []api.Cell {
	switch w.agg {
	case api.AggCount:
		return []api.Cell{number(-1), number(most + 1), number(math.MaxInt64), number(math.MinInt64), number(-most), set(0), set(1), both(1, 1), both(-1, 1), both(0, 0)}
	case api.AggSet:
		return badSets(w.bound)
	}
	return []api.Cell{set(0), set(1), both(1, 1), both(5, 1, 2), both(-1, 2, 1), set(upTo(0, api.MaxBound+1)...)}
}

func badSets(bound int) []api.Cell {
	l := []api.Cell{number(1), number(-1), number(math.MinInt64), both(1, 1), both(-1, 5),
		set(1, 1), set(2, 1), set(math.MaxInt64, math.MinInt64), set(0, -1), set(upTo(0, bound+1)...), set(upTo(-5, bound+2)...), set(upTo(0, 1000)...),
		both(most, upTo(0, bound)...)}
	for i := range bound - 1 {
		twice, back := upTo(0, bound), upTo(0, bound)
		twice[i+1] = twice[i]
		back[i], back[i+1] = back[i+1], back[i]
		l = append(l, set(twice...), set(back...))
	}
	return l
}

// TestCount: the chapter's example.
func TestCount(t *testing.T) {
	c := number(0)
	for _, v := range []int64{7, -9, 7} {
		one, e := cell.One(api.AggCount, 0, v)
		if !same(one, number(1)) || e != api.OK {
			t.Errorf("One(AggCount, 0, %d): %v, %d", v, one, e)
		}
		if c, e = cell.Join(api.AggCount, 0, c, one); e != api.OK {
			t.Errorf("Join: %d", e)
		}
	}
	if !same(c, number(3)) {
		t.Errorf("AggCount of three: %v", c)
	}
}

// TestCheck: P9.1, what may be, and what may not.
func TestCheck(t *testing.T) {
	for _, w := range goodWays() {
		for _, c := range goodCells(w) {
			if e := cell.Check(w.agg, w.bound, c); e != api.OK {
				t.Errorf("Check(%v, %v): %d", w, c, e)
			}
		}
		for _, c := range badCells(w) {
			if e := cell.Check(w.agg, w.bound, c); e != api.ErrForm {
				t.Errorf("Check(%v, %v): %d, not ErrForm", w, c, e)
			}
		}
	}
	for _, w := range badWays() {
		for _, c := range []api.Cell{number(0), number(1), set(1), set(1, 2), set(2, 1), number(-1)} {
			if e := cell.Check(w.agg, w.bound, c); e != api.ErrForm {
				t.Errorf("Check(%v, %v): %d, not ErrForm", w, c, e)
			}
		}
	}
}

// TestCheckShortSets holds all lists of up to four small numbers to the words.
func TestCheckShortSets(t *testing.T) {
	for n := range 5 {
		eachList(n, []int64{-1, 0, 1, 2}, func(l []int64) {
			seen := map[int64]int{}
			for _, v := range l {
				seen[v]++
			}
			want := api.OK
			if !slices.IsSorted(l) || len(seen) < len(l) || len(l) > 3 {
				want = api.ErrForm
			}
			if e := cell.Check(api.AggSet, 3, set(l...)); e != want {
				t.Errorf("Check(AggSet, 3, %v): %d, not %d", l, e, want)
			}
		})
	}
}

func eachList[T any](n int, of []T, do func([]T)) {
	l := make([]T, n)
	var fill func(int)
	fill = func(i int) {
		if i == n {
			do(slices.Clone(l))
			return
		}
		for _, v := range of {
			l[i] = v
			fill(i + 1)
		}
	}
	fill(0)
}

// TestOne: P9.1, the cell of one number.
func TestOne(t *testing.T) {
	for _, v := range edges() {
		for _, w := range goodWays() {
			want := number(v)
			if w.agg == api.AggCount {
				want = number(1)
			}
			if w.agg == api.AggSet {
				want = set(v)
			}
			c, e := cell.One(w.agg, w.bound, v)
			if !same(c, want) || e != api.OK {
				t.Errorf("One(%v, %d): %v, %d, not %v", w, v, c, e, want)
			}
			if e := cell.Check(w.agg, w.bound, c); e != api.OK {
				t.Errorf("One(%v, %d): %v may not be: %d", w, v, c, e)
			}
		}
	}
	for _, w := range badWays() {
		for _, v := range []int64{0, 1, -7, math.MinInt64, math.MaxInt64} {
			if c, e := cell.One(w.agg, w.bound, v); !zero(c) || e != api.ErrForm {
				t.Errorf("One(%v, %d): %v, %d, not ErrForm", w, v, c, e)
			}
		}
	}
}

// plainJoin is P9.2's of two that may be, by numbers without an end and a set without order.
func plainJoin(w way, a, b api.Cell) (api.Cell, api.Errno) {
	x, y := big.NewInt(a.N), big.NewInt(b.N)
	switch w.agg {
	case api.AggSum:
		all := new(big.Int).Lsh(big.NewInt(1), 64)
		u := new(big.Int).Mod(new(big.Int).Add(x, y), all).Uint64()
		return number(int64(u)), api.OK
	case api.AggCount:
		n := new(big.Int).Add(x, y)
		if n.Cmp(big.NewInt(most)) > 0 {
			n = big.NewInt(most)
		}
		return number(n.Int64()), api.OK
	case api.AggMin:
		if x.Cmp(y) < 0 {
			return a, api.OK
		}
		return b, api.OK
	case api.AggMax:
		if x.Cmp(y) > 0 {
			return a, api.OK
		}
		return b, api.OK
	case api.AggOr:
		return number(new(big.Int).Or(x, y).Int64()), api.OK
	}
	return plainUnion(w.bound, a.Set, b.Set)
}

func plainUnion(bound int, lists ...[]int64) (api.Cell, api.Errno) {
	in := map[int64]int{}
	for _, l := range lists {
		for _, v := range l {
			in[v] = 1
		}
	}
	if len(in) > bound {
		return api.Cell{}, api.ErrBound
	}
	var l []int64
	for v := range in {
		l = append(l, v)
	}
	slices.Sort(l)
	return set(l...), api.OK
}

func wantJoin(t *testing.T, w way, a, b, want api.Cell, bad api.Errno) {
	t.Helper()
	if c, e := cell.Join(w.agg, w.bound, a, b); !same(c, want) || e != bad {
		t.Errorf("Join(%v, %v, %v): %v, %d, not %v, %d", w, a, b, c, e, want, bad)
	}
}

// TestJoin: P9.2, written out.
func TestJoin(t *testing.T) {
	least, greatest := int64(math.MinInt64), int64(math.MaxInt64)
	for _, c := range []struct {
		w          way
		a, b, want api.Cell
		bad        api.Errno
	}{
		{way{api.AggSum, 0}, number(5), number(-7), number(-2), api.OK},
		{way{api.AggSum, 0}, number(greatest), number(1), number(least), api.OK},
		{way{api.AggSum, 0}, number(least), number(-1), number(greatest), api.OK},
		{way{api.AggSum, 0}, number(least), number(least), number(0), api.OK},
		{way{api.AggSum, 0}, number(greatest), number(greatest), number(-2), api.OK},
		{way{api.AggSum, 0}, number(most), number(most), number(least), api.OK},
		{way{api.AggCount, 0}, number(5), number(7), number(12), api.OK},
		{way{api.AggCount, 0}, number(0), number(0), number(0), api.OK},
		{way{api.AggCount, 0}, number(most - 2), number(1), number(most - 1), api.OK},
		{way{api.AggCount, 0}, number(most - 1), number(1), number(most), api.OK},
		{way{api.AggCount, 0}, number(most - 1), number(2), number(most), api.OK},
		{way{api.AggCount, 0}, number(most), number(0), number(most), api.OK},
		{way{api.AggCount, 0}, number(most), number(1), number(most), api.OK},
		{way{api.AggCount, 0}, number(most), number(most - 1), number(most), api.OK},
		{way{api.AggCount, 0}, number(most), number(most), number(most), api.OK},
		{way{api.AggCount, 0}, number(most / 2), number(most / 2), number(most), api.OK},
		{way{api.AggMin, 0}, number(5), number(-7), number(-7), api.OK},
		{way{api.AggMin, 0}, number(least), number(greatest), number(least), api.OK},
		{way{api.AggMax, 0}, number(5), number(-7), number(5), api.OK},
		{way{api.AggMax, 0}, number(least), number(greatest), number(greatest), api.OK},
		{way{api.AggOr, 0}, number(5), number(9), number(13), api.OK},
		{way{api.AggOr, 0}, number(least), number(greatest), number(-1), api.OK},
		{way{api.AggSet, 4}, set(1, 5), set(-2, 5, 9), set(-2, 1, 5, 9), api.OK},
		{way{api.AggSet, 3}, set(1, 5), set(-2, 5, 9), set(), api.ErrBound},
		{way{api.AggSet, 3}, set(1, 2), set(1, 2, 3), set(1, 2, 3), api.OK},
		{way{api.AggSet, 1}, set(), set(), set(), api.OK},
		{way{api.AggSet, 1}, set(), set(least), set(least), api.OK},
		{way{api.AggSet, 1}, set(8), set(8), set(8), api.OK},
		{way{api.AggSet, 1}, set(8), set(9), set(), api.ErrBound},
		{way{api.AggSet, 2}, set(least), set(greatest), set(least, greatest), api.OK},
		{way{api.AggSet, api.MaxBound}, set(upTo(0, 32)...), set(upTo(0, 32)...), set(upTo(0, 32)...), api.OK},
		{way{api.AggSet, api.MaxBound}, set(upTo(0, 16)...), set(upTo(16, 16)...), set(upTo(0, 32)...), api.OK},
		{way{api.AggSet, api.MaxBound}, set(upTo(0, 16)...), set(upTo(16, 17)...), set(), api.ErrBound},
		{way{api.AggSet, api.MaxBound}, set(upTo(0, 32)...), set(upTo(32, 32)...), set(), api.ErrBound},
	} {
		wantJoin(t, c.w, c.a, c.b, c.want, c.bad)
		wantJoin(t, c.w, c.b, c.a, c.want, c.bad)
	}
}

// TestJoinPairs holds all pairs of edges to the plain joining.
func TestJoinPairs(t *testing.T) {
	for _, w := range append(plainWays(), way{api.AggSet, 1}, way{api.AggSet, 2}, way{api.AggSet, 5}, way{api.AggSet, api.MaxBound}) {
		for _, a := range goodCells(w) {
			for _, b := range goodCells(w) {
				want, bad := plainJoin(w, a, b)
				wantJoin(t, w, a, b, want, bad)
			}
		}
	}
}

// TestJoinShortSets: all pairs of sets of the numbers from 0 to 4, with each bound.
func TestJoinShortSets(t *testing.T) {
	var sets []api.Cell
	for bits := range 32 {
		var l []int64
		for i := range 5 {
			if bits>>i&1 == 1 {
				l = append(l, int64(i))
			}
		}
		sets = append(sets, set(l...))
	}
	for bound := 1; bound <= 6; bound++ {
		w := way{api.AggSet, bound}
		for _, a := range sets {
			for _, b := range sets {
				want, bad := plainUnion(bound, a.Set, b.Set)
				if max(len(a.Set), len(b.Set)) > bound {
					want, bad = api.Cell{}, api.ErrForm
				}
				wantJoin(t, w, a, b, want, bad)
			}
		}
	}
}

// TestJoinOfWhatMayNotBe: P9.2's ErrForm, whichever of them it is, and ahead of ErrBound (R4).
func TestJoinOfWhatMayNotBe(t *testing.T) {
	for _, w := range goodWays() {
		good := goodCells(w)
		for _, bad := range badCells(w) {
			for _, c := range []api.Cell{good[0], good[len(good)-1], good[len(good)/2]} {
				wantJoin(t, w, bad, c, api.Cell{}, api.ErrForm)
				wantJoin(t, w, c, bad, api.Cell{}, api.ErrForm)
			}
			wantJoin(t, w, bad, bad, api.Cell{}, api.ErrForm)
		}
	}
	for _, w := range badWays() {
		for _, c := range []api.Cell{number(0), number(1), set(1), set(1, 2)} {
			wantJoin(t, w, c, c, api.Cell{}, api.ErrForm)
		}
	}
	// The union would have too many, too.
	wantJoin(t, way{api.AggSet, 2}, set(1, 2), set(4, 3), api.Cell{}, api.ErrForm)
	wantJoin(t, way{api.AggSet, 2}, set(4, 3), set(1, 2), api.Cell{}, api.ErrForm)
	wantJoin(t, way{api.AggSet, 2}, set(1, 2), set(1, 2, 3), api.Cell{}, api.ErrForm)
	wantJoin(t, way{api.AggSet, 2}, set(1, 2), both(1, 3), api.Cell{}, api.ErrForm)
}

// plainBytes are P9.3's, by the library's numbers of the same form.
func plainBytes(w way, c api.Cell) string {
	if w.agg != api.AggSet {
		return string(binary.AppendVarint(nil, c.N))
	}
	return numbers(append([]int64{int64(len(c.Set))}, c.Set...)...)
}

func numbers(l ...int64) string {
	var b []byte
	for _, v := range l {
		b = binary.AppendVarint(b, v)
	}
	return string(b)
}

// TestBytesWrittenOut: P9.3, byte by byte.
func TestBytesWrittenOut(t *testing.T) {
	for _, c := range []struct {
		w    way
		c    api.Cell
		want string
	}{
		{way{api.AggSum, 0}, number(-64), "\x7f"},
		{way{api.AggSum, 0}, number(math.MinInt64), "\xff\xff\xff\xff\xff\xff\xff\xff\xff\x01"},
		{way{api.AggCount, 0}, number(64), "\x80\x01"},
		{way{api.AggCount, 0}, number(most), "\x80\x80\x80\x80\x80\x80\x80\x80\x80\x01"},
		{way{api.AggMin, 0}, number(-1), "\x01"},
		{way{api.AggMax, 0}, number(1), "\x02"},
		{way{api.AggOr, 0}, number(0), "\x00"},
		{way{api.AggSet, 9}, set(), "\x00"},
		{way{api.AggSet, 1}, set(0), "\x02\x00"},
		{way{api.AggSet, 3}, set(-1, 0, 64), "\x06\x01\x00\x80\x01"},
		{way{api.AggSet, 32}, set(upTo(0, 32)...), "\x40\x00\x02\x04\x06\x08\x0a\x0c\x0e\x10\x12\x14\x16\x18\x1a\x1c\x1e\x20\x22\x24\x26\x28\x2a\x2c\x2e\x30\x32\x34\x36\x38\x3a\x3c\x3e"},
	} {
		if s, e := cell.Bytes(c.w.agg, c.w.bound, c.c); s != c.want || e != api.OK {
			t.Errorf("Bytes(%v, %v): %q, %d, not %q", c.w, c.c, s, e, c.want)
		}
		wantTake(t, c.w, c.want, c.c, len(c.want), api.OK)
	}
}

func wantTake(t *testing.T, w way, s string, want api.Cell, n int, bad api.Errno) {
	t.Helper()
	if c, k, e := cell.Take(w.agg, w.bound, s); !same(c, want) || k != n || e != bad {
		t.Errorf("Take(%v, %q): %v, %d, %d, not %v, %d, %d", w, s, c, k, e, want, n, bad)
	}
}

// TestBytes: P9.3, and that what is written is taken as it was, alone, ahead of others, and cut off.
func TestBytes(t *testing.T) {
	for _, w := range goodWays() {
		for _, c := range goodCells(w) {
			s, e := cell.Bytes(w.agg, w.bound, c)
			if s != plainBytes(w, c) || e != api.OK {
				t.Errorf("Bytes(%v, %v): %q, %d, not %q", w, c, s, e, plainBytes(w, c))
			}
			for _, behind := range []string{"", "\x00", "\x80", "\xff\xff", "z", s} {
				wantTake(t, w, s+behind, c, len(s), api.OK)
			}
			for k := range len(s) {
				wantTake(t, w, s[:k], api.Cell{}, 0, api.ErrCut)
			}
		}
		for _, c := range badCells(w) {
			if s, e := cell.Bytes(w.agg, w.bound, c); s != "" || e != api.ErrForm {
				t.Errorf("Bytes(%v, %v): %q, %d, not ErrForm", w, c, s, e)
			}
		}
	}
	for _, w := range badWays() {
		for _, c := range []api.Cell{number(0), number(1), set(1), set(1, 2)} {
			if s, e := cell.Bytes(w.agg, w.bound, c); s != "" || e != api.ErrForm {
				t.Errorf("Bytes(%v, %v): %q, %d, not ErrForm", w, c, s, e)
			}
		}
	}
}

// TestTakeOfWaysThatMayNotBe: ErrForm, ahead of all that the bytes could have (R4).
func TestTakeOfWaysThatMayNotBe(t *testing.T) {
	for _, w := range badWays() {
		for _, s := range []string{"", "\x00", "\x02\x02", "\x80", "\x80\x00", "\x01", strings.Repeat("\xff", 12)} {
			wantTake(t, w, s, api.Cell{}, 0, api.ErrForm)
		}
	}
}

// TestTakeOfBadNumbers: num.Take's errors, wherever the number stands.
func TestTakeOfBadNumbers(t *testing.T) {
	long := strings.Repeat("\x80", 9)
	for _, c := range []struct {
		s   string
		bad api.Errno
	}{
		{"", api.ErrCut}, {"\x80", api.ErrCut}, {"\xff", api.ErrCut}, {long, api.ErrCut}, {long + "\x02", api.ErrBad}, {long + "\x80\x00", api.ErrBad},
		{"\x80\x00", api.ErrBad}, {"\xff\x80\x00", api.ErrBad}, {long + "\x00", api.ErrBad}, {strings.Repeat("\xff", 9) + "\x03", api.ErrBad},
	} {
		for _, w := range goodWays() {
			wantTake(t, w, c.s, api.Cell{}, 0, c.bad)
		}
		for n := range 8 {
			ahead := numbers(append([]int64{8}, upTo(-3, n)...)...)
			wantTake(t, way{api.AggSet, 8}, ahead+c.s, api.Cell{}, 0, c.bad)
		}
	}
	// The same number in more bytes, as how many there are, and as one of them.
	wantTake(t, way{api.AggSet, 8}, "\x82\x00\x02", api.Cell{}, 0, api.ErrBad)
	wantTake(t, way{api.AggSet, 8}, "\x02\x82\x00", api.Cell{}, 0, api.ErrBad)
}

// TestTakeOfCounts: ErrBad below 0, and above 2^62.
func TestTakeOfCounts(t *testing.T) {
	for _, n := range edges() {
		s := numbers(n)
		if n >= 0 && n <= most {
			wantTake(t, way{api.AggCount, 0}, s, number(n), len(s), api.OK)
		} else {
			wantTake(t, way{api.AggCount, 0}, s, api.Cell{}, 0, api.ErrBad)
		}
	}
	wantTake(t, way{api.AggCount, 0}, numbers(most+1), api.Cell{}, 0, api.ErrBad)
	wantTake(t, way{api.AggCount, 0}, numbers(-1), api.Cell{}, 0, api.ErrBad)
}

// TestTakeOfHowMany: ErrBad as soon as a set has too many, whatever comes behind that.
func TestTakeOfHowMany(t *testing.T) {
	for bound := 1; bound <= api.MaxBound; bound++ {
		w := way{api.AggSet, bound}
		for _, n := range append(edges(), int64(bound), int64(bound)+1, int64(bound)-1) {
			for _, behind := range []string{"", "\x80", "\x80\x00", "\x02\x02", "\x02\x00", numbers(upTo(0, 40)...)} {
				if n < 0 || n > int64(bound) {
					wantTake(t, w, numbers(n)+behind, api.Cell{}, 0, api.ErrBad)
				}
			}
		}
		wantTake(t, w, numbers(int64(bound)), api.Cell{}, 0, api.ErrCut)
	}
}

// TestTakeOfSetsThatDoNotRise: ErrBad, but num.Take's of a number behind that come first.
func TestTakeOfSetsThatDoNotRise(t *testing.T) {
	w := way{api.AggSet, 3}
	for _, l := range [][]int64{{1, 0}, {1, 1}, {0, -1}, {math.MaxInt64, math.MinInt64}, {1, 2, 2}, {2, 1, 3}, {1, 3, 2}, {3, 2, 1}, {0, 0, 0}, {1, 2, 1}} {
		s := numbers(append([]int64{int64(len(l))}, l...)...)
		for _, behind := range []string{"", "\x00", "\x80", "\x80\x00"} {
			wantTake(t, w, s+behind, api.Cell{}, 0, api.ErrBad)
		}
		for k := range len(s) {
			wantTake(t, w, s[:k], api.Cell{}, 0, api.ErrCut)
		}
	}
	wantTake(t, w, "\x06\x02\x00", api.Cell{}, 0, api.ErrCut)
	wantTake(t, w, "\x06\x02\x02\x80", api.Cell{}, 0, api.ErrCut)
	wantTake(t, w, "\x06\x02\x02\x80\x00", api.Cell{}, 0, api.ErrBad)
}

// plainTake reads numbers by the library, which takes longer forms, too: those are held to be bad.
func plainTake(w way, s string) (api.Cell, int, api.Errno) {
	at, bad := 0, api.OK
	next := func() int64 {
		v, k := binary.Varint([]byte(s[at:]))
		switch {
		case bad != api.OK:
		case k == 0:
			bad = api.ErrCut
		case k < 0 || k != len(numbers(v)):
			bad = api.ErrBad
		default:
			at += k
			return v
		}
		return 0
	}
	n := next()
	if w.agg != api.AggSet {
		if w.agg == api.AggCount && (n < 0 || n > most) {
			bad = api.ErrBad
		}
		return told(number(n), at, bad)
	}
	if n < 0 || n > int64(w.bound) {
		return api.Cell{}, 0, api.ErrBad
	}
	var l []int64
	for range n {
		l = append(l, next())
	}
	for i := range l {
		if i > 0 && bad == api.OK && l[i] <= l[i-1] {
			bad = api.ErrBad
		}
	}
	return told(set(l...), at, bad)
}

func told(c api.Cell, n int, e api.Errno) (api.Cell, int, api.Errno) {
	if e != api.OK {
		return api.Cell{}, 0, e
	}
	return c, n, api.OK
}

// TestTakeShort: all of up to five bytes of some, and what is taken is written as it was.
func TestTakeShort(t *testing.T) {
	some := []byte{0, 1, 2, 4, 6, 0x7f, 0x80, 0x82, 0xff}
	for n := range 6 {
		eachList(n, some, func(b []byte) {
			s := string(b)
			for _, w := range []way{{api.AggSum, 0}, {api.AggCount, 0}, {api.AggMax, 0}, {api.AggSet, 1}, {api.AggSet, 2}, {api.AggSet, 3}} {
				want, k, bad := plainTake(w, s)
				wantTake(t, w, s, want, k, bad)
				if bad != api.OK {
					continue
				}
				if back, e := cell.Bytes(w.agg, w.bound, want); back != s[:k] || e != api.OK {
					t.Errorf("Bytes(%v, %v): %q, %d, not %q", w, want, back, e, s[:k])
				}
			}
		})
	}
}

// maker makes cells by a fixed rule.
type maker struct{ u uint64 }

func (m *maker) pick(n int) int {
	m.u = m.u*6364136223846793005 + 1442695040888963407
	return int(m.u >> 33 % uint64(n))
}

func (m *maker) number() int64 {
	l := edges()
	return l[m.pick(len(l))] + int64(m.pick(5)-2)
}

func (m *maker) cell(w way) api.Cell {
	n := m.number()
	switch w.agg {
	case api.AggCount:
		if m.pick(2) == 0 {
			return number(int64(m.pick(100)))
		}
		return number(max(0, min(n, most)))
	case api.AggSet:
		var l []int64
		for range m.pick(min(w.bound, 4) + 1) {
			l = append(l, int64(m.pick(w.bound+3)))
		}
		slices.Sort(l)
		return set(slices.Compact(l)...)
	}
	return number(n)
}

func (m *maker) shuffle(l []api.Cell) {
	for i := range l {
		j := m.pick(i + 1)
		l[i], l[j] = l[j], l[i]
	}
}

// fold joins them one behind the other.
func fold(w way, l []api.Cell) (api.Cell, api.Errno) {
	c := l[0]
	for _, next := range l[1:] {
		var e api.Errno
		if c, e = cell.Join(w.agg, w.bound, c, next); e != api.OK {
			return c, e
		}
	}
	return c, api.OK
}

// tree joins two at a time, wherever they stand, until there is one.
func (m *maker) tree(w way, l []api.Cell) (api.Cell, api.Errno) {
	l = slices.Clone(l)
	for len(l) > 1 {
		i := m.pick(len(l))
		a := l[i]
		l = slices.Delete(l, i, i+1)
		j := m.pick(len(l))
		c, e := cell.Join(w.agg, w.bound, a, l[j])
		if e != api.OK {
			return c, e
		}
		l[j] = c
	}
	return l[0], api.OK
}

// TestInWhateverOrder: P9.4, against all of them at once.
func TestInWhateverOrder(t *testing.T) {
	m := &maker{u: 9}
	ends := map[api.Errno]int{}
	for i := range 3000 {
		w := goodWays()[i%len(goodWays())]
		if i%3 == 0 {
			w = plainWays()[i%5]
		}
		var l []api.Cell
		for range 1 + m.pick(9) {
			l = append(l, m.cell(w))
		}
		want, bad := atOnce(w, l)
		ends[bad]++
		for range 4 {
			wantSame(t, w, l, want, bad)
			wantSame(t, w, reverse(l), want, bad)
			if c, e := m.tree(w, l); !same(c, want) || e != bad {
				t.Errorf("%v, %v: two at a time %v, %d, not %v, %d", w, l, c, e, want, bad)
			}
			m.shuffle(l)
		}
	}
	if ends[api.OK] < 500 || ends[api.ErrBound] < 200 {
		t.Errorf("what was joined ends in too few ways: %v", ends)
	}
}

func wantSame(t *testing.T, w way, l []api.Cell, want api.Cell, bad api.Errno) {
	t.Helper()
	if c, e := fold(w, l); !same(c, want) || e != bad {
		t.Errorf("%v, %v: %v, %d, not %v, %d", w, l, c, e, want, bad)
	}
}

// atOnce is what all come to, without joining two.
func atOnce(w way, l []api.Cell) (api.Cell, api.Errno) {
	n, lists := new(big.Int), [][]int64{}
	least, greatest, bits := l[0].N, l[0].N, int64(0)
	for _, c := range l {
		n.Add(n, big.NewInt(c.N))
		least, greatest, bits = min(least, c.N), max(greatest, c.N), bits|c.N
		lists = append(lists, c.Set)
	}
	switch w.agg {
	case api.AggSum:
		n.Mod(n, new(big.Int).Lsh(big.NewInt(1), 64))
		return number(int64(n.Uint64())), api.OK
	case api.AggCount:
		if n.Cmp(big.NewInt(most)) > 0 {
			return number(most), api.OK
		}
		return number(n.Int64()), api.OK
	case api.AggMin:
		return number(least), api.OK
	case api.AggMax:
		return number(greatest), api.OK
	case api.AggOr:
		return number(bits), api.OK
	}
	return plainUnion(w.bound, lists...)
}

// TestAllOrders: P9.4 of each three small sets, in all six orders and both ways to put brackets.
func TestAllOrders(t *testing.T) {
	sets := []api.Cell{set(), set(1), set(2), set(1, 2), set(2, 3), set(-1, 3), set(4)}
	for bound := 2; bound <= 4; bound++ {
		w := way{api.AggSet, bound}
		eachList(3, sets, func(l []api.Cell) {
			want, bad := plainUnion(bound, l[0].Set, l[1].Set, l[2].Set)
			wantSame(t, w, l, want, bad)
			right, e := cell.Join(w.agg, w.bound, l[1], l[2])
			if e == api.OK {
				right, e = cell.Join(w.agg, w.bound, l[0], right)
			}
			if !same(right, want) || e != bad {
				t.Errorf("%v, %v from the right: %v, %d, not %v, %d", w, l, right, e, want, bad)
			}
		})
	}
}

// TestSameAgain: R1, the same call tells the same, and whatever is handed in, it ends.
func TestSameAgain(t *testing.T) {
	m := &maker{u: 1}
	for range 2000 {
		w := way{m.pick(9) - 1, m.pick(36) - 2}
		a := both(m.number(), upTo(m.number(), m.pick(40))...)
		b := both(int64(m.pick(2)), upTo(int64(m.pick(9)), m.pick(6))...)
		if m.pick(2) == 0 {
			a = b
		}
		c, e := cell.Join(w.agg, w.bound, a, b)
		again, f := cell.Join(w.agg, w.bound, clone(a), clone(b))
		if !same(c, again) || e != f || e != api.OK && !zero(c) {
			t.Errorf("Join(%v, %v, %v): %v, %d, then %v, %d", w, a, b, c, e, again, f)
		}
		s, e := cell.Bytes(w.agg, w.bound, a)
		if f := cell.Check(w.agg, w.bound, a); e != f || (s == "") != (e != api.OK) {
			t.Errorf("Bytes(%v, %v): %q, %d; Check: %d", w, a, s, e, f)
		}
	}
}

// roomy has room behind it, with a number that is known.
func roomy(l ...int64) api.Cell {
	room := make([]int64, len(l), len(l)+8)
	copy(room, l)
	for i := range spare(room) {
		spare(room)[i] = 77
	}
	return api.Cell{Set: room}
}

// TestHandedInStays: R2, the numbers and the room behind them.
func TestHandedInStays(t *testing.T) {
	for _, l := range [][2]api.Cell{
		{roomy(1, 5), roomy(-2, 5, 9)}, {roomy(), roomy(1, 2)}, {roomy(1, 2), roomy()}, {roomy(3, 4), roomy(1, 2)}, {roomy(1), roomy(1)},
		{roomy(2, 1), roomy(1)}, {roomy(1, 1), roomy(9)}, {roomy(upTo(0, 30)...), roomy(upTo(20, 20)...)}, {roomy(), roomy()},
	} {
		a, b := clone(l[0]), clone(l[1])
		for _, bound := range []int{1, 4, 5, 32} {
			cell.Check(api.AggSet, bound, l[0])
			cell.Bytes(api.AggSet, bound, l[0])
			cell.Join(api.AggSet, bound, l[0], l[1])
			cell.Join(api.AggSet, bound, l[1], l[0])
			cell.Join(api.AggSum, 0, l[0], l[1])
		}
		for i, c := range []api.Cell{a, b} {
			if !same(l[i], c) {
				t.Errorf("%v became %v", c, l[i])
			}
			for _, v := range spare(l[i].Set) {
				if v != 77 {
					t.Errorf("%v: its room became %v", c, spare(l[i].Set))
				}
			}
		}
	}
}

// spoil writes over all of it, and the room behind it.
func spoil(c api.Cell) {
	for i := range c.Set[:cap(c.Set)] {
		c.Set[:cap(c.Set)][i] = -99
	}
}

// TestToldIsNew: R2, whoever writes into an answer changes nothing else.
func TestToldIsNew(t *testing.T) {
	for _, l := range [][2]api.Cell{{roomy(1, 5), roomy(2)}, {roomy(), roomy(1, 2)}, {roomy(1, 2), roomy()}, {roomy(7), roomy(7)}, {roomy(), roomy()}} {
		a, b := clone(l[0]), clone(l[1])
		first, _ := cell.Join(api.AggSet, 4, l[0], l[1])
		second, _ := cell.Join(api.AggSet, 4, l[0], l[1])
		want := clone(second)
		spoil(first)
		if !same(second, want) || !same(l[0], a) || !same(l[1], b) {
			t.Errorf("Join of %v and %v shares what it tells: %v, %v, %v", a, b, second, l[0], l[1])
		}
		for _, v := range append(slices.Clone(spare(l[0].Set)), spare(l[1].Set)...) {
			if v != 77 {
				t.Errorf("Join of %v and %v shares its room", a, b)
			}
		}
	}
	one, _ := cell.One(api.AggSet, 4, 5)
	other, _ := cell.One(api.AggSet, 4, 5)
	spoil(one)
	if !same(other, set(5)) {
		t.Errorf("One shares what it tells: %v", other)
	}
	taken, _, _ := cell.Take(api.AggSet, 4, "\x06\x02\x04\x06")
	again, _, _ := cell.Take(api.AggSet, 4, "\x06\x02\x04\x06")
	spoil(taken)
	if !same(again, set(1, 2, 3)) {
		t.Errorf("Take shares what it tells: %v", again)
	}
}
