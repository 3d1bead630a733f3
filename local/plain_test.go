package local_test

import (
	"encoding/binary"
	"hash/crc32"
	"math/big"
	"slices"
	"strings"

	"thresher/api"
	"thresher/check"
	"thresher/eval"
	"thresher/lang"
)

// A second reading of the chapter: each record run alone, all of a key put together at once, the library's sums and numbers.

func plainCmp(a api.Key, b api.Key) int {
	if a.A != b.A {
		if a.A < b.A {
			return -1
		}
		return 1
	}
	return strings.Compare(a.B, b.B)
}

func plainWay(w way) bool {
	if w.agg == api.AggSet {
		return w.bound >= 1 && w.bound <= 32
	}
	return w.bound == 0 && slices.Contains([]int{api.AggSum, api.AggCount, api.AggMin, api.AggMax, api.AggOr}, w.agg)
}

func plainKeys(l []api.Rec) bool {
	for _, r := range l {
		if len(r.Key.B) > 64 {
			return false
		}
	}
	return true
}

// plainMap lets each record come to its end, and looks for the first that went wrong behind all of them.
func plainMap(j api.Job, l []api.Rec) (all []api.Rec, e api.Errno) {
	ops, e := lang.Parse(j.Prog)
	if e != api.OK {
		return nil, e
	}
	if e := check.Check(ops); e != api.OK {
		return nil, e
	}
	if !plainWay(way{j.Agg, j.Bound}) || j.Fuel < 0 || j.Fuel > 2000 || len(l) > 64 || !plainKeys(l) {
		return nil, api.ErrForm
	}
	var ends []api.Errno
	for _, r := range l {
		out, _, e := eval.Run(ops, r, j.Fuel)
		all = append(all, out...)
		if e == api.OK && len(all) > 256 {
			e = api.ErrLimit
		}
		ends = append(ends, e)
	}
	for _, e := range ends {
		if e != api.OK {
			return nil, e
		}
	}
	return all, api.OK
}

// plainTogether is what all the cells of one key come to, at once.
func plainTogether(w way, l []api.Cell) (api.Cell, api.Errno) {
	n, set := new(big.Int), []int64{}
	least, greatest, bits := l[0].N, l[0].N, int64(0)
	for _, c := range l {
		n.Add(n, big.NewInt(c.N))
		least, greatest, bits = min(least, c.N), max(greatest, c.N), bits|c.N
		set = append(set, c.Set...)
	}
	slices.Sort(set)
	set = slices.Compact(set)
	switch w.agg {
	case api.AggSum:
		n.Mod(n, new(big.Int).Lsh(big.NewInt(1), 64))
		return api.Cell{N: int64(n.Uint64())}, api.OK
	case api.AggCount:
		if n.Cmp(big.NewInt(mostCount)) > 0 {
			return api.Cell{N: mostCount}, api.OK
		}
		return api.Cell{N: n.Int64()}, api.OK
	case api.AggMin:
		return api.Cell{N: least}, api.OK
	case api.AggMax:
		return api.Cell{N: greatest}, api.OK
	case api.AggOr:
		return api.Cell{N: bits}, api.OK
	}
	if len(set) > w.bound {
		return api.Cell{}, api.ErrBound
	}
	return api.Cell{Set: set}, api.OK
}

// plainGather sorts all rows, and puts those of one key together, which stand beside each other then.
func plainGather(w way, l []api.Row) (rows []api.Row, e api.Errno) {
	l = slices.Clone(l)
	slices.SortStableFunc(l, func(a, b api.Row) int { return plainCmp(a.Key, b.Key) })
	for len(l) > 0 {
		var cells []api.Cell
		n := 0
		for n < len(l) && l[n].Key == l[0].Key {
			cells = append(cells, l[n].Cell)
			n++
		}
		c, bad := plainTogether(w, cells)
		if bad != api.OK {
			e = bad
		}
		rows = append(rows, api.Row{Key: l[0].Key, Cell: c})
		l = l[n:]
	}
	if len(rows) > 1536 {
		e = api.ErrForm
	}
	if e != api.OK {
		return nil, e
	}
	return rows, api.OK
}

func plainFold(w way, l []api.Rec) ([]api.Row, api.Errno) {
	if !plainWay(w) || len(l) > 1536 || !plainKeys(l) {
		return nil, api.ErrForm
	}
	var all []api.Row
	for _, r := range l {
		c := api.Cell{N: r.Val}
		if w.agg == api.AggCount {
			c = api.Cell{N: 1}
		}
		if w.agg == api.AggSet {
			c = api.Cell{Set: []int64{r.Val}}
		}
		all = append(all, api.Row{Key: r.Key, Cell: c})
	}
	return plainGather(w, all)
}

// plainRuns puts each record into the run that its place divided by the size says.
func plainRuns(w way, size int, l []api.Rec) ([][]api.Row, api.Errno) {
	if size < 1 || !plainWay(w) || len(l) > 1536 || !plainKeys(l) {
		return nil, api.ErrForm
	}
	var recs [][]api.Rec
	for i, r := range l {
		if i/size == len(recs) {
			recs = append(recs, nil)
		}
		recs[i/size] = append(recs[i/size], r)
	}
	var all [][]api.Row
	for _, l := range recs {
		rows, e := plainFold(w, l)
		if e != api.OK {
			return nil, e
		}
		all = append(all, rows)
	}
	return all, api.OK
}

func plainCellMayBe(w way, c api.Cell) bool {
	switch w.agg {
	case api.AggSet:
		for i := range c.Set {
			if i > 0 && c.Set[i-1] >= c.Set[i] {
				return false
			}
		}
		return c.N == 0 && len(c.Set) <= w.bound
	case api.AggCount:
		return len(c.Set) == 0 && c.N >= 0 && c.N <= mostCount
	}
	return len(c.Set) == 0
}

func plainMayBe(w way, l []api.Row) bool {
	if !plainWay(w) || len(l) > 1536 {
		return false
	}
	for i, r := range l {
		if len(r.Key.B) > 64 || !plainCellMayBe(w, r.Cell) || i > 0 && plainCmp(l[i-1].Key, r.Key) >= 0 {
			return false
		}
	}
	return true
}

func plainMerge(w way, l ...[]api.Row) ([]api.Row, api.Errno) {
	if !plainWay(w) {
		return nil, api.ErrForm
	}
	for _, rows := range l {
		if !plainMayBe(w, rows) {
			return nil, api.ErrForm
		}
	}
	return plainGather(w, slices.Concat(l...))
}

func numbers(l ...int64) string {
	var b []byte
	for _, v := range l {
		b = binary.AppendVarint(b, v)
	}
	return string(b)
}

// plainRows writes rows that need not be.
func plainRows(w way, l []api.Row) string {
	var b strings.Builder
	for _, r := range l {
		b.WriteString(numbers(r.Key.A, int64(len(r.Key.B))) + r.Key.B)
		if w.agg == api.AggSet {
			b.WriteString(numbers(int64(len(r.Cell.Set))) + numbers(r.Cell.Set...))
		} else {
			b.WriteString(numbers(r.Cell.N))
		}
	}
	return b.String()
}

func plainSum(long []byte, s string) uint32 {
	return crc32.ChecksumIEEE(append(slices.Clone(long), s...))
}

// plainFrame makes a frame of whatever it is, however long.
func plainFrame(s string) string {
	long := binary.BigEndian.AppendUint32(nil, uint32(len(s)))
	return string(binary.BigEndian.AppendUint32(long, plainSum(long, s))) + s
}

func plainSplit(j api.Job, l []api.Rec) (string, api.Errno) {
	out, e := plainMap(j, l)
	if e != api.OK {
		return "", e
	}
	w := way{j.Agg, j.Bound}
	rows, e := plainFold(w, out)
	if e != api.OK {
		return "", e
	}
	return plainFrame(plainRows(w, rows)), api.OK
}

// reader stays where it first failed.
type reader struct {
	s   string
	bad api.Errno
}

func (r *reader) fail(e api.Errno) {
	if r.bad == api.OK {
		r.bad = e
	}
}

func (r *reader) number() int64 {
	v, k := binary.Varint([]byte(r.s))
	if r.bad != api.OK {
		return 0
	}
	if k == 0 {
		r.fail(api.ErrCut)
		return 0
	}
	// The library takes longer forms, too.
	if k < 0 || k != len(numbers(v)) {
		r.fail(api.ErrBad)
		return 0
	}
	r.s = r.s[k:]
	return v
}

func (r *reader) text() (text string) {
	n := r.number()
	if n < 0 || n > 64 {
		r.fail(api.ErrLimit)
	} else if int(n) > len(r.s) {
		r.fail(api.ErrCut)
	}
	if r.bad != api.OK {
		return ""
	}
	text, r.s = r.s[:n], r.s[n:]
	return text
}

func (r *reader) cell(w way) (c api.Cell) {
	n := r.number()
	if w.agg != api.AggSet {
		c = api.Cell{N: n}
	} else if n < 0 || n > int64(w.bound) {
		r.fail(api.ErrBad)
	} else {
		for range n {
			c.Set = append(c.Set, r.number())
		}
	}
	if r.bad == api.OK && !plainCellMayBe(w, c) {
		r.fail(api.ErrBad)
	}
	return c
}

func plainTake(w way, s string) (l []api.Row, e api.Errno) {
	r := &reader{s: s}
	for len(r.s) > 0 {
		k := api.Key{A: r.number(), B: r.text()}
		l = append(l, api.Row{Key: k, Cell: r.cell(w)})
		if r.bad == api.OK && !plainMayBe(w, l[max(0, len(l)-2):]) || len(l) > 1536 {
			r.fail(api.ErrBad)
		}
		if r.bad != api.OK {
			return nil, r.bad
		}
	}
	return l, api.OK
}

func plainOpen(w way, s string) ([]api.Row, api.Errno) {
	if !plainWay(w) {
		return nil, api.ErrForm
	}
	if len(s) < 8 {
		return nil, api.ErrCut
	}
	long, sum, held := []byte(s[:4]), []byte(s[4:8]), s[8:]
	n := int64(binary.BigEndian.Uint32(long))
	if n > 1<<15 {
		return nil, api.ErrLimit
	}
	if int64(len(held)) < n {
		return nil, api.ErrCut
	}
	if plainSum(long, held[:n]) != binary.BigEndian.Uint32(sum) {
		return nil, api.ErrSum
	}
	if int64(len(held)) > n {
		return nil, api.ErrBad
	}
	return plainTake(w, held)
}
