package row_test

import (
	"bytes"
	"encoding/binary"
	"math/big"
	"slices"

	"thresher/api"
)

// A second reading of the chapter: no map, numbers without an end, all of a key at once, the library's numbers.

func plainCmp(a api.Key, b api.Key) int {
	if a.A != b.A {
		if a.A < b.A {
			return -1
		}
		return 1
	}
	return bytes.Compare([]byte(a.B), []byte(b.B))
}

func plainWay(w way) bool {
	if w.agg == api.AggSet {
		return w.bound >= 1 && w.bound <= 32
	}
	return w.bound == 0 && slices.Contains([]int{api.AggSum, api.AggCount, api.AggMin, api.AggMax, api.AggOr}, w.agg)
}

func plainCellMayBe(w way, c api.Cell) bool {
	switch w.agg {
	case api.AggSet:
		for i := range c.Set {
			if i > 0 && c.Set[i-1] >= c.Set[i] {
				return false
			}
		}
		return c.N == 0 && len(c.Set) <= w.bound
	case api.AggCount:
		return len(c.Set) == 0 && c.N >= 0 && c.N <= mostCount
	}
	return len(c.Set) == 0
}

func plainMayBe(w way, l []api.Row) bool {
	if !plainWay(w) || len(l) > 1536 {
		return false
	}
	for i, r := range l {
		if len(r.Key.B) > 64 || !plainCellMayBe(w, r.Cell) || i > 0 && plainCmp(l[i-1].Key, r.Key) >= 0 {
			return false
		}
	}
	return true
}

// plainTogether is what all the cells of one key come to, at once.
func plainTogether(w way, l []api.Cell) (api.Cell, api.Errno) {
	n, set := new(big.Int), []int64{}
	least, greatest, bits := l[0].N, l[0].N, int64(0)
	for _, c := range l {
		n.Add(n, big.NewInt(c.N))
		least, greatest, bits = min(least, c.N), max(greatest, c.N), bits|c.N
		set = append(set, c.Set...)
	}
	slices.Sort(set)
	set = slices.Compact(set)
	switch w.agg {
	case api.AggSum:
		n.Mod(n, new(big.Int).Lsh(big.NewInt(1), 64))
		return number(int64(n.Uint64())), api.OK
	case api.AggCount:
		if n.Cmp(big.NewInt(mostCount)) > 0 {
			return number(mostCount), api.OK
		}
		return number(n.Int64()), api.OK
	case api.AggMin:
		return number(least), api.OK
	case api.AggMax:
		return number(greatest), api.OK
	case api.AggOr:
		return number(bits), api.OK
	}
	if len(set) > w.bound {
		return api.Cell{}, api.ErrBound
	}
	return api.Cell{Set: set}, api.OK
}

// plainGather sorts all rows, and puts those of one key together, which stand beside each other then.
func plainGather(w way, l []api.Row) (rows []api.Row, e api.Errno) {
	l = slices.Clone(l)
	slices.SortStableFunc(l, func(a, b api.Row) int { return plainCmp(a.Key, b.Key) })
	for len(l) > 0 {
		n := 1
		for n < len(l) && plainCmp(l[0].Key, l[n].Key) == 0 {
			n++
		}
		var cells []api.Cell
		for _, r := range l[:n] {
			cells = append(cells, r.Cell)
		}
		c, bad := plainTogether(w, cells)
		if bad != api.OK {
			e = bad
		}
		rows = append(rows, api.Row{Key: l[0].Key, Cell: c})
		l = l[n:]
	}
	if len(rows) > 1536 {
		e = api.ErrForm
	}
	if e != api.OK {
		return nil, e
	}
	return rows, api.OK
}

func plainFold(w way, l []api.Rec) ([]api.Row, api.Errno) {
	if !plainWay(w) || len(l) > 1536 {
		return nil, api.ErrForm
	}
	var all []api.Row
	for _, r := range l {
		if len(r.Key.B) > 64 {
			return nil, api.ErrForm
		}
		c := number(r.Val)
		if w.agg == api.AggCount {
			c = number(1)
		}
		if w.agg == api.AggSet {
			c = set(r.Val)
		}
		all = append(all, api.Row{Key: r.Key, Cell: c})
	}
	return plainGather(w, all)
}

func plainJoin(w way, l ...[]api.Row) ([]api.Row, api.Errno) {
	if !plainWay(w) {
		return nil, api.ErrForm
	}
	var all []api.Row
	for _, rows := range l {
		if !plainMayBe(w, rows) {
			return nil, api.ErrForm
		}
		all = append(all, rows...)
	}
	return plainGather(w, all)
}

func numbers(l ...int64) string {
	var b []byte
	for _, v := range l {
		b = binary.AppendVarint(b, v)
	}
	return string(b)
}

func plainBytes(w way, l []api.Row) (string, api.Errno) {
	if !plainMayBe(w, l) {
		return "", api.ErrForm
	}
	s := ""
	for _, r := range l {
		s += numbers(r.Key.A, int64(len(r.Key.B))) + r.Key.B
		if w.agg == api.AggSet {
			s += numbers(int64(len(r.Cell.Set))) + numbers(r.Cell.Set...)
		} else {
			s += numbers(r.Cell.N)
		}
	}
	return s, api.OK
}

// reader stays where it first failed.
type reader struct {
	s   string
	bad api.Errno
}

func (r *reader) fail(e api.Errno) {
	if r.bad == api.OK {
		r.bad = e
	}
}

func (r *reader) number() int64 {
	v, k := binary.Varint([]byte(r.s))
	if r.bad != api.OK {
		return 0
	}
	if k == 0 {
		r.fail(api.ErrCut)
		return 0
	}
	// The library takes longer forms, too.
	if k < 0 || k != len(numbers(v)) {
		r.fail(api.ErrBad)
		return 0
	}
	r.s = r.s[k:]
	return v
}

func (r *reader) text() (text string) {
	n := r.number()
	if n < 0 || n > 64 {
		r.fail(api.ErrLimit)
	} else if int(n) > len(r.s) {
		r.fail(api.ErrCut)
	}
	if r.bad != api.OK {
		return ""
	}
	text, r.s = r.s[:n], r.s[n:]
	return text
}

func (r *reader) cell(w way) (c api.Cell) {
	n := r.number()
	if w.agg != api.AggSet {
		c = number(n)
	} else if n < 0 || n > int64(w.bound) {
		r.fail(api.ErrBad)
	} else {
		for range n {
			c.Set = append(c.Set, r.number())
		}
	}
	if r.bad == api.OK && !plainCellMayBe(w, c) {
		r.fail(api.ErrBad)
	}
	return c
}

func plainTake(w way, s string) (l []api.Row, e api.Errno) {
	if !plainWay(w) {
		return nil, api.ErrForm
	}
	r := &reader{s: s}
	for len(r.s) > 0 {
		k := api.Key{A: r.number(), B: r.text()}
		l = append(l, api.Row{Key: k, Cell: r.cell(w)})
		if r.bad == api.OK && !plainMayBe(w, l[max(0, len(l)-2):]) || len(l) > 1536 {
			r.fail(api.ErrBad)
		}
		if r.bad != api.OK {
			return nil, r.bad
		}
	}
	return l, api.OK
}
