package job_test

import (
	"encoding/binary"
	"hash/crc32"
	"hash/fnv"
	"slices"
	"strings"

	"thresher/api"
	"thresher/check"
	"thresher/eval"
	"thresher/lang"
)

// A second reading of the chapter: the library's numbers, sums and hash, what rises by sorting it, all splits run to their end, and what went wrong looked for behind that.

func numbers(l ...int) string {
	var b []byte
	for _, v := range l {
		b = binary.AppendVarint(b, int64(v))
	}
	return string(b)
}

func plainKey(k api.Key) string {
	return string(binary.AppendVarint(nil, k.A)) + numbers(len(k.B)) + k.B
}

func plainText(l ...api.Rec) (s string) {
	for _, r := range l {
		s += plainKey(r.Key) + string(binary.AppendVarint(nil, r.Val))
	}
	return s
}

// plainRises tells whether it is, each once, what it is sorted, and from 1 to most.
func plainRises(l []int, most int) bool {
	sorted := slices.Compact(slices.Sorted(slices.Values(l)))
	return slices.Equal(sorted, l) && (len(l) == 0 || 1 <= l[0] && l[len(l)-1] <= most)
}

func plainWay(w way) bool {
	if w.agg == api.AggSet {
		return w.bound >= 1 && w.bound <= 32
	}
	return w.bound == 0 && slices.Contains([]int{api.AggSum, api.AggCount, api.AggMin, api.AggMax, api.AggOr}, w.agg)
}

func plainMayBe(j api.Job) bool {
	if j.ID < 1 || j.ID > 1048576 || len(j.Prog) > 512 || !plainWay(way{j.Agg, j.Bound}) || j.Fuel < 0 || j.Fuel > 2000 {
		return false
	}
	return len(j.Splits) >= 1 && len(j.Splits) <= 6 && plainRises(j.Splits, 1048576) && j.Parts >= 1 && j.Parts <= 8
}

// plainBytes writes a job that need not be.
func plainBytes(j api.Job) string {
	return numbers(j.ID, len(j.Prog)) + j.Prog + numbers(j.Agg, j.Bound, j.Fuel, len(j.Splits)) + numbers(j.Splits...) + numbers(j.Parts)
}

// plainPieces is plainBytes by its numbers: each stands alone, and the program.
func plainPieces(j api.Job) []string {
	l := []string{numbers(j.ID), numbers(len(j.Prog)), j.Prog, numbers(j.Agg), numbers(j.Bound), numbers(j.Fuel), numbers(len(j.Splits))}
	for _, id := range j.Splits {
		l = append(l, numbers(id))
	}
	return append(l, numbers(j.Parts))
}

// plainNumber tells a number at the beginning, and what is behind it.
func plainNumber(s string) (n int64, rest string, e api.Errno) {
	n, k := binary.Varint([]byte(s))
	if k == 0 {
		return 0, "", api.ErrCut
	}
	// The library takes longer forms, too.
	if k < 0 || k != len(binary.AppendVarint(nil, n)) {
		return 0, "", api.ErrBad
	}
	return n, s[k:], api.OK
}

// plainTake goes from one piece to the next: pieces that are numbers, but for the third one, up to those that the sizes say.
func plainTake(s string) (j api.Job, e api.Errno) {
	var l []int
	rest, many := s, 8
	for i := 0; i < many; i++ {
		n, behind, e := plainNumber(rest)
		if e != api.OK {
			return api.Job{}, e
		}
		rest = behind
		l = append(l, int(n))
		switch {
		case i == 1 && (n < 0 || n > 512) || i == 5 && (n < 0 || n > 6):
			return api.Job{}, api.ErrBad
		case i == 1 && int(n) > len(rest):
			return api.Job{}, api.ErrCut
		case i == 1:
			j.Prog, rest = rest[:n], rest[n:]
		case i == 5:
			many = 7 + int(n)
		}
	}
	j.ID, j.Agg, j.Bound, j.Fuel, j.Splits, j.Parts = l[0], l[2], l[3], l[4], l[6:len(l)-1], l[len(l)-1]
	if !plainMayBe(j) || rest != "" {
		return api.Job{}, api.ErrBad
	}
	return j, api.OK
}

// plainRecs tells the records that s is, and whether it is any: they must be written as they stand.
func plainRecs(s string) (l []api.Rec, is bool) {
	rest := s
	for rest != "" {
		var r api.Rec
		var n int64
		var a, b, c api.Errno
		r.Key.A, rest, a = plainNumber(rest)
		n, rest, b = plainNumber(rest)
		if a+b != api.OK || n < 0 || n > 64 || int(n) > len(rest) {
			return nil, false
		}
		r.Key.B, rest = rest[:n], rest[n:]
		if r.Val, rest, c = plainNumber(rest); c != api.OK {
			return nil, false
		}
		l = append(l, r)
	}
	return l, len(l) <= 64 && len(s) <= 8192
}

func plainConfig(c api.Config) bool {
	if !slices.Contains([]int{1, 2, 3}, c.Sites) || c.Again < 1 || c.Again > 16 || c.Over < 16 || c.Over > 64 || c.Over < c.Again+c.Again {
		return false
	}
	var ids []int
	for _, s := range c.Splits {
		if _, is := plainRecs(s.Text); !is || len(s.Sites) < 1 || !plainRises(s.Sites, c.Sites) {
			return false
		}
		ids = append(ids, s.ID)
	}
	return len(ids) <= 6 && plainRises(ids, 1048576)
}

func plainValid(c api.Config, j api.Job) api.Errno {
	if !plainMayBe(j) || !plainConfig(c) {
		return api.ErrForm
	}
	ops, e := lang.Parse(j.Prog)
	if e != api.OK {
		return e
	}
	if e := check.Check(ops); e != api.OK {
		return e
	}
	for _, id := range j.Splits {
		if !slices.ContainsFunc(c.Splits, func(s api.Split) bool { return s.ID == id }) {
			return api.ErrNone
		}
	}
	return api.OK
}

// plainSplits is the records of each of the job's splits.
func plainSplits(c api.Config, j api.Job) (all [][]api.Rec) {
	for _, s := range c.Splits {
		if slices.Contains(j.Splits, s.ID) {
			l, _ := plainRecs(s.Text)
			all = append(all, l)
		}
	}
	return all
}

// plainMap lets each record come to its end.
func plainMap(j api.Job, l []api.Rec) (all []api.Rec, e api.Errno) {
	ops, _ := lang.Parse(j.Prog)
	for _, r := range l {
		out, _, bad := eval.Run(ops, r, j.Fuel)
		all = append(all, out...)
		if bad == api.OK && len(all) > 256 {
			bad = api.ErrLimit
		}
		if e == api.OK {
			e = bad
		}
	}
	return all, e
}

func plainCmp(a api.Rec, b api.Rec) int {
	if a.Key.A != b.Key.A {
		if a.Key.A < b.Key.A {
			return -1
		}
		return 1
	}
	return strings.Compare(a.Key.B, b.Key.B)
}

// plainCell is what all of one key come to, as bytes.
func plainCell(w way, l []int64) (s string, e api.Errno) {
	n, bits := int64(0), int64(0)
	for _, v := range l {
		n, bits = n+v, bits|v
	}
	switch w.agg {
	case api.AggCount:
		n = int64(len(l))
	case api.AggMin:
		n = slices.Min(l)
	case api.AggMax:
		n = slices.Max(l)
	case api.AggOr:
		n = bits
	case api.AggSet:
		slices.Sort(l)
		l = slices.Compact(l)
		s = numbers(len(l))
		for _, v := range l {
			s += string(binary.AppendVarint(nil, v))
		}
		if len(l) > w.bound {
			e = api.ErrBound
		}
		return s, e
	}
	return string(binary.AppendVarint(nil, n)), api.OK
}

// plainRows tells what all come to: the bytes of each partition's rows.
func plainRows(w way, parts int, l []api.Rec) (all [][]byte, e api.Errno) {
	l = slices.Clone(l)
	slices.SortStableFunc(l, plainCmp)
	all = make([][]byte, parts)
	for len(l) > 0 {
		var vals []int64
		n := 0
		for n < len(l) && l[n].Key == l[0].Key {
			vals = append(vals, l[n].Val)
			n++
		}
		k := plainKey(l[0].Key)
		s, bad := plainCell(w, vals)
		if bad != api.OK {
			e = bad
		}
		h := fnv.New32a()
		h.Write([]byte(k))
		p := int64(h.Sum32()) % int64(parts)
		all[p] = append(all[p], k+s...)
		l = l[n:]
	}
	return all, e
}

func plainFrame(s string) string {
	long := binary.BigEndian.AppendUint32(nil, uint32(len(s)))
	sum := crc32.ChecksumIEEE(append(slices.Clone(long), s...))
	return string(binary.BigEndian.AppendUint32(long, sum)) + s
}

// plainOutput of what all emitted, however it is cut.
func plainOutput(j api.Job, l []api.Rec) (s string, e api.Errno) {
	all, e := plainRows(way{j.Agg, j.Bound}, j.Parts, l)
	if e != api.OK {
		return "", e
	}
	for _, rows := range all {
		s += plainFrame(string(rows))
	}
	if len(s) > 32704 {
		return "", api.ErrLimit
	}
	return s, api.OK
}

func plainWhole(c api.Config, j api.Job) (string, api.Errno) {
	if e := plainValid(c, j); e != api.OK {
		return "", e
	}
	var all []api.Rec
	bad := api.OK
	for _, l := range plainSplits(c, j) {
		out, e := plainMap(j, l)
		all = append(all, out...)
		if bad == api.OK {
			bad = e
		}
	}
	if bad != api.OK {
		return "", bad
	}
	return plainOutput(j, all)
}

// plainCodes asks for each error there is whether any split tells it.
func plainCodes(c api.Config, j api.Job) (codes []int) {
	if e := plainValid(c, j); e != api.OK {
		return []int{int(e)}
	}
	var told []api.Errno
	for _, l := range plainSplits(c, j) {
		told = append(told, plainGather(j, l))
	}
	for code := 1; code < 20; code++ {
		if slices.Contains(told, api.Errno(code)) {
			codes = append(codes, code)
		}
	}
	if len(codes) > 0 {
		return codes
	}
	if _, e := plainWhole(c, j); e != api.OK {
		return []int{int(e)}
	}
	return nil
}

// plainGather tells the error of a split alone.
func plainGather(j api.Job, l []api.Rec) api.Errno {
	out, e := plainMap(j, l)
	if e != api.OK {
		return e
	}
	all, e := plainRows(way{j.Agg, j.Bound}, 1, out)
	if e == api.OK && len(all[0])+8 > 32704 {
		return api.ErrLimit
	}
	return e
}
