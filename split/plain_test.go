package split_test

import (
	"encoding/binary"
	"slices"

	"thresher/api"
)

// A second reading of the chapter: the library's numbers, what rises by sorting it, and what is next by asking each site around.

func numbers(l ...int64) string {
	var b []byte
	for _, v := range l {
		b = binary.AppendVarint(b, v)
	}
	return string(b)
}

func plainText(l []api.Rec) (s string) {
	for _, r := range l {
		s += numbers(r.Key.A, int64(len(r.Key.B))) + r.Key.B + numbers(r.Val)
	}
	return s
}

// plainRecs tells the records that s is, and whether it is any: they must be written as they stand.
func plainRecs(s string) (l []api.Rec, is bool) {
	b := []byte(s)
	number := func() int64 {
		n, k := binary.Varint(b)
		if k <= 0 {
			b = nil
			return 0
		}
		b = b[k:]
		return n
	}
	for len(b) > 0 {
		var r api.Rec
		r.Key.A = number()
		n := number()
		if n < 0 || n > int64(len(b)) || n > 64 {
			return nil, false
		}
		r.Key.B, b = string(b[:n]), b[n:]
		r.Val = number()
		l = append(l, r)
	}
	if len(l) > 64 || len(s) > 8192 || plainText(l) != s {
		return nil, false
	}
	return l, true
}

// plainRises tells whether it is, each once, what it is sorted, and within the two.
func plainRises(l []int, least int, most int) bool {
	sorted := slices.Compact(slices.Sorted(slices.Values(l)))
	return slices.Equal(sorted, l) && (len(l) == 0 || least <= l[0] && l[len(l)-1] <= most)
}

func plainMayBe(c api.Config) bool {
	if !slices.Contains([]int{1, 2, 3}, c.Sites) || c.Again < 1 || c.Again > 16 || c.Over < 16 || c.Over > 64 || c.Over < c.Again+c.Again {
		return false
	}
	var ids []int
	for _, s := range c.Splits {
		if _, is := plainRecs(s.Text); !is || len(s.Sites) < 1 || !plainRises(s.Sites, 1, c.Sites) {
			return false
		}
		ids = append(ids, s.ID)
	}
	return len(ids) <= 6 && plainRises(ids, 1, 1048576)
}

func plainFind(c api.Config, id int) (s api.Split, is bool) {
	i := slices.IndexFunc(c.Splits, func(s api.Split) bool { return s.ID == id })
	if i < 0 {
		return api.Split{}, false
	}
	return c.Splits[i], true
}

// plainNext is of a split that has a site.
func plainNext(s api.Split, sites int, site int) int {
	for {
		site++
		if site > sites {
			site = 1
		}
		if slices.Contains(s.Sites, site) {
			return site
		}
	}
}
