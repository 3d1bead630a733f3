package split_test

import (
	"fmt"
	"math"
	"slices"
	"strings"
	"testing"

	"thresher/api"
	"thresher/split"
)

const mostID = 1 << 20

// records are of each kind of number and text, as many as asked for.
func records(n int) (l []api.Rec) {
	for i := range n {
		r := api.Rec{Key: api.Key{A: int64(i*i*i) - 70, B: strings.Repeat(string([]byte{byte(i * 41)}), i*7%65)}, Val: int64(i) << (i % 60)}
		if i%3 == 0 {
			r.Val = math.MinInt64 + r.Val
		}
		l = append(l, r)
	}
	return l
}

// config is one that may be: splits with many records, few and none, at one site, some and all.
func config() api.Config {
	return api.Config{Sites: 3, Again: 5, Over: 20, Splits: []api.Split{
		{ID: 2, Text: plainText(records(5)), Sites: []int{1, 3}},
		{ID: 3, Text: "", Sites: []int{2}},
		{ID: 7, Text: plainText(records(1)), Sites: []int{1, 2, 3}},
		{ID: 300, Text: plainText(records(api.MaxRecs)), Sites: []int{3}},
		{ID: mostID, Text: plainText(records(9)[4:]), Sites: []int{1, 2}},
	}}
}

func clone(c api.Config) api.Config {
	c.Splits = slices.Clone(c.Splits)
	for i := range c.Splits {
		c.Splits[i].Sites = slices.Clone(c.Splits[i].Sites)
	}
	return c
}

// with is the config, changed.
func with(change func(c *api.Config)) api.Config {
	c := config()
	change(&c)
	return c
}

// withSites has a split at those sites, and one ahead of it.
func withSites(sites int, at ...int) api.Config {
	return api.Config{Sites: sites, Again: 8, Over: 16, Splits: []api.Split{{ID: 1, Sites: []int{1}}, {ID: 2, Text: plainText(records(2)), Sites: at}}}
}

// withIDs has splits of those IDs, each with a record that tells its place.
func withIDs(ids ...int) api.Config {
	c := api.Config{Sites: 2, Again: 1, Over: 16}
	for i, id := range ids {
		c.Splits = append(c.Splits, api.Split{ID: id, Text: plainText([]api.Rec{{Val: int64(i)}}), Sites: []int{1 + i%2}})
	}
	return c
}

// withText has it as the text of the split at place i of three.
func withText(i int, s string) api.Config {
	c := withIDs(4, 5, 6)
	c.Splits[i].Text = s
	return c
}

func sameSplit(a, b api.Split) bool {
	return a.ID == b.ID && a.Text == b.Text && slices.Equal(a.Sites, b.Sites)
}

func same(a, b api.Config) bool {
	return a.Sites == b.Sites && a.Again == b.Again && a.Over == b.Over && slices.EqualFunc(a.Splits, b.Splits, sameSplit)
}

// brief is some of what it is, to be read in a report.
func brief(what any) string {
	s := fmt.Sprintf("%q", fmt.Sprint(what))
	return s[:min(len(s), 300)]
}

// around are numbers that lie at, between and beside those of the config, and far away.
func around(c api.Config) []int {
	l := []int{0, 1, -1, mostID, mostID + 1, math.MinInt, math.MaxInt, 1 << 32, 1 << 8}
	for _, s := range c.Splits {
		l = append(l, s.ID-1, s.ID, s.ID+1, -s.ID, s.ID+1<<8, s.ID+1<<32)
	}
	return l
}

func farSites() []int {
	return []int{-1, -2, -3, math.MinInt, math.MaxInt, 4, 5, 64, 1<<8 + 1, 1<<32 + 1}
}

func wantFind(t *testing.T, c api.Config, id int, want api.Split, bad api.Errno) {
	t.Helper()
	if s, e := split.Find(c, id); !sameSplit(s, want) || e != bad {
		t.Errorf("Find(%s, %d): %s, %d, not %s, %d", brief(c), id, brief(s), e, brief(want), bad)
	}
}

func wantNext(t *testing.T, c api.Config, id int, site int, want int, bad api.Errno) {
	t.Helper()
	if n, e := split.Next(c, id, site); n != want || e != bad {
		t.Errorf("Next(%s, %d, %d): %d, %d, not %d, %d", brief(c), id, site, n, e, want, bad)
	}
}

func wantRecs(t *testing.T, c api.Config, l []int, want []api.Rec, bad api.Errno) {
	t.Helper()
	if recs, e := split.Recs(c, l...); !slices.Equal(recs, want) || e != bad {
		t.Errorf("Recs(%s, %v): %s, %d, not %s, %d", brief(c), l, brief(recs), e, brief(want), bad)
	}
}

// wantForm: P12.1 and P12.2, ErrForm of each call, ahead of whatever else is wrong, and nothing beside it.
func wantForm(t *testing.T, c api.Config) {
	t.Helper()
	if plainMayBe(c) {
		t.Fatalf("the second reading: %s may be", brief(c))
	}
	if e := split.Check(c); e != api.ErrForm {
		t.Errorf("Check(%s): %d", brief(c), e)
	}
	wantRecs(t, c, nil, nil, api.ErrForm)
	for _, id := range around(api.Config{Splits: c.Splits[:min(len(c.Splits), 8)]}) {
		wantFind(t, c, id, api.Split{}, api.ErrForm)
		wantRecs(t, c, []int{id}, nil, api.ErrForm)
		for _, site := range []int{0, 1, 3, 4, -1} {
			wantNext(t, c, id, site, 0, api.ErrForm)
		}
	}
}

// wantStands holds each call to the second reading, for IDs that are there and that are not, and for each site.
func wantStands(t *testing.T, c api.Config) {
	t.Helper()
	if !plainMayBe(c) {
		t.Fatalf("the second reading: %s may not be", brief(c))
	}
	if e := split.Check(c); e != api.OK {
		t.Errorf("Check(%s): %d", brief(c), e)
	}
	wantRecs(t, c, nil, nil, api.OK)
	for _, id := range around(c) {
		bad := api.ErrNone
		s, is := plainFind(c, id)
		recs, _ := plainRecs(s.Text)
		if is {
			bad = api.OK
		}
		wantFind(t, c, id, s, bad)
		wantRecs(t, c, []int{id}, recs, bad)
		for site := range c.Sites + 1 {
			want := 0
			if is {
				want = plainNext(s, c.Sites, site)
			}
			wantNext(t, c, id, site, want, bad)
		}
		for _, site := range append(farSites(), c.Sites+1) {
			wantNext(t, c, id, site, 0, api.ErrForm)
		}
	}
}

// wantAsRead holds it to what the second reading says of it.
func wantAsRead(t *testing.T, c api.Config) bool {
	t.Helper()
	if plainMayBe(c) {
		wantStands(t, c)
		return true
	}
	wantForm(t, c)
	return false
}

// farNumbers are numbers that no field of a configuration may have, but for ones that are read in too few bits.
func farNumbers(most int) []int {
	return []int{0, -1, -most, most + 1, math.MinInt, math.MaxInt, 1<<32 + 1, 1<<32 + most, 1<<40 + most, -1 << 32}
}

// TestOrdinary: P12.1 and P12.2, splits of all kinds.
func TestOrdinary(t *testing.T) {
	wantStands(t, config())
	wantStands(t, withSites(3, 2, 3))
	wantStands(t, withIDs(1, 5, 9))
}

// TestNoSplits: P12.1, none at all may be; there is none of any ID.
func TestNoSplits(t *testing.T) {
	for _, l := range [][]api.Split{nil, {}} {
		for sites := 1; sites <= api.MaxSites; sites++ {
			c := api.Config{Sites: sites, Splits: l, Again: 3, Over: 30}
			wantStands(t, c)
			wantFind(t, c, 1, api.Split{}, api.ErrNone)
			wantNext(t, c, 1, 0, 0, api.ErrNone)
			wantNext(t, c, 1, sites, 0, api.ErrNone)
			wantRecs(t, c, nil, nil, api.OK)
			wantRecs(t, c, []int{1}, nil, api.ErrNone)
		}
		wantForm(t, api.Config{Splits: l, Again: 3, Over: 30})
		wantForm(t, api.Config{Sites: 4, Splits: l, Again: 3, Over: 30})
		wantForm(t, api.Config{Sites: 1, Splits: l, Again: 3})
		wantForm(t, api.Config{Sites: 1, Splits: l, Over: 30})
	}
	wantForm(t, api.Config{})
}

// TestSites: P12.1, how many there are, at the ends and outside.
func TestSites(t *testing.T) {
	for sites := -3; sites <= 9; sites++ {
		for _, n := range []int{0, 1} {
			c := withIDs(1, 2)
			c.Splits = c.Splits[:n]
			c.Sites = sites
			if wantAsRead(t, c) != (1 <= sites && sites <= 3) {
				t.Errorf("%d sites", sites)
			}
		}
	}
	for _, sites := range farNumbers(api.MaxSites) {
		wantForm(t, with(func(c *api.Config) { c.Sites = sites }))
		wantForm(t, with(func(c *api.Config) { c.Sites, c.Splits = sites, nil }))
	}
	wantForm(t, with(func(c *api.Config) { c.Sites = 2 }))
}

// TestWaits: P12.1, all of Again and Over near their ends, each with each, and Over at twice Again and just below.
func TestWaits(t *testing.T) {
	may := 0
	for again := -2; again <= 34; again++ {
		for over := -1; over <= 70; over++ {
			c := api.Config{Sites: 1, Again: again, Over: over}
			want := api.ErrForm
			if again >= 1 && again <= 16 && over >= 16 && over <= 64 && over >= 2*again {
				want = api.OK
				may++
			}
			if e := split.Check(c); e != want || plainMayBe(c) != (want == api.OK) {
				t.Errorf("Again %d, Over %d: %d, not %d", again, over, e, want)
			}
		}
	}
	// 8 of Again with all of Over, and 8 more, each of which has two fewer than the one ahead of it.
	if may != 8*49+47+45+43+41+39+37+35+33 {
		t.Errorf("%d of them may be", may)
	}
	for _, w := range [][2]int{{1, 16}, {1, 64}, {8, 16}, {8, 17}, {9, 18}, {16, 32}, {16, 64}, {15, 30}} {
		wantStands(t, with(func(c *api.Config) { c.Again, c.Over = w[0], w[1] }))
	}
	for _, w := range [][2]int{{1, 15}, {1, 65}, {0, 16}, {0, 64}, {-1, 20}, {9, 17}, {16, 31}, {17, 34}, {17, 64}, {7, 15}, {8, 15}} {
		wantForm(t, with(func(c *api.Config) { c.Again, c.Over = w[0], w[1] }))
	}
}

// TestWaitsFarAway: P12.1, numbers that would go round when they are doubled, too.
func TestWaitsFarAway(t *testing.T) {
	for _, n := range farNumbers(api.MaxTicks) {
		wantForm(t, with(func(c *api.Config) { c.Again = n }))
		wantForm(t, with(func(c *api.Config) { c.Over = n }))
		for _, m := range farNumbers(16) {
			wantForm(t, with(func(c *api.Config) { c.Again, c.Over = n, m }))
		}
	}
	for _, again := range []int{math.MinInt / 2, math.MinInt/2 + 8, math.MaxInt/2 + 1, math.MaxInt/2 + 9, 1 << 31, 1<<31 + 8} {
		wantForm(t, with(func(c *api.Config) { c.Again = again }))
	}
}

// TestHowManySplits: P12.1, up to MaxSplits, and one more, and many.
func TestHowManySplits(t *testing.T) {
	for n := range 12 {
		var up, high []int
		for i := range n {
			up, high = append(up, i+1), append(high, mostID-n+1+i)
		}
		if wantAsRead(t, withIDs(up...)) != (n <= 6) || wantAsRead(t, withIDs(high...)) != (n <= 6) {
			t.Errorf("%d splits", n)
		}
	}
	var many []int
	for i := range 3000 {
		many = append(many, i+1)
	}
	wantForm(t, withIDs(many...))
	wantForm(t, api.Config{Sites: 1, Again: 1, Over: 16, Splits: make([]api.Split, 7)})
}

// TestIDs: P12.1, their ends, and just outside, at each place.
func TestIDs(t *testing.T) {
	for _, ids := range [][]int{{1}, {mostID}, {1, mostID}, {mostID - 1, mostID}, {1, 2}, {1, 2, 3, 4, 5, 6}, {1, 100, 10000, mostID - 2, mostID - 1, mostID}} {
		wantStands(t, withIDs(ids...))
	}
	for _, id := range farNumbers(mostID) {
		wantForm(t, withIDs(id))
		for i := range 3 {
			ids := []int{5, 6, 7}
			ids[i] = id
			wantForm(t, withIDs(ids...))
		}
	}
	wantForm(t, withIDs(mostID+1))
	wantForm(t, withIDs(1, mostID+1))
	wantForm(t, withIDs(0, 1))
	wantForm(t, withIDs(-1, 1))
}

// TestIDsThatDoNotRise: P12.1, the same one twice, or a lesser one, at each place.
func TestIDsThatDoNotRise(t *testing.T) {
	good := []int{3, 8, 9, 20, 21, mostID}
	for i := range good {
		for j := range good {
			if i == j {
				continue
			}
			turned, twice := slices.Clone(good), slices.Clone(good)
			turned[i], turned[j] = turned[j], turned[i]
			twice[i] = twice[j]
			wantForm(t, withIDs(turned...))
			wantForm(t, withIDs(twice...))
			if i < j {
				wantStands(t, withIDs(good[i], good[j]))
			} else {
				wantForm(t, withIDs(good[i], good[j]))
			}
		}
		wantForm(t, withIDs(good[i], good[i]))
	}
	// The same one may differ in all else, or in nothing.
	c := withIDs(4, 5)
	c.Splits[1] = c.Splits[0]
	wantForm(t, c)
}

func eachList(n int, of []int, do func([]int)) {
	if n == 0 {
		do(nil)
		return
	}
	eachList(n-1, of, func(l []int) {
		for _, v := range of {
			do(append(slices.Clone(l), v))
		}
	})
}

// TestAllShortIDs holds all lists of up to four IDs of some to the second reading.
func TestAllShortIDs(t *testing.T) {
	may := 0
	for n := range 5 {
		eachList(n, []int{-1, 0, 1, 2, 7, mostID, mostID + 1}, func(ids []int) {
			if wantAsRead(t, withIDs(ids...)) {
				may++
			}
		})
	}
	// The lists that rise of 1, 2, 7 and mostID.
	if may != 16 {
		t.Errorf("%d of them may be", may)
	}
}

// TestAllShortSites: P12.1, all lists of up to four sites, of each number of sites: none, outside, twice, not rising.
func TestAllShortSites(t *testing.T) {
	for sites := 1; sites <= 3; sites++ {
		may := 0
		for n := range 5 {
			eachList(n, []int{-1, 0, 1, 2, 3, 4}, func(at []int) {
				if wantAsRead(t, withSites(sites, at...)) {
					may++
				}
			})
		}
		if may != 1<<sites-1 {
			t.Errorf("of %d sites %d lists may be", sites, may)
		}
	}
}

// TestSitesOfSplits: P12.1, at each place of the splits, and sites far away.
func TestSitesOfSplits(t *testing.T) {
	for i := range config().Splits {
		for _, at := range [][]int{nil, {}, {0}, {0, 1}, {4}, {1, 4}, {1, 2, 3, 4}, {2, 1}, {1, 3, 2}, {1, 1}, {3, 3}, {1, 2, 2}, {-1}, {-1, 1}, slices.Repeat([]int{1}, 500)} {
			wantForm(t, with(func(c *api.Config) { c.Splits[i].Sites = at }))
		}
		for _, n := range farNumbers(3) {
			wantForm(t, with(func(c *api.Config) { c.Splits[i].Sites = []int{n} }))
			wantForm(t, with(func(c *api.Config) { c.Splits[i].Sites = []int{1, n} }))
			wantForm(t, with(func(c *api.Config) { c.Splits[i].Sites = []int{n, 3} }))
		}
		for _, at := range [][]int{{1}, {2}, {3}, {1, 2}, {1, 3}, {2, 3}, {1, 2, 3}} {
			wantStands(t, with(func(c *api.Config) { c.Splits[i].Sites = at }))
		}
	}
	wantForm(t, withSites(1, 1, 2))
	wantForm(t, withSites(1, 2))
	wantForm(t, withSites(2, 3))
	wantForm(t, withSites(2, 1, 2, 3))
}

// TestTexts: P12.1, what is records, at each place of the splits.
func TestTexts(t *testing.T) {
	long := api.Rec{Key: api.Key{A: math.MinInt64, B: strings.Repeat("\xff", api.MaxText)}, Val: math.MinInt64}
	for i := range 3 {
		for _, l := range [][]api.Rec{nil, records(1), records(2), records(63), records(64), {long}, slices.Repeat([]api.Rec{long}, 64), make([]api.Rec, 64)} {
			wantStands(t, withText(i, plainText(l)))
		}
		for _, s := range []string{"\x80\x00", "\x00\x80\x00", "\x00\x01\x00", "\x00\x82\x01\x00", "\x00\x82\x01" + strings.Repeat("x", 65) + "\x00", "\x00\x00\x80\x00", strings.Repeat("\xff", 9) + "\x02\x00\x00", "abc", "\xff", "\x00", "\x00\x00"} {
			wantForm(t, withText(i, s))
			wantForm(t, withText(i, plainText(records(3))+s))
		}
	}
}

// TestTextsCutOff: P12.1, at each place but those between records.
func TestTextsCutOff(t *testing.T) {
	s := plainText(records(6))
	whole := map[int]int{}
	for n := range 7 {
		whole[len(plainText(records(n)))] = n + 1
	}
	for n := range len(s) + 1 {
		if wantAsRead(t, withText(n%3, s[:n])) != (whole[n] > 0) {
			t.Errorf("the first %d bytes", n)
		}
	}
}

// TestTextsTooLong: P12.1, one record too many, and too many bytes.
func TestTextsTooLong(t *testing.T) {
	long := plainText([]api.Rec{{Key: api.Key{A: math.MinInt64, B: strings.Repeat("x", api.MaxText)}, Val: math.MinInt64}})
	for i := range 3 {
		for _, n := range []int{65, 66, 128, 320, 1000} {
			wantForm(t, withText(i, plainText(records(n))))
			wantForm(t, withText(i, strings.Repeat("\x00\x00\x00", n)))
			wantForm(t, withText(i, strings.Repeat(long, n)))
		}
		for _, n := range []int{api.MaxSplit - 1, api.MaxSplit, api.MaxSplit + 1, 3 * api.MaxSplit, 1 << 20} {
			wantForm(t, withText(i, strings.Repeat("\x00", n)))
			wantForm(t, withText(i, strings.Repeat("\xff", n)))
		}
	}
}

// TestEachFieldAlone: P12.1, what is wrong with the last split is found as what is with the first, and no split is looked at for another.
func TestEachFieldAlone(t *testing.T) {
	full := func() api.Config {
		c := withIDs(1, 2, 3, 4, 5, 6)
		c.Sites = 3
		return c
	}
	wantStands(t, full())
	for i := range 6 {
		for _, spoil := range []func(s *api.Split){func(s *api.Split) { s.ID = 0 }, func(s *api.Split) { s.ID = mostID + 1 }, func(s *api.Split) { s.Text += "\x00" }, func(s *api.Split) { s.Text = strings.Repeat(s.Text, 65) }, func(s *api.Split) { s.Sites = nil }, func(s *api.Split) { s.Sites = []int{4} }, func(s *api.Split) { s.Sites = []int{2, 1} }} {
			c := full()
			spoil(&c.Splits[i])
			wantForm(t, c)
		}
	}
}

// TestFind: P12.1, written out.
func TestFind(t *testing.T) {
	c := config()
	for _, want := range c.Splits {
		wantFind(t, c, want.ID, want, api.OK)
	}
	for _, id := range []int{1, 4, 6, 8, 299, 301, mostID - 1, mostID + 1, 0, -1, -2, -7, math.MinInt, math.MaxInt, 1<<32 + 2} {
		wantFind(t, c, id, api.Split{}, api.ErrNone)
	}
	wantFind(t, withIDs(5), 5, api.Split{ID: 5, Text: "\x00\x00\x00", Sites: []int{1}}, api.OK)
	wantFind(t, withSites(2, 1, 2), 1, api.Split{ID: 1, Sites: []int{1}}, api.OK)
}

// TestNext: P12.1, written out, with the chapter's example: next behind the last is the first.
func TestNext(t *testing.T) {
	c := config()
	for _, x := range []struct {
		id   int
		want [4]int // behind 0, 1, 2 and 3
	}{
		{2, [4]int{1, 3, 3, 1}},
		{3, [4]int{2, 2, 2, 2}},
		{7, [4]int{1, 2, 3, 1}},
		{300, [4]int{3, 3, 3, 3}},
		{mostID, [4]int{1, 2, 1, 1}},
	} {
		for site, want := range x.want {
			wantNext(t, c, x.id, site, want, api.OK)
		}
	}
	for site := range 4 {
		wantNext(t, c, 4, site, 0, api.ErrNone)
		wantNext(t, c, 0, site, 0, api.ErrNone)
	}
	wantNext(t, withSites(3, 2, 3), 2, 0, 2, api.OK)
	wantNext(t, withSites(3, 2, 3), 2, 1, 2, api.OK)
	wantNext(t, withSites(3, 2, 3), 2, 3, 2, api.OK)
	wantNext(t, withSites(1, 1), 2, 1, 1, api.OK)
}

// TestNextOutside: P12.1, sites are those of the configuration, whatever the split has; and ErrForm is ahead of ErrNone (R4).
func TestNextOutside(t *testing.T) {
	for sites := 1; sites <= 3; sites++ {
		for _, id := range []int{1, 2, 3, 0, -1, mostID + 1} {
			for _, site := range append(farSites(), sites+1) {
				wantNext(t, withSites(sites, 1), id, site, 0, api.ErrForm)
				wantNext(t, withSites(sites, sites), id, site, 0, api.ErrForm)
			}
		}
		wantNext(t, withSites(sites, 1), 2, sites, 1, api.OK)
		wantNext(t, withSites(sites, 1), 3, sites, 0, api.ErrNone)
	}
}

// TestRecs: P12.2, no IDs, one, the same one twice, many in any order, splits without records, and one that there is none of.
func TestRecs(t *testing.T) {
	c := config()
	five, one, all, last := records(5), records(1), records(64), records(9)[4:]
	for _, x := range []struct {
		l    []int
		want []api.Rec
		bad  api.Errno
	}{
		{nil, nil, api.OK},
		{[]int{}, nil, api.OK},
		{[]int{2}, five, api.OK},
		{[]int{3}, nil, api.OK},
		{[]int{3, 3, 3}, nil, api.OK},
		{[]int{300}, all, api.OK},
		{[]int{2, 2}, slices.Concat(five, five), api.OK},
		{[]int{7, 3, 7}, slices.Concat(one, one), api.OK},
		{[]int{2, 7}, slices.Concat(five, one), api.OK},
		{[]int{7, 2}, slices.Concat(one, five), api.OK},
		{[]int{mostID, 300, 7, 3, 2}, slices.Concat(last, all, one, five), api.OK},
		{[]int{7, mostID, 2, 7, 3, 300, mostID}, slices.Concat(one, last, five, one, all, last), api.OK},
		{[]int{4}, nil, api.ErrNone},
		{[]int{0}, nil, api.ErrNone},
		{[]int{-2}, nil, api.ErrNone},
		{[]int{mostID + 1}, nil, api.ErrNone},
		{[]int{4, 2}, nil, api.ErrNone},
		{[]int{2, 4}, nil, api.ErrNone},
		{[]int{2, 7, 4, 300}, nil, api.ErrNone},
		{[]int{3, 3, 8}, nil, api.ErrNone},
		{[]int{1<<32 + 2}, nil, api.ErrNone},
		{[]int{math.MinInt, math.MaxInt}, nil, api.ErrNone},
	} {
		wantRecs(t, c, x.l, x.want, x.bad)
	}
	many := slices.Repeat([]int{300, 3, 2}, 200)
	wantRecs(t, c, many, slices.Repeat(slices.Concat(all, five), 200), api.OK)
	wantRecs(t, c, append(many, 301), nil, api.ErrNone)
}

// TestRecsOfAllShortLists: P12.2, all lists of up to four IDs, in each order, held to the second reading.
func TestRecsOfAllShortLists(t *testing.T) {
	c := config()
	for n := range 5 {
		eachList(n, []int{2, 3, 7, mostID, 4}, func(l []int) {
			var want []api.Rec
			bad := api.OK
			for _, id := range l {
				s, is := plainFind(c, id)
				if !is {
					want, bad = nil, api.ErrNone
					break
				}
				recs, _ := plainRecs(s.Text)
				want = append(want, recs...)
			}
			wantRecs(t, c, l, want, bad)
		})
	}
}

// TestFormAheadOfNone: R4, ErrForm of a configuration of which only a split is wrong that is not asked for.
func TestFormAheadOfNone(t *testing.T) {
	for i := range config().Splits {
		c := config()
		c.Splits[i].Text += "\x80"
		for _, id := range []int{2, 3, 7, 300, mostID, 4, 0} {
			wantFind(t, c, id, api.Split{}, api.ErrForm)
			wantRecs(t, c, []int{id}, nil, api.ErrForm)
			wantRecs(t, c, []int{2, id}, nil, api.ErrForm)
			for site := -1; site <= 4; site++ {
				wantNext(t, c, id, site, 0, api.ErrForm)
			}
		}
		wantRecs(t, c, nil, nil, api.ErrForm)
	}
}

// TestEachSiteComes: P12.3, from wherever it begins: each site that has it once a turn, in the same order each turn, and no other.
func TestEachSiteComes(t *testing.T) {
	for sites := 1; sites <= 3; sites++ {
		for have := 1; have < 1<<sites; have++ {
			var at []int
			for n := range sites {
				if have>>n&1 == 1 {
					at = append(at, n+1)
				}
			}
			c := withSites(sites, at...)
			for begin := range sites + 1 {
				site := begin
				var came []int
				for range 5 * len(at) {
					n, e := split.Next(c, 2, site)
					if e != api.OK {
						t.Fatalf("Next of %v behind %d: %d", at, site, e)
					}
					came, site = append(came, n), n
				}
				for turn := 0; turn < len(came); turn += len(at) {
					if one := came[turn : turn+len(at)]; !slices.Equal(slices.Sorted(slices.Values(one)), at) || !slices.Equal(one, came[:len(at)]) {
						t.Errorf("of %v, from %d on, there came %v", at, begin, came)
					}
				}
			}
		}
	}
}

// roomy has room behind its splits, and behind their sites, filled with what is known.
func roomy(c api.Config) api.Config {
	room := slices.Repeat([]api.Split{{ID: 77, Text: "room", Sites: []int{77}}}, len(c.Splits)+4)
	copy(room, c.Splits)
	for i, s := range c.Splits {
		sites := slices.Repeat([]int{77}, len(s.Sites)+4)
		copy(sites, s.Sites)
		room[i].Sites = sites[:len(s.Sites)]
	}
	c.Splits = room[:len(c.Splits)]
	return c
}

// wholly is all that is there, also behind the lengths.
func wholly(c api.Config) api.Config {
	c.Splits = slices.Clone(c.Splits[:cap(c.Splits)])
	for i, s := range c.Splits {
		c.Splits[i].Sites = slices.Clone(s.Sites[:cap(s.Sites)])
	}
	return c
}

// TestHandedInStays: R2, splits, their sites, IDs, and the room behind them, beside errors, too.
func TestHandedInStays(t *testing.T) {
	for _, c := range []api.Config{config(), withSites(3, 1, 2, 3), withSites(3, 3, 2, 1), withIDs(6, 5, 4), withIDs(6, 6), withText(2, "x"), withIDs(1, 2, 3, 4, 5, 6, 7), {}, with(func(c *api.Config) { c.Sites = 9 })} {
		c = roomy(c)
		was := wholly(c)
		ids := append(make([]int, 0, 9), 7, 2, 300, 2)
		copy(ids[4:9], []int{5, 5, 5, 5, 5})
		for _, id := range around(c) {
			ids[3] = id
			had := slices.Clone(ids[:9])
			split.Check(c)
			split.Find(c, id)
			for site := -1; site <= 4; site++ {
				split.Next(c, id, site)
			}
			split.Recs(c, ids...)
			split.Recs(c, ids[:0]...)
			if !same(wholly(c), was) || !slices.Equal(ids[:9], had) {
				t.Fatalf("%s became %s, and %v %v", brief(was), brief(wholly(c)), had, ids[:9])
			}
		}
	}
}

// spoilt writes over all sites, and the room behind them.
func spoilt(l []int) {
	for i := range l[:cap(l)] {
		l[:cap(l)][i] = -99
	}
}

// TestFindIsNew: R2, a split's sites are of its own: changed, or appended to, they change nothing else, nor are they changed.
func TestFindIsNew(t *testing.T) {
	for i, want := range config().Splits {
		c := roomy(config())
		was := wholly(c)
		first, _ := split.Find(c, want.ID)
		second, e := split.Find(c, want.ID)
		if e != api.OK || !sameSplit(first, want) {
			t.Fatalf("%s, %d", brief(first), e)
		}
		first.Sites = append(first.Sites, -5)
		spoilt(first.Sites)
		spoilt(append(first.Sites[:0], 9))
		if !same(wholly(c), was) || !sameSplit(second, want) {
			t.Errorf("%d: Find shares what it tells: %s, %s", i, brief(c), brief(second))
		}
		third, _ := split.Find(c, want.ID)
		for j := range c.Splits {
			spoilt(c.Splits[j].Sites)
			c.Splits[j] = api.Split{ID: -99, Text: "spoilt"}
		}
		if !sameSplit(second, want) || !sameSplit(third, want) {
			t.Errorf("%d: Find tells what was handed in: %s, %s", i, brief(second), brief(third))
		}
	}
}

// TestFoundBesideOthers: R2, sites that two splits share where they are handed in are not shared where they are told.
func TestFoundBesideOthers(t *testing.T) {
	at := []int{1, 2, 3}
	c := api.Config{Sites: 3, Again: 1, Over: 16, Splits: []api.Split{{ID: 1, Sites: at}, {ID: 2, Sites: at}, {ID: 3, Sites: at[:2]}}}
	wantStands(t, c)
	one, _ := split.Find(c, 1)
	two, _ := split.Find(c, 2)
	three, _ := split.Find(c, 3)
	three.Sites = append(three.Sites, -1)
	spoilt(one.Sites)
	if !slices.Equal(two.Sites, []int{1, 2, 3}) || !slices.Equal(three.Sites, []int{1, 2, -1}) || !slices.Equal(at, []int{1, 2, 3}) {
		t.Errorf("%v, %v, %v", two.Sites, three.Sites, at)
	}
}

// TestRecsAreNew: R2, also of one split asked for twice.
func TestRecsAreNew(t *testing.T) {
	c := config()
	for _, ids := range [][]int{{2}, {2, 2}, {7, 3, 300}, {mostID, 2, 7}} {
		first, _ := split.Recs(c, ids...)
		second, _ := split.Recs(c, ids...)
		want := slices.Clone(second)
		first[0] = api.Rec{Val: -99}
		if len(first) > 1 && !slices.Equal(first[1:], want[1:]) {
			t.Errorf("of %v records share: %s", ids, brief(first))
		}
		clear(first[:cap(first)])
		if !slices.Equal(second, want) {
			t.Errorf("of %v two answers share: %s", ids, brief(second))
		}
		_ = append(second, api.Rec{Val: -98})
		wantRecs(t, c, ids, want, api.OK)
		ids[0] = -1
		if !slices.Equal(second, want) {
			t.Errorf("Recs keeps what was handed in: %s", brief(second))
		}
	}
}

// TestSameAgain: R1, the same call tells the same, whatever other configurations came between.
func TestSameAgain(t *testing.T) {
	a, b := withIDs(2, 5), config()
	for range 3 {
		wantStands(t, a)
		wantStands(t, b)
		wantForm(t, withIDs(2, 2))
		wantStands(t, clone(a))
		c := clone(b)
		c.Splits[0].Text = ""
		c.Splits[0].Sites[0] = 2
		wantStands(t, c)
		wantNext(t, c, 2, 0, 2, api.OK)
		wantNext(t, b, 2, 0, 1, api.OK)
	}
}

// maker makes what is asked for by a fixed rule.
type maker struct{ u uint64 }

func (m *maker) pick(n int) int {
	m.u = m.u*6364136223846793005 + 1442695040888963407
	return int(m.u >> 33 % uint64(n))
}

// config is one that may be, with one thing changed now and then.
func (m *maker) config() api.Config {
	c := api.Config{Sites: 1 + m.pick(3), Again: 1 + m.pick(16)}
	c.Over = max(16, 2*c.Again) + m.pick(33)
	for range m.pick(7) {
		s := api.Split{ID: 1 + m.pick(9)}
		if n := len(c.Splits); n > 0 {
			s.ID += c.Splits[n-1].ID
		}
		s.Text = plainText(records(m.pick(5)))
		for n := range c.Sites {
			if m.pick(2) == 1 || n+1 == c.Sites && len(s.Sites) == 0 {
				s.Sites = append(s.Sites, n+1)
			}
		}
		c.Splits = append(c.Splits, s)
	}
	return c
}

func (m *maker) change(c *api.Config) {
	n := m.pick(20) - 2
	switch k := m.pick(7); {
	case k == 0:
		c.Sites = n
	case k == 1:
		c.Again = n
	case k == 2:
		c.Over = 5 * n
	case len(c.Splits) == 0:
	case k == 3:
		c.Splits[m.pick(len(c.Splits))].ID = n
	case k == 4:
		s := &c.Splits[m.pick(len(c.Splits))]
		s.Sites[m.pick(len(s.Sites))] = n % 5
	case k == 5:
		s := &c.Splits[m.pick(len(c.Splits))]
		s.Text = s.Text[:m.pick(len(s.Text)+1)] + string([]byte{byte(n)})
	default:
		i, j := m.pick(len(c.Splits)), m.pick(len(c.Splits))
		c.Splits[i], c.Splits[j] = c.Splits[j], c.Splits[i]
	}
}

// TestAtRandom holds many configurations, some with something changed, to the second reading.
func TestAtRandom(t *testing.T) {
	m := &maker{u: 12}
	may, not := 0, 0
	for range 1000 {
		c := m.config()
		wantStands(t, c)
		m.change(&c)
		if wantAsRead(t, c) {
			may++
		} else {
			not++
		}
	}
	if may < 100 || not < 100 {
		t.Errorf("%d may be, %d may not", may, not)
	}
}
