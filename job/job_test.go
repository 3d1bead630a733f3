package job_test

import (
	"fmt"
	"math"
	"slices"
	"strings"
	"testing"

	"thresher/api"
	"thresher/job"
	"thresher/local"
	"thresher/part"
	"thresher/row"
	"thresher/split"
)

const (
	mostID   = 1 << 20
	least    = int64(math.MinInt64)
	greatest = int64(math.MaxInt64)
)

// way is how it is gathered, with a bound.
type way struct{ agg, bound int }

var (
	sums   = way{api.AggSum, 0}
	counts = way{api.AggCount, 0}
	mins   = way{api.AggMin, 0}
	maxes  = way{api.AggMax, 0}
	ors    = way{api.AggOr, 0}
)

func sets(bound int) way { return way{api.AggSet, bound} }

func goodWays() []way {
	l := []way{sums, counts, mins, maxes, ors}
	for bound := 1; bound <= api.MaxBound; bound++ {
		l = append(l, sets(bound))
	}
	return l
}

// someWays is each way, and a few bounds.
func someWays() []way {
	return []way{sums, counts, mins, maxes, ors, sets(1), sets(2), sets(3), sets(api.MaxBound)}
}

func badWays() []way {
	l := []way{sets(0), sets(-1), sets(api.MaxBound + 1), sets(math.MinInt), sets(math.MaxInt), sets(1<<32 + 1), sets(1<<8 + 1)}
	for _, w := range []way{sums, counts, mins, maxes, ors} {
		for _, bound := range []int{1, -1, 2, api.MaxBound, math.MinInt, math.MaxInt, 1 << 32, 1 << 8} {
			l = append(l, way{w.agg, bound})
		}
	}
	for _, agg := range []int{api.AggNone, -1, api.AggSet + 1, -api.AggSet, math.MinInt, math.MaxInt, 1<<32 + api.AggSum, 1<<8 + api.AggSet} {
		for _, bound := range []int{0, 1, -1, api.MaxBound, api.MaxBound + 1} {
			l = append(l, way{agg, bound})
		}
	}
	return l
}

func badIDs() []int {
	return []int{0, -1, mostID + 1, mostID + 2, -mostID, 1 << 21, math.MinInt, math.MaxInt, 1 << 32, 1<<32 + 1, -1<<32 + 5, math.MinInt + 4}
}

func badFuels() []int {
	return []int{-1, api.MaxFuel + 1, -api.MaxFuel, math.MinInt, math.MaxInt, 1 << 32, 1<<32 + 9, 1<<16 + 9, 1<<8*9 + 1, -1 << 32, math.MinInt + 9}
}

func badParts() []int {
	return []int{0, -1, api.MaxParts + 1, -api.MaxParts, 16, 1 << 8, 1<<8 + 1, 1 << 32, 1<<32 + 1, -1<<32 + 1, math.MinInt, math.MaxInt, math.MinInt + 1}
}

// badSplits are lists of them that may not be.
func badSplits() [][]int {
	all := [][]int{nil, {}, {1, 1}, {2, 1}, {1, 3, 2}, {2, 1, 3}, {1, 2, 2}, {1, 1, 2}, {1, 2, 1}, {1, 2, 3, 4, 5, 5}, {6, 5, 4, 3, 2, 1}, {1, 2, 3, 4, 5, 6, 7}, {1, 2, 3, 4, 5, 6, 6}, {0, 1}, {-1, 0}, {-1, 1}, {mostID, mostID + 1}, {mostID, 1}, {2, 70, 300, 301, 302, mostID + 1}}
	for _, id := range badIDs() {
		all = append(all, []int{id}, []int{1, id}, []int{id, 5}, []int{1, id, 5})
	}
	return append(all, upTo(7), upTo(8), upTo(64), upTo(256), upTo(257), upTo(1<<16+1))
}

// upTo is 1 to n.
func upTo(n int) (l []int) {
	for i := range n {
		l = append(l, i+1)
	}
	return l
}

func rec(a int64, b string, v int64) api.Rec { return api.Rec{Key: api.Key{A: a, B: b}, Val: v} }

// config has splits with several records, with one, and with none, at the ends of what an ID may be and between.
func config() api.Config {
	return api.Config{Sites: 3, Again: 5, Over: 20, Splits: []api.Split{
		{ID: 1, Text: plainText(rec(1, "x", 10), rec(2, "y", -4), rec(1, "x", 7), rec(-3, "", 0)), Sites: []int{1, 3}},
		{ID: 2, Text: "", Sites: []int{2}},
		{ID: 70, Text: plainText(rec(2, "y", 5)), Sites: []int{1, 2, 3}},
		{ID: 300, Text: plainText(rec(greatest, "\xff", least), rec(1, "x", -4), rec(0, "", 63)), Sites: []int{3}},
		{ID: mostID, Text: plainText(rec(1, "x", 10), rec(1, "xx", 64)), Sites: []int{1, 2}},
	}}
}

// made has a split of each list of records, from 1 on.
func made(l ...[]api.Rec) api.Config {
	c := api.Config{Sites: 1, Again: 1, Over: 16}
	for i, recs := range l {
		c.Splits = append(c.Splits, api.Split{ID: i + 1, Text: plainText(recs...), Sites: []int{1}})
	}
	return c
}

func good() api.Job {
	return api.Job{ID: 4, Prog: "a v emit", Agg: api.AggSum, Fuel: 100, Splits: []int{1, 70, mostID}, Parts: 2}
}

// with is the good job, changed.
func with(change func(j *api.Job)) api.Job {
	j := good()
	change(&j)
	return j
}

// program is a job of the first so many splits that runs it with all the fuel there may be.
func program(w way, s string, splits int, parts int) api.Job {
	return api.Job{ID: 9, Prog: s, Agg: w.agg, Bound: w.bound, Fuel: api.MaxFuel, Splits: upTo(splits), Parts: parts}
}

func same(a, b api.Job) bool {
	return a.ID == b.ID && a.Prog == b.Prog && a.Agg == b.Agg && a.Bound == b.Bound && a.Fuel == b.Fuel && slices.Equal(a.Splits, b.Splits) && a.Parts == b.Parts
}

// brief is some of what it is, to be read in a report.
func brief(what any) string {
	s := fmt.Sprintf("%q", fmt.Sprint(what))
	return s[:min(len(s), 300)]
}

func wantTake(t *testing.T, s string, want api.Job, bad api.Errno) {
	t.Helper()
	if j, e := job.Take(s); !same(j, want) || e != bad {
		t.Errorf("Take(%q): %s, %d, not %s, %d", s[:min(len(s), 100)], brief(j), e, brief(want), bad)
	}
}

// wantTaken holds Take to the second reading; what it took is written so.
func wantTaken(t *testing.T, s string) api.Errno {
	t.Helper()
	want, bad := plainTake(s)
	wantTake(t, s, want, bad)
	if bad == api.OK {
		if b, e := job.Bytes(want); b != s || e != api.OK {
			t.Errorf("Bytes(%s): %q, %d, not %q", brief(want), b, e, s)
		}
	}
	return bad
}

// wantStands is of a job that may be.
func wantStands(t *testing.T, j api.Job) {
	t.Helper()
	if e := job.Check(j); e != api.OK {
		t.Errorf("Check(%s): %d", brief(j), e)
	}
	want := plainBytes(j)
	if s, e := job.Bytes(j); s != want || e != api.OK {
		t.Errorf("Bytes(%s): %q, %d, not %q", brief(j), s[:min(len(s), 100)], e, want[:min(len(want), 100)])
	}
	wantTake(t, want, j, api.OK)
}

// wantForm is of a job that may not be, whatever the configuration.
func wantForm(t *testing.T, j api.Job) {
	t.Helper()
	if e := job.Check(j); e != api.ErrForm {
		t.Errorf("Check(%s): %d", brief(j), e)
	}
	if s, e := job.Bytes(j); s != "" || e != api.ErrForm {
		t.Errorf("Bytes(%s): %q, %d", brief(j), s[:min(len(s), 100)], e)
	}
	for _, c := range []api.Config{config(), {}} {
		wantNot(t, c, j, api.ErrForm)
	}
	wantTake(t, plainBytes(j), api.Job{}, api.ErrBad)
}

// wantNot is of a job that is not valid.
func wantNot(t *testing.T, c api.Config, j api.Job, bad api.Errno) {
	t.Helper()
	if e := job.Valid(c, j); e != bad {
		t.Errorf("Valid(%s, %s): %d, not %d", brief(c), brief(j), e, bad)
	}
	wantWhole(t, c, j, "", bad, bad)
}

func wantWhole(t *testing.T, c api.Config, j api.Job, want string, bad api.Errno, codes ...api.Errno) {
	t.Helper()
	if s, e := job.Whole(c, j); s != want || e != bad {
		t.Errorf("Whole(%s, %s): %q, %d, not %q, %d", brief(c), brief(j), s[:min(len(s), 100)], e, want[:min(len(want), 100)], bad)
	}
	var l []int
	for _, e := range codes {
		l = append(l, int(e))
	}
	if told := job.Codes(c, j); !slices.Equal(told, l) {
		t.Errorf("Codes(%s, %s): %v, not %v", brief(c), brief(j), told, l)
	}
}

// wantAsRead holds Valid, Whole and Codes to the second reading, and what follows; it tells how it ended.
func wantAsRead(t *testing.T, c api.Config, j api.Job) api.Errno {
	t.Helper()
	valid := plainValid(c, j)
	if e := job.Valid(c, j); e != valid {
		t.Errorf("Valid(%s, %s): %d, not %d", brief(c), brief(j), e, valid)
	}
	want, bad := plainWhole(c, j)
	var codes []api.Errno
	for _, code := range plainCodes(c, j) {
		codes = append(codes, api.Errno(code))
	}
	wantWhole(t, c, j, want, bad, codes...)
	if (bad == api.OK) != (len(codes) == 0) || bad != api.OK && bad != api.ErrBound && !slices.Contains(codes, bad) {
		t.Errorf("%s, %s: Whole tells %d, Codes %v", brief(c), brief(j), bad, codes)
	}
	return bad
}

// TestExample: the chapter's, and others that are none.
func TestExample(t *testing.T) {
	for _, s := range []string{"zz", "a v emit zz", "a v emit ]", "if v", "rep", "08", "-0", "A", "a,v", "\t", "a\x00", "9223372036854775808"} {
		want := api.ErrBad
		if s == "rep" {
			want = api.ErrCut
		}
		j := with(func(j *api.Job) { j.Prog = s })
		wantStands(t, j)
		wantNot(t, config(), j, want)
	}
}

// TestOrdinary: a job, its bytes, and what comes of it, written out.
func TestOrdinary(t *testing.T) {
	j := good()
	s := "\x08\x10a v emit\x02\x00\xc8\x01\x06\x02\x8c\x01\x80\x80\x80\x01\x04"
	if s != plainBytes(j) {
		t.Fatalf("%q", plainBytes(j))
	}
	wantStands(t, j)
	if e := job.Valid(config(), j); e != api.OK {
		t.Errorf("%d", e)
	}
	rows := []api.Row{{Key: api.Key{A: -3}}, {Key: api.Key{A: 1, B: "x"}, Cell: api.Cell{N: 27}}, {Key: api.Key{A: 1, B: "xx"}, Cell: api.Cell{N: 64}}, {Key: api.Key{A: 2, B: "y"}, Cell: api.Cell{N: 1}}}
	for parts := 1; parts <= api.MaxParts; parts++ {
		j.Parts = parts
		want, e := part.Output(api.AggSum, 0, parts, rows)
		if e != api.OK || len(want) == 0 {
			t.Fatalf("%q, %d", want, e)
		}
		wantWhole(t, config(), j, want, api.OK)
		wantAsRead(t, config(), j)
	}
	j.Parts = 1
	wantWhole(t, config(), j, plainFrame("\x05\x00\x00\x02\x02x\x36\x02\x04xx\x80\x01\x04\x02y\x02"), api.OK)
}

// TestIDs: its ends, and just outside, and far away.
func TestIDs(t *testing.T) {
	for _, id := range []int{1, 2, 63, 64, 255, 256, 257, 1<<16 + 1, mostID - 1, mostID} {
		j := with(func(j *api.Job) { j.ID = id })
		wantStands(t, j)
		if wantAsRead(t, config(), j) != api.OK {
			t.Errorf("%d is not valid", id)
		}
	}
	for _, id := range badIDs() {
		wantForm(t, with(func(j *api.Job) { j.ID = id }))
	}
}

// TestPrograms: as long as may be, one byte more, and much more; any bytes may be in a job, though not in a program.
func TestPrograms(t *testing.T) {
	for _, n := range []int{0, 1, 2, 63, 64, 127, 128, 255, 256, 257, api.MaxProg - 1, api.MaxProg} {
		for _, s := range []string{" ", "\n", "z", "\x00", "\xff", "ä"} {
			j := with(func(j *api.Job) { j.Prog = strings.Repeat(s, n)[:n] })
			wantStands(t, j)
			if e := wantAsRead(t, config(), j); (e == api.OK) != (n == 0 || strings.TrimSpace(s) == "") {
				t.Errorf("%d times %q: %d", n, s, e)
			}
		}
		if n > 8 {
			j := with(func(j *api.Job) { j.Prog = strings.Repeat(" ", n-8) + "a v emit" })
			wantStands(t, j)
			want, _ := plainWhole(config(), good())
			wantWhole(t, config(), j, want, api.OK)
		}
	}
	for _, n := range []int{api.MaxProg + 1, api.MaxProg + 2, 2 * api.MaxProg, 1 << 16, 1<<16 + 8, 1 << 20} {
		for _, s := range []string{" ", "z"} {
			wantForm(t, with(func(j *api.Job) { j.Prog = strings.Repeat(s, n) }))
		}
		wantForm(t, with(func(j *api.Job) { j.Prog = "a v emit" + strings.Repeat(" ", n-8) }))
	}
}

// TestWays: each of the six with each bound, and those that may not be.
func TestWays(t *testing.T) {
	for _, w := range goodWays() {
		j := with(func(j *api.Job) { j.Agg, j.Bound = w.agg, w.bound })
		wantStands(t, j)
		wantAsRead(t, config(), j)
	}
	for _, w := range badWays() {
		wantForm(t, with(func(j *api.Job) { j.Agg, j.Bound = w.agg, w.bound }))
	}
	for agg := -3; agg <= 10; agg++ {
		for bound := -3; bound <= api.MaxBound+3; bound++ {
			j := with(func(j *api.Job) { j.Agg, j.Bound = agg, bound })
			if plainWay(way{agg, bound}) {
				wantStands(t, j)
			} else {
				wantForm(t, j)
			}
		}
	}
}

// TestFuel: its ends, and outside of them.
func TestFuel(t *testing.T) {
	for _, fuel := range []int{0, 1, 2, 3, 4, 63, 64, 255, 256, 257, api.MaxFuel - 1, api.MaxFuel} {
		j := with(func(j *api.Job) { j.Fuel = fuel })
		wantStands(t, j)
		if e := wantAsRead(t, config(), j); (e == api.OK) != (fuel >= 3) || fuel < 3 && e != api.ErrFuel {
			t.Errorf("with %d: %d", fuel, e)
		}
	}
	for _, fuel := range badFuels() {
		wantForm(t, with(func(j *api.Job) { j.Fuel = fuel }))
	}
}

// TestParts: as many as may be, and not.
func TestParts(t *testing.T) {
	for parts := 1; parts <= api.MaxParts; parts++ {
		j := with(func(j *api.Job) { j.Parts = parts })
		wantStands(t, j)
		s, e := job.Whole(config(), j)
		if rows, bad := part.Read(j.Agg, j.Bound, parts, s); e != api.OK || bad != api.OK || len(rows) != 4 {
			t.Errorf("%d partitions: %q, %d, %d, %v", parts, s, e, bad, rows)
		}
	}
	for _, parts := range badParts() {
		wantForm(t, with(func(j *api.Job) { j.Parts = parts }))
	}
}

// TestSplits: none, as many as may be, one more; not rising, twice, and at the ends of what each may be.
func TestSplits(t *testing.T) {
	good := [][]int{{1}, {2}, {mostID}, {mostID - 1}, {1, mostID}, {63, 64, 65}, {255, 256, 257}, {1, 2, 3, 4, 5, mostID}, {mostID - 5, mostID - 4, mostID - 3, mostID - 2, mostID - 1, mostID}}
	for n := 1; n <= api.MaxSplits; n++ {
		good = append(good, upTo(n))
	}
	for _, l := range good {
		wantStands(t, with(func(j *api.Job) { j.Splits = l }))
	}
	for _, l := range badSplits() {
		j := with(func(j *api.Job) { j.Splits = l })
		if len(l) < 1<<16 || plainMayBe(j) {
			wantForm(t, j)
		} else if e := job.Check(j); e != api.ErrForm {
			t.Errorf("%d splits: %d", len(l), e)
		}
	}
}

// eachList calls it with each list of up to n of these.
func eachList[T any](n int, of []T, do func([]T)) {
	var grow func(l []T)
	grow = func(l []T) {
		do(slices.Clone(l))
		if len(l) == n {
			return
		}
		for _, x := range of {
			grow(append(slices.Clone(l), x))
		}
	}
	grow(nil)
}

// TestAllShortSplits: every list of up to four of some, against what is sorted.
func TestAllShortSplits(t *testing.T) {
	may := 0
	eachList(4, []int{-1, 0, 1, 2, 3, mostID - 1, mostID, mostID + 1}, func(l []int) {
		j := with(func(j *api.Job) { j.Splits = l })
		if plainMayBe(j) {
			wantStands(t, j)
			may++
		} else {
			wantForm(t, j)
		}
	})
	if may != 5+10+10+5 {
		t.Errorf("%d may be", may)
	}
}

// farNumbers are no length and no number of splits, above or below most.
func farNumbers(most int) []int {
	return []int{-1, -2, most + 1, most + 2, -most, math.MinInt, math.MaxInt, 1 << 32, 1<<32 + 1, 1<<32 + most, 1<<16 + 1, 1<<10 + 1, -1<<32 + 1, math.MinInt + 1}
}

// someJobs are of different lengths.
func someJobs() []api.Job {
	return []api.Job{
		good(), {ID: 1, Agg: api.AggSum, Splits: []int{1}, Parts: 1}, {ID: mostID, Prog: strings.Repeat("v pop\n", 20), Agg: api.AggSet, Bound: api.MaxBound, Fuel: api.MaxFuel, Splits: []int{1, 64, 300, mostID - 2, mostID - 1, mostID}, Parts: api.MaxParts},
		{ID: 64, Prog: "\xff\x00\x80", Agg: api.AggOr, Fuel: 64, Splits: []int{63, 64}, Parts: 8}, program(sets(1), "", 6, 3),
	}
}

// TestTakeCutOff: at each place, and with a byte behind.
func TestTakeCutOff(t *testing.T) {
	for _, j := range append(someJobs(), with(func(j *api.Job) { j.Prog = strings.Repeat("x", api.MaxProg) })) {
		s := plainBytes(j)
		for i := range len(s) {
			wantTake(t, s[:i], api.Job{}, api.ErrCut)
		}
		for b := range 256 {
			wantTake(t, s+string([]byte{byte(b)}), api.Job{}, api.ErrBad)
		}
		wantTake(t, s+s, api.Job{}, api.ErrBad)
		wantTake(t, s, j, api.OK)
	}
}

// TestTakeTurned: each byte, to each other one.
func TestTakeTurned(t *testing.T) {
	ends := map[api.Errno]int{}
	for _, j := range someJobs() {
		s := plainBytes(j)
		for i := range len(s) {
			for b := range 256 {
				turned := s[:i] + string([]byte{byte(b)}) + s[i+1:]
				ends[wantTaken(t, turned)]++
				if i+4 < len(s) {
					wantTaken(t, turned[:len(s)-3])
				}
			}
		}
	}
	for _, e := range []api.Errno{api.OK, api.ErrCut, api.ErrBad} {
		if ends[e] < 100 {
			t.Errorf("too few end in %d: %v", e, ends)
		}
	}
}

// TestTakeLonger: a number that is written longer than it need be, or too long, wherever it stands, whatever is behind it.
func TestTakeLonger(t *testing.T) {
	for _, j := range someJobs() {
		l := plainPieces(j)
		if strings.Join(l, "") != plainBytes(j) {
			t.Fatalf("%q is not %q", l, plainBytes(j))
		}
		for i, piece := range l {
			if i == 2 {
				continue
			}
			last := len(piece) - 1
			for _, longer := range []string{piece[:last] + string([]byte{piece[last] | 0x80, 0}), piece[:last] + string([]byte{piece[last] | 0x80, 0x80, 0}), "\x80\x00", strings.Repeat("\x80", 9) + "\x02", strings.Repeat("\xff", 9) + "\x02", strings.Repeat("\xff", 10) + "\x01"} {
				ahead, behind := strings.Join(l[:i], "")+longer, strings.Join(l[i+1:], "")
				wantTake(t, ahead, api.Job{}, api.ErrBad)
				wantTake(t, ahead+behind, api.Job{}, api.ErrBad)
				wantTake(t, ahead+"\x80", api.Job{}, api.ErrBad)
			}
			for _, cut := range []string{"", "\x80", "\xff\xff", strings.Repeat("\x80", 9)} {
				wantTake(t, strings.Join(l[:i], "")+cut, api.Job{}, api.ErrCut)
			}
		}
	}
}

// TestTakeSizes: a length and a number of splits, below 0 and above the limit, as soon as it is; at the limit what follows counts.
func TestTakeSizes(t *testing.T) {
	toSplits := numbers(4, 1) + "v" + numbers(api.AggSum, 0, 9)
	for _, n := range farNumbers(api.MaxProg) {
		for _, ahead := range []string{numbers(4), numbers(0), numbers(math.MinInt)} {
			for _, behind := range []string{"", "\x80", strings.Repeat(" ", api.MaxProg+2) + numbers(1, 0, 9, 1, 1, 1)} {
				wantTake(t, ahead+numbers(n)+behind, api.Job{}, api.ErrBad)
			}
		}
	}
	for _, n := range append(farNumbers(api.MaxSplits), api.MaxSplits+3, 64, 1<<8+1) {
		for _, behind := range []string{"", "\x80", numbers(upTo(9)...)} {
			wantTake(t, toSplits+numbers(n)+behind, api.Job{}, api.ErrBad)
		}
	}
	for n := range api.MaxSplits + 1 {
		s := toSplits + numbers(n) + numbers(upTo(n)...)
		wantTake(t, toSplits+numbers(n), api.Job{}, api.ErrCut)
		wantTake(t, s, api.Job{}, api.ErrCut)
		if n > 0 {
			wantTake(t, s+numbers(8), api.Job{ID: 4, Prog: "v", Agg: api.AggSum, Fuel: 9, Splits: upTo(n), Parts: 8}, api.OK)
			wantTake(t, s[:len(s)-1], api.Job{}, api.ErrCut)
		} else {
			wantTake(t, s+numbers(8), api.Job{}, api.ErrBad)
		}
	}
	for n := range 20 {
		n += api.MaxProg - 19
		s := numbers(4, n) + strings.Repeat("v", n)
		wantTake(t, s[:len(s)-1], api.Job{}, api.ErrCut)
		wantTake(t, s, api.Job{}, api.ErrCut)
		wantTake(t, s+numbers(1, 0, 9, 1, 1, 1), api.Job{ID: 4, Prog: strings.Repeat("v", n), Agg: 1, Fuel: 9, Splits: []int{1}, Parts: 1}, api.OK)
	}
}

// jobsThatMayNotBe have nothing else wrong.
func jobsThatMayNotBe() (l []api.Job) {
	for _, n := range badIDs() {
		l = append(l, with(func(j *api.Job) { j.ID = n }))
	}
	for _, w := range badWays() {
		l = append(l, with(func(j *api.Job) { j.Agg, j.Bound = w.agg, w.bound }))
	}
	for _, n := range badFuels() {
		l = append(l, with(func(j *api.Job) { j.Fuel = n }))
	}
	for _, n := range badParts() {
		l = append(l, with(func(j *api.Job) { j.Parts = n }))
	}
	for _, s := range badSplits() {
		if len(s) <= api.MaxSplits {
			l = append(l, with(func(j *api.Job) { j.Splits = s }))
		}
	}
	return l
}

// TestTakeErrorsInOrder: a job that may not be is bad only where it is all there; a size that may not be is so ahead of what is cut off, and what is cut off ahead of what would be behind it.
func TestTakeErrorsInOrder(t *testing.T) {
	for _, j := range jobsThatMayNotBe() {
		s := plainBytes(j)
		wantTake(t, s, api.Job{}, api.ErrBad)
		wantTake(t, s+"\x00", api.Job{}, api.ErrBad)
		for i := range len(s) {
			wantTake(t, s[:i], api.Job{}, api.ErrCut)
		}
	}
	for _, c := range []struct {
		s   string
		bad api.Errno
	}{
		{"", api.ErrCut}, {"\x00", api.ErrCut}, {"\x00\x01", api.ErrBad}, {"\x00\x02", api.ErrCut}, {"\x00\x82\x08", api.ErrBad}, {"\x00\x80\x08", api.ErrCut}, {"\x80\x00\x01", api.ErrBad},
		// a program is cut off, though its bytes could be numbers, and a number of splits above the limit
		{"\x08\x10\x00\x00\x00\x0e", api.ErrCut}, {"\x08\x04\x80\x00", api.ErrCut}, {"\x08\x04\x80\x00\x80\x00", api.ErrBad},
		{"\x08\x00\x02\x00\x02\x0e", api.ErrBad}, {"\x08\x00\x00\x00\x02\x0e", api.ErrBad}, {"\x08\x00\x00\x00\x02\x0c", api.ErrCut}, {"\x08\x00\x00\x00\x02\x01", api.ErrBad}, {"\x08\x00\x00\x00\x02\x00", api.ErrCut}, {"\x08\x00\x00\x00\x02\x00\x02", api.ErrBad},
		{"\x08\x00\x02\x00\x02\x04\x02\x02", api.ErrCut}, {"\x08\x00\x02\x00\x02\x04\x02\x02\x02", api.ErrBad}, {"\x08\x00\x02\x00\x02\x04\x80\x00\x02", api.ErrBad}, {"\x08\x00\x02\x00\x02\x04\x02\x04\x80", api.ErrCut}, {"\x08\x00\x02\x00\x02\x04\x02\x04\x02", api.OK},
	} {
		if e := wantTaken(t, c.s); e != c.bad {
			t.Errorf("%q: %d, not %d", c.s, e, c.bad)
		}
	}
}

// TestTakeShort: all short bytes of a few, and behind the beginning of a job.
func TestTakeShort(t *testing.T) {
	taken := 0
	eachList(8, []byte{0, 2, 4, 0x81}, func(b []byte) {
		if wantTaken(t, string(b)) == api.OK {
			taken++
		}
	})
	eachList(5, []byte{0, 1, 2, 4, 12, 14, 0x80}, func(b []byte) {
		if wantTaken(t, "\x02\x00\x0c\x04\x00"+string(b)) == api.OK {
			taken++
		}
	})
	if taken < 10 {
		t.Errorf("%d were taken", taken)
	}
}

// TestConfigsThatMayNotBe: ErrForm ahead of all else.
func TestConfigsThatMayNotBe(t *testing.T) {
	for i, change := range []func(c *api.Config){
		func(c *api.Config) { c.Sites = 0 }, func(c *api.Config) { c.Sites = 4 }, func(c *api.Config) { c.Sites = 2 }, func(c *api.Config) { c.Again = 0 }, func(c *api.Config) { c.Again = 17 }, func(c *api.Config) { c.Again = 11 }, func(c *api.Config) { c.Over = 15 }, func(c *api.Config) { c.Over = 65 },
		func(c *api.Config) { c.Splits[0].ID = 0 }, func(c *api.Config) { c.Splits[0].ID = 2 }, func(c *api.Config) { c.Splits[4].ID++ }, func(c *api.Config) { c.Splits[1].Text = "x" }, func(c *api.Config) { c.Splits[0].Text += "\x00" }, func(c *api.Config) { c.Splits[3].Sites = nil }, func(c *api.Config) { c.Splits[3].Sites = []int{4} },
		func(c *api.Config) { slices.Reverse(c.Splits) }, func(c *api.Config) { c.Splits[2] = c.Splits[1] }, func(c *api.Config) { *c = api.Config{} }, func(c *api.Config) { *c = made(nil, nil, nil, nil, nil, nil, nil) },
		func(c *api.Config) {
			c.Splits[1].Text = plainText(slices.Repeat([]api.Rec{rec(0, "", 0)}, api.MaxRecs+1)...)
		},
	} {
		c := config()
		change(&c)
		if plainConfig(c) {
			t.Fatalf("%d may be", i)
		}
		for _, j := range []api.Job{good(), with(func(j *api.Job) { j.Splits = []int{70} }), with(func(j *api.Job) { j.Prog = "zz" }), with(func(j *api.Job) { j.Prog = "v" }), with(func(j *api.Job) { j.Splits = []int{5} }), with(func(j *api.Job) { j.ID = 0 }), with(func(j *api.Job) { j.Fuel = 0 }), {}} {
			wantNot(t, c, j, api.ErrForm)
		}
	}
}

// TestSplitsThatAreNone: the first, a middle or the last; a job's may be fewer than there are.
func TestSplitsThatAreNone(t *testing.T) {
	all := []int{1, 2, 70, 300, mostID}
	for _, l := range [][]int{{3}, {mostID - 1}, {1, 3}, {3, 70}, {1, 2, 3}, {2, 69, 70}, {2, 71, 300}, {1, 2, 70, 300, 301, mostID}, {1, 2, 70, 299, 300, mostID}, {71}, {256 + 1}, {256 + 2, 300}} {
		wantNot(t, config(), with(func(j *api.Job) { j.Splits = l }), api.ErrNone)
	}
	for bits := 1; bits < 1<<len(all); bits++ {
		var l []int
		for i, id := range all {
			if bits>>i&1 == 1 {
				l = append(l, id)
			}
		}
		j := with(func(j *api.Job) { j.Splits = l })
		if wantAsRead(t, config(), j) != api.OK {
			t.Errorf("%v: is not valid", l)
		}
		for _, id := range l {
			c := config()
			c.Splits = slices.DeleteFunc(c.Splits, func(s api.Split) bool { return s.ID == id })
			wantNot(t, c, j, api.ErrNone)
		}
		wantNot(t, made(), j, api.ErrNone)
	}
}

// badPrograms are none, or don't check, and what is told of them.
func badPrograms() map[string]api.Errno {
	return map[string]api.Errno{
		"zz": api.ErrBad, "]": api.ErrBad, "if v": api.ErrBad, "v ] zz": api.ErrBad, "+ zz": api.ErrBad, "00": api.ErrBad,
		"if [": api.ErrCut, "rep": api.ErrCut, "v if [ v": api.ErrCut, "+ rep": api.ErrCut,
		strings.Repeat("v pop ", 65): api.ErrLimit, strings.Repeat("1 if [ ", 6): api.ErrCut, strings.Repeat("1 if [ ", 7): api.ErrLimit, strings.Repeat("v ", 129): api.ErrLimit,
		"v": api.ErrStack, "a emit": api.ErrStack, "v a": api.ErrStack, "+": api.ErrStack, "v if [ v ]": api.ErrStack, "a v emit pop": api.ErrStack, strings.Repeat("v ", 17) + strings.Repeat("pop ", 17): api.ErrStack,
	}
}

// TestProgramsThatAreNone: parsed first, then checked, though no record may be there; both ahead of splits that are none.
func TestProgramsThatAreNone(t *testing.T) {
	for s, bad := range badPrograms() {
		for _, splits := range [][]int{{1, 70, mostID}, {2}, {3}, {1, 3, 300}, {mostID}} {
			j := with(func(j *api.Job) { j.Prog, j.Splits = s, splits })
			wantStands(t, j)
			if splits[0] == 1 && plainValid(config(), j) != bad {
				t.Fatalf("%q: %d", s, plainValid(config(), j))
			}
			wantNot(t, config(), j, bad)
			wantNot(t, made(), j, bad)
			j.Fuel = 0
			wantNot(t, config(), j, bad)
			j.Parts = 9
			wantNot(t, config(), j, api.ErrForm)
		}
	}
}

// TestNothing: splits without records, and programs that emit nothing: empty frames.
func TestNothing(t *testing.T) {
	for _, w := range someWays() {
		for parts := 1; parts <= api.MaxParts; parts++ {
			want := strings.Repeat("\x00\x00\x00\x00\x21\x44\xdf\x1c", parts)
			for n := 1; n <= api.MaxSplits; n++ {
				for _, s := range []string{"a v emit", "", "v rep [ 0 1 emit ]", "\n"} {
					wantWhole(t, made(make([][]api.Rec, n)...), program(w, s, n, parts), want, api.OK)
				}
				all := slices.Repeat([][]api.Rec{{rec(1, "x", 5), rec(2, "", 0)}}, n)
				for _, s := range []string{"", "v pop", "0 if [ a v emit ]", "-1 rep [ a v emit ]"} {
					wantWhole(t, made(all...), program(w, s, n, parts), want, api.OK)
				}
			}
		}
	}
	// without fuel only where there is nothing to do
	j := program(sums, "a v emit", 2, 1)
	j.Fuel = 0
	wantWhole(t, made(nil, nil), j, plainFrame(""), api.OK)
	wantWhole(t, made(nil, []api.Rec{rec(1, "", 1)}), j, "", api.ErrFuel, api.ErrFuel)
	j.Prog = ""
	wantWhole(t, made(nil, []api.Rec{rec(1, "", 1)}), j, plainFrame(""), api.OK)
}

// TestInEachWay: one key of several splits, and keys that one has alone.
func TestInEachWay(t *testing.T) {
	c := made([]api.Rec{rec(1, "x", 5), rec(1, "x", -2), rec(2, "a", 3)}, nil, []api.Rec{rec(0, "", 9), rec(1, "x", 5), rec(1, "x", 8)})
	for _, x := range []struct {
		w           way
		alone, both string
		third       string
	}{
		{sums, "\x06", "\x20", "\x12"}, {counts, "\x02", "\x08", "\x02"}, {mins, "\x06", "\x03", "\x12"}, {maxes, "\x06", "\x10", "\x12"}, {ors, "\x06", "\x01", "\x12"}, {sets(3), "\x02\x06", "\x06\x03\x0a\x10", "\x02\x12"}, {sets(32), "\x02\x06", "\x06\x03\x0a\x10", "\x02\x12"},
	} {
		want := plainFrame("\x00\x00" + x.third + "\x02\x02x" + x.both + "\x04\x02a" + x.alone)
		wantWhole(t, c, program(x.w, "a v emit", 3, 1), want, api.OK)
	}
	wantWhole(t, c, program(sets(2), "a v emit", 3, 1), "", api.ErrBound, api.ErrBound)
	wantWhole(t, c, program(sets(1), "a v emit", 3, 1), "", api.ErrBound, api.ErrBound)
}

// Kinds of records: what the program below does over one, in a way with sets of at most two.
const (
	fine    = iota
	fuel    // it takes too long
	emits   // it emits one too many
	bound   // it emits three numbers of one key
	shares  // it emits a number of its own of a key that all of this kind have
	endless // with a number that is never reached
	kinds
)

// ofEachKind does what the value says; with 1200 of fuel fourteen hundred ops are too many.
const ofEachKind = "v 1 = if [ 700 rep [ v pop ] ] v 2 = if [ 257 rep [ a 0 emit ] ] v 3 = if [ a 0 emit a 1 emit a 2 emit ] v 4 = if [ -5 a emit ] v 5 = if [ 9223372036854775807 rep [ 1 pop ] ] v not if [ a len emit ]"

// ofKinds is a split's records: that kind at that place among fine ones.
func ofKinds(kind int, split int, place int, many int) (l []api.Rec) {
	for i := range many {
		r := rec(int64(100*split+i), "", fine)
		if i == place {
			r.Val = int64(kind)
		}
		l = append(l, r)
	}
	return l
}

// wantOfKinds works out what is told from the kinds of the splits alone.
func wantOfKinds(t *testing.T, c api.Config, j api.Job, l []int) {
	t.Helper()
	bad, shared := api.OK, 0
	var codes []api.Errno
	for _, kind := range l {
		e := []api.Errno{fine: api.OK, fuel: api.ErrFuel, emits: api.ErrLimit, bound: api.ErrBound, shares: api.OK, endless: api.ErrFuel}[kind]
		if e != api.OK {
			codes = append(codes, e)
		}
		// ErrBound of an early split waits for what later ones run into
		if bad == api.OK || bad == api.ErrBound && e != api.OK {
			bad = e
		}
		if kind == shares {
			shared++
		}
	}
	slices.Sort(codes)
	codes = slices.Compact(codes)
	if shared > j.Bound && bad == api.OK {
		bad, codes = api.ErrBound, []api.Errno{api.ErrBound}
	}
	if bad == api.OK {
		if s, e := job.Whole(c, j); e != api.OK || len(s) < 8*j.Parts {
			t.Errorf("%v: %q, %d", l, s, e)
		}
		if codes := job.Codes(c, j); len(codes) > 0 {
			t.Errorf("%v: %v", l, codes)
		}
		return
	}
	wantWhole(t, c, j, "", bad, codes...)
}

// TestErrorsOfSplits: each kind in each of three splits, in the first, a middle and the last record.
func TestErrorsOfSplits(t *testing.T) {
	j := program(sets(2), ofEachKind, 3, 2)
	j.Fuel = 1200
	for place := range 3 {
		for k := range kinds * kinds * kinds {
			l := []int{k % kinds, k / kinds % kinds, k / kinds / kinds}
			var recs [][]api.Rec
			for i, kind := range l {
				recs = append(recs, ofKinds(kind, i+1, place, 3))
			}
			c := made(recs...)
			wantOfKinds(t, c, j, l)
			if place == 1 {
				wantAsRead(t, c, j)
			}
		}
	}
}

// TestErrorsOfSomeSplits: of the job's splits alone; what others would run into is not told.
func TestErrorsOfSomeSplits(t *testing.T) {
	for _, l := range [][]int{{fuel, fine, emits, bound, shares, shares}, {shares, shares, shares, fine, fuel, fine}, {bound, fine, bound, fuel, fuel, emits}, {emits, bound, fine, shares, fine, fuel}, {fine, shares, shares, shares, bound, endless}} {
		var recs [][]api.Rec
		for i, kind := range l {
			recs = append(recs, ofKinds(kind, i+1, i%2, 2))
		}
		c := made(recs...)
		for bits := 1; bits < 1<<len(l); bits++ {
			j := program(sets(2), ofEachKind, 0, 3)
			j.Fuel = 1200
			var of []int
			for i, kind := range l {
				if bits>>i&1 == 1 {
					j.Splits = append(j.Splits, i+1)
					of = append(of, kind)
				}
			}
			wantOfKinds(t, c, j, of)
		}
	}
}

// TestFirstOfARecord: of one split the first record's error, in whatever order they stand.
func TestFirstOfARecord(t *testing.T) {
	j := program(sets(2), ofEachKind, 1, 1)
	j.Fuel = 1200
	for _, l := range [][]int{{fuel, emits}, {emits, fuel}, {bound, emits}, {bound, fuel}, {bound, bound}, {shares, shares}, {fine, bound}} {
		var recs []api.Rec
		want := api.OK
		for i, kind := range l {
			recs = append(recs, rec(int64(i), "", int64(kind)))
			e := []api.Errno{fine: api.OK, fuel: api.ErrFuel, emits: api.ErrLimit, bound: api.ErrBound, shares: api.OK}[kind]
			if want == api.OK || want == api.ErrBound && e != api.OK {
				want = e
			}
		}
		if want == api.OK {
			wantAsRead(t, made(recs), j)
		} else {
			wantWhole(t, made(recs), j, "", want, want)
		}
	}
}

// TestSets: too many numbers in one split, and only in all of them together, for each bound.
func TestSets(t *testing.T) {
	for b := 1; b <= api.MaxBound; b++ {
		for n := 2; n <= api.MaxSplits; n++ {
			all := make([][]api.Rec, n)
			for v := range b {
				all[v%n] = append(all[v%n], rec(7, "k", int64(v)), rec(7, "k", int64(v)))
			}
			j := program(sets(b), "a v emit", n, 2)
			if e := wantAsRead(t, made(all...), j); e != api.OK {
				t.Errorf("%d of %d: %d", b, n, e)
			}
			// one more, in each split by turns, that no split but a full one has too many by
			for i := range n {
				more := slices.Clone(all)
				more[i] = append(slices.Clone(all[i]), rec(7, "k", -1))
				wantWhole(t, made(more...), j, "", api.ErrBound, api.ErrBound)
				more[i] = append(slices.Clone(all[i]), rec(7, "", -1), rec(8, "k", -1))
				if e := wantAsRead(t, made(more...), j); e != api.OK {
					t.Errorf("%d of %d, and another key's in %d: %d", b, n, i, e)
				}
			}
		}
		var alone []api.Rec
		for v := range b + 1 {
			alone = append(alone, rec(7, "k", int64(v)))
		}
		for i := range 3 {
			all := make([][]api.Rec, 3)
			all[i] = alone
			wantWhole(t, made(all...), program(sets(b), "a v emit", 3, 2), "", api.ErrBound, api.ErrBound)
		}
	}
}

// TestEmits: at the limit of a split and one more; all splits together may have as many as all may.
func TestEmits(t *testing.T) {
	s := "v rep [ a 1 emit ]"
	full := []api.Rec{rec(1, "", 100), rec(2, "", 156)}
	for n := 1; n <= api.MaxSplits; n++ {
		all := slices.Repeat([][]api.Rec{full}, n)
		want := plainFrame("\x02\x00" + numbers(100*n) + "\x04\x00" + numbers(156*n))
		for _, w := range []way{sums, counts} {
			wantWhole(t, made(all...), program(w, s, n, 1), want, api.OK)
			for i := range n {
				more := slices.Clone(all)
				for _, recs := range [][]api.Rec{{rec(1, "", 100), rec(2, "", 157)}, {rec(1, "", 100), rec(2, "", 156), rec(3, "", 1)}, {rec(1, "", 257)}} {
					more[i] = recs
					wantWhole(t, made(more...), program(w, s, n, 1), "", api.ErrLimit, api.ErrLimit)
				}
			}
		}
	}
	// 1536 rows: each record emits four, each of a key of its own
	var all [][]api.Rec
	for i := range api.MaxSplits {
		var l []api.Rec
		for k := range api.MaxRecs {
			l = append(l, rec(int64(4*(i*api.MaxRecs+k)), "", 1))
		}
		all = append(all, l)
	}
	for parts := 1; parts <= api.MaxParts; parts++ {
		j := program(sets(1), "a v emit a 1 + v emit a 2 + v emit a 3 + v emit", api.MaxSplits, parts)
		wantAsRead(t, made(all...), j)
		s, e := job.Whole(made(all...), j)
		if l, bad := part.Read(j.Agg, j.Bound, parts, s); e != api.OK || bad != api.OK || len(l) != api.MaxEmits*api.MaxSplits {
			t.Errorf("%d partitions: %d, %d, %d rows", parts, e, bad, len(l))
		}
	}
}

// filled is splits of records that come to rows of so many bytes in all, each of a key of its own.
func filled(n int) (all [][]api.Rec) {
	const most = 86
	var l []api.Rec
	for a := least; n > 0; a++ {
		// what is left over is shared by the last two
		size := min(n, most)
		if most < n && n < 2*most {
			size = n / 2
		}
		// ten bytes of its number, two of how long its text is, ten of its value, or one where that is too much
		r := rec(a, "", least)
		if size < 22+32 {
			r.Val = 0
		}
		bare := len(plainText(r)) - 1
		r.Key.B = strings.Repeat("k", size-bare-1)
		if len(r.Key.B) > 63 {
			r.Key.B = r.Key.B[1:]
		}
		n -= len(plainText(r))
		l = append(l, r)
		if len(l) == api.MaxRecs || n == 0 {
			all = append(all, l)
			l = nil
		}
	}
	return all
}

// TestOutputOfMaxPart: just as long as may be, and longer by one byte, and by many, though each split alone is far from it.
func TestOutputOfMaxPart(t *testing.T) {
	for parts := 1; parts <= api.MaxParts; parts++ {
		room := api.MaxPart - 8*parts
		for _, n := range []int{room - 2, room - 1, room, room + 1, room + 2, room + 100} {
			all := filled(n)
			c, j := made(all...), program(maxes, "a v emit", len(all), parts)
			long := 0
			for _, l := range all {
				long += len(plainText(l...))
			}
			if long != n || len(all) != api.MaxSplits {
				t.Fatalf("%d splits have %d bytes, not %d", len(all), long, n)
			}
			if n > room {
				wantWhole(t, c, j, "", api.ErrLimit, api.ErrLimit)
				j.Splits = j.Splits[1:]
				if wantAsRead(t, c, j) != api.OK {
					t.Errorf("without the first split: it is too long, too")
				}
				continue
			}
			s, e := job.Whole(c, j)
			if len(s) != n+8*parts || e != api.OK {
				t.Errorf("%d bytes, %d, not %d", len(s), e, n+8*parts)
			}
			wantAsRead(t, c, j)
		}
	}
}

// long is as long as a split can be gathered: its rows have 87 bytes, or one less.
func long(split int) (l []api.Rec) {
	for i := range api.MaxRecs {
		l = append(l, rec(least+int64(4*(split*api.MaxRecs+i)), strings.Repeat("x", api.MaxText), least))
	}
	return l
}

const fourOfEach = "a v emit a 1 + v emit a 2 + v emit a 3 + v emit"

// TestLongest: one split alone comes nowhere near the limit of a part's length, two are above it together.
func TestLongest(t *testing.T) {
	for _, w := range []way{sums, mins, maxes, ors, sets(1)} {
		s, e := local.Gather(program(w, fourOfEach, 1, 1), long(0))
		if e != api.OK || len(s) > api.MaxPart || 2*len(s) < api.MaxPart {
			t.Fatalf("%v: %d bytes, %d", w, len(s), e)
		}
		for parts := 1; parts <= api.MaxParts; parts++ {
			if e := wantAsRead(t, made(long(0), long(1)), program(w, fourOfEach, 1, parts)); e != api.OK {
				t.Errorf("one of two: %d", e)
			}
			if e := wantAsRead(t, made(long(0), long(0)), program(w, fourOfEach, 2, parts)); e != api.OK {
				t.Errorf("one twice: %d", e)
			}
			wantWhole(t, made(long(0), long(1)), program(w, fourOfEach, 2, parts), "", api.ErrLimit, api.ErrLimit)
			wantWhole(t, made(long(0), nil, long(1), long(2), long(3), long(4)), program(w, fourOfEach, 6, parts), "", api.ErrLimit, api.ErrLimit)
		}
	}
}

// TestBoundAheadOfLimit: where all together are too long, and a set of them has too many.
func TestBoundAheadOfLimit(t *testing.T) {
	a, b := long(0), long(1)
	b[63] = rec(a[5].Key.A, a[5].Key.B, 3)
	j := program(sets(1), fourOfEach, 2, 3)
	wantWhole(t, made(a, b), j, "", api.ErrBound, api.ErrBound)
	j.Bound = 2
	wantWhole(t, made(a, b), j, "", api.ErrLimit, api.ErrLimit)
	// a split alone has too many: that is all that Codes tells
	a[1] = rec(a[0].Key.A, a[0].Key.B, 9)
	j.Bound = 1
	wantWhole(t, made(a, b), j, "", api.ErrBound, api.ErrBound)
	// of a third split the program takes too long
	j = program(sets(1), fourOfEach+" a 9 = if [ 3000 rep [ v pop ] ]", 3, 3)
	wantWhole(t, made(a, b, []api.Rec{rec(9, "", 1)}), j, "", api.ErrFuel, api.ErrFuel, api.ErrBound)
}

// TestAheadOfAll: Valid's error alone, whatever the splits would tell.
func TestAheadOfAll(t *testing.T) {
	c := made(ofKinds(fuel, 1, 0, 2), ofKinds(emits, 2, 1, 2), ofKinds(bound, 3, 0, 1))
	j := program(sets(2), ofEachKind, 3, 2)
	j.Fuel = 1200
	wantWhole(t, c, j, "", api.ErrFuel, api.ErrLimit, api.ErrFuel, api.ErrBound)
	for _, x := range []struct {
		change func(j *api.Job)
		bad    api.Errno
	}{
		{func(j *api.Job) { j.Splits = []int{1, 2, 3, 4} }, api.ErrNone}, {func(j *api.Job) { j.Prog += " v" }, api.ErrStack}, {func(j *api.Job) { j.Prog += " vv" }, api.ErrBad}, {func(j *api.Job) { j.Prog += " if" }, api.ErrCut}, {func(j *api.Job) { j.Prog += strings.Repeat(" v", 129) }, api.ErrLimit},
		{func(j *api.Job) { j.Prog += strings.Repeat(" ", api.MaxProg) }, api.ErrForm}, {func(j *api.Job) { j.Parts = 0 }, api.ErrForm}, {func(j *api.Job) { j.Bound = 33 }, api.ErrForm}, {func(j *api.Job) { j.Splits = []int{3, 2} }, api.ErrForm}, {func(j *api.Job) { j.ID, j.Prog, j.Splits = 0, "zz", []int{9} }, api.ErrForm}, {func(j *api.Job) { j.Prog, j.Splits = "v ]", []int{9} }, api.ErrBad}, {func(j *api.Job) { j.Prog, j.Splits = "v", []int{9} }, api.ErrStack},
	} {
		j := j
		x.change(&j)
		wantNot(t, c, j, x.bad)
	}
}

// maker makes what is asked for by a fixed rule.
type maker struct{ u uint64 }

func (m *maker) pick(n int) int {
	m.u = m.u*6364136223846793005 + 1442695040888963407
	return int(m.u >> 33 % uint64(n))
}

func (m *maker) number() int64 {
	return []int64{0, 1, -1, 63, 64, -64, least, greatest, int64(m.pick(9)), int64(m.pick(300)), int64(m.pick(1000))}[m.pick(11)]
}

func (m *maker) records(n int) (l []api.Rec) {
	for range n {
		l = append(l, rec(int64(m.pick(5)-2), []string{"", "a", "ab", "b", "\xff", strings.Repeat("k", 64)}[m.pick(6)], m.number()))
	}
	return l
}

// text is a program, mostly one that checks.
func (m *maker) text() string {
	parts := []string{"a v emit", "v a emit", "len v emit", "v 3 & rep [ a v emit ]", "v 0 < if [ 0 1 emit ]", "v rep [ 0 v emit ]", "a u8 v s8 emit", "v 7 % a + v 2 / emit", "a not if [ v v emit v 1 + v emit ]", "v pop", "v 90 % rep [ a 1 emit ]", "v 999 & rep [ a 1 emit ]", "0 v 40 % emit"}
	var l []string
	for range m.pick(4) {
		l = append(l, parts[m.pick(len(parts))])
	}
	if m.pick(25) == 0 {
		l = append(l, []string{"v", "]", "rep", "a emit", "if v", "08"}[m.pick(6)])
	}
	return strings.Join(l, []string{" ", "\n", "  "}[m.pick(3)])
}

// splits is some from 1 to n, rising.
func (m *maker) splits(n int) (l []int) {
	for i := range n {
		if m.pick(3) > 0 {
			l = append(l, i+1)
		}
	}
	return l
}

func (m *maker) job(splits int) api.Job {
	w := someWays()[m.pick(len(someWays()))]
	j := api.Job{ID: 1 + m.pick(mostID), Prog: m.text(), Agg: w.agg, Bound: w.bound, Fuel: []int{api.MaxFuel, 900, 60, m.pick(20)}[m.pick(4)], Splits: m.splits(splits), Parts: 1 + m.pick(api.MaxParts)}
	switch m.pick(60) {
	case 0:
		j.ID = badIDs()[m.pick(len(badIDs()))]
	case 1:
		j.Agg = m.pick(9)
	case 2:
		j.Bound = m.pick(40) - 3
	case 3:
		j.Fuel = badFuels()[m.pick(len(badFuels()))]
	case 4:
		j.Parts = badParts()[m.pick(len(badParts()))]
	case 5:
		j.Splits = append(j.Splits, 7+m.pick(9))
	case 6:
		slices.Reverse(j.Splits)
	case 7:
		j.Prog += strings.Repeat(" ", api.MaxProg-10)
	}
	return j
}

func (m *maker) config() api.Config {
	var all [][]api.Rec
	for range min(m.pick(20), api.MaxSplits) {
		n := m.pick(12)
		if m.pick(15) == 0 {
			n = m.pick(api.MaxRecs + 2)
		}
		all = append(all, m.records(n))
	}
	return made(all...)
}

// TestAtRandom holds all calls to the second reading.
func TestAtRandom(t *testing.T) {
	m := &maker{u: 14}
	ends := map[api.Errno]int{}
	several := 0
	for range 4000 {
		c := m.config()
		j := m.job(len(c.Splits))
		if plainMayBe(j) {
			wantStands(t, j)
		} else if e := job.Check(j); e != api.ErrForm {
			t.Errorf("Check(%s): %d", brief(j), e)
		}
		ends[wantAsRead(t, c, j)]++
		if len(job.Codes(c, j)) > 1 {
			several++
		}
	}
	for _, e := range []api.Errno{api.OK, api.ErrForm, api.ErrLimit, api.ErrNone, api.ErrBad, api.ErrCut, api.ErrStack, api.ErrFuel, api.ErrBound} {
		if ends[e] < 10 {
			t.Errorf("too few end in %d: %v", e, ends)
		}
	}
	if ends[api.OK] < 1000 || several < 20 {
		t.Errorf("too little: %v, %d", ends, several)
	}
}

// TestHoweverJoined: what Whole tells is what the splits' own gatherings come to, in whatever order they are joined.
func TestHoweverJoined(t *testing.T) {
	m := &maker{u: 41}
	joined := 0
	for range 800 {
		c := m.config()
		j := m.job(len(c.Splits))
		want, bad := job.Whole(c, j)
		if bad != api.OK {
			continue
		}
		var parts [][]api.Row
		for _, id := range j.Splits {
			l, _ := split.Recs(c, id)
			s, e := local.Gather(j, l)
			rows, f := local.Open(j, s)
			if e != api.OK || f != api.OK {
				t.Errorf("%s: split %d is told %d, %d", brief(j), id, e, f)
			}
			parts = slices.Insert(parts, m.pick(len(parts)+1), rows)
		}
		rows, e := row.Join(j.Agg, j.Bound, parts...)
		s, f := part.Output(j.Agg, j.Bound, j.Parts, rows)
		if s != want || e != api.OK || f != api.OK {
			t.Errorf("%s, %s: joined it is %q, %d, %d, whole %q", brief(c), brief(j), s, e, f, want)
		}
		joined += len(rows)
	}
	if joined < 1000 {
		t.Errorf("%d rows", joined)
	}
}

// roomyInts has room behind it, filled with what is known.
func roomyInts(l []int) []int {
	room := slices.Repeat([]int{77}, len(l)+8)
	copy(room, l)
	return room[:len(l)]
}

func roomy(c api.Config) api.Config {
	room := slices.Repeat([]api.Split{{ID: 77, Text: "room", Sites: []int{77}}}, len(c.Splits)+4)
	copy(room, c.Splits)
	for i, s := range c.Splits {
		room[i].Sites = roomyInts(s.Sites)
	}
	c.Splits = room[:len(c.Splits)]
	return c
}

// wholly is all that is there, also behind the lengths.
func wholly(c api.Config) (s string) {
	s = fmt.Sprint(c.Sites, c.Again, c.Over)
	for _, x := range c.Splits[:cap(c.Splits)] {
		s += fmt.Sprintf(" %d %q %v", x.ID, x.Text, x.Sites[:cap(x.Sites)])
	}
	return s
}

// TestHandedInStays: R2, splits, their sites, a job's splits, and the room behind them, beside errors, too.
func TestHandedInStays(t *testing.T) {
	broken := config()
	slices.Reverse(broken.Splits)
	for _, c := range []api.Config{config(), broken, made(long(0), long(1)), made(), made(ofKinds(fuel, 1, 0, 2), ofKinds(bound, 2, 0, 2))} {
		c = roomy(c)
		was := wholly(c)
		for _, splits := range [][]int{{1, 2}, {2, 1}, {1, 70, mostID}, {70, 1}, {1, 2, 3, 4, 5, 6, 7}, {0}, {5, 5}, {1}} {
			for _, s := range []string{"a v emit", ofEachKind, fourOfEach, "v", "zz"} {
				j := program(sets(1), s, 0, 2)
				j.Splits = roomyInts(splits)
				had := slices.Clone(j.Splits[:cap(j.Splits)])
				job.Check(j)
				job.Bytes(j)
				job.Valid(c, j)
				job.Whole(c, j)
				job.Codes(c, j)
				if wholly(c) != was || !slices.Equal(j.Splits[:cap(j.Splits)], had) {
					t.Fatalf("%s became %s, and %v %v", brief(was), brief(wholly(c)), had, j.Splits)
				}
			}
		}
	}
}

func spoil(l []int) {
	for i := range l[:cap(l)] {
		l[:cap(l)][i] = -99
	}
}

// TestTakeIsNew: R2, whoever writes into what was taken, or appends to it, changes nothing else that was told.
func TestTakeIsNew(t *testing.T) {
	for _, want := range someJobs() {
		s := plainBytes(want)
		first, _ := job.Take(s)
		second, _ := job.Take(s)
		third, _ := job.Take(s)
		_ = append(first.Splits, -5, -6)
		spoil(first.Splits)
		if !same(second, want) || !same(third, want) {
			t.Errorf("Take of %q shares what it tells: %s, %s", s, brief(second), brief(third))
		}
		first.Splits = append(first.Splits[:0], 1, 2)
		wantTake(t, s, want, api.OK)
		b, _ := job.Bytes(second)
		spoil(second.Splits)
		if b != s {
			t.Errorf("Bytes keeps what was handed in: %q, not %q", b, s)
		}
	}
}

// TestCodesAreNew: R2 of Codes, and what was handed in may be written over behind the call.
func TestCodesAreNew(t *testing.T) {
	c := made(ofKinds(fuel, 1, 0, 2), ofKinds(emits, 2, 1, 2), ofKinds(bound, 3, 0, 1), ofKinds(fuel, 4, 0, 1))
	all := []int{int(api.ErrLimit), int(api.ErrFuel), int(api.ErrBound)}
	for _, x := range []struct {
		prog   string
		splits []int
		want   []int
	}{{ofEachKind, []int{1, 2, 3, 4}, all}, {ofEachKind, []int{2, 3}, []int{2, 11}}, {"zz", []int{1}, []int{7}}, {ofEachKind, []int{1, 2, 5}, []int{3}}, {ofEachKind, []int{2, 1}, []int{1}}} {
		j := program(sets(2), x.prog, 0, 2)
		j.Fuel, j.Splits = 1200, slices.Clone(x.splits)
		first := job.Codes(c, j)
		second := job.Codes(c, j)
		if !slices.Equal(first, x.want) {
			t.Errorf("%q, %v: %v, not %v", x.prog, x.splits, first, x.want)
		}
		_ = append(first, -5, -6)
		spoil(first)
		if !slices.Equal(second, x.want) || !slices.Equal(j.Splits, x.splits) {
			t.Errorf("%q, %v: Codes shares what it tells: %v", x.prog, j.Splits, second)
		}
		spoil(j.Splits)
		if !slices.Equal(second, x.want) {
			t.Errorf("%q, %v: Codes keeps what was handed in: %v", x.prog, x.splits, second)
		}
		j.Splits = x.splits
		if third := job.Codes(c, j); !slices.Equal(third, x.want) {
			t.Errorf("%q, %v: then %v", x.prog, x.splits, third)
		}
	}
}

// TestSameAgain: R1, the same call tells the same, whatever is handed in, and it ends.
func TestSameAgain(t *testing.T) {
	m := &maker{u: 1}
	for range 1500 {
		c := m.config()
		if m.pick(5) == 0 {
			c.Over = m.pick(70)
		}
		j := m.job(len(c.Splits) + m.pick(2))
		other := j
		other.Splits = slices.Clone(j.Splits)
		a, e := job.Whole(c, j)
		b, f := job.Whole(roomy(c), other)
		if a != b || e != f || e != api.OK && a != "" {
			t.Errorf("Whole(%s, %s): %q, %d, then %q, %d", brief(c), brief(j), a, e, b, f)
		}
		if x, y := job.Codes(c, j), job.Codes(roomy(c), other); !slices.Equal(x, y) {
			t.Errorf("Codes(%s, %s): %v, then %v", brief(c), brief(j), x, y)
		}
		var s []byte
		for range m.pick(20) {
			s = append(s, byte(m.pick(5)*m.pick(60)))
		}
		wantTaken(t, string(s))
	}
}
