package check_test

import (
	"math"
	"slices"
	"strings"
	"testing"

	"thresher/api"
	"thresher/check"
	"thresher/lang"
)

// effects are the chapter's, kind by kind; of if and rep without their block.
var effects = []struct{ kind, takes, leaves int }{
	{api.OpNum, 0, 1}, {api.OpA, 0, 1}, {api.OpLen, 0, 1}, {api.OpVal, 0, 1},
	{api.OpAdd, 2, 1}, {api.OpSub, 2, 1}, {api.OpMul, 2, 1}, {api.OpDiv, 2, 1}, {api.OpMod, 2, 1},
	{api.OpAnd, 2, 1}, {api.OpOr, 2, 1}, {api.OpXor, 2, 1},
	{api.OpShl, 2, 1}, {api.OpShr, 2, 1}, {api.OpUshr, 2, 1},
	{api.OpLess, 2, 1}, {api.OpSame, 2, 1},
	{api.OpNot, 1, 1},
	{api.OpU8, 1, 1}, {api.OpU16, 1, 1}, {api.OpU32, 1, 1},
	{api.OpS8, 1, 1}, {api.OpS16, 1, 1}, {api.OpS32, 1, 1},
	{api.OpDup, 1, 2}, {api.OpSwap, 2, 2}, {api.OpPop, 1, 0},
	{api.OpIf, 1, 0}, {api.OpRep, 1, 0},
	{api.OpEmit, 2, 0},
}

func effectOf(kind int) (takes, leaves int) {
	for _, c := range effects {
		if c.kind == kind {
			return c.takes, c.leaves
		}
	}
	panic("no such kind")
}

func op(kind int) api.Op                    { return api.Op{Kind: kind} }
func block(kind int, l ...api.Op) api.Op    { return api.Op{Kind: kind, Block: l} }
func many(s string, n int) string           { return strings.Repeat(s, n) }
func manyOps(kind, n int) []api.Op          { return slices.Repeat([]api.Op{op(kind)}, n) }
func join(lists ...[]api.Op) (all []api.Op) { return slices.Concat(lists...) }

// parse reads what the test itself wrote.
func parse(t *testing.T, s string) []api.Op {
	t.Helper()
	l, e := lang.Parse(s)
	if e != api.OK {
		t.Fatalf("Parse(%q): %d", s, e)
	}
	return l
}

// show tells no more of what has no text, or no end.
func show(l []api.Op) string {
	if s, e := lang.Text(l); e == api.OK {
		return s
	}
	return "ops without a text"
}

// wantNeed holds Check to it, too: it is all right where none is left.
func wantNeed(t *testing.T, l []api.Op, left, most int) {
	t.Helper()
	if gotLeft, gotMost, e := check.Need(l); gotLeft != left || gotMost != most || e != api.OK {
		t.Errorf("Need(%s): %d, %d, %d, not %d, %d", show(l), gotLeft, gotMost, e, left, most)
	}
	want := api.OK
	if left > 0 {
		want = api.ErrStack
	}
	if e := check.Check(l); e != want {
		t.Errorf("Check(%s): %d, not %d", show(l), e, want)
	}
}

func wantError(t *testing.T, l []api.Op, want api.Errno) {
	t.Helper()
	if left, most, e := check.Need(l); left != 0 || most != 0 || e != want {
		t.Errorf("Need(%s): %d, %d, %d, not %d", show(l), left, most, e, want)
	}
	if e := check.Check(l); e != want {
		t.Errorf("Check(%s): %d, not %d", show(l), e, want)
	}
}

func wantNeedOf(t *testing.T, s string, left, most int) {
	t.Helper()
	wantNeed(t, parse(t, s), left, most)
}

func wantErrStack(t *testing.T, s string) {
	t.Helper()
	wantError(t, parse(t, s), api.ErrStack)
}

// owners is a second reading of the chapter: it knows of each number that is there how deep
// the block is that put it, so that nothing has to be known of how many there were.
type owners struct {
	deep []int
	most int
}

// walk panics where a program takes or leaves what it must not.
func (o *owners) walk(l []api.Op, deep int) {
	for _, x := range l {
		takes, leaves := effectOf(x.Kind)
		for range takes {
			if len(o.deep) == 0 || o.deep[len(o.deep)-1] < deep {
				panic("takes")
			}
			o.deep = o.deep[:len(o.deep)-1]
		}
		for range leaves {
			if len(o.deep) == api.MaxStack {
				panic("too many")
			}
			o.deep = append(o.deep, deep)
		}
		o.most = max(o.most, len(o.deep))
		o.walk(x.Block, deep+1)
		if slices.Contains(o.deep, deep+1) {
			panic("leaves")
		}
	}
}

func read(l []api.Op) (left, most int, ok bool) {
	defer func() {
		if recover() != nil {
			left, most, ok = 0, 0, false
		}
	}()
	var o owners
	o.walk(l, 0)
	return len(o.deep), o.most, true
}

// wantRead holds Need and Check against the second reading.
func wantRead(t *testing.T, l []api.Op) {
	t.Helper()
	if left, most, ok := read(l); ok {
		wantNeed(t, l, left, most)
		return
	}
	wantError(t, l, api.ErrStack)
}

// maker makes programs that are the same in each run.
type maker struct {
	seed uint64
	left int // ops that it may still make
}

func (m *maker) pick(n int) int {
	m.seed = m.seed*6364136223846793005 + 1442695040888963407
	return int(m.seed>>33) % n
}

// list makes ops that mostly find what they take: began are there ahead of it, and mostly stay.
func (m *maker) list(began, deep int) (l []api.Op) {
	there := began
	for range m.pick(24) {
		c := effects[m.pick(len(effects))]
		behind := there - c.takes + c.leaves
		hasBlock := c.kind == api.OpIf || c.kind == api.OpRep
		fits := there-c.takes >= began && behind <= api.MaxStack || m.pick(100) == 0
		// Room is kept for taking away what is there.
		if !fits || m.left <= there-began || hasBlock && deep == api.MaxDeep {
			continue
		}
		m.left--
		there = behind
		x := op(c.kind)
		if c.kind == api.OpNum {
			x.N = int64(m.pick(2000) - 1000)
		}
		if hasBlock {
			x.Block = m.list(there, deep+1)
		}
		l = append(l, x)
	}
	if deep == 0 && m.pick(2) == 0 {
		return l
	}
	for there > began && m.left > 0 {
		m.left--
		there--
		l = append(l, op(api.OpPop))
	}
	return l
}

// programs may be: some check, some leave something, some take or leave what they must not.
func programs() (all [][]api.Op) {
	for i := range 4000 {
		m := maker{seed: uint64(i), left: 1 + i%api.MaxOps}
		all = append(all, m.list(0, 0))
	}
	return all
}

// P7.1

// The chapter's example.
func TestTwoAreLeft(t *testing.T) {
	wantNeedOf(t, "v a", 2, 2)
}

// R2: a nil list and an empty one are one, as a block, too.
func TestNoOps(t *testing.T) {
	wantNeed(t, nil, 0, 0)
	wantNeed(t, []api.Op{}, 0, 0)
	for _, kind := range []int{api.OpIf, api.OpRep} {
		wantNeed(t, []api.Op{op(api.OpA), {Kind: kind}}, 0, 1)
		wantNeed(t, []api.Op{op(api.OpA), {Kind: kind, Block: []api.Op{}}}, 0, 1)
	}
	wantNeed(t, []api.Op{{Kind: api.OpA, Block: []api.Op{}}, {Kind: api.OpNot, Block: []api.Op{}}}, 1, 1)
}

// No kind of api is without its line: the tests below are of all of them.
func TestEffectsAreOfEachKind(t *testing.T) {
	for i, c := range effects {
		if c.kind != api.OpNum+i {
			t.Errorf("kind %d at %d", c.kind, i)
		}
	}
	if last := effects[len(effects)-1].kind; last != api.OpEmit {
		t.Errorf("the last kind is %d", last)
	}
}

// Each kind behind each number of numbers: fewer than it takes, just as many, up to all that there may be.
func TestEachKind(t *testing.T) {
	for _, c := range effects {
		for n := range api.MaxStack + 1 {
			l := append(manyOps(api.OpVal, n), op(c.kind))
			left := n - c.takes + c.leaves
			if n < c.takes || left > api.MaxStack {
				wantError(t, l, api.ErrStack)
				continue
			}
			wantNeed(t, l, left, max(n, left))
		}
	}
}

// The same in a block, with others ahead of it of which none may be taken.
func TestEachKindInABlock(t *testing.T) {
	for _, c := range effects {
		for ahead := range api.MaxStack {
			for n := range api.MaxStack + 1 - ahead {
				left := n - c.takes + c.leaves
				in := append(manyOps(api.OpVal, n), op(c.kind))
				in = append(in, manyOps(api.OpPop, max(left, 0))...)
				l := append(manyOps(api.OpA, ahead+1), block(api.OpIf, in...))
				if n < c.takes || ahead+left > api.MaxStack {
					wantError(t, l, api.ErrStack)
					continue
				}
				wantNeed(t, l, ahead, ahead+max(n, left, 1))
			}
		}
	}
}

// What an op takes does not hang on the number it has.
func TestNumbers(t *testing.T) {
	for _, n := range []int64{0, 1, -1, 2, 16, 17, 1 << 40, math.MinInt64, math.MaxInt64} {
		x := api.Op{Kind: api.OpNum, N: n}
		wantNeed(t, []api.Op{x}, 1, 1)
		wantNeed(t, []api.Op{x, x, op(api.OpDiv)}, 1, 2)
		wantNeed(t, []api.Op{x, block(api.OpRep, x, op(api.OpPop))}, 0, 1)
		wantError(t, []api.Op{x, block(api.OpRep, x)}, api.ErrStack)
	}
}

func TestPrograms(t *testing.T) {
	wantNeedOf(t, "v a + len * 7", 2, 2)
	wantNeedOf(t, "v dup dup + +", 1, 3)
	wantNeedOf(t, "1 2 3 pop pop pop 4 5", 2, 3)
	wantNeedOf(t, "a v emit v a emit", 0, 2)
	wantNeedOf(t, "v 2 * 10 < if [ a v emit ] 3 rep [ a len emit ]", 0, 2)
	wantErrStack(t, "v a + +")
	wantErrStack(t, "v pop pop v")
	wantErrStack(t, "v a emit emit")
	wantErrStack(t, "v - a")
}

// An op that lacks something spoils all, whatever would be put or taken behind it.
func TestTooEarly(t *testing.T) {
	for _, c := range effects {
		for n := range c.takes {
			for more := range 4 {
				l := join(manyOps(api.OpA, n), []api.Op{op(c.kind)}, manyOps(api.OpA, more))
				wantError(t, l, api.ErrStack)
			}
		}
	}
}

func TestMaxStack(t *testing.T) {
	most := api.MaxStack
	for _, put := range []int{api.OpA, api.OpLen, api.OpVal, api.OpNum} {
		wantNeed(t, manyOps(put, most-1), most-1, most-1)
		wantNeed(t, manyOps(put, most), most, most)
		wantError(t, manyOps(put, most+1), api.ErrStack)
		wantError(t, manyOps(put, api.MaxOps), api.ErrStack)
		wantError(t, join(manyOps(put, most+1), manyOps(api.OpPop, most+1)), api.ErrStack)
		wantNeed(t, join(manyOps(put, most), manyOps(api.OpPop, most)), 0, most)
	}
	wantNeedOf(t, "a "+many("dup ", most-1), most, most)
	wantErrStack(t, "a "+many("dup ", most))
	wantErrStack(t, many("a ", most)+"dup pop")
	wantNeedOf(t, many("a ", most)+"swap not u8 + a", most, most)
	wantNeedOf(t, many("a ", most)+"emit v len", most, most)
	wantErrStack(t, many("a ", most)+"emit v len 0")
}

// Those ahead of a block count in it, but for the one that if or rep took.
func TestMaxStackInBlocks(t *testing.T) {
	for _, word := range []string{"if", "rep"} {
		for n := range api.MaxStack {
			room := api.MaxStack - n
			ahead := many("a ", n) + "v " + word + " [ "
			wantNeedOf(t, ahead+many("len ", room)+many("pop ", room)+"]", n, api.MaxStack)
			wantNeedOf(t, ahead+many("len ", room-1)+many("pop ", room-1)+"]", n, max(n+1, api.MaxStack-1))
			wantErrStack(t, ahead+many("len ", room+1)+many("pop ", room+1)+"]")
			wantErrStack(t, ahead+"len "+many("dup ", room)+many("pop ", room+1)+"]")
		}
		wantErrStack(t, many("a ", api.MaxStack)+"v "+word+" [ ]")
	}
}

// Where the most were there, ahead of a block, in it, or behind it, is all one.
func TestMostIsKept(t *testing.T) {
	for i := range 5 {
		for j := range 5 {
			for k := range 5 {
				s := many("a ", i) + many("pop ", i) + "v if [ " + many("a ", j) + many("pop ", j) + "] " + many("a ", k)
				wantNeedOf(t, s, k, max(1, i, j, k))
			}
		}
	}
}

func TestBlocks(t *testing.T) {
	for _, word := range []string{"if", "rep"} {
		in := func(s string) string { return word + " [ " + s + " ]" }
		wantErrStack(t, in(""))
		wantErrStack(t, "v pop "+in(""))
		wantErrStack(t, "v a emit "+in("a pop"))
		wantNeedOf(t, "v "+in(""), 0, 1)
		wantNeedOf(t, "v a "+in("")+" "+in(""), 0, 2)
		wantNeedOf(t, "v a "+in("v v emit")+" not", 1, 3)
		// One more, or one fewer, than it began with.
		wantErrStack(t, "v "+in("a"))
		wantErrStack(t, "v "+in("a")+" pop")
		wantErrStack(t, "v a "+in("v dup pop"))
		wantErrStack(t, "v a "+in("pop"))
		wantErrStack(t, "v a "+in("pop")+" a")
		wantErrStack(t, "v a a "+in("+"))
		wantErrStack(t, "v a a a "+in("emit"))
		// What was there is taken and put back.
		wantErrStack(t, "v a "+in("pop a"))
		wantErrStack(t, "v a "+in("not"))
		wantErrStack(t, "v a "+in("s16"))
		wantErrStack(t, "v a "+in("dup pop"))
		wantErrStack(t, "v a "+in("a +"))
		wantErrStack(t, "v a "+in("a swap pop"))
		wantErrStack(t, "v a a "+in("swap"))
		wantErrStack(t, "v a a "+in("+ a"))
		wantErrStack(t, "v a a "+in("emit a a"))
		wantErrStack(t, "v a a "+in(in("")+" a"))
		// Of its own it may take all.
		wantNeedOf(t, "v a "+in("v a swap + not dup emit"), 1, 3)
		wantNeedOf(t, "v a "+in("v "+in("")), 1, 2)
	}
}

// What a block in a block began with is there for the outer one alone.
func TestBlocksInBlocks(t *testing.T) {
	wantNeedOf(t, "v if [ a v rep [ len pop ] pop ]", 0, 2)
	wantNeedOf(t, "v if [ a v rep [ len len emit ] pop ]", 0, 3)
	wantNeedOf(t, "v v if [ a if [ ] a rep [ ] ] pop", 0, 2)
	wantErrStack(t, "v if [ a v rep [ pop a ] pop ]")
	wantErrStack(t, "v if [ a v rep [ pop ] ]")
	wantErrStack(t, "v if [ a v rep [ not ] pop ]")
	wantErrStack(t, "v if [ v rep [ a ] pop ]")
	wantErrStack(t, "v v if [ v rep [ ] pop a ]")
	wantErrStack(t, "v if [ v rep [ ] a ] pop")
}

// nested has in each block put words more than the block around it.
func nested(deep, put int) string {
	if deep == 0 {
		return ""
	}
	return many("a ", put) + "v rep [ " + nested(deep-1, put) + "] " + many("pop ", put)
}

func TestBlocksUpToMaxDeep(t *testing.T) {
	for deep := 1; deep <= api.MaxDeep; deep++ {
		for put := range 5 {
			if most := deep*put + 1; most <= api.MaxStack {
				wantNeedOf(t, nested(deep, put), 0, most)
				continue
			}
			wantErrStack(t, nested(deep, put))
		}
	}
	// The innermost block alone lacks one, has one too many, or is all right.
	for _, c := range []struct {
		in string
		ok bool
	}{{"", true}, {"a pop", true}, {"a", false}, {"pop", false}, {"pop a", false}, {"v a emit", true}} {
		s := "len len " + many("v if [ ", api.MaxDeep) + c.in + many(" ]", api.MaxDeep)
		wantRead(t, parse(t, s))
		if _, _, e := check.Need(parse(t, s)); c.ok != (e == api.OK) {
			t.Errorf("Need(%q): %d", s, e)
		}
	}
}

func TestMaxOps(t *testing.T) {
	half := api.MaxOps / 2
	pair := []api.Op{op(api.OpA), op(api.OpPop)}
	wantNeed(t, slices.Repeat(pair, half), 0, 1)
	wantNeed(t, append(manyOps(api.OpA, 1), manyOps(api.OpNot, api.MaxOps-1)...), 1, 1)
	wantNeed(t, append(manyOps(api.OpA, 1), block(api.OpRep, slices.Repeat(pair, half-1)...)), 0, 1)
	wantError(t, append(slices.Repeat(pair, half), op(api.OpA)), api.ErrForm)
	wantError(t, append(manyOps(api.OpA, 1), block(api.OpRep, slices.Repeat(pair, half)...)), api.ErrForm)
}

// texts are all of at most long words, a word of each effect and a block's two ends.
func texts(long int) []string {
	words := []string{"a", "+", "not", "dup", "swap", "pop", "emit", "if [", "]"}
	all, last := []string{""}, []string{""}
	for range long {
		var next []string
		for _, s := range last {
			for _, w := range words {
				next = append(next, s+w+" ")
			}
		}
		all = append(all, next...)
		last = next
	}
	return all
}

// All short programs, with nothing ahead of them, with something, and near MaxStack.
func TestShortPrograms(t *testing.T) {
	for _, s := range texts(5) {
		in, e := lang.Parse(s)
		if e != api.OK {
			continue
		}
		for _, n := range []int{0, 1, 2, 3, api.MaxStack - 2, api.MaxStack - 1, api.MaxStack} {
			wantRead(t, join(manyOps(api.OpVal, n), in))
			wantRead(t, append(manyOps(api.OpVal, n), block(api.OpRep, in...)))
		}
	}
}

func TestManyPrograms(t *testing.T) {
	checks, leaves, faults := 0, 0, 0
	for _, l := range programs() {
		wantRead(t, l)
		switch left, _, ok := read(l); {
		case !ok:
			faults++
		case left > 0:
			leaves++
		default:
			checks++
		}
	}
	if checks < 500 || leaves < 500 || faults < 300 {
		t.Errorf("%d check, %d leave something, %d go wrong", checks, leaves, faults)
	}
}

// bads may not be, each for another reason.
func bads() []api.Op {
	deep := op(api.OpIf)
	for range api.MaxDeep {
		deep = block(api.OpIf, deep)
	}
	return []api.Op{
		{}, op(-1), op(math.MinInt), op(api.OpEmit + 1), op(math.MaxInt),
		{Kind: api.OpA, N: 1}, {Kind: api.OpPop, N: -1}, {Kind: api.OpIf, N: 1}, {Kind: api.OpEmit, N: math.MinInt64},
		block(api.OpA, op(api.OpA)), block(api.OpNum, op(api.OpA), op(api.OpPop)), block(api.OpEmit, op(api.OpA)),
		deep, block(api.OpRep, manyOps(api.OpA, api.MaxOps)...),
	}
}

func TestOpsThatMayNotBe(t *testing.T) {
	for _, bad := range bads() {
		wantError(t, []api.Op{bad}, api.ErrForm)
		wantError(t, []api.Op{op(api.OpA), bad}, api.ErrForm)
		wantError(t, []api.Op{op(api.OpA), block(api.OpIf, bad)}, api.ErrForm)
	}
	wantError(t, manyOps(api.OpNot, api.MaxOps+1), api.ErrForm)
}

// R4: what may not be comes ahead of what is lacking, or too much, wherever either stands.
func TestFormAheadOfStack(t *testing.T) {
	faults := []string{"+", "pop", "dup", "v emit", "if [ ]", "v if [ a ]", "v a rep [ pop ]", "v a rep [ pop a ]", many("a ", api.MaxStack+1), "v", "v a"}
	for _, s := range faults {
		l := parse(t, s)
		if e := check.Check(l); e != api.ErrStack {
			t.Errorf("Check(%q): %d", s, e)
		}
		for _, bad := range bads() {
			for i := range len(l) + 1 {
				wantError(t, slices.Insert(slices.Clone(l), i, bad), api.ErrForm)
			}
			wantError(t, append(slices.Clone(l), op(api.OpA), block(api.OpRep, bad)), api.ErrForm)
			wantError(t, []api.Op{op(api.OpA), block(api.OpIf, append(slices.Clone(l), bad)...)}, api.ErrForm)
			wantError(t, []api.Op{op(api.OpA), block(api.OpIf, l...), bad}, api.ErrForm)
		}
	}
}

// R1: a block that stands in others many times over, or that holds itself, is no reason not to end.
func TestBlocksThatShare(t *testing.T) {
	l := manyOps(api.OpA, 100)
	for range api.MaxDeep {
		l = slices.Repeat([]api.Op{op(api.OpA), block(api.OpIf, l...)}, 50)
	}
	wantError(t, l, api.ErrForm)
	round := []api.Op{op(api.OpA), op(api.OpIf)}
	round[1].Block = round
	wantError(t, round, api.ErrForm)
	deep := []api.Op{op(api.OpA)}
	for range 60000 {
		deep = []api.Op{op(api.OpA), block(api.OpRep, deep...)}
	}
	wantError(t, deep, api.ErrForm)
	// One that may stand twice is read twice.
	twice := []api.Op{op(api.OpA), op(api.OpPop)}
	wantNeed(t, []api.Op{op(api.OpA), block(api.OpIf, twice...), op(api.OpA), op(api.OpA), block(api.OpRep, twice...)}, 1, 2)
}

// P7.2

func TestCheckNoneIsLeft(t *testing.T) {
	for n := range api.MaxStack + 1 {
		for pops := range n + 1 {
			want := api.ErrStack
			if pops == n {
				want = api.OK
			}
			l := join(manyOps(api.OpA, n), manyOps(api.OpPop, pops))
			if e := check.Check(l); e != want {
				t.Errorf("Check(%s): %d, not %d", show(l), e, want)
			}
		}
	}
	for _, s := range []string{"", "v pop", "a v emit", "v if [ ]", "v rep [ a v emit ]", "v a + pop"} {
		if e := check.Check(parse(t, s)); e != api.OK {
			t.Errorf("Check(%q): %d", s, e)
		}
	}
	for _, s := range []string{"v", "v a", "v a +", "v dup pop", "v a if [ ]", "v if [ a pop ] v", "pop", "emit", "v if [ a ]", "v a emit emit"} {
		if e := check.Check(parse(t, s)); e != api.ErrStack {
			t.Errorf("Check(%q): %d", s, e)
		}
	}
}

// P7.3

// machine runs programs over numbers that are there, and chooses how often a block is gone through.
type machine struct {
	t      *testing.T
	l      []api.Op
	there  []int64
	most   int
	fuel   int
	choose func(kind int) int
}

func (m *machine) take() int64 {
	if len(m.there) == 0 {
		m.t.Fatalf("%s lacks a number", show(m.l))
	}
	n := m.there[len(m.there)-1]
	m.there = m.there[:len(m.there)-1]
	return n
}

func (m *machine) put(n int64) {
	m.there = append(m.there, n)
	m.most = max(m.most, len(m.there))
}

func (m *machine) run(l []api.Op) {
	for _, x := range l {
		if m.fuel == 0 {
			return
		}
		m.fuel--
		switch takes, leaves := effectOf(x.Kind); x.Kind {
		case api.OpDup:
			n := m.take()
			m.put(n)
			m.put(n)
		case api.OpSwap:
			n, k := m.take(), m.take()
			m.put(n)
			m.put(k)
		case api.OpIf, api.OpRep:
			m.take()
			for range m.choose(x.Kind) {
				m.run(x.Block)
			}
		default:
			var n int64
			for range takes {
				n += m.take()
			}
			for range leaves {
				m.put(n + x.N)
			}
		}
	}
}

// However often blocks are gone through, no number is lacking, and as many are left, and at most, as Need says.
func TestNeverLacksANumber(t *testing.T) {
	picks := maker{seed: 7}
	ways := []func(int) int{
		func(int) int { return 0 },
		func(int) int { return 1 },
		func(kind int) int { return 1 + kind - api.OpIf },
		func(kind int) int { return picks.pick(2 + 3*(kind-api.OpIf)) },
	}
	ran := 0
	for _, l := range append(programs(), parse(t, nested(api.MaxDeep, 2)), parse(t, many("a ", 16)+many("pop ", 16))) {
		left, most, e := check.Need(l)
		if e != api.OK {
			continue
		}
		ran++
		for i, choose := range ways {
			m := machine{t: t, l: l, fuel: 100000, choose: choose}
			m.run(l)
			if m.fuel > 0 && len(m.there) != left || m.most > most || i == 1 && m.most != most {
				t.Errorf("%s, way %d: %d are left, %d at most, not %d, %d", show(l), i, len(m.there), m.most, left, most)
			}
		}
		if e := check.Check(l); e == api.OK && left != 0 {
			t.Errorf("Check(%s): %d are left", show(l), left)
		}
	}
	if ran < 1000 {
		t.Errorf("%d ran", ran)
	}
}

// R1 and R2

func TestTellsTheSame(t *testing.T) {
	for _, l := range programs()[:500] {
		left, most, e := check.Need(l)
		c := check.Check(l)
		for range 3 {
			left2, most2, e2 := check.Need(l)
			if left2 != left || most2 != most || e2 != e || check.Check(l) != c {
				t.Errorf("%s tells another thing", show(l))
			}
		}
	}
}

const room = 2 // ops in spare room

// withRoom has ops behind each of its lists, in spare room.
func withRoom(l []api.Op) []api.Op {
	c := append(slices.Clone(l), api.Op{Kind: api.OpNum, N: 99}, api.Op{Kind: -5, N: 98})
	for i := range l {
		c[i].Block = withRoom(l[i].Block)
	}
	return c[:len(l)]
}

// sameRoom compares the spare room, too.
func sameRoom(a, b []api.Op) bool {
	if len(a) != len(b) {
		return false
	}
	for i := range a {
		if a[i].Kind != b[i].Kind || a[i].N != b[i].N || !sameRoom(a[i].Block, b[i].Block) {
			return false
		}
	}
	return slices.EqualFunc(a[len(a):len(a)+room], b[len(b):len(b)+room], func(x, y api.Op) bool {
		return x.Kind == y.Kind && x.N == y.N && len(x.Block) == len(y.Block)
	})
}

// What is handed in stays as it is, in blocks and spare room, whatever is told of it.
func TestHandedInUnchanged(t *testing.T) {
	all := programs()
	for _, bad := range bads() {
		all = append(all, []api.Op{bad}, []api.Op{op(api.OpA), block(api.OpIf, bad), op(api.OpPop)})
	}
	for _, l := range all {
		given, was := withRoom(l), withRoom(l)
		check.Need(given)
		check.Check(given)
		if !sameRoom(given, was) {
			t.Errorf("%s became %s", show(was), show(given))
		}
	}
}
