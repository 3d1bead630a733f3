package lang_test

import (
	"math"
	"math/big"
	"regexp"
	"slices"
	"strconv"
	"strings"
	"testing"

	"thresher/api"
	"thresher/lang"
)

// names are the chapter's words of no block, with their kinds.
var names = []struct {
	word string
	kind int
}{
	{"a", api.OpA}, {"len", api.OpLen}, {"v", api.OpVal},
	{"+", api.OpAdd}, {"-", api.OpSub}, {"*", api.OpMul}, {"/", api.OpDiv}, {"%", api.OpMod},
	{"&", api.OpAnd}, {"|", api.OpOr}, {"^", api.OpXor},
	{"<<", api.OpShl}, {">>", api.OpShr}, {">>>", api.OpUshr},
	{"<", api.OpLess}, {"=", api.OpSame}, {"not", api.OpNot},
	{"u8", api.OpU8}, {"u16", api.OpU16}, {"u32", api.OpU32},
	{"s8", api.OpS8}, {"s16", api.OpS16}, {"s32", api.OpS32},
	{"dup", api.OpDup}, {"swap", api.OpSwap}, {"pop", api.OpPop},
	{"emit", api.OpEmit},
}

func op(kind int) api.Op                   { return api.Op{Kind: kind} }
func number(n int64) api.Op                { return api.Op{Kind: api.OpNum, N: n} }
func block(kind int, l ...api.Op) api.Op   { return api.Op{Kind: kind, Block: l} }
func many(s string, n int) string          { return strings.Repeat(s, n) }
func manyOps(x api.Op, n int) []api.Op     { return slices.Repeat([]api.Op{x}, n) }
func inBlocks(n int, l ...api.Op) []api.Op { return nest(n, api.OpIf, l) }
func nested(s string, n int) string        { return many("if [ ", n) + s + many(" ]", n) }
func same(a, b []api.Op) bool              { return slices.EqualFunc(a, b, sameOp) }
func sameOp(a, b api.Op) bool              { return a.Kind == b.Kind && a.N == b.N && same(a.Block, b.Block) }

func nest(n, kind int, l []api.Op) []api.Op {
	for range n {
		l = []api.Op{block(kind, l...)}
	}
	return l
}

// cloneOps has memory of its own in blocks, too.
func cloneOps(l []api.Op) []api.Op {
	c := slices.Clone(l)
	for i := range c {
		c[i].Block = cloneOps(c[i].Block)
	}
	return c
}

// numbers are the signs, the powers of 2 and of 10 with their neighbours, the least and the greatest.
func numbers() []int64 {
	l := []int64{0, math.MinInt64, math.MinInt64 + 1, math.MaxInt64 - 1, math.MaxInt64}
	for i := range 63 {
		p := int64(1) << i
		l = append(l, p-1, p, p+1, -p-1, -p, -p+1)
	}
	for p := int64(1); p < math.MaxInt64/10; p *= 10 {
		l = append(l, p*10-1, p*10, p*10+1, -p*10-1, -p*10, -p*10+1)
	}
	return l
}

// wordsOf are the ops' words by the chapter's list, written another way than the program's.
func wordsOf(l []api.Op) (all []string) {
	for _, x := range l {
		switch x.Kind {
		case api.OpNum:
			all = append(all, big.NewInt(x.N).String())
		case api.OpIf:
			all = append(append(append(all, "if", "["), wordsOf(x.Block)...), "]")
		case api.OpRep:
			all = append(append(append(all, "rep", "["), wordsOf(x.Block)...), "]")
		default:
			for _, c := range names {
				if c.kind == x.Kind {
					all = append(all, c.word)
				}
			}
		}
	}
	return all
}

func textOf(l []api.Op) string { return strings.Join(wordsOf(l), " ") }

func countOf(l []api.Op) int {
	n := len(l)
	for _, x := range l {
		n += countOf(x.Block)
	}
	return n
}

// maker makes programs that are the same in each run.
type maker struct {
	seed uint64
	left int // ops that it may still make
}

func (m *maker) pick(n int) int {
	m.seed = m.seed*6364136223846793005 + 1442695040888963407
	return int(m.seed>>33) % n
}

func (m *maker) list(long, deep int) (l []api.Op) {
	all := numbers()
	for range m.pick(long + 1) {
		if m.left == 0 {
			return l
		}
		m.left--
		switch k := m.pick(5); {
		case k == 0:
			l = append(l, number(all[m.pick(len(all))]))
		case k == 1 && deep < api.MaxDeep:
			l = append(l, block(api.OpIf+m.pick(2), m.list(long, deep+1)...))
		default:
			l = append(l, op(names[m.pick(len(names))].kind))
		}
	}
	return l
}

// programs may be, and their texts are no longer than MaxProg.
func programs() [][]api.Op {
	l := [][]api.Op{
		nil,
		{op(api.OpVal), number(2), op(api.OpMul)},
		{block(api.OpIf)},
		{block(api.OpRep), block(api.OpIf)},
		{block(api.OpIf, op(api.OpA), block(api.OpRep), number(-5)), block(api.OpRep, op(api.OpVal))},
		manyOps(op(api.OpA), api.MaxOps),
		manyOps(number(7), api.MaxOps),
		{block(api.OpRep, manyOps(op(api.OpVal), api.MaxOps-1)...)},
		// Their text has MaxProg bytes.
		manyOps(block(api.OpIf, op(api.OpA)), (api.MaxProg+1)/9),
	}
	for n := range api.MaxDeep + 1 {
		l = append(l, inBlocks(n), inBlocks(n, op(api.OpA)), nest(n, api.OpRep, nil), nest(n, api.OpRep, []api.Op{number(-1), number(1)}))
	}
	for _, c := range names {
		l = append(l, []api.Op{op(c.kind)}, inBlocks(3, op(c.kind), op(c.kind)))
	}
	for _, n := range numbers() {
		l = append(l, []api.Op{number(n)}, []api.Op{number(n), op(api.OpA), block(api.OpRep, number(n))})
	}
	for i := range 600 {
		m := maker{seed: uint64(i), left: 1 + i%api.MaxOps}
		if p := m.list(1+i%20, 0); len(textOf(p)) <= api.MaxProg {
			l = append(l, p)
		}
	}
	return l
}

// spread has the program's words with other blanks between, ahead and behind, as far as there is room.
func spread(l []api.Op, seed int) string {
	m := maker{seed: uint64(seed)}
	blanks := []string{" ", "\n", "  ", "\n\n", " \n", "\n \n "}
	var b strings.Builder
	room := api.MaxProg - len(textOf(l))
	add := func(least int) {
		s := blanks[m.pick(len(blanks))]
		if len(s)-least > room {
			s = " \n"[m.pick(2):][:least]
		}
		room -= len(s) - least
		b.WriteString(s)
	}
	if m.pick(2) == 0 {
		add(0)
	}
	for i, w := range wordsOf(l) {
		if i > 0 {
			add(1)
		}
		b.WriteString(w)
	}
	add(0)
	return b.String()
}

// show tells the beginning of what may be long, or have no end.
func show(l []api.Op) string {
	var b strings.Builder
	for _, x := range l[:min(len(l), 8)] {
		b.WriteString(strconv.Itoa(x.Kind) + ":" + strconv.FormatInt(x.N, 10) + ":" + strconv.Itoa(len(x.Block)) + " ")
	}
	return b.String() + "of " + strconv.Itoa(len(l))
}

func wantOps(t *testing.T, s string, want []api.Op) {
	t.Helper()
	if l, e := lang.Parse(s); !same(l, want) || e != api.OK {
		t.Errorf("Parse(%q): %s, %d, not %s", s, show(l), e, show(want))
	}
}

func wantNoOps(t *testing.T, s string, want api.Errno) {
	t.Helper()
	if l, e := lang.Parse(s); len(l) != 0 || e != want {
		t.Errorf("Parse(%q): %s, %d, not %d", s, show(l), e, want)
	}
}

func wantText(t *testing.T, l []api.Op, want string) {
	t.Helper()
	if s, e := lang.Text(l); s != want || e != api.OK {
		t.Errorf("Text(%s): %q, %d, not %q", show(l), s, e, want)
	}
}

func wantNoText(t *testing.T, l []api.Op, want api.Errno) {
	t.Helper()
	if s, e := lang.Text(l); s != "" || e != want {
		t.Errorf("Text(%s): %q, %d, not %d", show(l), s, e, want)
	}
}

func wantMayBe(t *testing.T, l []api.Op, many int) {
	t.Helper()
	if e := lang.Check(l); e != api.OK {
		t.Errorf("Check(%s): %d", show(l), e)
	}
	if n, e := lang.Count(l); n != many || e != api.OK {
		t.Errorf("Count(%s): %d, %d, not %d", show(l), n, e, many)
	}
}

func wantMayNotBe(t *testing.T, l []api.Op) {
	t.Helper()
	if e := lang.Check(l); e != api.ErrForm {
		t.Errorf("Check(%s): %d", show(l), e)
	}
	if n, e := lang.Count(l); n != 0 || e != api.ErrForm {
		t.Errorf("Count(%s): %d, %d", show(l), n, e)
	}
	wantNoText(t, l, api.ErrForm)
}

// P6.1

// The chapter's example.
func TestParseThreeOps(t *testing.T) {
	want := []api.Op{op(api.OpVal), number(2), op(api.OpMul)}
	wantOps(t, "v 2 *", want)
	wantText(t, want, "v 2 *")
	wantMayBe(t, want, 3)
}

// The kinds stand in the order of api, and no kind is without a word.
func TestParseEachWord(t *testing.T) {
	var kinds []int
	for _, c := range names {
		wantOps(t, c.word, []api.Op{op(c.kind)})
		wantOps(t, "\n "+c.word+"  "+c.word+"\n", manyOps(op(c.kind), 2))
		kinds = append(kinds, c.kind)
	}
	wantOps(t, "if [ ]", []api.Op{block(api.OpIf)})
	wantOps(t, "rep [ ]", []api.Op{block(api.OpRep)})
	kinds = append(kinds, api.OpNum, api.OpIf, api.OpRep)
	slices.Sort(kinds)
	if len(kinds) != api.OpEmit || kinds[0] != api.OpNum || len(slices.Compact(kinds)) != api.OpEmit {
		t.Errorf("kinds %v", kinds)
	}
}

func TestParseOfNoWords(t *testing.T) {
	for _, s := range []string{"", " ", "\n", "  ", "\n\n", " \n ", many(" ", api.MaxProg), many("\n", api.MaxProg), many(" \n", api.MaxProg/2)} {
		wantOps(t, s, nil)
	}
}

func TestParseBlanks(t *testing.T) {
	want := []api.Op{op(api.OpA), block(api.OpIf, number(1)), op(api.OpVal)}
	for _, b := range []string{" ", "\n", "  ", "\n\n", " \n", "\n ", "\n \n \n", many(" ", 60), many("\n", 60)} {
		s := strings.Join(wordsOf(want), b)
		for _, x := range []string{s, b + s, s + b, b + s + b} {
			wantOps(t, x, want)
		}
	}
	for i, l := range programs() {
		wantOps(t, spread(l, i), l)
	}
}

// What else is a blank elsewhere makes a word that is none; nor may words stand without one between.
func TestParseOfNoBlanks(t *testing.T) {
	for _, b := range []string{"\t", "\r", "\r\n", "\v", "\f", "\x00", "\u00a0", "\u0085", "\u2028", "\u2003", "\xa0", "\x85", ",", ";", "_"} {
		wantNoOps(t, "a"+b+"v", api.ErrBad)
		wantNoOps(t, b, api.ErrBad)
		wantNoOps(t, "a "+b+" v", api.ErrBad)
		wantNoOps(t, b+"a", api.ErrBad)
		wantNoOps(t, "a"+b+" v", api.ErrBad)
		wantNoOps(t, "if"+b+"[ ]", api.ErrBad)
	}
	for _, s := range []string{"if[ ]", "if [ ]]", "if []", "if [] ]", "if [a ]", "if [ a]", "if [ ]a", "rep[", "1a", "a1", "2*", "v2", "1-1", "- 1-", "1+", "aa", "vv", "++", "--", "**", ">>>>", "<<<", "<=", "==", "<>", "&&", "||"} {
		wantNoOps(t, s, api.ErrBad)
	}
}

// Each byte alone, and beside each word: a word is what stands in the list, nothing near it.
func TestParseOfNearWords(t *testing.T) {
	is := func(word string) bool {
		return slices.ContainsFunc(names, func(c struct {
			word string
			kind int
		}) bool {
			return c.word == word
		})
	}
	for b := range 256 {
		x := string([]byte{byte(b)})
		blank := b == ' ' || b == '\n'
		if !blank && !is(x) && (b < '0' || b > '9') {
			wantNoOps(t, x, api.ErrBad)
		}
		for _, c := range names {
			for _, w := range []string{c.word + x, x + c.word, c.word[:len(c.word)-1] + x} {
				_, e := lang.Parse(w)
				known := blank || is(w) || isNumber(w)
				if blank && len(c.word) > 1 {
					known = is(strings.Trim(w, " \n"))
				}
				if known != (e == api.OK) {
					t.Errorf("Parse(%q): %d", w, e)
				}
			}
		}
	}
	for _, s := range []string{"A", "LEN", "V", "Emit", "EMIT", "If [ ]", "REP [ ]", "le", "lenn", "no", "nott", "u64", "s64", "u", "s", "u08", "du", "swa", "po", "emi", "i", "re", "iff [ ]", "repp [ ]", "num", "none", "and", "{", "}", "(", ")", "!", "~"} {
		wantNoOps(t, s, api.ErrBad)
	}
}

var decimal = regexp.MustCompile(`^(0|-?[1-9][0-9]*)$`)

// isNumber is the chapter's, by numbers without a bound.
func isNumber(s string) bool {
	n, ok := new(big.Int).SetString(s, 10)
	return ok && decimal.MatchString(s) && n.IsInt64()
}

func TestParseNumbers(t *testing.T) {
	for _, n := range numbers() {
		s := strconv.FormatInt(n, 10)
		wantOps(t, s, []api.Op{number(n)})
		wantOps(t, " "+s+"\n"+s+" a", []api.Op{number(n), number(n), op(api.OpA)})
		for _, bad := range []string{"0" + s, "+" + s, "--" + s, "-0" + strings.TrimPrefix(s, "-"), s + ".", s + ".0", s + "_", s + "e0", s + "x", "x" + s, s + "-", "0x" + s, s + "n", "'" + s} {
			wantNoOps(t, bad, api.ErrBad)
		}
	}
}

func TestParseNumberEdges(t *testing.T) {
	wantOps(t, "-9223372036854775808 9223372036854775807", []api.Op{number(math.MinInt64), number(math.MaxInt64)})
	wantOps(t, "- 1", []api.Op{op(api.OpSub), number(1)})
	wantOps(t, "-1", []api.Op{number(-1)})
	for _, s := range []string{"-0", "00", "-00", "01", "-01", "007", "+0", "+1", "1_0", "1_000", "0_1", "0x1", "0b1", "0o7", "1e3", "1.0", ".5", "1,0", "- 1 -0", "٣", "１", "\u22121", "NaN", "inf", "-inf",
		"9223372036854775808", "-9223372036854775809", "9223372036854775817", "18446744073709551615", "18446744073709551616", "18446744073709551617", "-18446744073709551616", "99999999999999999999", "-99999999999999999999", many("9", 400), "-" + many("1", 400), many("0", 400), "1" + many("0", 400)} {
		wantNoOps(t, s, api.ErrBad)
	}
}

// All short words of digits and signs are numbers, or none, as the chapter says.
func TestParseShortNumbers(t *testing.T) {
	signs := []string{"", "0", "1", "9", "-", "+", "_", "."}
	for i := range 8 * 8 * 8 * 8 {
		s := signs[i%8] + signs[i/8%8] + signs[i/64%8] + signs[i/512]
		if s == "" || s == "-" || s == "+" {
			continue
		}
		if !isNumber(s) {
			wantNoOps(t, s, api.ErrBad)
			continue
		}
		n, _ := strconv.ParseInt(s, 10, 64)
		wantOps(t, s, []api.Op{number(n)})
	}
}

// A number of each last digit beside the least and the greatest.
func TestParseNumbersBesideTheEdges(t *testing.T) {
	for _, edge := range []int64{math.MinInt64, math.MaxInt64} {
		for d := int64(-1000); d <= 1000; d++ {
			n := new(big.Int).Add(big.NewInt(edge), big.NewInt(d))
			if !n.IsInt64() {
				wantNoOps(t, n.String(), api.ErrBad)
				continue
			}
			wantOps(t, n.String(), []api.Op{number(n.Int64())})
		}
	}
}

func TestParseBlocks(t *testing.T) {
	a, v := op(api.OpA), op(api.OpVal)
	for _, c := range []struct {
		s    string
		want []api.Op
	}{
		{"if [ a ]", []api.Op{block(api.OpIf, a)}},
		{"rep [ a v ]", []api.Op{block(api.OpRep, a, v)}},
		{"a if [ ] v", []api.Op{a, block(api.OpIf), v}},
		{"a if\n[\n]\nrep [ ] v", []api.Op{a, block(api.OpIf), block(api.OpRep), v}},
		{"if [ if [ a ] v ] a", []api.Op{block(api.OpIf, block(api.OpIf, a), v), a}},
		{"if [ a rep [ v ] ] rep [ if [ ] ]", []api.Op{block(api.OpIf, a, block(api.OpRep, v)), block(api.OpRep, block(api.OpIf))}},
		{"rep [ rep [ rep [ -1 ] ] 1 ] 0", []api.Op{block(api.OpRep, block(api.OpRep, block(api.OpRep, number(-1))), number(1)), number(0)}},
	} {
		wantOps(t, c.s, c.want)
	}
}

func TestParseOfBadBlocks(t *testing.T) {
	for _, s := range []string{"[", "]", "[ ]", "] [", "a [ ]", "a ]", "1 [", "if a", "if ]", "if if", "if if [ ] ]", "if rep [ ] ]", "if 1 [ ]", "rep rep", "rep x", "if [ ] ]", "if [ ] [ ]", "if [ [", "if [ [ ] ]", "rep [ ] a ]", "if [ if ] ]", "if [ if [ ] ] ]", "emit [ ]", "if ] [", "if [ x", "if x", "if [ ] x", "if [ 01"} {
		wantNoOps(t, s, api.ErrBad)
		wantNoOps(t, s+" a", api.ErrBad)
		wantNoOps(t, s+" if", api.ErrBad)
		wantNoOps(t, "a\n"+s, api.ErrBad)
	}
}

func TestParseCutShort(t *testing.T) {
	for _, s := range []string{"if", "rep", "a if", "if [", "rep [", "if [ a", "if [ if", "if [ if [", "if [ if [ ]", "rep [ if [ a ] v", "if [ ] rep", "if [ ] rep [", "if [ ] if [ ] if [", "if\n", "if [ \n ", many("if [ ", api.MaxDeep), many("if [ ", api.MaxDeep) + "if", many("rep [ ", api.MaxDeep) + "a ] ]"} {
		wantNoOps(t, s, api.ErrCut)
		wantNoOps(t, "a\n"+s+" ", api.ErrCut)
	}
}

// A text cut off between two words is of the ops ahead, or ends in a block or behind if or rep.
func TestParseCutOffBetweenWords(t *testing.T) {
	for _, l := range programs() {
		w := wordsOf(l)
		ends := map[int]int{}
		for n := range len(l) + 1 {
			ends[len(wordsOf(l[:n]))] = n
		}
		for i := range len(w) + 1 {
			s := strings.Join(w[:i], " ")
			if n, there := ends[i]; there {
				wantOps(t, s, l[:n])
				continue
			}
			wantNoOps(t, s, api.ErrCut)
		}
	}
}

func TestParseOfLongTexts(t *testing.T) {
	a := []api.Op{op(api.OpA)}
	wantOps(t, "a"+many(" ", api.MaxProg-1), a)
	wantOps(t, many("\n", api.MaxProg-1)+"a", a)
	wantNoOps(t, many("x", api.MaxProg), api.ErrBad)
	wantNoOps(t, "if"+many(" ", api.MaxProg-2), api.ErrCut)
	for _, n := range []int{api.MaxProg + 1, api.MaxProg + 2, 2 * api.MaxProg, 1 << 16, 1<<16 + 1, 1 << 20} {
		for _, x := range []string{" ", "\n", "x", "1", "[", "]", "\x00", "\xff"} {
			wantNoOps(t, many(x, n), api.ErrLimit)
		}
		for _, s := range []string{"a", "x", "]", "if", "if x"} {
			wantNoOps(t, s+many(" ", n-len(s)), api.ErrLimit)
			wantNoOps(t, many("\n", n-len(s))+s, api.ErrLimit)
		}
	}
}

func TestParseOfManyOps(t *testing.T) {
	const most = api.MaxOps
	wantOps(t, many("a ", most), manyOps(op(api.OpA), most))
	wantOps(t, many("1\n", most), manyOps(number(1), most))
	wantOps(t, many("a ", most-1)+"if [ ]", append(manyOps(op(api.OpA), most-1), block(api.OpIf)))
	wantOps(t, "if [ "+many("a ", most-1)+"]", []api.Op{block(api.OpIf, manyOps(op(api.OpA), most-1)...)})
	wantOps(t, "if [ "+many("a ", most-2)+"] v", []api.Op{block(api.OpIf, manyOps(op(api.OpA), most-2)...), op(api.OpVal)})
	for _, s := range []string{"a", "1", "if", "rep", "if [ ]", "rep [ a ]", "emit", "a x", "if x", "if ]", "rep [ [", "a if [", "a ]"} {
		wantNoOps(t, many("a ", most)+s, api.ErrLimit)
		wantNoOps(t, many("1 ", most-1)+"if [ ] "+s, api.ErrLimit)
		wantNoOps(t, "if [ ] "+many("v ", most-1)+s, api.ErrLimit)
		wantNoOps(t, many("a ", most-1)+"rep [ "+s, api.ErrLimit)
		wantNoOps(t, "if [ "+many("a ", most-1)+s, api.ErrLimit)
		wantNoOps(t, "if [ "+many("a ", most-1)+"] "+s, api.ErrLimit)
	}
	// What is no op is none too many.
	for _, s := range []string{"x", "[", "]", "-0", "01", "x a", "] a"} {
		wantNoOps(t, many("a ", most)+s, api.ErrBad)
	}
	wantNoOps(t, many("a ", most-1)+"if a", api.ErrBad)
	wantNoOps(t, many("a ", most-1)+"if", api.ErrCut)
	wantNoOps(t, many("a ", most-1)+"if [", api.ErrCut)
	wantNoOps(t, many("a ", most-1)+"if [ x", api.ErrBad)
	wantNoOps(t, many("a ", most-1)+"if [ ] ]", api.ErrBad)
}

func TestParseOfDeepBlocks(t *testing.T) {
	const most = api.MaxDeep
	for n := range most + 1 {
		wantOps(t, nested("", n), inBlocks(n))
		wantOps(t, nested("a v", n), inBlocks(n, op(api.OpA), op(api.OpVal)))
		wantOps(t, nested("a", n)+" "+nested("a", n), append(inBlocks(n, op(api.OpA)), inBlocks(n, op(api.OpA))...))
	}
	wantOps(t, nested("if [ ] rep [ ] if [ a ]", most-1), inBlocks(most-1, block(api.OpIf), block(api.OpRep), block(api.OpIf, op(api.OpA))))
	for _, s := range []string{"if [", "rep [", "if [ ]", "rep [ a ]", "if [ x", "if [ ] x", "a if [ ]", "if [ ] ] ] ] ] ] ]", "rep [ rep [ ]"} {
		wantNoOps(t, many("if [ ", most)+s, api.ErrLimit)
		wantNoOps(t, many("rep [ ", most)+s, api.ErrLimit)
		wantNoOps(t, nested("a", most)+" "+many("rep [ ", most)+s, api.ErrLimit)
		wantNoOps(t, many("if [ ", most-1)+"if [ ] rep [ "+s, api.ErrLimit)
	}
	wantNoOps(t, many("if [ ", 40), api.ErrLimit)
	// It is the block that is too deep: what stands behind if instead tells its own error.
	wantNoOps(t, many("if [ ", most)+"if", api.ErrCut)
	wantNoOps(t, many("if [ ", most)+"if a", api.ErrBad)
	wantNoOps(t, many("if [ ", most)+"if ]", api.ErrBad)
	wantNoOps(t, many("if [ ", most)+"x", api.ErrBad)
	wantNoOps(t, many("if [ ", most)+"[", api.ErrBad)
}

// R4: the length, then word by word what comes first.
func TestParseFirstError(t *testing.T) {
	wantNoOps(t, "x if", api.ErrBad)
	wantNoOps(t, "if x", api.ErrBad)
	wantNoOps(t, "if [ x", api.ErrBad)
	wantNoOps(t, "x "+many("a ", api.MaxOps+1), api.ErrBad)
	wantNoOps(t, many("a ", api.MaxOps+1)+"x", api.ErrLimit)
	wantNoOps(t, many("if [ ", api.MaxDeep+1)+"x", api.ErrLimit)
	wantNoOps(t, "] "+many("if [ ", api.MaxDeep+1), api.ErrBad)
	wantNoOps(t, many("a ", api.MaxOps)+"if", api.ErrLimit)
	wantNoOps(t, "if [ "+many("a ", api.MaxOps), api.ErrLimit)
	wantNoOps(t, "if [ "+many("a ", api.MaxOps-1), api.ErrCut)
	wantNoOps(t, "x"+many(" ", api.MaxProg), api.ErrLimit)
	wantNoOps(t, "if"+many(" ", api.MaxProg), api.ErrLimit)
}

// errorOf is P6.1's, by a state instead of blocks in blocks.
func errorOf(words []string) api.Errno {
	ops, deep, behind := 0, 0, false
	for _, w := range words {
		isOp := w == "if" || w == "rep" || w == "a" || w == "-5"
		switch {
		case behind && w != "[":
			return api.ErrBad
		case behind && deep == api.MaxDeep:
			return api.ErrLimit
		case behind:
			behind = false
			deep++
		case w == "]" && deep > 0:
			deep--
		case !isOp:
			return api.ErrBad
		case ops == api.MaxOps:
			return api.ErrLimit
		default:
			ops++
			behind = w == "if" || w == "rep"
		}
	}
	if behind || deep > 0 {
		return api.ErrCut
	}
	return api.OK
}

// All short texts, alone and behind what is near a limit.
func TestParseOfAllShortTexts(t *testing.T) {
	some := []string{"a", "-5", "if", "rep", "[", "]", "x"}
	var aheads []string
	for _, n := range []int{0, api.MaxOps - 2, api.MaxOps - 1, api.MaxOps} {
		aheads = append(aheads, many("a ", n))
	}
	for _, n := range []int{1, api.MaxDeep - 1, api.MaxDeep} {
		aheads = append(aheads, many("rep [ ", n), many("a ", api.MaxOps-n-1)+many("rep [ ", n), many("a ", api.MaxOps-n-2)+many("if [ ", n)+"a ")
	}
	var all func(left int, words []string)
	all = func(left int, words []string) {
		for _, ahead := range aheads {
			s := ahead + strings.Join(words, " ")
			l, e := lang.Parse(s)
			w := strings.Fields(s)
			if want := errorOf(w); e != want || (e != api.OK && len(l) > 0) {
				t.Errorf("Parse(%q): %s, %d, not %d", s, show(l), e, want)
			}
			if e == api.OK && !slices.Equal(wordsOf(l), w) {
				t.Errorf("Parse(%q): %s", s, show(l))
			}
		}
		if left == 0 {
			return
		}
		for _, w := range some {
			all(left-1, append(slices.Clone(words), w))
		}
	}
	all(4, nil)
}

// R1: whatever it is given, it ends; what it tells may be.
func TestParseOfAnyBytes(t *testing.T) {
	bytes := "a1-0 \n if rep [] []xv+<>=u8\x00\x80\xff\t"
	for i := range 20000 {
		m := maker{seed: uint64(i)}
		b := make([]byte, m.pick(24))
		for j := range b {
			b[j] = bytes[m.pick(len(bytes))]
		}
		l, e := lang.Parse(string(b))
		if e != api.OK {
			if len(l) > 0 || e != api.ErrBad && e != api.ErrCut {
				t.Errorf("Parse(%q): %s, %d", b, show(l), e)
			}
			continue
		}
		wantMayBe(t, l, countOf(l))
		wantText(t, l, strings.Join(strings.Fields(string(b)), " "))
	}
}

// P6.2

func TestMayBe(t *testing.T) {
	wantMayBe(t, nil, 0)
	wantMayBe(t, []api.Op{}, 0)
	for _, l := range programs() {
		wantMayBe(t, l, countOf(l))
		wantText(t, l, textOf(l))
	}
}

// Each kind and those beside them, alone and in blocks.
func TestEachKind(t *testing.T) {
	for kind := -3; kind <= api.OpEmit+3; kind++ {
		l := []api.Op{op(kind)}
		for n := range api.MaxDeep + 1 {
			deep := nest(n, api.OpRep, l)
			isBlock := kind == api.OpIf || kind == api.OpRep
			if kind < api.OpNum || kind > api.OpEmit || isBlock && n == api.MaxDeep {
				wantMayNotBe(t, deep)
				continue
			}
			wantMayBe(t, deep, n+1)
			wantText(t, deep, textOf(deep))
		}
	}
	for _, kind := range []int{math.MinInt64, math.MaxInt64, math.MinInt32, math.MaxInt32, 256 + api.OpA, 1<<32 + api.OpIf, -api.OpEmit, 100} {
		wantMayNotBe(t, []api.Op{op(kind)})
		wantMayNotBe(t, []api.Op{op(api.OpA), block(api.OpIf, op(kind))})
	}
}

// N is 0 but for a number.
func TestNumberOfEachKind(t *testing.T) {
	for kind := api.OpNum; kind <= api.OpEmit; kind++ {
		for _, n := range []int64{1, -1, 2, 255, 256, 1 << 32, math.MinInt64, math.MaxInt64} {
			x := api.Op{Kind: kind, N: n}
			for _, l := range [][]api.Op{{x}, {op(api.OpA), x}, {block(api.OpIf, x)}, inBlocks(api.MaxDeep-1, number(3), x)} {
				if kind == api.OpNum {
					wantMayBe(t, l, countOf(l))
					wantText(t, l, textOf(l))
					continue
				}
				wantMayNotBe(t, l)
			}
		}
	}
	wantMayNotBe(t, []api.Op{{Kind: api.OpRep, N: 1, Block: []api.Op{op(api.OpA)}}})
}

// A block is empty but for if and rep; a nil one and an empty one are one.
func TestBlockOfEachKind(t *testing.T) {
	for kind := api.OpNum; kind <= api.OpEmit; kind++ {
		for _, inner := range [][]api.Op{{op(api.OpA)}, {number(0)}, {block(api.OpIf)}, {op(api.OpA), op(api.OpVal)}} {
			for _, l := range [][]api.Op{{block(kind, inner...)}, {op(api.OpA), block(api.OpRep, block(kind, inner...))}} {
				if kind == api.OpIf || kind == api.OpRep {
					wantMayBe(t, l, countOf(l))
					wantText(t, l, textOf(l))
					continue
				}
				wantMayNotBe(t, l)
			}
		}
		empty := []api.Op{{Kind: kind, Block: []api.Op{}}}
		wantMayBe(t, empty, 1)
		wantText(t, empty, textOf([]api.Op{op(kind)}))
	}
}

func TestMostOps(t *testing.T) {
	const most = api.MaxOps
	for _, x := range []api.Op{op(api.OpA), number(1), number(math.MinInt64), op(api.OpEmit), block(api.OpIf)} {
		for _, n := range []int{most - 1, most} {
			wantMayBe(t, manyOps(x, n), n)
			wantMayBe(t, []api.Op{block(api.OpIf, manyOps(x, n-1)...)}, n)
			wantMayBe(t, append([]api.Op{block(api.OpIf, manyOps(x, n-2)...)}, x), n)
			wantMayBe(t, []api.Op{x, block(api.OpRep, manyOps(x, n-2)...)}, n)
			wantMayBe(t, []api.Op{block(api.OpIf, manyOps(x, n/2-1)...), block(api.OpRep, manyOps(x, n-n/2-1)...)}, n)
		}
		for _, n := range []int{most + 1, most + 2, 256, 256 + most, 1 << 12} {
			wantMayNotBe(t, manyOps(x, n))
			wantMayNotBe(t, []api.Op{block(api.OpIf, manyOps(x, n-1)...)})
			wantMayNotBe(t, append([]api.Op{block(api.OpIf, manyOps(x, n-2)...)}, x))
			wantMayNotBe(t, []api.Op{x, block(api.OpRep, manyOps(x, n-2)...)})
			wantMayNotBe(t, []api.Op{block(api.OpIf, manyOps(x, n/2-1)...), block(api.OpRep, manyOps(x, n-n/2-1)...)})
		}
	}
}

func TestDeepestBlocks(t *testing.T) {
	const most = api.MaxDeep
	a := op(api.OpA)
	for _, kind := range []int{api.OpIf, api.OpRep} {
		for n := range most + 1 {
			wantMayBe(t, nest(n, kind, nil), n)
			wantMayBe(t, nest(n, kind, []api.Op{a}), n+1)
			wantMayBe(t, append([]api.Op{a}, nest(n, kind, []api.Op{a, a})...), n+3)
		}
		for _, n := range []int{most + 1, most + 2, 2 * most, api.MaxOps, 1000, 60000} {
			wantMayNotBe(t, nest(n, kind, nil))
			wantMayNotBe(t, nest(n, kind, []api.Op{a}))
			wantMayNotBe(t, append(nest(most, kind, nil), nest(n, kind, nil)...))
		}
	}
}

// R1: a block that stands in others many times over is not gone through more often than needed,
// nor is one that holds itself.
func TestBlocksThatShare(t *testing.T) {
	l := manyOps(op(api.OpA), 100)
	for range api.MaxDeep {
		l = manyOps(block(api.OpIf, l...), 100)
	}
	wantMayNotBe(t, l)
	round := []api.Op{op(api.OpIf), op(api.OpA)}
	round[0].Block = round
	wantMayNotBe(t, round)
}

func TestTextOfBlocks(t *testing.T) {
	a := op(api.OpA)
	wantText(t, nil, "")
	wantText(t, []api.Op{}, "")
	wantText(t, []api.Op{block(api.OpIf)}, "if [ ]")
	wantText(t, []api.Op{block(api.OpRep, a)}, "rep [ a ]")
	wantText(t, []api.Op{a, block(api.OpIf, block(api.OpRep), a), a}, "a if [ rep [ ] a ] a")
	wantText(t, []api.Op{number(0), number(-1), op(api.OpSub), number(math.MinInt64)}, "0 -1 - -9223372036854775808")
}

// MaxProg bytes are told, one more is not.
func TestTextOfManyBytes(t *testing.T) {
	low := number(math.MinInt64)
	for n := range 60 {
		// 24 of 20 bytes, a space behind each, leave 8.
		l := append(manyOps(low, 24), manyOps(op(api.OpA), n)...)
		if len(textOf(l)) <= api.MaxProg {
			wantText(t, l, textOf(l))
			continue
		}
		wantNoText(t, l, api.ErrLimit)
		wantMayBe(t, l, 24+n)
	}
	for _, c := range []struct {
		last api.Op
		long int
	}{{number(1234567), 511}, {number(12345678), 512}, {number(-1234567), 512}, {number(123456789), 513}, {number(-12345678), 513}, {block(api.OpRep), 511}, {block(api.OpIf, op(api.OpA)), 512}, {block(api.OpRep, op(api.OpA)), 513}} {
		l := append(manyOps(low, 24), c.last)
		if got := len(textOf(l)); got != c.long {
			t.Fatalf("%d bytes, not %d", got, c.long)
		}
		if c.long <= api.MaxProg {
			wantText(t, l, textOf(l))
			continue
		}
		wantNoText(t, l, api.ErrLimit)
	}
	wantNoText(t, manyOps(low, api.MaxOps), api.ErrLimit)
	wantNoText(t, manyOps(block(api.OpRep), api.MaxOps), api.ErrLimit)
	wantNoText(t, manyOps(op(api.OpEmit), api.MaxOps), api.ErrLimit)
}

// R4: what may not be tells so, however long its text would be.
func TestTextFirstError(t *testing.T) {
	low := number(math.MinInt64)
	wantNoText(t, manyOps(low, api.MaxOps+1), api.ErrForm)
	wantNoText(t, append(manyOps(low, 100), op(api.OpNone)), api.ErrForm)
	wantNoText(t, append(manyOps(low, 100), api.Op{Kind: api.OpA, N: 1}), api.ErrForm)
	wantNoText(t, append(manyOps(low, 100), inBlocks(api.MaxDeep+1)...), api.ErrForm)
	wantNoText(t, append(inBlocks(api.MaxDeep+1), manyOps(low, 100)...), api.ErrForm)
}

// One op that may not be spoils all, wherever it stands.
func TestOneThatMayNotBe(t *testing.T) {
	bads := []api.Op{{}, op(-1), op(api.OpEmit + 1), {Kind: api.OpA, N: 1}, {Kind: api.OpIf, N: 1}, block(api.OpDup, op(api.OpA)), block(api.OpNum, op(api.OpA))}
	for _, l := range programs()[:200] {
		for i := range len(l) + 1 {
			for _, bad := range bads {
				wantMayNotBe(t, slices.Insert(cloneOps(l), i, bad))
			}
		}
	}
}

// P6.3

func TestParseUndoesText(t *testing.T) {
	for _, l := range programs() {
		s, e := lang.Text(l)
		if e != api.OK {
			t.Errorf("Text(%s): %d", show(l), e)
		}
		wantOps(t, s, l)
	}
}

func TestTextUndoesParse(t *testing.T) {
	for i, p := range programs() {
		s := spread(p, i)
		l, e := lang.Parse(s)
		if e != api.OK {
			t.Errorf("Parse(%q): %d", s, e)
		}
		wantText(t, l, strings.Join(strings.Fields(s), " "))
		wantMayBe(t, l, countOf(p))
	}
}

// R1: the same call tells the same.
func TestTellsTheSame(t *testing.T) {
	for _, l := range programs() {
		s := textOf(l)
		for range 3 {
			wantOps(t, s, l)
			wantText(t, l, s)
			wantMayBe(t, l, countOf(l))
		}
	}
}

// withRoom has ops behind each of its lists, in spare room.
func withRoom(l []api.Op) []api.Op {
	room := append(slices.Clone(l), number(99), number(98))
	for i := range l {
		room[i].Block = withRoom(l[i].Block)
	}
	return room[:len(l)]
}

// sameRoom compares the spare room, too.
func sameRoom(a, b []api.Op) bool {
	return len(a) == len(b) && slices.EqualFunc(a[:len(a)+2], b[:len(b)+2], func(x, y api.Op) bool {
		return x.Kind == y.Kind && x.N == y.N && (x.Kind == api.OpNum && x.N > 97 || sameRoom(x.Block, y.Block))
	})
}

// R2: what is handed in stays as it is, in blocks and spare room, whether it may be or not.
func TestHandedInUnchanged(t *testing.T) {
	bad := [][]api.Op{{op(api.OpA), {}}, inBlocks(api.MaxDeep + 3), manyOps(op(api.OpA), api.MaxOps+1), manyOps(number(math.MinInt64), 90), {block(api.OpA, op(api.OpA))}}
	for _, l := range append(programs(), bad...) {
		room, was := withRoom(l), withRoom(l)
		lang.Check(room)
		lang.Text(room)
		lang.Count(room)
		if !sameRoom(room, was) {
			t.Errorf("%s became %s", show(was), show(room))
		}
		s := textOf(l)
		before := strings.Clone(s)
		lang.Parse(s)
		if s != before {
			t.Errorf("%q became %q", before, s)
		}
	}
}

// spoil writes into all that a list has, spare room too.
func spoil(l []api.Op) {
	for i := range l {
		spoil(l[i].Block)
	}
	l = l[:cap(l)]
	for i := range l {
		l[i] = api.Op{Kind: -77, N: -77}
	}
}

// R2: whoever writes into what was told, or appends to it, changes nothing else.
func TestParseTellsNewMemory(t *testing.T) {
	for _, want := range programs() {
		s := textOf(want)
		first, _ := lang.Parse(s)
		second, _ := lang.Parse(s)
		spoil(first)
		if !same(second, want) {
			t.Errorf("Parse(%q) shares memory", s)
		}
		wantOps(t, s, want)
	}
}

// No two lists of one answer share memory either: each block alone is spoilt, the others stay.
func TestBlocksHaveMemoryOfTheirOwn(t *testing.T) {
	for _, want := range programs() {
		l, _ := lang.Parse(textOf(want))
		for i := range l {
			spoil(l[i].Block)
			if !same(l[i+1:], want[i+1:]) {
				t.Errorf("a block of %s shares memory", show(want))
			}
			l[i] = want[i]
		}
		if !same(l, want) {
			t.Errorf("a block of %s shares memory", show(want))
		}
	}
}
