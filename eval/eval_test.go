package eval_test

import (
	"math"
	"math/big"
	"slices"
	"strconv"
	"strings"
	"testing"

	"thresher/api"
	"thresher/check"
	"thresher/eval"
	"thresher/lang"
)

var some = api.Rec{Key: api.Key{A: 7, B: "xyz"}, Val: -9}

func op(kind int) api.Op                 { return api.Op{Kind: kind} }
func number(n int64) api.Op              { return api.Op{Kind: api.OpNum, N: n} }
func block(kind int, l ...api.Op) api.Op { return api.Op{Kind: kind, Block: l} }
func many(s string, n int) string        { return strings.Repeat(s, n) }
func text(n int64) string                { return strconv.FormatInt(n, 10) }

func record(a int64, b string, val int64) api.Rec {
	return api.Rec{Key: api.Key{A: a, B: b}, Val: val}
}

// parse reads what the test itself wrote.
func parse(t *testing.T, s string) []api.Op {
	t.Helper()
	l, e := lang.Parse(s)
	if e != api.OK {
		t.Fatalf("Parse(%q): %d", s, e)
	}
	return l
}

// show tells no more of what has no text, or no end.
func show(l []api.Op) string {
	if s, e := lang.Text(l); e == api.OK {
		return s
	}
	return "ops without a text"
}

func wantRun(t *testing.T, l []api.Op, r api.Rec, fuel int, want []api.Rec, left int) {
	t.Helper()
	if out, k, e := eval.Run(l, r, fuel); !slices.Equal(out, want) || k != left || e != api.OK {
		t.Errorf("Run(%s, %v, %d): %v, %d, %d, not %v, %d", show(l), r, fuel, out, k, e, want, left)
	}
}

// wantError holds it to R4, too: nothing is told beside an error.
func wantError(t *testing.T, l []api.Op, r api.Rec, fuel int, want api.Errno) {
	t.Helper()
	if out, k, e := eval.Run(l, r, fuel); len(out) != 0 || k != 0 || e != want {
		t.Errorf("Run(%s, %v, %d): %v, %d, %d, not %d", show(l), r, fuel, out, k, e, want)
	}
}

// wantCost runs it with just as much fuel as it is to take, with more, and with each that is less.
func wantCost(t *testing.T, s string, cost int, want ...api.Rec) {
	t.Helper()
	l := parse(t, s)
	for _, more := range []int{0, 1, 2, 100} {
		wantRun(t, l, some, cost+more, want, more)
	}
	for fuel := range cost {
		wantError(t, l, some, fuel, api.ErrFuel)
	}
}

// wantNumber runs a text that leaves one number.
func wantNumber(t *testing.T, r api.Rec, s string, want int64) {
	t.Helper()
	l := parse(t, "41 "+s+" emit")
	cost, _ := lang.Count(l)
	wantRun(t, l, r, cost, []api.Rec{record(41, r.Key.B, want)}, 0)
}

// edges are numbers at which something ends: of each width, of the shifts, of the numbers as a whole.
func edges() (l []int64) {
	for _, n := range []int64{0, 1, 2, 3, 7, 62, 63, 64, 65, 100, 1000003} {
		l = append(l, n, -n)
	}
	for _, bits := range []int{6, 7, 8, 15, 16, 31, 32, 33, 48, 62} {
		n := int64(1) << bits
		l = append(l, n-1, n, n+1, -n-1, -n, -n+1)
	}
	l = append(l, math.MaxInt64, math.MaxInt64-1, math.MinInt64, math.MinInt64+1)
	l = append(l, 0x0123456789abcdef, -0x0123456789abcdef)
	slices.Sort(l)
	return slices.Compact(l)
}

// P8.1: what ops make

// The chapter's example.
func TestThatRecord(t *testing.T) {
	r := record(1, "x", 2)
	wantRun(t, parse(t, "a v emit"), r, 3, []api.Rec{r}, 0)
	wantRun(t, parse(t, "a v emit"), r, api.MaxFuel, []api.Rec{r}, api.MaxFuel-3)
}

// R2: a nil list and an empty one are one, as a block, too.
func TestNoOps(t *testing.T) {
	for _, l := range [][]api.Op{nil, {}} {
		for _, fuel := range []int{0, 1, 17, api.MaxFuel} {
			wantRun(t, l, some, fuel, nil, fuel)
		}
	}
	for _, kind := range []int{api.OpIf, api.OpRep} {
		for _, in := range [][]api.Op{nil, {}} {
			wantRun(t, []api.Op{op(api.OpA), {Kind: kind, Block: in}}, some, 2, nil, 0)
		}
	}
	in := []api.Op{}
	l := []api.Op{{Kind: api.OpA, Block: in}, {Kind: api.OpDup, Block: in}, {Kind: api.OpEmit, Block: in}}
	wantRun(t, l, some, 3, []api.Rec{record(7, "xyz", 7)}, 0)
}

func TestNumbers(t *testing.T) {
	for _, n := range edges() {
		wantNumber(t, some, text(n), n)
		wantRun(t, []api.Op{number(n), number(5), op(api.OpEmit)}, some, 3, []api.Rec{record(n, "xyz", 5)}, 0)
	}
}

func TestOfTheRecord(t *testing.T) {
	for _, n := range edges() {
		wantNumber(t, record(n, "xyz", 3), "a", n)
		wantNumber(t, record(3, "xyz", n), "v", n)
	}
	for n := range api.MaxText + 1 {
		wantNumber(t, record(-1, many("y", n), -2), "len", int64(n))
	}
	// Bytes, not runes; and any bytes.
	wantNumber(t, record(0, "é", 0), "len", 2)
	wantNumber(t, record(0, "\x00\xff\xfe", 0), "len", 3)
	wantNumber(t, api.Rec{}, "len", 0)
}

// wrapped is n modulo 2^64, with a sign.
func wrapped(n *big.Int) int64 {
	low := new(big.Int).And(n, new(big.Int).SetUint64(math.MaxUint64))
	return int64(low.Uint64())
}

func isOne(is bool) *big.Int {
	if is {
		return big.NewInt(1)
	}
	return new(big.Int)
}

// unsigned is the number that the 64 bits are without a sign.
func unsigned(n *big.Int) *big.Int {
	return new(big.Int).SetUint64(uint64(n.Int64()))
}

// ofTwo works with numbers that have no end.
func ofTwo(word string, n, m *big.Int) *big.Int {
	r := new(big.Int)
	by := uint(((m.Int64() % 64) + 64) % 64)
	switch word {
	case "+":
		return r.Add(n, m)
	case "-":
		return r.Sub(n, m)
	case "*":
		return r.Mul(n, m)
	case "/", "%":
		if m.Sign() == 0 {
			return r
		}
		quotient, rest := r.QuoRem(n, m, new(big.Int))
		if word == "/" {
			return quotient
		}
		return rest
	case "&":
		return r.And(n, m)
	case "|":
		return r.Or(n, m)
	case "^":
		return r.Xor(n, m)
	case "<<":
		return r.Lsh(n, by)
	case ">>":
		return r.Rsh(n, by)
	case ">>>":
		return r.Rsh(unsigned(n), by)
	case "<":
		return isOne(n.Cmp(m) < 0)
	case "=":
		return isOne(n.Cmp(m) == 0)
	}
	panic("no such word")
}

func ofOne(word string, n *big.Int) *big.Int {
	if word == "not" {
		return isOne(n.Sign() == 0)
	}
	bits, _ := strconv.Atoi(word[1:])
	size := new(big.Int).Lsh(big.NewInt(1), uint(bits))
	low := new(big.Int).Mod(n, size)
	if word[0] == 's' && low.Bit(bits-1) == 1 {
		low.Sub(low, size)
	}
	return low
}

var twos = []string{"+", "-", "*", "/", "%", "&", "|", "^", "<<", ">>", ">>>", "<", "="}
var ones = []string{"not", "u8", "u16", "u32", "s8", "s16", "s32"}

// Each of them with all edges, first and second: also where 64 bits are left, and by 0, -1 and below 0.
func TestOfTwo(t *testing.T) {
	for i, word := range twos {
		for _, n := range edges() {
			for _, m := range edges() {
				want := wrapped(ofTwo(word, big.NewInt(n), big.NewInt(m)))
				l := []api.Op{number(-1), number(n), number(m), op(api.OpAdd + i), op(api.OpEmit)}
				wantRun(t, l, some, 5, []api.Rec{record(-1, "xyz", want)}, 0)
			}
		}
	}
}

func TestOfOne(t *testing.T) {
	for i, word := range ones {
		for _, n := range edges() {
			want := wrapped(ofOne(word, big.NewInt(n)))
			l := []api.Op{number(-1), number(n), op(api.OpNot + i), op(api.OpEmit)}
			wantRun(t, l, some, 4, []api.Rec{record(-1, "xyz", want)}, 0)
		}
	}
}

// By hand: n is the one that was put first.
func TestArithmetic(t *testing.T) {
	least, greatest := text(math.MinInt64), text(math.MaxInt64)
	for _, c := range []struct {
		s    string
		want int64
	}{
		{"3 5 +", 8}, {greatest + " 1 +", math.MinInt64}, {least + " -1 +", math.MaxInt64},
		{"3 5 -", -2}, {least + " 1 -", math.MaxInt64}, {"0 " + least + " -", math.MinInt64},
		{"-3 5 *", -15}, {"4294967296 4294967296 *", 0}, {greatest + " 2 *", -2}, {least + " -1 *", math.MinInt64},
		{"7 2 /", 3}, {"-7 2 /", -3}, {"7 -2 /", -3}, {"-7 -2 /", 3}, {"2 7 /", 0}, {"-2 7 /", 0},
		{"7 2 %", 1}, {"-7 2 %", -1}, {"7 -2 %", 1}, {"-7 -2 %", -1}, {"2 7 %", 2}, {"-2 7 %", -2},
		{"7 0 /", 0}, {"-7 0 /", 0}, {"0 0 /", 0}, {least + " 0 /", 0},
		{"7 0 %", 0}, {"-7 0 %", 0}, {"0 0 %", 0}, {least + " 0 %", 0},
		{"7 -1 /", -7}, {least + " -1 /", math.MinInt64}, {greatest + " -1 /", -math.MaxInt64},
		{"7 -1 %", 0}, {least + " -1 %", 0}, {least + " 1 /", math.MinInt64}, {least + " " + greatest + " %", -1},
		{"12 10 &", 8}, {"12 10 |", 14}, {"12 10 ^", 6}, {"-1 5 &", 5}, {"-8 5 |", -3}, {"-1 5 ^", -6},
	} {
		wantNumber(t, some, c.s, c.want)
	}
}

func TestShifts(t *testing.T) {
	for _, c := range []struct {
		s    string
		want int64
	}{
		{"1 0 <<", 1}, {"1 3 <<", 8}, {"3 1 <<", 6}, {"1 63 <<", math.MinInt64}, {"1 64 <<", 1}, {"1 65 <<", 2}, {"1 -1 <<", math.MinInt64}, {"1 -64 <<", 1}, {"1 -63 <<", 2}, {"-1 63 <<", math.MinInt64},
		{"8 3 >>", 1}, {"-8 1 >>", -4}, {"-8 63 >>", -1}, {"-8 64 >>", -8}, {"-8 -1 >>", -1}, {"8 -61 >>", 1}, {"-1 5 >>", -1},
		{"8 3 >>>", 1}, {"-1 60 >>>", 15}, {"-1 0 >>>", -1}, {"-1 64 >>>", -1}, {"-1 1 >>>", math.MaxInt64}, {"-1 -1 >>>", 1}, {"-1 127 >>>", 1},
	} {
		wantNumber(t, some, c.s, c.want)
	}
}

func TestIsOneOrNot(t *testing.T) {
	for _, c := range []struct {
		s    string
		want int64
	}{
		{"3 5 <", 1}, {"5 3 <", 0}, {"5 5 <", 0}, {"-1 0 <", 1}, {"0 -1 <", 0}, {"-9223372036854775808 9223372036854775807 <", 1}, {"9223372036854775807 -9223372036854775808 <", 0},
		{"5 5 =", 1}, {"5 -5 =", 0}, {"0 0 =", 1}, {"0 4294967296 =", 0}, {"-1 -1 =", 1},
		{"0 not", 1}, {"1 not", 0}, {"-1 not", 0}, {"7 not", 0}, {"4294967296 not", 0}, {"-9223372036854775808 not", 0},
	} {
		wantNumber(t, some, c.s, c.want)
	}
}

func TestCut(t *testing.T) {
	for _, c := range []struct {
		s    string
		want int64
	}{
		{"255 u8", 255}, {"256 u8", 0}, {"300 u8", 44}, {"-1 u8", 255}, {"65536 u16", 0}, {"-1 u16", 65535}, {"4294967296 u32", 0}, {"-1 u32", 4294967295},
		{"127 s8", 127}, {"128 s8", -128}, {"255 s8", -1}, {"256 s8", 0}, {"-129 s8", 127}, {"32768 s16", -32768}, {"65535 s16", -1}, {"2147483648 s32", -2147483648}, {"4294967295 s32", -1}, {"-2147483649 s32", 2147483647},
	} {
		wantNumber(t, some, c.s, c.want)
	}
}

func TestMoves(t *testing.T) {
	wantCost(t, "3 dup emit", 3, record(3, "xyz", 3))
	wantCost(t, "3 5 emit", 3, record(3, "xyz", 5))
	wantCost(t, "3 5 swap emit", 4, record(5, "xyz", 3))
	wantCost(t, "3 5 8 pop emit", 5, record(3, "xyz", 5))
	wantCost(t, "1 2 3 swap dup emit emit", 7, record(2, "xyz", 2), record(1, "xyz", 3))
	wantCost(t, "1 2 3 4 5 + * - emit", 9, record(1, "xyz", 2-3*(4+5)))
	wantCost(t, "a pop", 2)
}

// As many as may be there at once, each where it was put.
func TestMaxStack(t *testing.T) {
	var s string
	var want []api.Rec
	for i := range api.MaxStack {
		s += strconv.Itoa(i) + " "
		if i%2 == 0 {
			want = append(want, record(int64(i), "xyz", int64(i+1)))
		}
	}
	slices.Reverse(want)
	wantCost(t, s+many("emit ", api.MaxStack/2), api.MaxStack*3/2, want...)
	wantCost(t, "3 "+many("dup ", api.MaxStack-1)+many("* ", api.MaxStack-2)+"emit", 2*api.MaxStack-1, record(3, "xyz", 14348907))
}

// P8.1: blocks

func TestIf(t *testing.T) {
	for _, n := range edges() {
		s := text(n) + " if [ 5 6 emit ] 7 8 emit"
		if n == 0 {
			wantCost(t, s, 5, record(7, "xyz", 8))
			continue
		}
		wantCost(t, s, 8, record(5, "xyz", 6), record(7, "xyz", 8))
	}
}

func TestRep(t *testing.T) {
	one := record(5, "xyz", 6)
	for n := range 40 {
		wantCost(t, strconv.Itoa(n)+" rep [ 5 6 emit ]", 2+3*n, slices.Repeat([]api.Rec{one}, n)...)
	}
	for _, n := range edges() {
		switch s := text(n) + " rep [ 5 6 emit ]"; {
		case n <= 0:
			wantCost(t, s, 2)
		case n > api.MaxEmits:
			wantError(t, parse(t, s), some, 3*api.MaxEmits, api.ErrFuel)
			wantError(t, parse(t, s), some, api.MaxFuel, api.ErrLimit)
		}
	}
}

// However often, a block without ops is none: the fuel would never end it.
func TestRepOfNothing(t *testing.T) {
	for _, n := range edges() {
		wantCost(t, text(n)+" rep [ ]", 2)
		wantCost(t, text(n)+" if [ ]", 2)
		wantCost(t, "3 rep [ "+text(n)+" rep [ ] ]", 8)
	}
}

// A great number ends by the fuel, whatever the block does.
func TestRepWithoutEnd(t *testing.T) {
	for _, in := range []string{"a pop", "0 if [ ]", "0 rep [ ]", "0 if [ v v emit ]", "9223372036854775807 rep [ v pop ]", "9223372036854775807 rep [ 9223372036854775807 rep [ ] ]"} {
		for fuel := range 100 {
			wantError(t, parse(t, "9223372036854775807 rep [ "+in+" ]"), some, fuel, api.ErrFuel)
		}
		wantError(t, parse(t, "9223372036854775807 rep [ "+in+" ]"), some, api.MaxFuel, api.ErrFuel)
	}
	deepest := many("9223372036854775807 rep [ ", api.MaxDeep) + "a pop" + many(" ]", api.MaxDeep)
	wantError(t, parse(t, deepest), some, api.MaxFuel, api.ErrFuel)
}

func TestBlocksInBlocks(t *testing.T) {
	wantCost(t, "2 rep [ 2 rep [ a v emit ] 1 2 emit ]", 24, some, some, record(1, "xyz", 2), some, some, record(1, "xyz", 2))
	wantCost(t, "2 rep [ 0 if [ a v emit ] 1 if [ 3 4 emit ] ]", 16, record(3, "xyz", 4), record(3, "xyz", 4))
	wantCost(t, "0 if [ 9 rep [ a v emit ] ]", 2)
	// The innermost one is done as often as all of them say.
	s := many("2 rep [ ", api.MaxDeep) + "a v emit" + many(" ]", api.MaxDeep)
	cost := 3 << api.MaxDeep
	for i := range api.MaxDeep {
		cost += 2 << i
	}
	wantCost(t, s, cost, slices.Repeat([]api.Rec{some}, 1<<api.MaxDeep)...)
}

// What is there ahead of a block is there behind it.
func TestAheadOfBlocks(t *testing.T) {
	wantCost(t, "3 5 2 rep [ 8 pop ] emit", 9, record(3, "xyz", 5))
	wantCost(t, "3 5 1 if [ 8 9 emit ] swap emit", 9, record(8, "xyz", 9), record(5, "xyz", 3))
	wantCost(t, "3 5 0 if [ 8 9 emit ] emit", 5, record(3, "xyz", 5))
}

// P8.1: what is emitted

func TestEmitInOrder(t *testing.T) {
	wantCost(t, "1 2 emit v 3 emit len a emit", 9, record(1, "xyz", 2), record(-9, "xyz", 3), record(3, "xyz", 7))
	// The same record twice is told twice.
	wantCost(t, "a v emit a v emit", 6, some, some)
	for _, b := range []string{"", "q", "\x00", "a\xffb", many("z", api.MaxText)} {
		wantRun(t, parse(t, "v a emit 0 0 emit"), record(1, b, 2), 6, []api.Rec{record(2, b, 1), record(0, b, 0)}, 0)
	}
}

func TestMaxEmits(t *testing.T) {
	all := slices.Repeat([]api.Rec{some}, api.MaxEmits)
	cost := 2 + 3*api.MaxEmits
	times := func(n int) []api.Op { return parse(t, strconv.Itoa(n)+" rep [ a v emit ]") }
	wantRun(t, times(api.MaxEmits-1), some, cost, all[1:], 3)
	wantRun(t, times(api.MaxEmits), some, cost, all, 0)
	wantRun(t, times(api.MaxEmits), some, api.MaxFuel, all, api.MaxFuel-cost)
	for n := api.MaxEmits + 1; n < api.MaxEmits+20; n++ {
		wantError(t, times(n), some, cost-1, api.ErrFuel)
		wantError(t, times(n), some, cost+2, api.ErrFuel)
		// The op one behind has its fuel: what it does is too much.
		wantError(t, times(n), some, cost+3, api.ErrLimit)
		wantError(t, times(n), some, api.MaxFuel, api.ErrLimit)
	}
	// What would come behind it does not matter.
	l := parse(t, "256 rep [ a v emit ] a v emit 9999 rep [ a pop ]")
	wantError(t, l, some, cost+2, api.ErrFuel)
	wantError(t, l, some, cost+3, api.ErrLimit)
	wantError(t, l, some, api.MaxFuel, api.ErrLimit)
	l = parse(t, "256 rep [ a v emit ] 9999 rep [ a pop ] a v emit")
	wantError(t, l, some, api.MaxFuel, api.ErrFuel)
	// Other ops go on behind the last record.
	l = parse(t, "256 rep [ a v emit ] a v + pop")
	wantRun(t, l, some, cost+4, all, 0)
}

// P8.1: errors, and which comes first

func TestKeysThatMayNotBe(t *testing.T) {
	l := parse(t, "a v emit")
	for _, n := range []int{0, 1, api.MaxText - 1, api.MaxText} {
		r := record(1, many("x", n), 2)
		wantRun(t, l, r, 3, []api.Rec{r}, 0)
	}
	for _, n := range []int{api.MaxText + 1, api.MaxText + 2, 2 * api.MaxText, 1 << 16} {
		r := record(1, many("x", n), 2)
		wantError(t, l, r, 3, api.ErrForm)
		wantError(t, l, r, 0, api.ErrForm)
		wantError(t, nil, r, 0, api.ErrForm)
	}
}

func TestFuelThatMayNotBe(t *testing.T) {
	l := parse(t, "a pop")
	for _, fuel := range []int{2, 3, api.MaxFuel - 1, api.MaxFuel} {
		wantRun(t, l, some, fuel, nil, fuel-2)
	}
	for _, fuel := range []int{-1, -2, -api.MaxFuel, api.MaxFuel + 1, api.MaxFuel + 2, math.MinInt, math.MaxInt, 1 << 32, 1<<32 + 5} {
		wantError(t, l, some, fuel, api.ErrForm)
		wantError(t, nil, some, fuel, api.ErrForm)
	}
}

func TestProgramsThatDoNotCheck(t *testing.T) {
	for _, s := range []string{"v", "a v", "+", "a +", "pop", "emit", "a emit", "if [ ]", "v if [ a ]", "v v if [ pop ] pop", "v a if [ pop a ] pop", many("a ", 17) + many("pop ", 17)} {
		l := parse(t, s)
		for _, fuel := range []int{0, 1, api.MaxFuel, -1, api.MaxFuel + 1} {
			wantError(t, l, some, fuel, api.ErrStack)
			wantError(t, l, record(1, many("x", 65), 2), fuel, api.ErrStack)
		}
	}
	deep := []api.Op{op(api.OpA), op(api.OpPop)}
	for range api.MaxDeep + 1 {
		deep = []api.Op{op(api.OpA), block(api.OpIf, deep...)}
	}
	tooMany := slices.Repeat([]api.Op{op(api.OpA), op(api.OpPop)}, api.MaxOps/2+1)
	for _, l := range [][]api.Op{{{}}, {op(-1)}, {op(api.OpEmit + 1)}, {op(math.MaxInt)}, {op(math.MinInt)}, {{Kind: api.OpA, N: 1}, op(api.OpPop)}, {op(api.OpA), block(api.OpPop, op(api.OpA))}, {op(api.OpA), {Kind: api.OpIf, N: 5}}, deep, tooMany, {op(api.OpPop), {}}} {
		for _, fuel := range []int{0, 1, api.MaxFuel, -1, api.MaxFuel + 1} {
			wantError(t, l, some, fuel, api.ErrForm)
			wantError(t, l, record(1, many("x", 65), 2), fuel, api.ErrForm)
		}
	}
	// As deep, and as many, as may be.
	wantRun(t, deep[1].Block, some, 2*api.MaxDeep+2, nil, 0)
	wantRun(t, tooMany[2:], some, api.MaxOps, nil, 0)
}

// A block that is not done, or is never come to, is checked all the same.
func TestBlocksAreCheckedAheadOfAll(t *testing.T) {
	wantError(t, parse(t, "0 if [ a ]"), some, 5, api.ErrStack)
	wantError(t, parse(t, "0 rep [ pop ]"), some, 0, api.ErrStack)
	wantError(t, []api.Op{number(0), block(api.OpIf, api.Op{})}, some, 0, api.ErrForm)
	wantError(t, parse(t, "a v emit a"), some, 2, api.ErrStack)
}

// A second reading

type loop struct {
	from int   // the word behind its bracket
	left int64 // how often it is done once more
}

// reader goes through the words of a text, jumps between the brackets, and counts with numbers that have no end.
type reader struct {
	words []string
	at    int
	rec   api.Rec
	stack []*big.Int
	loops []loop
	out   []api.Rec
}

func (r *reader) put(n int64) { r.stack = append(r.stack, big.NewInt(n)) }

func (r *reader) take() *big.Int {
	n := r.stack[len(r.stack)-1]
	r.stack = r.stack[:len(r.stack)-1]
	return n
}

// skip goes behind the bracket that closes the block the reader is in.
func (r *reader) skip() {
	for open := 1; open > 0; r.at++ {
		switch r.words[r.at] {
		case "[":
			open++
		case "]":
			open--
		}
	}
}

// enter stands behind the word that has a block.
func (r *reader) enter(often int64) {
	r.at++
	if often <= 0 || r.words[r.at] == "]" {
		r.skip()
		return
	}
	r.loops = append(r.loops, loop{from: r.at, left: often - 1})
}

func (r *reader) close() {
	last := &r.loops[len(r.loops)-1]
	if last.left == 0 {
		r.loops = r.loops[:len(r.loops)-1]
		return
	}
	last.left--
	r.at = last.from
}

func (r *reader) move(word string) {
	n := r.take().Int64()
	switch word {
	case "dup":
		r.put(n)
		r.put(n)
	case "swap":
		m := r.take().Int64()
		r.put(n)
		r.put(m)
	}
}

func (r *reader) word(word string) api.Errno {
	switch {
	case word == "a":
		r.put(r.rec.Key.A)
	case word == "len":
		r.put(int64(len(r.rec.Key.B)))
	case word == "v":
		r.put(r.rec.Val)
	case slices.Contains(twos, word):
		m := r.take()
		r.put(wrapped(ofTwo(word, r.take(), m)))
	case slices.Contains(ones, word):
		r.put(wrapped(ofOne(word, r.take())))
	case slices.Contains([]string{"dup", "swap", "pop"}, word):
		r.move(word)
	case word == "if":
		r.enter(int64(r.take().CmpAbs(new(big.Int))))
	case word == "rep":
		r.enter(r.take().Int64())
	case word == "emit":
		if len(r.out) >= api.MaxEmits {
			return api.ErrLimit
		}
		val := r.take().Int64()
		r.out = append(r.out, record(r.take().Int64(), r.rec.Key.B, val))
	default:
		n, err := strconv.ParseInt(word, 10, 64)
		if err != nil {
			panic(err)
		}
		r.put(n)
	}
	return api.OK
}

// read is how the chapter is read a second time, for programs that check.
func read(l []api.Op, rec api.Rec, fuel int) ([]api.Rec, int, api.Errno) {
	s, e := lang.Text(l)
	if e != api.OK {
		panic("no text")
	}
	r := reader{words: strings.Fields(s), rec: rec}
	for r.at < len(r.words) {
		word := r.words[r.at]
		r.at++
		if word == "]" {
			r.close()
			continue
		}
		if fuel == 0 {
			return nil, 0, api.ErrFuel
		}
		fuel--
		if e := r.word(word); e != api.OK {
			return nil, 0, e
		}
	}
	return r.out, fuel, api.OK
}

// wantRead holds Run against the second reading, also with as much fuel as it takes, and with one less.
func wantRead(t *testing.T, l []api.Op, r api.Rec) (ran api.Errno) {
	t.Helper()
	out, left, e := read(l, r, api.MaxFuel)
	if e != api.OK {
		wantError(t, l, r, api.MaxFuel, e)
		return e
	}
	cost := api.MaxFuel - left
	wantRun(t, l, r, api.MaxFuel, out, left)
	wantRun(t, l, r, cost, out, 0)
	if cost > 0 {
		wantError(t, l, r, cost-1, api.ErrFuel)
	}
	return api.OK
}

// maker makes programs that check, one for a seed.
type maker struct {
	seed uint64
	left int // ops that it may still make
}

func (m *maker) pick(n int) int {
	m.seed = m.seed*6364136223846793005 + 1442695040888963407
	return int(m.seed>>33) % n
}

func (m *maker) number() int64 {
	if m.pick(2) == 0 {
		return int64(m.pick(9) - 2)
	}
	l := edges()
	return l[m.pick(len(l))]
}

// takes tells how many numbers an op takes and leaves.
func takes(kind int) (takes, leaves int) {
	switch {
	case kind <= api.OpVal:
		return 0, 1
	case kind <= api.OpSame:
		return 2, 1
	case kind <= api.OpS32:
		return 1, 1
	case kind == api.OpDup:
		return 1, 2
	case kind == api.OpSwap:
		return 2, 2
	case kind <= api.OpRep:
		return 1, 0
	}
	return 2, 0
}

func (m *maker) op(kind, there, deep int) api.Op {
	x := op(kind)
	switch kind {
	case api.OpNum:
		x.N = m.number()
	case api.OpIf, api.OpRep:
		x.Block = m.list(there, deep+1)
	}
	return x
}

// list leaves as many as it began with, and has room left for taking away what it put.
func (m *maker) list(began, deep int) (l []api.Op) {
	there := began
	for range m.pick(30) {
		kind := api.OpNum + m.pick(api.OpEmit)
		if m.pick(4) == 0 {
			kind = api.OpEmit
		}
		takes, leaves := takes(kind)
		behind := there - takes + leaves
		hasBlock := kind == api.OpIf || kind == api.OpRep
		if there-takes < began || behind > api.MaxStack || m.left <= there+1 || hasBlock && deep == api.MaxDeep {
			continue
		}
		m.left--
		there = behind
		l = append(l, m.op(kind, there, deep))
	}
	for there > began {
		m.left--
		there--
		l = append(l, op(api.OpPop))
	}
	return l
}

func programs(t *testing.T) (all [][]api.Op) {
	t.Helper()
	for i := range 6000 {
		m := maker{seed: uint64(i), left: 1 + i%api.MaxOps}
		l := m.list(0, 0)
		// A text that is too long cannot be read a second time.
		if _, e := lang.Text(l); e == api.OK && check.Check(l) == api.OK {
			all = append(all, l)
		}
	}
	return all
}

func TestSecondReading(t *testing.T) {
	ends := map[api.Errno]int{}
	emitted := 0
	for i, l := range programs(t) {
		m := maker{seed: uint64(i) << 20}
		r := record(m.number(), many("k", m.pick(api.MaxText+1)), m.number())
		ends[wantRead(t, l, r)]++
		if out, _, _ := eval.Run(l, r, api.MaxFuel); len(out) > 0 {
			emitted++
		}
	}
	// Such programs as the test is about were among them.
	if ends[api.OK] < 2000 || ends[api.ErrFuel] < 20 || ends[api.ErrLimit] < 5 || emitted < 1000 {
		t.Errorf("ended so: %v; %d emitted something", ends, emitted)
	}
}

// All short programs that check, of a few kinds with which much may go wrong.
func TestShortPrograms(t *testing.T) {
	few := []api.Op{op(api.OpA), op(api.OpVal), number(0), op(api.OpSub), op(api.OpDup), op(api.OpSwap), op(api.OpPop), op(api.OpEmit), block(api.OpRep, op(api.OpLen), op(api.OpVal), op(api.OpEmit)), block(api.OpIf, op(api.OpLen), op(api.OpPop))}
	ran := 0
	var grow func(l []api.Op, room int)
	grow = func(l []api.Op, room int) {
		if check.Check(l) == api.OK {
			wantRead(t, l, record(3, "mn", 2))
			wantRead(t, l, record(-3, "", -2))
			ran++
		}
		if room == 0 {
			return
		}
		for _, x := range few {
			grow(append(slices.Clip(l), x), room-1)
		}
	}
	grow(nil, 5)
	if ran < 500 {
		t.Errorf("%d programs ran", ran)
	}
}

// P8.2

// At whatever fuel it ends, with more it ends so, too, and with less by ErrFuel.
func TestMoreFuel(t *testing.T) {
	for i, l := range programs(t) {
		if i%20 != 0 {
			continue
		}
		out, left, e := eval.Run(l, some, api.MaxFuel)
		if e == api.ErrLimit {
			wantMoreIsLimit(t, l)
			continue
		}
		for fuel := range api.MaxFuel + 1 {
			if e == api.ErrFuel || fuel < api.MaxFuel-left {
				wantError(t, l, some, fuel, api.ErrFuel)
				continue
			}
			wantRun(t, l, some, fuel, out, fuel-(api.MaxFuel-left))
		}
	}
}

// wantMoreIsLimit: an ErrLimit is an end, too.
func wantMoreIsLimit(t *testing.T, l []api.Op) {
	t.Helper()
	was := api.ErrFuel
	for fuel := range api.MaxFuel + 1 {
		_, _, e := eval.Run(l, some, fuel)
		if e != was && (was != api.ErrFuel || e != api.ErrLimit) {
			t.Errorf("Run(%s, %d): %d behind %d", show(l), fuel, e, was)
		}
		was = e
	}
	if was != api.ErrLimit {
		t.Errorf("Run(%s): %d at last", show(l), was)
	}
}

func TestMoreFuelAtTheLimit(t *testing.T) {
	wantMoreIsLimit(t, parse(t, "300 rep [ a v emit ]"))
	wantMoreIsLimit(t, parse(t, "257 rep [ a v emit ]"))
}

// Blocks that are one in memory, or have themselves in them: it ends all the same.
func TestSharedBlocks(t *testing.T) {
	in := []api.Op{op(api.OpA), op(api.OpVal), op(api.OpEmit)}
	l := []api.Op{number(2), block(api.OpRep, in...), number(1), block(api.OpIf, in...)}
	wantRun(t, l, some, 13, []api.Rec{some, some, some}, 0)
	self := []api.Op{number(1), block(api.OpIf)}
	self[1].Block = self
	wantError(t, self, some, api.MaxFuel, api.ErrForm)
	twice := []api.Op{number(1), block(api.OpRep), number(1), block(api.OpRep)}
	for range 40 {
		twice = []api.Op{number(1), block(api.OpRep, twice...), number(1), block(api.OpRep, twice...)}
	}
	wantError(t, twice, some, api.MaxFuel, api.ErrForm)
}

// R1 and R2

func TestSameAgain(t *testing.T) {
	for i, l := range programs(t)[:300] {
		fuel := i * 7 % api.MaxFuel
		out, left, e := eval.Run(l, some, fuel)
		again, k, f := eval.Run(l, some, fuel)
		if !slices.Equal(out, again) || left != k || e != f {
			t.Errorf("Run(%s, %d): %v, %d, %d, then %v, %d, %d", show(l), fuel, out, left, e, again, k, f)
		}
	}
}

// spare tells what stands behind the list, in its own room.
func spare[T any](l []T) []T { return l[len(l):cap(l)] }

func TestHandedInStays(t *testing.T) {
	in := make([]api.Op, 0, 8)
	in = append(in, op(api.OpA), op(api.OpVal), op(api.OpEmit))
	l := make([]api.Op, 0, 8)
	l = append(l, number(3), block(api.OpRep), op(api.OpA), op(api.OpPop))
	l[1].Block = in
	for _, room := range [][]api.Op{spare(in), spare(l)} {
		for i := range room {
			room[i] = number(int64(90 + i))
		}
	}
	wasIn, wasAll := slices.Clone(in[:cap(in)]), slices.Clone(l[:cap(l)])
	for _, fuel := range []int{-1, 0, 5, 12, 13, api.MaxFuel, api.MaxFuel + 1} {
		eval.Run(l, some, fuel)
		same := func(a, b api.Op) bool { return a.Kind == b.Kind && a.N == b.N && len(a.Block) == len(b.Block) }
		if !slices.EqualFunc(in[:cap(in)], wasIn, same) || !slices.EqualFunc(l[:cap(l)], wasAll, same) {
			t.Errorf("fuel %d: the ops have changed", fuel)
		}
	}
	if &l[1].Block[0] != &in[0] {
		t.Error("the block is another one")
	}
}

// Whoever writes into what was told, or appends to it, changes nothing else.
func TestToldIsNew(t *testing.T) {
	l := parse(t, "5 rep [ a v emit ]")
	want := slices.Repeat([]api.Rec{some}, 5)
	first, _, _ := eval.Run(l, some, 100)
	second, _, _ := eval.Run(l, some, 100)
	all := first[:cap(first)]
	for i := range all {
		all[i] = record(-1, "w", -1)
	}
	if !slices.Equal(second, want) {
		t.Errorf("what was told behind it is now %v", second)
	}
	for i := range spare(second) {
		if spare(second)[i] != (api.Rec{}) {
			t.Error("the spare room of one is the other's")
		}
	}
	wantRun(t, l, some, 17, want, 0)
	// The ops may change behind the call: nothing of them was kept.
	l[0].N, l[1].Block[0] = 1, number(99)
	if !slices.Equal(second, want) {
		t.Errorf("what was told is now %v", second)
	}
	wantRun(t, l, some, 17, []api.Rec{record(99, "xyz", -9)}, 12)
}
