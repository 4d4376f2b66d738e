package tests

import (
	"math"
	"testing"

	"loop.example/hedge/impl"
)

const most = impl.SpanMax

type spanFunc func(a, b impl.Span) (impl.Span, bool)

func span(lo, hi int) impl.Span { return impl.Span{Lo: lo, Hi: hi} }

// reckoning is one of the functions that reckon with ranges, and what it does with one number of each.
type reckoning struct {
	name  string
	spans spanFunc
	nums  func(x, y int) int
}

func reckonings() []reckoning {
	return []reckoning{
		{"SpanAdd", impl.SpanAdd, func(x, y int) int { return x + y }},
		{"SpanSub", impl.SpanSub, func(x, y int) int { return x - y }},
		{"SpanMul", impl.SpanMul, func(x, y int) int { return x * y }},
		{"SpanDiv", impl.SpanDiv, cutQuotient},
	}
}

// cutQuotient goes by sizes and signs, so that it does not lean on how Go cuts quotients off.
func cutQuotient(x, y int) int {
	size := max(x, -x) / max(y, -y)
	if (x < 0) != (y < 0) {
		return -size
	}
	return size
}

// spansOf is all ranges with ends among ascending numbers.
func spansOf(nums []int) []impl.Span {
	var out []impl.Span
	for i, lo := range nums {
		for _, hi := range nums[i:] {
			out = append(out, span(lo, hi))
		}
	}
	return out
}

// within is those of the numbers that are in a range.
func within(nums []int, a impl.Span) []int {
	var out []int
	for _, n := range nums {
		if a.Lo <= n && n <= a.Hi {
			out = append(out, n)
		}
	}
	return out
}

// wanted is the least range with what is reckoned of each two numbers, if that is a range that is ok.
func wanted(r reckoning, xs, ys []int) (impl.Span, bool) {
	out := span(math.MaxInt, math.MinInt)
	for _, x := range xs {
		for _, y := range ys {
			if r.name == "SpanDiv" && y == 0 {
				return impl.Span{}, false
			}
			n := r.nums(x, y)
			out = span(min(out.Lo, n), max(out.Hi, n))
		}
	}
	if out.Lo < -most || out.Hi > most {
		return impl.Span{}, false
	}
	return out, true
}

// checkReckonings holds all reckoning with ranges, the ends of which are among the numbers, against the numbers in them.
func checkReckonings(t *testing.T, nums []int) {
	t.Helper()
	all := spansOf(nums)
	for _, r := range reckonings() {
		for _, a := range all {
			for _, b := range all {
				want, wantOk := wanted(r, within(nums, a), within(nums, b))
				if got, ok := r.spans(a, b); got != want || ok != wantOk {
					t.Fatalf("%s(%v, %v) = %v %v, not %v %v", r.name, a, b, got, ok, want, wantOk)
				}
			}
		}
	}
}

func smallNums() []int {
	var out []int
	for n := -9; n <= 9; n++ {
		out = append(out, n)
	}
	return out
}

func greatNums() []int {
	return []int{-most, 1 - most, -most / 2, -1001, -1000, -999, -7, -2, -1, 0, 1, 2, 7, 999, 1000, 1001, most / 2, most - 1, most}
}

// Promise 1, of ranges of which all numbers are tried.
func TestSpanReckonsAllSmallNumbers(t *testing.T) { checkReckonings(t, smallNums()) }

// Promise 1, of ranges up to SpanMax, of which the ends and some numbers between are tried.
func TestSpanReckonsGreatNumbers(t *testing.T) { checkReckonings(t, greatNums()) }

func TestSpanOkAtItsEdges(t *testing.T) {
	for _, a := range []impl.Span{{}, span(-most, most), span(-most, -most), span(most, most), span(0, 1), span(-3, -3)} {
		if !impl.SpanOk(a) {
			t.Errorf("%v is not ok", a)
		}
	}
	for _, a := range wrongSpans() {
		if impl.SpanOk(a) {
			t.Errorf("%v is ok", a)
		}
	}
}

func TestSpanHasEachOfItsNumbersAlone(t *testing.T) {
	for _, a := range spansOf(smallNums()) {
		for n := a.Lo; n <= a.Hi; n++ {
			if !impl.SpanHas(a, n) {
				t.Errorf("%v has not %d", a, n)
			}
		}
		for _, n := range []int{a.Lo - 1, a.Hi + 1, most + 1, -most - 1, math.MaxInt, math.MinInt} {
			if impl.SpanHas(a, n) {
				t.Errorf("%v has %d", a, n)
			}
		}
	}
	all := span(-most, most)
	if !impl.SpanHas(all, most) || !impl.SpanHas(all, -most) || impl.SpanHas(all, most+1) || impl.SpanHas(all, -most-1) {
		t.Error("the widest range has not just the numbers to its ends")
	}
}

func TestSpanInJoinMeetGoByNumbers(t *testing.T) {
	for _, nums := range [][]int{smallNums(), greatNums()} {
		for _, a := range spansOf(nums) {
			for _, b := range spansOf(nums) {
				checkPair(t, nums, a, b)
			}
		}
	}
}

func checkPair(t *testing.T, nums []int, a, b impl.Span) {
	t.Helper()
	ofA, ofBoth := within(nums, a), within(within(nums, a), b)
	if got := impl.SpanIn(a, b); got != (len(ofA) == len(ofBoth)) {
		t.Errorf("SpanIn(%v, %v) = %v", a, b, got)
	}
	ends := append(ofA, within(nums, b)...)
	least, greatest := ends[0], ends[0]
	for _, n := range ends {
		least, greatest = min(least, n), max(greatest, n)
	}
	if got := impl.SpanJoin(a, b); got != span(least, greatest) {
		t.Errorf("SpanJoin(%v, %v) = %v", a, b, got)
	}
	var want impl.Span
	if len(ofBoth) > 0 {
		want = span(ofBoth[0], ofBoth[len(ofBoth)-1])
	}
	if got, ok := impl.SpanMeet(a, b); got != want || ok != (len(ofBoth) > 0) {
		t.Errorf("SpanMeet(%v, %v) = %v %v", a, b, got, ok)
	}
}

// spanCase is what a function of two ranges must answer; nothing and false, if ok is false.
type spanCase struct {
	name string
	call spanFunc
	a, b impl.Span
	want impl.Span
	ok   bool
}

func checkCases(t *testing.T, cases []spanCase) {
	t.Helper()
	for _, c := range cases {
		if got, ok := c.call(c.a, c.b); got != c.want || ok != c.ok {
			t.Errorf("%s(%v, %v) = %v %v, not %v %v", c.name, c.a, c.b, got, ok, c.want, c.ok)
		}
	}
}

func TestSpanMeetAtItsEdges(t *testing.T) {
	checkCases(t, []spanCase{
		{"SpanMeet", impl.SpanMeet, span(-2, 3), span(3, 9), span(3, 3), true},
		{"SpanMeet", impl.SpanMeet, span(3, 9), span(-2, 3), span(3, 3), true},
		{"SpanMeet", impl.SpanMeet, span(-4, 0), span(0, 4), span(0, 0), true},
		{"SpanMeet", impl.SpanMeet, span(5, 5), span(5, 5), span(5, 5), true},
		{"SpanMeet", impl.SpanMeet, span(-2, 2), span(3, 9), impl.Span{}, false},
		{"SpanMeet", impl.SpanMeet, span(3, 9), span(-2, 2), impl.Span{}, false},
		{"SpanMeet", impl.SpanMeet, span(5, 5), span(6, 6), impl.Span{}, false},
		{"SpanMeet", impl.SpanMeet, span(-most, most), span(7, 8), span(7, 8), true},
	})
}

func TestSpanEndsAtSpanMax(t *testing.T) {
	checkCases(t, []spanCase{
		{"SpanAdd", impl.SpanAdd, span(0, most-1), span(1, 1), span(1, most), true},
		{"SpanAdd", impl.SpanAdd, span(0, most-1), span(1, 2), impl.Span{}, false},
		{"SpanAdd", impl.SpanAdd, span(1-most, 0), span(-1, -1), span(-most, -1), true},
		{"SpanAdd", impl.SpanAdd, span(1-most, 0), span(-2, -1), impl.Span{}, false},
		{"SpanSub", impl.SpanSub, span(0, most-1), span(-1, -1), span(1, most), true},
		{"SpanSub", impl.SpanSub, span(0, most-1), span(-2, -1), impl.Span{}, false},
		{"SpanSub", impl.SpanSub, span(1-most, 0), span(1, 1), span(-most, -1), true},
		{"SpanSub", impl.SpanSub, span(1-most, 0), span(1, 2), impl.Span{}, false},
		{"SpanSub", impl.SpanSub, span(0, 0), span(-most, most), span(-most, most), true},
		{"SpanMul", impl.SpanMul, span(1000, 1000), span(1000, 1000), span(most, most), true},
		{"SpanMul", impl.SpanMul, span(-1000, 1000), span(1000, 1000), span(-most, most), true},
		{"SpanMul", impl.SpanMul, span(101, 101), span(9901, 9901), impl.Span{}, false}, // SpanMax and 1
		{"SpanMul", impl.SpanMul, span(-101, -101), span(9901, 9901), impl.Span{}, false},
		{"SpanMul", impl.SpanMul, span(-most, most), span(-1, 1), span(-most, most), true},
		{"SpanMul", impl.SpanMul, span(-most, most), span(0, 0), span(0, 0), true},
		{"SpanMul", impl.SpanMul, span(-most, most), span(-most, most), impl.Span{}, false},
		{"SpanDiv", impl.SpanDiv, span(-most, most), span(1, 1), span(-most, most), true},
		{"SpanDiv", impl.SpanDiv, span(-most, most), span(-1, -1), span(-most, most), true},
		{"SpanDiv", impl.SpanDiv, span(-most, -most), span(-1, -1), span(most, most), true},
	})
}

func TestSpanDivCutsOffTowardsNought(t *testing.T) {
	checkCases(t, []spanCase{
		{"SpanDiv", impl.SpanDiv, span(-7, -7), span(2, 2), span(-3, -3), true},
		{"SpanDiv", impl.SpanDiv, span(7, 7), span(-2, -2), span(-3, -3), true},
		{"SpanDiv", impl.SpanDiv, span(-7, -7), span(-2, -2), span(3, 3), true},
		{"SpanDiv", impl.SpanDiv, span(-1, 1), span(2, 9), span(0, 0), true},
		{"SpanDiv", impl.SpanDiv, span(-1, 1), span(-9, -2), span(0, 0), true},
		{"SpanDiv", impl.SpanDiv, span(-9, 9), span(4, 5), span(-2, 2), true},
		{"SpanDiv", impl.SpanDiv, span(-9, -5), span(2, 4), span(-4, -1), true},
		{"SpanDiv", impl.SpanDiv, span(-9, -5), span(-4, -2), span(1, 4), true},
		{"SpanDiv", impl.SpanDiv, span(5, 9), span(-4, -2), span(-4, -1), true},
	})
}

func TestSpanDivNought(t *testing.T) {
	for _, b := range []impl.Span{span(0, 0), span(0, 4), span(-4, 0), span(-4, 4), span(-1, 1), span(-most, most), span(0, most), span(-most, 0)} {
		for _, a := range []impl.Span{span(0, 0), span(5, 5), span(-5, 5), span(-most, most)} {
			if got, ok := impl.SpanDiv(a, b); ok || got != (impl.Span{}) {
				t.Errorf("SpanDiv(%v, %v) = %v %v", a, b, got, ok)
			}
		}
	}
}

// wrongSpans has ends one too far, ends that are the wrong way round, and ends of which sums and products wrap round to small numbers.
func wrongSpans() []impl.Span {
	return []impl.Span{
		span(1, 0), span(most, -most), span(-3, -4),
		span(-most-1, 0), span(0, most+1), span(-most-1, most+1), span(-most-1, -most-1), span(most+1, most+1),
		span(1<<32, 1<<32), span(-1<<32, 1<<32), span(1<<62, 1<<62), span(5, 1<<40),
		span(math.MinInt, math.MinInt), span(math.MaxInt, math.MaxInt), span(math.MinInt, math.MaxInt), span(math.MaxInt, math.MinInt),
		span(math.MinInt, 3), span(3, math.MaxInt), span(math.MinInt+1, 0),
	}
}

func TestSpanTellsNothingOfWrongRanges(t *testing.T) {
	fine := []impl.Span{{}, span(1, 1), span(-1, -1), span(2, 5), span(-most, most), span(most, most)}
	for _, a := range wrongSpans() {
		for _, n := range []int{0, 2, most, -most, most + 1, a.Lo, a.Hi} {
			if impl.SpanHas(a, n) {
				t.Errorf("SpanHas(%v, %d)", a, n)
			}
		}
		for _, b := range append(fine, wrongSpans()...) {
			checkNothing(t, a, b)
			checkNothing(t, b, a)
		}
	}
}

func checkNothing(t *testing.T, a, b impl.Span) {
	t.Helper()
	if impl.SpanIn(a, b) {
		t.Errorf("SpanIn(%v, %v)", a, b)
	}
	if got := impl.SpanJoin(a, b); got != (impl.Span{}) {
		t.Errorf("SpanJoin(%v, %v) = %v", a, b, got)
	}
	if got, ok := impl.SpanMeet(a, b); ok || got != (impl.Span{}) {
		t.Errorf("SpanMeet(%v, %v) = %v %v", a, b, got, ok)
	}
	for _, r := range reckonings() {
		if got, ok := r.spans(a, b); ok || got != (impl.Span{}) {
			t.Errorf("%s(%v, %v) = %v %v", r.name, a, b, got, ok)
		}
	}
}
