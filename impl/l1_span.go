package impl

import "cmp"

// Span is a range of numbers, with both ends.
type Span struct {
	Lo int
	Hi int
}

// SpanMax is the greatest number.
const SpanMax = 1000000

// SpanOk says whether a range is one.
func SpanOk(a Span) bool { return a.ok() }

// SpanHas says whether a number is in a range.
func SpanHas(a Span, n int) bool { return a.ok() && a.has(n) }

// SpanIn says whether a range is within another one.
func SpanIn(a Span, b Span) bool { return bothOk(a, b) && b.has(a.Lo) && b.has(a.Hi) }

// SpanJoin is the least range around two.
func SpanJoin(a Span, b Span) Span {
	if !bothOk(a, b) {
		return Span{}
	}
	return a.join(b)
}

// SpanMeet is what two ranges have in common.
func SpanMeet(a Span, b Span) (Span, bool) {
	if !bothOk(a, b) {
		return Span{}, false
	}
	return a.meet(b).told()
}

// SpanAdd is the range of sums.
func SpanAdd(a Span, b Span) (Span, bool) {
	if !bothOk(a, b) {
		return Span{}, false
	}
	return a.plus(b).told()
}

// SpanSub is the range of differences.
func SpanSub(a Span, b Span) (Span, bool) {
	if !bothOk(a, b) {
		return Span{}, false
	}
	return a.minus(b).told()
}

// SpanMul is the range of products.
func SpanMul(a Span, b Span) (Span, bool) {
	if !bothOk(a, b) {
		return Span{}, false
	}
	return a.times(b).told()
}

// SpanDiv is the range of quotients.
func SpanDiv(a Span, b Span) (Span, bool) {
	if !bothOk(a, b) || b.has(0) {
		return Span{}, false
	}
	return a.by(b).told()
}

func lesser[T cmp.Ordered](a T, b T) T {
	if b < a {
		return b
	}
	return a
}

func greater[T cmp.Ordered](a T, b T) T {
	if b > a {
		return b
	}
	return a
}

// bothOk is asked ahead of all reckoning: ends that are not bounded could wrap round.
func bothOk(a Span, b Span) bool { return a.ok() && b.ok() }

func (a Span) ok() bool { return -SpanMax <= a.Lo && a.Lo <= a.Hi && a.Hi <= SpanMax }

func (a Span) has(n int) bool { return a.Lo <= n && n <= a.Hi }

// told is how a range is answered that may have no numbers, or some that are too great.
func (a Span) told() (Span, bool) {
	if !a.ok() {
		return Span{}, false
	}
	return a, true
}

func (a Span) join(b Span) Span {
	return Span{Lo: lesser(a.Lo, b.Lo), Hi: greater(a.Hi, b.Hi)}
}

// meet has its Lo above its Hi, where the two have nothing in common.
func (a Span) meet(b Span) Span {
	return Span{Lo: greater(a.Lo, b.Lo), Hi: lesser(a.Hi, b.Hi)}
}

func (a Span) plus(b Span) Span { return Span{Lo: a.Lo + b.Lo, Hi: a.Hi + b.Hi} }

func (a Span) minus(b Span) Span { return Span{Lo: a.Lo - b.Hi, Hi: a.Hi - b.Lo} }

// times needs the ends alone: with one factor fixed a product only grows, or only shrinks, with the other.
func (a Span) times(b Span) Span {
	return aroundFour(a.Lo*b.Lo, a.Lo*b.Hi, a.Hi*b.Lo, a.Hi*b.Hi)
}

// by needs the ends alone, as long as b has no 0: on one side of it quotients grow, or shrink, as products do.
func (a Span) by(b Span) Span {
	return aroundFour(a.Lo/b.Lo, a.Lo/b.Hi, a.Hi/b.Lo, a.Hi/b.Hi)
}

func aroundFour(a int, b int, c int, d int) Span {
	return Span{
		Lo: lesser(lesser(a, b), lesser(c, d)),
		Hi: greater(greater(a, b), greater(c, d)),
	}
}
