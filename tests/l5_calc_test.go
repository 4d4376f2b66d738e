package tests

import (
	"fmt"
	"math"
	"reflect"
	"slices"
	"strconv"
	"strings"
	"testing"

	"loop.example/hedge/impl"
)

// exprOf reads an expression that must be one.
func exprOf(t *testing.T, text string) impl.Expr {
	t.Helper()
	e, ok := impl.TextExprRead(text)
	if !ok {
		t.Fatalf("%q is no expression", text)
	}
	return e
}

// store declares numbers and arrays, of tasks and behind locks.
const store = `prog
var x 0 7 0 9 task 0
var a 3 4 0 9 task 0
var s 0 -5 -9 9 lock m
var r 2 6 0 9 lock m
var z 0 0 0 0 task 1
var q 6 1 1 1 lock n
lock m
lock n
task end task end
`

// storeVals is what its variables are in most tests: each number another one.
func storeVals() [][]int {
	return [][]int{{7}, {10, 11, 12}, {-5}, {20, 21}, {0}, {30, 31, 32, 33, 34, 35}}
}

// wrongStores are programs with something wrong with their names, one of each code, that have the variables of store.
func wrongStores(t *testing.T) map[int]impl.Prog {
	form := progOf(t, store)
	form.Vars[0].Init = 10
	return map[int]impl.Prog{
		impl.ScopeForm:  form,
		impl.ScopeTwice: progOf(t, store+"lock x"),
		impl.ScopeNone:  progOf(t, strings.Replace(store, "\nlock n\n", "\n", 1)),
		impl.ScopeOwner: progOf(t, store+"task show x end"),
	}
}

func TestWrongStoresAreWrong(t *testing.T) {
	for code, p := range wrongStores(t) {
		if got := impl.ScopeCheck(p); got != code || len(p.Vars) != 6 {
			t.Errorf("%d, not %d, with %d variables", got, code, len(p.Vars))
		}
	}
	if got := impl.ScopeCheck(progOf(t, store)); got != impl.ScopeFine {
		t.Error(got)
	}
}

func TestWhatVariablesAreAtFirst(t *testing.T) {
	for text, want := range map[string][][]int{
		store:  {{7}, {4, 4, 4}, {-5}, {6, 6}, {0}, {1, 1, 1, 1, 1, 1}},
		"prog": nil,
		"prog task show 1 end lock m chan c 1 0 9":       nil,
		"prog var x 0 3 0 9 task 0":                      {{3}},
		"prog var x 1 3 0 9 task 0":                      {{3}},
		"prog var x 6 -2 -2 9 task 0":                    {{-2, -2, -2, -2, -2, -2}},
		"prog var x 0 3 0 9 lock m lock m":               {{3}},
		"prog var x 0 1000000 0 1000000 task 0":          {{most}},
		"prog var x 2 -1000000 -1000000 0 task 0":        {{-most, -most}},
		"prog var y 0 1 0 9 task 0 var x 0 2 0 9 task 0": {{1}, {2}},
		// What tasks do to them later is not asked.
		"prog var x 0 3 0 9 task 0 task set x 5 end": {{3}},
	} {
		p := progOf(t, text)
		got := impl.CalcOpen(p)
		if !sameLists(got, want) {
			t.Errorf("%q: %v, not %v", text, got, want)
		}
		if !impl.CalcOk(p, got) {
			t.Errorf("%q: what variables are at first is not ok", text)
		}
		checkNew(t, text, got, p)
	}
	if got := impl.CalcOpen(impl.Prog{}); len(got) != 0 {
		t.Errorf("nothing: %v", got)
	}
	for code, p := range wrongStores(t) {
		if got := impl.CalcOpen(p); len(got) != 0 {
			t.Errorf("wrong by %d: %v", code, got)
		}
	}
	full := progOf(t, fullYard("show s"))
	if got := impl.CalcOpen(full); !sameLists(got, [][]int{{0}, {0, 0, 0}, {0}, times(6, 0), {0}, {0}}) {
		t.Errorf("at all limits: %v", got)
	}
}

// sameLists takes nothing and an empty list as the same.
func sameLists(a, b [][]int) bool { return slices.EqualFunc(a, b, slices.Equal) }

// What is done to an answer is not seen in the next one, or in another list of the same.
func TestWhatVariablesAreAtFirstIsNew(t *testing.T) {
	p := progOf(t, store)
	first := impl.CalcOpen(p)
	for i := range first {
		for j := range first[i] {
			first[i][j] = 99
		}
		first[i] = append(first[i], 98, 97, 96)
		first[i] = append(first[i][:0:0], 1)
	}
	if got := impl.CalcOpen(p); !sameLists(got, [][]int{{7}, {4, 4, 4}, {-5}, {6, 6}, {0}, {1, 1, 1, 1, 1, 1}}) {
		t.Errorf("%v", got)
	}
	second := impl.CalcOpen(p)
	for i := range second {
		_ = append(second[i], 5, 5, 5, 5, 5, 5)
	}
	if !sameLists(second, impl.CalcOpen(p)) {
		t.Errorf("%v", second)
	}
}

func TestWhatVariablesMayBe(t *testing.T) {
	p := progOf(t, store)
	turns := map[string]struct {
		turn func(vals [][]int) [][]int
		want bool
	}{
		"as they are":               {func(v [][]int) [][]int { return v }, true},
		"room behind":               {func(v [][]int) [][]int { return append(v, []int{1})[:6] }, true},
		"outside the range":         {func(v [][]int) [][]int { v[0][0], v[5][5] = 500, -500; return v }, true},
		"the greatest":              {func(v [][]int) [][]int { v[0][0] = most; return v }, true},
		"the least":                 {func(v [][]int) [][]int { v[0][0] = -most; return v }, true},
		"the greatest of an array":  {func(v [][]int) [][]int { v[5][5] = most; return v }, true},
		"too great":                 {func(v [][]int) [][]int { v[0][0] = most + 1; return v }, false},
		"too far below":             {func(v [][]int) [][]int { v[0][0] = -most - 1; return v }, false},
		"too great behind a lock":   {func(v [][]int) [][]int { v[2][0] = most + 1; return v }, false},
		"too great, the first":      {func(v [][]int) [][]int { v[1][0] = most + 1; return v }, false},
		"too great, the last":       {func(v [][]int) [][]int { v[5][5] = most + 1; return v }, false},
		"too far below, the last":   {func(v [][]int) [][]int { v[5][5] = math.MinInt; return v }, false},
		"by far too great":          {func(v [][]int) [][]int { v[4][0] = math.MaxInt; return v }, false},
		"nil":                       {func([][]int) [][]int { return nil }, false},
		"no lists":                  {func([][]int) [][]int { return [][]int{} }, false},
		"too few lists":             {func(v [][]int) [][]int { return v[:5] }, false},
		"too few lists, from 1":     {func(v [][]int) [][]int { return v[1:] }, false},
		"too many lists":            {func(v [][]int) [][]int { return append(v, []int{1}) }, false},
		"an empty list too many":    {func(v [][]int) [][]int { return append(v, nil) }, false},
		"an array is too short":     {func(v [][]int) [][]int { v[1] = v[1][:2]; return v }, false},
		"an array is too long":      {func(v [][]int) [][]int { v[1] = append(v[1], 1); return v }, false},
		"the last is too short":     {func(v [][]int) [][]int { v[5] = v[5][:5]; return v }, false},
		"the last is too long":      {func(v [][]int) [][]int { v[5] = append(v[5], 1); return v }, false},
		"a number has none":         {func(v [][]int) [][]int { v[0] = nil; return v }, false},
		"a number has an empty one": {func(v [][]int) [][]int { v[0] = []int{}; return v }, false},
		"a number has two":          {func(v [][]int) [][]int { v[0] = []int{1, 1}; return v }, false},
		"an array has none":         {func(v [][]int) [][]int { v[3] = nil; return v }, false},
		"another order":             {func(v [][]int) [][]int { v[0], v[1] = v[1], v[0]; return v }, false},
	}
	for what, c := range turns {
		vals := c.turn(storeVals())
		if got := impl.CalcOk(p, vals); got != c.want {
			t.Errorf("%s: %v", what, got)
		}
		// What is wrong there is wrong for each expression, whatever it names, and ahead of its own faults.
		for _, text := range []string{"3", "x", "div 1 0", "at a 9", "none", "s"} {
			n, fault := impl.CalcRun(p, vals, nil, exprOf(t, text))
			if !c.want && (n != 0 || fault != impl.CalcForm) {
				t.Errorf("%s, %q: %d and the fault %d", what, text, n, fault)
			}
		}
		for code, wrong := range wrongStores(t) {
			if impl.CalcOk(wrong, vals) {
				t.Errorf("%s: ok of a program that is wrong by %d", what, code)
			}
		}
	}
}

func TestNothingButNumbersWithoutVariables(t *testing.T) {
	for _, p := range []impl.Prog{{}, progOf(t, "prog"), progOf(t, "prog lock m chan c 1 0 9 task lock m end")} {
		for _, vals := range [][][]int{nil, {}} {
			if !impl.CalcOk(p, vals) {
				t.Errorf("%v are what no variables are", vals)
			}
			checkRun(t, p, vals, nil, "add 1 mul 2 3", 7, impl.CalcFine)
			checkRun(t, p, vals, nil, "div 1 0", 0, impl.CalcNought)
			checkRun(t, p, vals, nil, "x", 0, impl.CalcForm)
			checkRun(t, p, vals, []string{"m"}, "at x 0", 0, impl.CalcForm)
		}
		for _, vals := range [][][]int{{nil}, {{}}, {{1}}} {
			if impl.CalcOk(p, vals) {
				t.Errorf("%v are more than no variables are", vals)
			}
			checkRun(t, p, vals, nil, "1", 0, impl.CalcForm)
		}
		for _, v := range []int{math.MinInt, -1, 0, 1, math.MaxInt} {
			if impl.CalcBareOf(p, v, []string{"", "m"}) {
				t.Errorf("there is no variable at %d", v)
			}
		}
	}
	if impl.CalcOk(impl.Prog{Tasks: [][]impl.Stmt{{show(named("x"))}}}, nil) {
		t.Error("a name is wrong, and it is ok")
	}
}

func TestWhoMayTouch(t *testing.T) {
	p := progOf(t, store)
	for _, c := range []struct {
		held string
		want string
	}{
		// The signs tell, in the order of variables, which may be touched.
		{"", "++--+-"}, {"m", "+++++-"}, {"n", "++--++"}, {"m n", "++++++"}, {"n m", "++++++"}, {"m m", "+++++-"}, {"o n", "++--++"}, {"o p q", "++--+-"}, {"x a s r z q", "++--+-"}, {"mm M nn", "++--+-"},
	} {
		for v, sign := range c.want {
			if got := impl.CalcBareOf(p, v, strings.Fields(c.held)); got != (sign == '+') {
				t.Errorf("%q are held, the variable %d: %v", c.held, v, got)
			}
		}
		for _, v := range []int{math.MinInt, -2, -1, 6, 7, 1 << 40, math.MaxInt} {
			if impl.CalcBareOf(p, v, strings.Fields(c.held)) {
				t.Errorf("%q are held, no variable at %d", c.held, v)
			}
		}
	}
	if impl.CalcBareOf(p, 2, []string{"", "m "}) || impl.CalcBareOf(p, 2, []string{}) || !impl.CalcBareOf(p, 0, []string{"", ""}) {
		t.Error("other words that are held")
	}
	// What lies behind the end of a list is not in it.
	held := []string{"n", "m"}
	if impl.CalcBareOf(p, 2, held[:1]) || !impl.CalcBareOf(p, 2, held) {
		t.Error("behind the end of what is held")
	}
	p.Vars = p.Vars[:1]
	if impl.CalcBareOf(p, 1, nil) || !impl.CalcBareOf(p, 0, nil) {
		t.Error("behind the end of variables")
	}
	// Whether the program is ok is not asked: just the variable and its lock are.
	odd := impl.Prog{Vars: []impl.Var{{Size: -1, Task: -4}, {Lock: "?"}, {Name: "x", Lock: "lock"}}}
	if !impl.CalcBareOf(odd, 0, nil) || impl.CalcBareOf(odd, 1, nil) || !impl.CalcBareOf(odd, 1, []string{"?"}) || impl.CalcBareOf(odd, 2, []string{"x"}) || !impl.CalcBareOf(odd, 2, []string{"x", "lock"}) {
		t.Error("a program that is not ok")
	}
	for code, wrong := range wrongStores(t) {
		if !impl.CalcBareOf(wrong, 0, nil) || impl.CalcBareOf(wrong, 2, nil) || !impl.CalcBareOf(wrong, 2, []string{"m"}) {
			t.Errorf("a program that is wrong by %d", code)
		}
	}
}

// twoTold is told apart from the program's own: quotients go by sizes and signs, and what is too great is asked of the size.
func twoTold(kind, a, b int) (int, int) {
	if max(a, -a) > most || max(b, -b) > most || a == math.MinInt || b == math.MinInt {
		return 0, impl.CalcForm
	}
	yes := map[bool]int{true: 1}
	n := 0
	switch kind {
	case impl.ExprAdd:
		n = a + b
	case impl.ExprSub:
		n = a - b
	case impl.ExprMul:
		n = a * b
	case impl.ExprDiv:
		if b == 0 {
			return 0, impl.CalcNought
		}
		n = cutQuotient(a, b)
	case impl.ExprLess:
		n = yes[b > a]
	case impl.ExprEqual:
		n = yes[a-b == 0]
	case impl.ExprAnd:
		n = yes[a*b != 0]
	case impl.ExprOr:
		n = yes[a*a+b*b != 0]
	default:
		return 0, impl.CalcForm
	}
	if max(n, -n) > most {
		return 0, impl.CalcGreat
	}
	return n, impl.CalcFine
}

func checkTwo(t *testing.T, kind, a, b, n, fault int) {
	t.Helper()
	if gotN, gotFault := impl.CalcTwo(kind, a, b); gotN != n || gotFault != fault {
		t.Errorf("the kind %d of %d and %d: %d and the fault %d, not %d and %d", kind, a, b, gotN, gotFault, n, fault)
	}
}

func TestTwoNumbersOfAllKinds(t *testing.T) {
	nums := slices.Concat(smallNums(), greatNums(), []int{
		most + 1, -most - 1, most * 2, -most * 2, 1 << 31, -1 << 31, 1<<31 - 1, 1 << 32, 1<<32 + 1, 1 << 40, -1 << 40, math.MaxInt, math.MaxInt - 1, math.MinInt, math.MinInt + 1,
	})
	kinds := []int{math.MinInt, -4, -1, 13, 14, 99, 1 << 32, 1<<32 + 4, 1 << 40, math.MaxInt}
	for kind := range 13 {
		kinds = append(kinds, kind)
	}
	for _, kind := range kinds {
		for _, a := range nums {
			for _, b := range nums {
				n, fault := twoTold(kind, a, b)
				checkTwo(t, kind, a, b, n, fault)
			}
		}
	}
}

func TestTwoNumbersAtTheirEdges(t *testing.T) {
	const fine, nought, great, form = impl.CalcFine, impl.CalcNought, impl.CalcGreat, impl.CalcForm
	for _, c := range []struct{ kind, a, b, n, fault int }{
		{impl.ExprAdd, most, 0, most, fine}, {impl.ExprAdd, most, 1, 0, great}, {impl.ExprAdd, most - 1, 1, most, fine}, {impl.ExprAdd, -most, 0, -most, fine}, {impl.ExprAdd, -most, -1, 0, great}, {impl.ExprAdd, 1 - most, -1, -most, fine}, {impl.ExprAdd, most, -most, 0, fine}, {impl.ExprAdd, most, most, 0, great},
		{impl.ExprSub, most, 0, most, fine}, {impl.ExprSub, most, -1, 0, great}, {impl.ExprSub, most - 1, -1, most, fine}, {impl.ExprSub, -most, 1, 0, great}, {impl.ExprSub, 1 - most, 1, -most, fine}, {impl.ExprSub, 0, most, -most, fine}, {impl.ExprSub, -1, most, 0, great}, {impl.ExprSub, 3, 5, -2, fine}, {impl.ExprSub, -most, most, 0, great},
		{impl.ExprMul, 1000, 1000, most, fine}, {impl.ExprMul, 1001, 1000, 0, great}, {impl.ExprMul, -1000, 1000, -most, fine}, {impl.ExprMul, -1000, 1001, 0, great}, {impl.ExprMul, -1000, -1000, most, fine}, {impl.ExprMul, most, -1, -most, fine}, {impl.ExprMul, most, 0, 0, fine}, {impl.ExprMul, most, most, 0, great}, {impl.ExprMul, -most, most, 0, great}, {impl.ExprMul, 90909, 11, 999999, fine}, {impl.ExprMul, 101, 9901, 0, great},
		{impl.ExprDiv, 7, 2, 3, fine}, {impl.ExprDiv, -7, 2, -3, fine}, {impl.ExprDiv, 7, -2, -3, fine}, {impl.ExprDiv, -7, -2, 3, fine}, {impl.ExprDiv, -1, 2, 0, fine}, {impl.ExprDiv, 1, -2, 0, fine}, {impl.ExprDiv, -most, -1, most, fine}, {impl.ExprDiv, -999999, most, 0, fine}, {impl.ExprDiv, -8, 2, -4, fine},
		{impl.ExprDiv, 1, 0, 0, nought}, {impl.ExprDiv, 0, 0, 0, nought}, {impl.ExprDiv, -most, 0, 0, nought}, {impl.ExprDiv, 0, 5, 0, fine}, {impl.ExprDiv, most + 1, 0, 0, form}, {impl.ExprDiv, 0, most + 1, 0, form},
		{impl.ExprLess, 1, 2, 1, fine}, {impl.ExprLess, 2, 2, 0, fine}, {impl.ExprLess, 3, 2, 0, fine}, {impl.ExprLess, -3, -2, 1, fine}, {impl.ExprLess, -most, most, 1, fine}, {impl.ExprLess, most, -most, 0, fine},
		{impl.ExprEqual, 2, 2, 1, fine}, {impl.ExprEqual, 2, -2, 0, fine}, {impl.ExprEqual, 0, 0, 1, fine}, {impl.ExprEqual, most, most, 1, fine}, {impl.ExprEqual, 1, 2, 0, fine},
		{impl.ExprAnd, 0, 0, 0, fine}, {impl.ExprAnd, 0, 5, 0, fine}, {impl.ExprAnd, 5, 0, 0, fine}, {impl.ExprAnd, 5, -6, 1, fine}, {impl.ExprAnd, 1, 2, 1, fine},
		{impl.ExprOr, 0, 0, 0, fine}, {impl.ExprOr, 0, 5, 1, fine}, {impl.ExprOr, -5, 0, 1, fine}, {impl.ExprOr, 5, -5, 1, fine},
		{impl.ExprAdd, most + 1, -5, 0, form}, {impl.ExprSub, 5, -most - 1, 0, form}, {impl.ExprMul, math.MinInt, 0, 0, form}, {impl.ExprLess, math.MinInt, math.MaxInt, 0, form}, {impl.ExprEqual, most + 1, most + 1, 0, form}, {impl.ExprAnd, 0, most + 1, 0, form}, {impl.ExprOr, 1, most + 1, 0, form}, {impl.ExprAdd, math.MaxInt, math.MaxInt, 0, form},
		{impl.ExprNum, 1, 1, 0, form}, {impl.ExprVar, 1, 1, 0, form}, {impl.ExprAt, 1, 1, 0, form}, {impl.ExprNot, 1, 0, 0, form}, {0, 1, 1, 0, form}, {-1, 1, 1, 0, form}, {13, 1, 0, 0, form},
	} {
		checkTwo(t, c.kind, c.a, c.b, c.n, c.fault)
	}
}

func checkRun(t *testing.T, p impl.Prog, vals [][]int, held []string, text string, n, fault int) {
	t.Helper()
	if gotN, gotFault := impl.CalcRun(p, vals, held, exprOf(t, text)); gotN != n || gotFault != fault {
		t.Errorf("%q of %v with %q: %d and the fault %d, not %d and %d", text, vals, held, gotN, gotFault, n, fault)
	}
}

func TestExpressionsOfAllKinds(t *testing.T) {
	p, vals, both := progOf(t, store), storeVals(), []string{"m", "n"}
	for text, want := range map[string]int{
		"0": 0, "5": 5, "-5": -5, "1000000": most, "-1000000": -most,
		"x": 7, "s": -5, "z": 0, "at a 0": 10, "at a 1": 11, "at a 2": 12, "at r 0": 20, "at r 1": 21, "at q 0": 30, "at q 5": 35,
		"at a sub at a sub at a 0 9 9": 12, "at q sub x 3": 34, "at a z": 10, "at a not z": 11, "at a add -1 1": 10,
		"add x s": 2, "sub x s": 12, "sub s x": -12, "mul x s": -35, "div x s": -1, "div s x": 0, "div s 2": -2, "div -7 2": -3, "div 7 -2": -3, "div -7 -2": 3,
		"less x 8": 1, "less x 7": 0, "less s x": 1, "less x s": 0, "equal x 7": 1, "equal x s": 0, "equal z 0": 1,
		"and x s": 1, "and x z": 0, "and z x": 0, "and z z": 0, "or x z": 1, "or z s": 1, "or z z": 0, "or x s": 1, "and -1 1": 1,
		"not x": 0, "not z": 1, "not s": 0, "not not x": 1, "not not z": 0, "not -1": 0,
		"add mul x x sub s at a 2":                32,
		"sub sub 10 3 sub 5 1":                    3,
		"div div 100 5 div 9 2":                   5,
		"less not x not z":                        1,
		"add add add add add 1 2 3 4 5 6":         21,
		"add 1 add 2 add 3 add 4 add 5 6":         21,
		"sub 1 sub 2 sub 3 sub 4 sub 5 6":         -3,
		"add 1000000 -1000000":                    0,
		"sub add 999999 1 1000000":                0,
		"mul 1000 mul 10 div 1000 10":             most,
		"or less x 3 and equal s -5 not less 9 x": 1,
	} {
		checkRun(t, p, vals, both, text, want, impl.CalcFine)
	}
	checkRun(t, impl.Prog{Vars: manyVars(1)[:0]}, nil, nil, "7", 7, impl.CalcFine)
}

// Whether a variable is in its range is not asked where it is read.
func TestVariablesAreWhatTheyAre(t *testing.T) {
	p := progOf(t, store)
	vals := [][]int{{most}, {-most, 0, most}, {-99}, {1, 0}, {500}, times(6, -1)}
	for text, want := range map[string]int{"x": most, "at a 0": -most, "at a 1": 0, "at a 2": most, "s": -99, "at r 0": 1, "z": 500, "at q 3": -1} {
		checkRun(t, p, vals, []string{"m", "n"}, text, want, impl.CalcFine)
	}
	checkRun(t, p, vals, nil, "add x 1", 0, impl.CalcGreat)
	checkRun(t, p, vals, nil, "sub at a 0 1", 0, impl.CalcGreat)
	// Of whom a variable is, and whether it is an array, is asked of names in statements alone.
	checkRun(t, p, storeVals(), nil, "z", 0, impl.CalcFine)
	checkRun(t, p, storeVals(), nil, "a", 10, impl.CalcFine)
	checkRun(t, p, storeVals(), []string{"n"}, "q", 30, impl.CalcFine)
	checkRun(t, p, storeVals(), nil, "at x 0", 7, impl.CalcFine)
	checkRun(t, p, storeVals(), nil, "at x z", 7, impl.CalcFine)
	checkRun(t, p, storeVals(), nil, "at x 1", 0, impl.CalcPlace)
	checkRun(t, p, storeVals(), nil, "at x -1", 0, impl.CalcPlace)
}

func TestPlacesOfArrays(t *testing.T) {
	p, vals := progOf(t, store), storeVals()
	for name, v := range map[string]int{"a": 1, "r": 3, "q": 5} {
		for place := -3; place < 10; place++ {
			n, fault := 0, impl.CalcPlace
			if place >= 0 && place < len(vals[v]) {
				n, fault = vals[v][place], impl.CalcFine
			}
			checkRun(t, p, vals, []string{"m", "n"}, fmt.Sprint("at ", name, " ", place), n, fault)
			checkRun(t, p, vals, []string{"m", "n"}, fmt.Sprint("at ", name, " sub ", place+9, " 9"), n, fault)
		}
		checkRun(t, p, vals, []string{"m", "n"}, "at "+name+" 1000000", 0, impl.CalcPlace)
		checkRun(t, p, vals, []string{"m", "n"}, "at "+name+" -1000000", 0, impl.CalcPlace)
	}
	// What lies behind the end of a list is no place of it.
	vals[3] = append(vals[3], 22, 23)[:2]
	checkRun(t, p, vals, []string{"m"}, "at r 2", 0, impl.CalcPlace)
	checkRun(t, p, vals, []string{"m"}, "at r 1", 21, impl.CalcFine)
}

func TestLocksThatAreHeld(t *testing.T) {
	p, vals := progOf(t, store), storeVals()
	touch := func(held string, ok bool, n int, text string) {
		t.Helper()
		if ok {
			checkRun(t, p, vals, strings.Fields(held), text, n, impl.CalcFine)
			return
		}
		checkRun(t, p, vals, strings.Fields(held), text, 0, impl.CalcBare)
	}
	for _, held := range []string{"", "m", "n", "m n", "n m", "m m", "x s q", "o", "o m", "mn"} {
		m, n := slices.Contains(strings.Fields(held), "m"), slices.Contains(strings.Fields(held), "n")
		touch(held, true, 7, "x")
		touch(held, true, 11, "at a 1")
		touch(held, m, -5, "s")
		touch(held, m, 21, "at r 1")
		touch(held, n, 31, "at q 1")
		touch(held, m && n, 26, "add s at q 1")
		touch(held, m, 0, "and z s")
		touch(held, n, 1, "or x at q 0")
	}
	checkRun(t, p, vals, nil, "s", 0, impl.CalcBare)
	checkRun(t, p, vals, []string{"", "m", ""}, "s", -5, impl.CalcFine)
	held := []string{"n", "m"}
	checkRun(t, p, vals, held[:1], "s", 0, impl.CalcBare)
}

// A name that no variable has is asked ahead of locks, and a lock ahead of places; the Kid of an ExprAt ahead of all.
func TestTheOrderOfFaultsOfNames(t *testing.T) {
	p, vals := progOf(t, store), storeVals()
	for text, fault := range map[string]int{
		"y": impl.CalcForm, "xx": impl.CalcForm, "m": impl.CalcForm, "none": impl.CalcForm, "at y 0": impl.CalcForm, "at m 9": impl.CalcForm, "at n -1": impl.CalcForm,
		"at r 9": impl.CalcBare, "at r 0": impl.CalcBare, "at q -1": impl.CalcBare, "at s 0": impl.CalcBare, "at s 1": impl.CalcBare, "r": impl.CalcBare,
		"at a 3": impl.CalcPlace, "at a -1": impl.CalcPlace,
		"at y div 1 0": impl.CalcNought, "at y s": impl.CalcBare, "at y at a 3": impl.CalcPlace, "at y mul x 1000000": impl.CalcGreat,
		"at r div 1 0": impl.CalcNought, "at r y": impl.CalcForm, "at r at a 3": impl.CalcPlace, "at q add 1000000 1": impl.CalcGreat,
		"at a div 1 0": impl.CalcNought, "at a y": impl.CalcForm, "at a s": impl.CalcBare, "at a sub -1000000 1": impl.CalcGreat, "at a at a at a y": impl.CalcForm,
		"not y": impl.CalcForm, "not s": impl.CalcBare, "not at a 3": impl.CalcPlace, "not div 1 0": impl.CalcNought, "not not add 1000000 1": impl.CalcGreat,
	} {
		checkRun(t, p, vals, nil, text, 0, fault)
		checkRun(t, p, vals, []string{"o", "x"}, text, 0, fault)
	}
}

// faulty has texts of expressions with each fault that one can have.
func faulty() map[int][]string {
	return map[int][]string{
		impl.CalcNought: {"div 1 0", "div 0 0", "div x z", "not div x z"},
		impl.CalcGreat:  {"add 1000000 1", "sub -1000000 1", "mul 1001 1000", "mul x -1000000", "at a mul x 1000000"},
		impl.CalcPlace:  {"at a 3", "at a -1", "at x 1", "add 1 at a x"},
		impl.CalcBare:   {"s", "at r 0", "at q 9", "mul 0 s"},
		impl.CalcForm:   {"y", "at y 0", "and 0 y"},
	}
}

// Of two Kids both are reckoned, whatever the first one is, and the fault of the first goes ahead.
func TestTheFirstOfSeveralFaults(t *testing.T) {
	p, vals := progOf(t, store), storeVals()
	words := []string{"add", "sub", "mul", "div", "less", "equal", "and", "or"}
	for _, word := range words {
		for fault, texts := range faulty() {
			for _, text := range texts {
				checkRun(t, p, vals, nil, text, 0, fault)
				for _, fine := range []string{"0", "1", "-3", "x", "z", "at a 2", "1000000", "not x"} {
					checkRun(t, p, vals, nil, word+" "+fine+" "+text, 0, fault)
					checkRun(t, p, vals, nil, word+" "+text+" "+fine, 0, fault)
				}
				for _, others := range faulty() {
					for _, other := range others {
						checkRun(t, p, vals, nil, word+" "+text+" "+other, 0, fault)
						checkRun(t, p, vals, nil, word+" 0 "+word+" "+text+" "+other, 0, fault)
						checkRun(t, p, vals, nil, word+" "+word+" 1 "+text+" "+other, 0, fault)
						checkRun(t, p, vals, nil, "not at a "+word+" "+text+" "+other, 0, fault)
					}
				}
			}
		}
	}
	// The whole's own fault comes behind those of both Kids.
	checkRun(t, p, vals, nil, "div y 0", 0, impl.CalcForm)
	checkRun(t, p, vals, nil, "div at a 9 0", 0, impl.CalcPlace)
	checkRun(t, p, vals, nil, "add 1000000 s", 0, impl.CalcBare)
	checkRun(t, p, vals, nil, "mul 1000000 div 2 0", 0, impl.CalcNought)
	checkRun(t, p, vals, nil, "div add 1000000 1 0", 0, impl.CalcGreat)
	checkRun(t, p, vals, nil, "div div 1 0 add 1000000 1", 0, impl.CalcNought)
}

func TestBothSidesAreReckoned(t *testing.T) {
	p, vals := progOf(t, store), storeVals()
	for fault, texts := range faulty() {
		for _, text := range texts {
			for _, first := range []string{"and 0 ", "and 1 ", "or 0 ", "or 1 ", "and z ", "or x ", "and not x ", "or not z "} {
				checkRun(t, p, vals, nil, first+text, 0, fault)
				checkRun(t, p, vals, nil, "not "+first+text, 0, fault)
				checkRun(t, p, vals, nil, first+first+text, 0, fault)
			}
		}
	}
}

func TestExpressionsThatAreNotOk(t *testing.T) {
	p, vals := progOf(t, store), storeVals()
	check := func(e impl.Expr) {
		t.Helper()
		if n, fault := impl.CalcRun(p, vals, []string{"m", "n"}, e); n != 0 || fault != impl.CalcForm {
			t.Errorf("%+v: %d and the fault %d", e, n, fault)
		}
	}
	for _, e := range wrongExprs() {
		check(e)
		check(not(e))
		check(at("a", e))
		// Ahead of faults that come ahead of it from left to right.
		check(two(impl.ExprAdd, two(impl.ExprDiv, num(1), num(0)), e))
		check(two(impl.ExprOr, num(1), e))
	}
	for kind := impl.ExprAdd; kind <= impl.ExprNot; kind++ {
		for n := range 4 {
			if kind == impl.ExprNot && n == 1 || kind != impl.ExprNot && n == 2 {
				continue
			}
			check(impl.Expr{Kind: kind, Kids: times(n, num(1))})
		}
		check(impl.Expr{Kind: kind, Num: 1, Kids: times(2, num(1))})
		check(impl.Expr{Kind: kind, Name: "x", Kids: times(2, num(1))})
	}
	check(impl.Expr{Kind: impl.ExprNum, Num: 1, Kids: times(1, num(1))})
	check(impl.Expr{Kind: impl.ExprVar, Name: "x", Num: 1})
	check(impl.Expr{Kind: impl.ExprAt, Name: "a"})
	check(impl.Expr{Kind: impl.ExprAt, Name: "a", Kids: times(2, num(1))})
	check(fullTree(impl.TreeDepth + 1))
	check(deepNot(impl.TreeDepth + 1))
	checkRun(t, p, vals, nil, "not not not not not 1", 0, impl.CalcFine)
	if n, fault := impl.CalcRun(progOf(t, store), [][]int{{100}, {0, 0, 0}, {0}, {0, 0}, {0}, times(6, 0)}, nil, fullTree(impl.TreeDepth)); n != 3200 || fault != impl.CalcFine {
		t.Errorf("all of a depth of 6: %d and the fault %d", n, fault)
	}
}

// In a program with something wrong with its names no expression is reckoned, be it without any name.
func TestExpressionsOfWrongPrograms(t *testing.T) {
	for code, p := range wrongStores(t) {
		for _, text := range []string{"1", "x", "z", "div 1 0", "at a 9", "y", "add 1000000 1", "s"} {
			if n, fault := impl.CalcRun(p, storeVals(), []string{"m", "n"}, exprOf(t, text)); n != 0 || fault != impl.CalcForm {
				t.Errorf("wrong by %d, %q: %d and the fault %d", code, text, n, fault)
			}
		}
	}
}

// What holds itself is not ok, and each call of it ends.
func TestExpressionsThatHoldThemselves(t *testing.T) {
	kids := []impl.Expr{named("x"), {Kind: impl.ExprNot}}
	kids[1].Kids = kids[1:]
	list := []impl.Stmt{{Kind: impl.StmtWhile, E: num(1)}}
	list[0].A = list
	p, held := progOf(t, store), []string{"m", "n"}
	for _, e := range []impl.Expr{kids[1], not(kids[1]), two(impl.ExprAdd, num(1), kids[1])} {
		if n, fault := impl.CalcRun(p, storeVals(), held, e); n != 0 || fault != impl.CalcForm {
			t.Errorf("%d and the fault %d", n, fault)
		}
	}
	p.Tasks[0] = list
	if n, fault := impl.CalcRun(p, storeVals(), held, num(1)); n != 0 || fault != impl.CalcForm || impl.CalcOk(p, storeVals()) || len(impl.CalcOpen(p)) != 0 || !impl.CalcBareOf(p, 0, nil) {
		t.Errorf("of a program: %d and the fault %d", n, fault)
	}
}

// runTold is told apart from the program's own: it asks variables one by one, and goes by the words of the text.
func runTold(p impl.Prog, vals [][]int, held []string, words []string) (n, fault int, rest []string) {
	word := words[0]
	if n, err := strconv.Atoi(word); err == nil {
		return n, impl.CalcFine, words[1:]
	}
	kind := slices.Index(strings.Fields("num var at add sub mul div less equal and or not"), word) + 1
	switch kind {
	case 0:
		n, fault = touchTold(p, vals, held, word, 0)
		return n, fault, words[1:]
	case impl.ExprAt:
		n, fault, rest = runTold(p, vals, held, words[2:])
		if fault == impl.CalcFine {
			n, fault = touchTold(p, vals, held, words[1], n)
		}
		return n, fault, rest
	case impl.ExprNot:
		n, fault, rest = runTold(p, vals, held, words[1:])
		if fault == impl.CalcFine {
			n, fault = twoTold(impl.ExprEqual, n, 0)
		}
		return n, fault, rest
	}
	a, first, rest := runTold(p, vals, held, words[1:])
	b, second, rest := runTold(p, vals, held, rest)
	if first != impl.CalcFine {
		return 0, first, rest
	}
	if second != impl.CalcFine {
		return 0, second, rest
	}
	n, fault = twoTold(kind, a, b)
	return n, fault, rest
}

func touchTold(p impl.Prog, vals [][]int, held []string, name string, place int) (int, int) {
	for i, v := range p.Vars {
		if v.Name != name {
			continue
		}
		if v.Lock != "" && !strings.Contains(" "+strings.Join(held, " ")+" ", " "+v.Lock+" ") {
			return 0, impl.CalcBare
		}
		for at, n := range vals[i] {
			if at == place {
				return n, impl.CalcFine
			}
		}
		return 0, impl.CalcPlace
	}
	return 0, impl.CalcForm
}

// calcExpr makes an expression that names variables of store, few others, and numbers of all sizes.
func (c *choices) calcExpr(depth int) impl.Expr {
	kind := 1 + c.below(12)
	if depth == 1 || c.below(4) == 0 {
		kind = 1 + c.below(2)
	}
	switch kind {
	case impl.ExprNum:
		nums := []int{0, 0, 1, 1, 2, 3, 5, -1, -2, -7, 10, 999, 1001, most, -most, most / 2}
		return num(nums[c.below(len(nums))])
	case impl.ExprVar:
		return named(string("xxxszzzxsay"[c.below(11)]))
	case impl.ExprAt:
		return at(string("aaarqqaarqxy"[c.below(12)]), c.calcExpr(depth-1))
	case impl.ExprNot:
		return not(c.calcExpr(depth - 1))
	}
	return two(kind, c.calcExpr(depth-1), c.calcExpr(depth-1))
}

func (c *choices) calcVals() [][]int {
	vals := storeVals()
	for _, list := range vals {
		for i := range list {
			list[i] = []int{0, 1, 2, c.below(9) - 4, c.below(2*most+1) - most}[c.below(5)]
		}
	}
	return vals
}

func (c *choices) held() []string {
	all := [][]string{{"m", "n"}, {"n", "m"}, {"m", "n"}, {"m"}, {"n"}, {}, {"o", "m"}, {"n", "n"}}
	return all[c.below(len(all))]
}

func TestManyExpressions(t *testing.T) {
	c := &choices{seed: 5}
	p := progOf(t, store)
	count := map[int]int{}
	for range 20000 {
		e, vals, held := c.calcExpr(6), c.calcVals(), c.held()
		text := impl.TextExpr(e)
		n, fault, rest := runTold(p, vals, held, strings.Fields(text))
		if len(rest) > 0 {
			t.Fatalf("%q: %q are left", text, rest)
		}
		checkRun(t, p, vals, held, text, n, fault)
		count[fault]++
	}
	for _, fault := range []int{impl.CalcFine, impl.CalcNought, impl.CalcGreat, impl.CalcPlace, impl.CalcBare, impl.CalcForm} {
		if count[fault] < 300 {
			t.Errorf("only %d expressions with the fault %d", count[fault], fault)
		}
	}
	if len(count) != 6 {
		t.Errorf("faults that no expression has: %v", count)
	}
}

// unnamed turns all that an expression does not name: other variables, locks that none of its variables has, tasks, channels, and in what order locks are held.
func (c *choices) unnamed(p impl.Prog, vals [][]int, held []string, e impl.Expr) (impl.Prog, [][]int, []string) {
	names, locks := map[string]bool{}, map[string]bool{}
	for _, part := range namesOf(e) {
		names[part.Name] = true
	}
	other := c.calcVals()
	for i, v := range p.Vars {
		if names[v.Name] {
			other[i] = slices.Clone(vals[i])
			locks[v.Lock] = true
		}
	}
	var kept []string
	for _, lock := range []string{"n", "o", "m", "x"} {
		if locks[lock] && slices.Contains(held, lock) || !locks[lock] && c.below(2) == 0 {
			kept = append(kept, lock)
		}
	}
	p.Chans = append(slices.Clone(p.Chans), impl.Chan{Name: "c", Cap: 1, Hi: 9})
	p.Tasks = append(slices.Clone(p.Tasks), []impl.Stmt{taking("m"), loop(named("s"), show(at("q", num(1))))})
	return p, other, kept
}

// Promise 5.
func TestAnExpressionHangsOnWhatItNamesAlone(t *testing.T) {
	c := &choices{seed: 55}
	p := progOf(t, store)
	fine, faults := 0, 0
	for range 10000 {
		e, vals, held := c.calcExpr(5), c.calcVals(), c.held()
		n, fault := impl.CalcRun(p, vals, held, e)
		if again, f := impl.CalcRun(p, vals, held, e); again != n || f != fault {
			t.Fatalf("%q: %d and the fault %d, and then %d and %d", impl.TextExpr(e), n, fault, again, f)
		}
		otherProg, otherVals, otherHeld := c.unnamed(p, vals, held, e)
		if got, f := impl.CalcRun(otherProg, otherVals, otherHeld, e); got != n || f != fault {
			t.Fatalf("%q of %v with %q: %d and the fault %d; of %v with %q: %d and %d", impl.TextExpr(e), vals, held, n, fault, otherVals, otherHeld, got, f)
		}
		if fault == impl.CalcFine {
			fine++
		} else {
			faults++
		}
	}
	if fine < 2000 || faults < 2000 {
		t.Errorf("%d without a fault, %d with one", fine, faults)
	}
}

// Promise 5, its second half, and that nothing stands beside a fault.
func TestNumbersThatAreToldAreNeverTooGreat(t *testing.T) {
	c := &choices{seed: 555}
	p := progOf(t, store)
	edges := 0
	for range 10000 {
		vals := c.calcVals()
		for _, list := range vals {
			for i := range list {
				if c.below(2) == 0 {
					list[i] = []int{most, -most, 1 - most, most - 1, 1000, -1000, 1001}[c.below(7)]
				}
			}
		}
		e := c.calcExpr(3)
		n, fault := impl.CalcRun(p, vals, []string{"m", "n"}, e)
		if n < -most || n > most || fault != impl.CalcFine && n != 0 || fault < 0 || fault > impl.CalcForm {
			t.Fatalf("%q of %v: %d and the fault %d", impl.TextExpr(e), vals, n, fault)
		}
		if n == most || n == -most {
			edges++
		}
	}
	if edges < 100 {
		t.Errorf("only %d numbers at the edges", edges)
	}
}

func TestFaultsAreNumbered(t *testing.T) {
	got := []int{impl.CalcFine, impl.CalcAssert, impl.CalcNought, impl.CalcGreat, impl.CalcPlace, impl.CalcRange, impl.CalcBare, impl.CalcFree, impl.CalcAgain, impl.CalcForm}
	if !reflect.DeepEqual(got, []int{0, 1, 2, 3, 4, 5, 6, 7, 8, 9}) {
		t.Errorf("%v", got)
	}
}

func TestWhatIsReckonedWithIsKept(t *testing.T) {
	vals := append(make([][]int, 0, 9), storeVals()...)
	vals[1] = append(make([]int, 0, 9), vals[1]...)
	held := append(make([]string, 0, 5), "m", "n")
	exprs := []impl.Expr{exprOf(t, "add at a 1 mul s not at q div 9 x"), exprOf(t, "or 1 div x 0"), exprOf(t, "at a 9"), {}, {Kind: impl.ExprNot, Kids: make([]impl.Expr, 2, 5)}}
	roomy := progOf(t, store)
	roomy.Vars = append(make([]impl.Var, 0, 9), roomy.Vars...)
	roomy.Locks = append(make([]string, 0, 9), roomy.Locks...)
	for i, p := range []impl.Prog{roomy, spared(), shop(), {}, {Vars: make([]impl.Var, 2, 7)}, progOf(t, fullYard("show s"))} {
		for _, e := range exprs {
			for what, call := range map[string]func(){
				"CalcOpen":   func() { impl.CalcOpen(p) },
				"CalcOk":     func() { impl.CalcOk(p, vals) },
				"CalcBareOf": func() { impl.CalcBareOf(p, 3, held) },
				"CalcRun":    func() { impl.CalcRun(p, vals, held, e) },
			} {
				checkKept(t, fmt.Sprint(what, " ", i), call, p, vals, held, e)
			}
		}
		checkNew(t, fmt.Sprint("CalcOpen ", i), impl.CalcOpen(p), p)
	}
}
