package tests

import (
	"fmt"
	"reflect"
	"slices"
	"strings"
	"testing"

	"loop.example/hedge/impl"
)

func num(n int) impl.Expr { return impl.Expr{Kind: impl.ExprNum, Num: n} }

func named(name string) impl.Expr { return impl.Expr{Kind: impl.ExprVar, Name: name} }

func at(name string, place impl.Expr) impl.Expr {
	return impl.Expr{Kind: impl.ExprAt, Name: name, Kids: []impl.Expr{place}}
}

func two(kind int, a impl.Expr, b impl.Expr) impl.Expr {
	return impl.Expr{Kind: kind, Kids: []impl.Expr{a, b}}
}

func not(e impl.Expr) impl.Expr { return impl.Expr{Kind: impl.ExprNot, Kids: []impl.Expr{e}} }

func show(e impl.Expr) impl.Stmt { return impl.Stmt{Kind: impl.StmtShow, E: e} }

func taking(name string) impl.Stmt { return impl.Stmt{Kind: impl.StmtLock, Name: name} }

func branch(e impl.Expr, a []impl.Stmt, b []impl.Stmt) impl.Stmt {
	return impl.Stmt{Kind: impl.StmtIf, E: e, A: a, B: b}
}

func loop(e impl.Expr, a ...impl.Stmt) impl.Stmt {
	return impl.Stmt{Kind: impl.StmtWhile, E: e, A: a}
}

func tasksOf(tasks ...[]impl.Stmt) impl.Prog { return impl.Prog{Tasks: tasks} }

func stmtsOk(list ...impl.Stmt) bool { return impl.TreeOk(tasksOf(list)) }

func times[T any](n int, one T) []T {
	list := make([]T, n)
	for i := range list {
		list[i] = one
	}
	return list
}

// deepNot is an expression of that depth in which each but the last has one Kid.
func deepNot(depth int) impl.Expr {
	if depth == 1 {
		return num(1)
	}
	return not(deepNot(depth - 1))
}

// fullTree is the greatest expression of that depth.
func fullTree(depth int) impl.Expr {
	if depth == 1 {
		return named("x")
	}
	return two(impl.ExprAdd, fullTree(depth-1), fullTree(depth-1))
}

// deepStmt is a statement within so many others.
func deepStmt(around int, wrap func(impl.Stmt) impl.Stmt) impl.Stmt {
	s := show(num(1))
	for range around {
		s = wrap(s)
	}
	return s
}

func TestNames(t *testing.T) {
	for _, word := range []string{"a", "z", "abcdef", "zzzzzz", "sets", "se", "ends", "none", "holds", "xlock"} {
		if !impl.TreeName(word) {
			t.Errorf("%q is a name", word)
		}
	}
	taken := "at add sub mul div less equal and or not set put if while lock unlock send recv assert show var chan task prog else end"
	if len(strings.Fields(taken)) != 26 {
		t.Fatal("the words are not all there")
	}
	for _, word := range strings.Fields(taken) {
		if impl.TreeName(word) {
			t.Errorf("%q is no name", word)
		}
		if longer := word + "q"; len(longer) <= 6 && !impl.TreeName(longer) {
			t.Errorf("%q is a name", longer)
		}
	}
	for _, word := range []string{"", "abcdefg", "A", "Z", "aB", "a1", "1a", "a b", " a", "a ", "a\n", "a\x00", "`", "{", "ab{", "`ab", "é", "aé", "\xff", "a-b", "_"} {
		if impl.TreeName(word) {
			t.Errorf("%q is no name", word)
		}
	}
}

// goodExprs has an expression of each kind.
func goodExprs() []impl.Expr {
	list := []impl.Expr{num(0), named("x"), at("a", num(1)), not(named("x"))}
	for kind := impl.ExprAdd; kind <= impl.ExprOr; kind++ {
		list = append(list, two(kind, named("x"), num(3)))
	}
	return list
}

func TestPartsThatAnExpressionHasNot(t *testing.T) {
	hasNum := map[int]bool{impl.ExprNum: true}
	hasName := map[int]bool{impl.ExprVar: true, impl.ExprAt: true}
	kids := map[int]int{impl.ExprAt: 1, impl.ExprNot: 1}
	for kind := impl.ExprAdd; kind <= impl.ExprOr; kind++ {
		kids[kind] = 2
	}
	for _, good := range goodExprs() {
		if !impl.TreeExprOk(good) {
			t.Errorf("ok: %+v", good)
		}
		turned := good
		turned.Num = 1
		if impl.TreeExprOk(turned) != hasNum[good.Kind] {
			t.Errorf("a number: %+v", turned)
		}
		for _, name := range []string{"", "x", "set", "abcdefg", "X"} {
			turned = good
			turned.Name = name
			want := hasName[good.Kind] && name == "x" || !hasName[good.Kind] && name == ""
			if impl.TreeExprOk(turned) != want {
				t.Errorf("a name: %+v", turned)
			}
		}
		for n := range 4 {
			turned = good
			turned.Kids = times(n, num(1))
			if impl.TreeExprOk(turned) != (n == kids[good.Kind]) {
				t.Errorf("%d Kids: %+v", n, turned)
			}
		}
		if len(good.Kids) == 0 {
			turned = good
			turned.Kids = []impl.Expr{}
			if !impl.TreeExprOk(turned) {
				t.Errorf("an empty list is nothing: %+v", turned)
			}
		}
	}
}

func TestEdgesOfExpressions(t *testing.T) {
	for n, want := range map[int]bool{impl.SpanMax: true, -impl.SpanMax: true, impl.SpanMax + 1: false, -impl.SpanMax - 1: false} {
		if impl.TreeExprOk(num(n)) != want || impl.TreeExprOk(not(num(n))) != want {
			t.Errorf("the number %d", n)
		}
	}
	for _, kind := range []int{-1, 0, 13, 14, 1 << 40} {
		for _, e := range []impl.Expr{{Kind: kind}, {Kind: kind, Num: 1}, {Kind: kind, Name: "x"}, {Kind: kind, Kids: times(1, num(1))}, {Kind: kind, Kids: times(2, num(1))}} {
			if impl.TreeExprOk(e) || impl.TreeExprOk(not(e)) {
				t.Errorf("no kind: %+v", e)
			}
		}
	}
	if !impl.TreeExprOk(deepNot(impl.TreeDepth)) || impl.TreeExprOk(deepNot(impl.TreeDepth+1)) {
		t.Error("a depth of 6 and of 7")
	}
	if !impl.TreeExprOk(fullTree(impl.TreeDepth)) || impl.TreeExprOk(fullTree(impl.TreeDepth+1)) {
		t.Error("all of a depth of 6 and of 7")
	}
	if !impl.TreeExprOk(two(impl.ExprOr, num(1), deepNot(5))) || impl.TreeExprOk(two(impl.ExprOr, num(1), deepNot(6))) || impl.TreeExprOk(two(impl.ExprOr, deepNot(6), num(1))) {
		t.Error("the deeper one of two Kids")
	}
	for _, nodes := range []int{160, 161} {
		// No more than 63 expressions have room in a depth of 6: of so many the depth is too great.
		if impl.TreeExprOk(exprOfNodes(nodes)) {
			t.Errorf("%d expressions", nodes)
		}
	}
}

// exprOfNodes has so many expressions, in as little depth as can be.
func exprOfNodes(n int) impl.Expr {
	switch n {
	case 1:
		return num(1)
	case 2:
		return not(num(1))
	}
	return two(impl.ExprAdd, exprOfNodes((n-1)/2), exprOfNodes(n-1-(n-1)/2))
}

// choices makes expressions and statements, one from another number each.
type choices struct{ seed uint64 }

func (c *choices) below(n int) int {
	c.seed = c.seed*6364136223846793005 + 1442695040888963407
	return int((c.seed >> 33) % uint64(n))
}

func (c *choices) expr(depth int) impl.Expr {
	kind := 1 + c.below(12)
	if depth == 1 {
		kind = 1 + c.below(2)
	}
	switch {
	case kind == impl.ExprNum:
		return num(c.below(5) - 2)
	case kind == impl.ExprVar:
		return named(string(rune('x' + c.below(3))))
	case kind == impl.ExprAt:
		return at("a", c.expr(depth-1))
	case kind == impl.ExprNot:
		return not(c.expr(depth - 1))
	}
	return two(kind, c.expr(depth-1), c.expr(depth-1))
}

func (c *choices) list(depth int) []impl.Stmt {
	var list []impl.Stmt
	for range c.below(4) {
		list = append(list, c.stmt(depth))
	}
	return list
}

func (c *choices) stmt(depth int) impl.Stmt {
	kind := 1 + c.below(10)
	if depth == 0 && (kind == impl.StmtIf || kind == impl.StmtWhile) {
		kind = impl.StmtShow
	}
	switch kind {
	case impl.StmtSet, impl.StmtSend:
		return impl.Stmt{Kind: kind, Name: "x", E: c.expr(3)}
	case impl.StmtPut:
		return impl.Stmt{Kind: kind, Name: "a", E: c.expr(2), F: c.expr(2)}
	case impl.StmtIf:
		return branch(c.expr(3), c.list(depth-1), c.list(depth-1))
	case impl.StmtWhile:
		return loop(c.expr(3), c.list(depth-1)...)
	case impl.StmtLock, impl.StmtUnlock:
		return impl.Stmt{Kind: kind, Name: "m"}
	case impl.StmtRecv:
		return impl.Stmt{Kind: kind, Name: "c", E: named("x")}
	}
	return impl.Stmt{Kind: kind, E: c.expr(3)}
}

// Promise 2, its first half.
func TestPartsOfWhatIsOkAreOk(t *testing.T) {
	var check func(e impl.Expr)
	check = func(e impl.Expr) {
		if !impl.TreeExprOk(e) {
			t.Fatalf("a part is not ok: %+v", e)
		}
		for _, kid := range e.Kids {
			check(kid)
		}
	}
	c := &choices{seed: 2}
	for range 3000 {
		check(c.expr(6))
	}
	for range 3000 {
		e := c.expr(6)
		if spoilt := spoil(c, e); impl.TreeExprOk(spoilt) {
			t.Fatalf("a part is not ok, but the whole is: %+v", spoilt)
		}
	}
}

// spoil is the expression with one of its parts no longer ok.
func spoil(c *choices, e impl.Expr) impl.Expr {
	if len(e.Kids) == 0 || c.below(4) == 0 {
		e.Kind = 13 + c.below(2)
		return e
	}
	e.Kids = slices.Clone(e.Kids)
	i := c.below(len(e.Kids))
	e.Kids[i] = spoil(c, e.Kids[i])
	return e
}

// goodStmts has a statement of each kind, in the order of kinds.
func goodStmts() []impl.Stmt {
	return []impl.Stmt{
		{Kind: impl.StmtSet, Name: "x", E: num(1)},
		{Kind: impl.StmtPut, Name: "a", E: num(1), F: num(2)},
		{Kind: impl.StmtIf, E: num(1)},
		{Kind: impl.StmtWhile, E: num(1)},
		{Kind: impl.StmtLock, Name: "m"},
		{Kind: impl.StmtUnlock, Name: "m"},
		{Kind: impl.StmtSend, Name: "c", E: num(1)},
		{Kind: impl.StmtRecv, Name: "c", E: named("x")},
		{Kind: impl.StmtAssert, E: num(1)},
		{Kind: impl.StmtShow, E: num(1)},
	}
}

// wrongExprs has expressions that are not ok.
func wrongExprs() []impl.Expr {
	return []impl.Expr{
		{}, {Num: 1}, {Name: "x"}, {Kids: times(1, num(1))}, {Kind: 13}, {Kind: -1}, {Kind: impl.ExprVar}, {Kind: impl.ExprNot},
		named("set"), num(impl.SpanMax + 1), deepNot(7), not(impl.Expr{}), {Kind: impl.ExprNum, Name: "x"},
	}
}

func TestPartsThatAStatementHasNot(t *testing.T) {
	// In the order of kinds: which have a Name, an E, an F, an A, a B.
	parts := []string{"NE", "NEF", "EAB", "EA", "N", "N", "NE", "NE", "E", "E"}
	for i, good := range goodStmts() {
		has := func(part string) bool { return strings.Contains(parts[i], part) }
		if good.Kind != i+1 || !stmtsOk(good) {
			t.Errorf("ok: %+v", good)
		}
		for _, name := range []string{"", "x", "set", "abcdefg", "x1"} {
			s := good
			s.Name = name
			if want := has("N") && name == "x" || !has("N") && name == ""; stmtsOk(s) != want {
				t.Errorf("a name: %+v", s)
			}
		}
		for _, e := range append(wrongExprs(), named("x"), num(1), not(named("x")), at("a", num(1))) {
			right := impl.TreeExprOk(e)
			none := reflect.DeepEqual(e, impl.Expr{})
			s := good
			s.E = e
			want := has("E") && right || !has("E") && none
			if good.Kind == impl.StmtRecv {
				want = right && e.Kind == impl.ExprVar
			}
			if stmtsOk(s) != want {
				t.Errorf("an E: %+v", s)
			}
			s = good
			s.F = e
			if want := has("F") && right || !has("F") && none; stmtsOk(s) != want {
				t.Errorf("an F: %+v", s)
			}
		}
		for _, list := range [][]impl.Stmt{nil, {}, {show(num(1))}, goodStmts(), {{}}, {{Kind: impl.StmtLock}}} {
			fine := len(list) == 0 || list[0].Name != "" || list[0].Kind == impl.StmtShow
			s := good
			s.A = list
			if want := fine && (has("A") || len(list) == 0); stmtsOk(s) != want {
				t.Errorf("an A: %+v", s)
			}
			s = good
			s.B = list
			if want := fine && (has("B") || len(list) == 0); stmtsOk(s) != want {
				t.Errorf("a B: %+v", s)
			}
		}
	}
}

func TestKindsThatAreNone(t *testing.T) {
	for _, kind := range []int{-1, 0, 11, 12, 1 << 40} {
		for _, s := range append(goodStmts(), impl.Stmt{}) {
			s.Kind = kind
			if stmtsOk(s) || stmtsOk(branch(num(1), nil, []impl.Stmt{s})) || stmtsOk(loop(num(1), show(num(1)), s)) {
				t.Errorf("no kind: %+v", s)
			}
		}
	}
}

func TestHowManyStatements(t *testing.T) {
	one := show(num(1))
	for n, want := range map[int]bool{0: true, 1: true, 40: true, 41: false} {
		if stmtsOk(times(n, one)...) != want {
			t.Errorf("%d statements", n)
		}
	}
	for n, want := range map[int]bool{40: true, 41: false} {
		nested := branch(num(1), times(19, one), []impl.Stmt{loop(num(1), times(n-21, one)...)})
		if stmtsOk(nested) != want {
			t.Errorf("%d statements within each other", n)
		}
	}
	if !impl.TreeOk(tasksOf(times(40, one), times(40, one), times(40, one), times(40, one))) {
		t.Error("40 statements of each of 4 tasks")
	}
	for i := range 4 {
		p := tasksOf(times(4, times(1, one))...)
		p.Tasks[i] = times(41, one)
		if impl.TreeOk(p) {
			t.Errorf("41 statements of the task %d", i)
		}
	}
}

func TestHowDeepStatementsAre(t *testing.T) {
	wraps := []func(impl.Stmt) impl.Stmt{
		func(s impl.Stmt) impl.Stmt { return branch(num(1), []impl.Stmt{s}, nil) },
		func(s impl.Stmt) impl.Stmt { return branch(num(1), nil, []impl.Stmt{s}) },
		func(s impl.Stmt) impl.Stmt { return loop(num(1), s) },
	}
	for i, wrap := range wraps {
		if !stmtsOk(deepStmt(4, wrap)) || stmtsOk(deepStmt(5, wrap)) {
			t.Errorf("within 4 others, and within 5: %d", i)
		}
		if stmtsOk(show(num(1)), branch(num(1), nil, nil), deepStmt(5, wrap), show(num(1))) {
			t.Errorf("within 5 others, behind some: %d", i)
		}
	}
	// The fifth one around may be empty: there is none within it.
	empty := loop(num(1))
	for range 4 {
		empty = branch(num(1), []impl.Stmt{empty}, []impl.Stmt{})
	}
	if !stmtsOk(empty) {
		t.Error("an empty list within 5 others")
	}
}

func TestHowManyExpressionsOfATask(t *testing.T) {
	great := impl.Stmt{Kind: impl.StmtPut, Name: "a", E: fullTree(6), F: fullTree(6)}
	// 5 times 126 expressions, and 2 of each other statement: what it has not counts as one.
	full := append(times(5, great), times(5, taking("m"))...)
	if !stmtsOk(full...) {
		t.Error("640 expressions of a task")
	}
	for i, last := range []impl.Stmt{show(not(num(1))), {Kind: impl.StmtSet, Name: "x", E: not(num(1))}, {Kind: impl.StmtPut, Name: "a", E: num(1), F: not(num(1))}} {
		if stmtsOk(append(slices.Clone(full[:9]), last)...) {
			t.Errorf("641 expressions of a task: %d", i)
		}
	}
	for i, last := range []impl.Stmt{show(num(1)), taking("m"), branch(num(1), nil, nil), loop(num(1)), {Kind: impl.StmtRecv, Name: "c", E: named("x")}} {
		if !stmtsOk(append(slices.Clone(full[:9]), last)...) {
			t.Errorf("640 expressions of a task: %d", i)
		}
		if stmtsOk(append(slices.Clone(full), last)...) {
			t.Errorf("642 expressions of a task: %d", i)
		}
	}
	if !stmtsOk(branch(num(1), full[:9], nil)) || stmtsOk(branch(num(1), full, nil)) || stmtsOk(branch(not(num(1)), nil, full[:9])) {
		t.Error("expressions of statements within others")
	}
	if !impl.TreeOk(tasksOf(full, full, full, full)) {
		t.Error("640 expressions of each of 4 tasks")
	}
}

func manyVars(n int) []impl.Var {
	return times(n, impl.Var{Name: "x", Hi: 9})
}

func TestHowManyThingsAProgramHas(t *testing.T) {
	channel := impl.Chan{Name: "c", Cap: 1}
	for n := range 9 {
		checks := map[string][2]bool{
			"variables": {impl.TreeOk(impl.Prog{Vars: manyVars(n)}), n <= 6},
			"channels":  {impl.TreeOk(impl.Prog{Chans: times(n, channel)}), n <= 3},
			"locks":     {impl.TreeOk(impl.Prog{Locks: times(n, "m")}), n <= 3},
			"tasks":     {impl.TreeOk(tasksOf(times(n, []impl.Stmt{show(num(1))})...)), n <= 4},
			"no tasks":  {impl.TreeOk(tasksOf(make([][]impl.Stmt, n)...)), n <= 4},
		}
		for what, got := range checks {
			if got[0] != got[1] {
				t.Errorf("%d %s: %v", n, what, got[0])
			}
		}
	}
	all := impl.Prog{Vars: manyVars(6), Chans: times(3, channel), Locks: times(3, "m"), Tasks: times(4, goodStmts())}
	if !impl.TreeOk(all) {
		t.Error("all limits at the same time")
	}
}

type varCase struct {
	v     impl.Var
	tasks int
	want  bool
}

func TestVariables(t *testing.T) {
	cases := []varCase{
		{impl.Var{Name: "x"}, 0, true},
		{impl.Var{Name: "abcdef", Size: 6, Init: -most, Lo: -most, Hi: most}, 1, true},
		{impl.Var{Name: "x", Size: 1, Init: most, Lo: -most, Hi: most}, 1, true},
		{impl.Var{Name: "x", Size: 7}, 1, false},
		{impl.Var{Name: "x", Size: -1}, 1, false},
		{impl.Var{Name: ""}, 1, false},
		{impl.Var{Name: "var"}, 1, false},
		{impl.Var{Name: "abcdefg"}, 1, false},
		{impl.Var{Name: "x", Init: 3, Lo: 3, Hi: 5}, 1, true},
		{impl.Var{Name: "x", Init: 5, Lo: 3, Hi: 5}, 1, true},
		{impl.Var{Name: "x", Init: 2, Lo: 3, Hi: 5}, 1, false},
		{impl.Var{Name: "x", Init: 6, Lo: 3, Hi: 5}, 1, false},
		{impl.Var{Name: "x", Init: 4, Lo: 5, Hi: 3}, 1, false},
		{impl.Var{Name: "x", Init: 4, Lo: 4, Hi: 4}, 1, true},
		{impl.Var{Name: "x", Lo: -most - 1, Hi: 0}, 1, false},
		{impl.Var{Name: "x", Lo: 0, Hi: most + 1}, 1, false},
		{impl.Var{Name: "x", Lock: "m"}, 0, true},
		{impl.Var{Name: "x", Lock: "m"}, 2, true},
		{impl.Var{Name: "x", Lock: "m", Task: 1}, 2, false},
		{impl.Var{Name: "x", Lock: "m", Task: -1}, 2, false},
		{impl.Var{Name: "x", Lock: "lock"}, 1, false},
		{impl.Var{Name: "x", Lock: "M"}, 1, false},
		{impl.Var{Name: "x", Lock: " "}, 1, false},
		{impl.Var{Name: "x", Task: 1}, 0, false},
		{impl.Var{Name: "x", Task: 1}, 1, false},
		{impl.Var{Name: "x", Task: 1}, 2, true},
		{impl.Var{Name: "x", Task: 3}, 4, true},
		{impl.Var{Name: "x", Task: 4}, 4, false},
		{impl.Var{Name: "x", Task: -1}, 0, false},
		{impl.Var{Name: "x", Task: -1}, 4, false},
	}
	for _, c := range cases {
		p := impl.Prog{Vars: []impl.Var{c.v}, Tasks: make([][]impl.Stmt, c.tasks)}
		if impl.TreeOk(p) != c.want {
			t.Errorf("%+v of %d tasks: not %v", c.v, c.tasks, c.want)
		}
		p.Vars = append(manyVars(5), c.v)
		if impl.TreeOk(p) != c.want {
			t.Errorf("%+v of %d tasks, the last of 6: not %v", c.v, c.tasks, c.want)
		}
	}
}

func TestChannelsAndLocks(t *testing.T) {
	for _, c := range []struct {
		c    impl.Chan
		want bool
	}{
		{impl.Chan{Name: "c", Cap: 1}, true}, {impl.Chan{Name: "c", Cap: 4}, true},
		{impl.Chan{Name: "c", Cap: 0}, false}, {impl.Chan{Name: "c", Cap: 5}, false}, {impl.Chan{Name: "c", Cap: -1}, false},
		{impl.Chan{Name: "c", Cap: 2, Lo: -most, Hi: most}, true}, {impl.Chan{Name: "c", Cap: 2, Lo: 3, Hi: 3}, true},
		{impl.Chan{Name: "c", Cap: 2, Lo: -most - 1, Hi: 0}, false}, {impl.Chan{Name: "c", Cap: 2, Hi: most + 1}, false},
		{impl.Chan{Name: "c", Cap: 2, Lo: 1, Hi: 0}, false}, {impl.Chan{Cap: 2}, false}, {impl.Chan{Name: "chan", Cap: 2}, false},
		{impl.Chan{Name: "abcdefg", Cap: 2}, false},
	} {
		first := impl.Chan{Name: "d", Cap: 1}
		if impl.TreeOk(impl.Prog{Chans: []impl.Chan{c.c}}) != c.want || impl.TreeOk(impl.Prog{Chans: []impl.Chan{first, c.c}}) != c.want {
			t.Errorf("%+v: not %v", c.c, c.want)
		}
	}
	for lock, want := range map[string]bool{"m": true, "abcdef": true, "": false, "lock": false, "abcdefg": false, "M": false} {
		if impl.TreeOk(impl.Prog{Locks: []string{lock}}) != want || impl.TreeOk(impl.Prog{Locks: []string{"n", lock}}) != want {
			t.Errorf("the lock %q: not %v", lock, want)
		}
	}
	if !impl.TreeOk(impl.Prog{}) || !impl.TreeOk(impl.Prog{Vars: []impl.Var{}, Chans: []impl.Chan{}, Locks: []string{}, Tasks: [][]impl.Stmt{}}) {
		t.Error("nothing at all is a program")
	}
	// What names stand for is not asked here.
	if !impl.TreeOk(impl.Prog{Locks: []string{"m", "m"}, Tasks: [][]impl.Stmt{{taking("q"), show(named("m"))}}}) {
		t.Error("names that stand for nothing")
	}
}

// flat is told apart from the program's own walk: each list is gone through from its end.
func flat(list []impl.Stmt) []impl.Stmt {
	var behind []impl.Stmt
	for i := len(list) - 1; i >= 0; i-- {
		whole := append([]impl.Stmt{list[i]}, flat(list[i].A)...)
		whole = append(whole, flat(list[i].B)...)
		behind = append(whole, behind...)
	}
	return behind
}

// Promise 2, its second half.
func TestStatementsOfAList(t *testing.T) {
	word := func(list []impl.Stmt) string {
		var b strings.Builder
		for _, s := range list {
			fmt.Fprintf(&b, "%d ", s.E.Num)
		}
		return b.String()
	}
	list := []impl.Stmt{
		show(num(0)),
		branch(num(1), []impl.Stmt{show(num(2)), loop(num(3), show(num(4)), branch(num(5), nil, []impl.Stmt{show(num(6))})), show(num(7))}, []impl.Stmt{show(num(8)), branch(num(9), []impl.Stmt{}, nil)}),
		loop(num(10)),
		show(num(11)),
	}
	if got := word(impl.TreeStmtsOf(list)); got != "0 1 2 3 4 5 6 7 8 9 10 11 " {
		t.Error(got)
	}
	for _, empty := range [][]impl.Stmt{nil, {}} {
		if len(impl.TreeStmtsOf(empty)) != 0 {
			t.Error("statements of an empty list")
		}
	}
	c := &choices{seed: 5}
	for range 500 {
		list := c.list(4)
		got := impl.TreeStmtsOf(list)
		want := flat(list)
		if !impl.TreeSame(tasksOf(got), tasksOf(want)) || len(got) != len(want) || len(got) > 0 && !reflect.DeepEqual(got, want) {
			t.Fatalf("%+v: %+v", list, got)
		}
	}
	// A list need not be ok: what a kind has not is told as well.
	odd := []impl.Stmt{{Kind: 77, Name: "else", A: []impl.Stmt{{Kind: -1, B: []impl.Stmt{show(num(1))}}}, B: times(50, impl.Stmt{})}}
	if got := impl.TreeStmtsOf(odd); !reflect.DeepEqual(got, flat(odd)) {
		t.Errorf("%+v", got)
	}
	if got := impl.TreeStmtsOf([]impl.Stmt{deepStmt(60, func(s impl.Stmt) impl.Stmt { return loop(num(1), s) })}); len(got) != 61 {
		t.Errorf("within 60 others: %d", len(got))
	}
}

// spared is a program with spare room behind the ends of its lists, and a list that stands twice in it.
func spared() impl.Prog {
	roomy := func(list ...impl.Stmt) []impl.Stmt {
		return append(make([]impl.Stmt, 0, len(list)+3), list...)
	}
	kids := append(make([]impl.Expr, 0, 5), named("x"), num(2))
	sum := impl.Expr{Kind: impl.ExprAdd, Kids: kids}
	inner := roomy(show(sum), impl.Stmt{Kind: impl.StmtPut, Name: "a", E: sum, F: sum})
	list := roomy(branch(sum, inner, inner), loop(sum, inner...), show(sum))
	return impl.Prog{
		Vars:  append(make([]impl.Var, 0, 4), impl.Var{Name: "x", Hi: 9}),
		Chans: append(make([]impl.Chan, 0, 4), impl.Chan{Name: "c", Cap: 1}),
		Locks: append(make([]string, 0, 4), "m"),
		Tasks: append(make([][]impl.Stmt, 0, 4), list, inner),
	}
}

func TestTreesAreKept(t *testing.T) {
	p := spared()
	var got []impl.Stmt
	checkKept(t, "TreeStmtsOf", func() { got = impl.TreeStmtsOf(p.Tasks[0]) }, p)
	checkNew(t, "TreeStmtsOf", got, p)
	if len(got) != 9 || !reflect.DeepEqual(got, flat(p.Tasks[0])) {
		t.Errorf("%+v", got)
	}
	q := spared()
	checkKept(t, "TreeOk", func() { impl.TreeOk(p) }, p)
	checkKept(t, "TreeExprOk", func() { impl.TreeExprOk(p.Tasks[0][0].E) }, p)
	checkKept(t, "TreeSame", func() { impl.TreeSame(p, q) }, p, q)
}

func TestTheSame(t *testing.T) {
	p, q := spared(), spared()
	if !impl.TreeSame(p, q) || !impl.TreeSame(p, p) || !impl.TreeSame(impl.Prog{}, impl.Prog{}) {
		t.Error("the same")
	}
	nothing := impl.Prog{Vars: []impl.Var{}, Chans: []impl.Chan{}, Locks: []string{}, Tasks: [][]impl.Stmt{}}
	if !impl.TreeSame(impl.Prog{}, nothing) || !impl.TreeSame(nothing, impl.Prog{}) {
		t.Error("nothing beside empty lists")
	}
	bare := tasksOf(nil, []impl.Stmt{{E: num(1)}})
	empty := tasksOf([]impl.Stmt{}, []impl.Stmt{{E: impl.Expr{Kind: 1, Num: 1, Kids: []impl.Expr{}}, F: impl.Expr{Kids: []impl.Expr{}}, A: []impl.Stmt{}, B: []impl.Stmt{}}})
	if !impl.TreeSame(bare, empty) || !impl.TreeSame(empty, bare) {
		t.Error("nil lists beside empty ones within tasks")
	}
	if impl.TreeSame(tasksOf(nil), impl.Prog{}) || impl.TreeSame(impl.Prog{}, tasksOf([]impl.Stmt{})) {
		t.Error("a task without statements beside no task")
	}
	// Programs that are not ok are held against each other as well.
	odd := impl.Prog{Vars: []impl.Var{{Name: "set", Size: 99}}, Tasks: [][]impl.Stmt{{{Kind: 99}}}}
	if !impl.TreeSame(odd, odd) || impl.TreeSame(odd, p) {
		t.Error("programs that are not ok")
	}
}

func TestTheSameInAllParts(t *testing.T) {
	turns := []func(p *impl.Prog){
		func(p *impl.Prog) { p.Vars[0].Name = "y" },
		func(p *impl.Prog) { p.Vars[0].Size = 1 },
		func(p *impl.Prog) { p.Vars[0].Init = 1 },
		func(p *impl.Prog) { p.Vars[0].Lo = -1 },
		func(p *impl.Prog) { p.Vars[0].Hi = 8 },
		func(p *impl.Prog) { p.Vars[0].Lock = "m" },
		func(p *impl.Prog) { p.Vars[0].Task = 1 },
		func(p *impl.Prog) { p.Vars = append(p.Vars, p.Vars[0]) },
		func(p *impl.Prog) { p.Vars = nil },
		func(p *impl.Prog) { p.Chans[0].Name = "d" },
		func(p *impl.Prog) { p.Chans[0].Cap = 2 },
		func(p *impl.Prog) { p.Chans[0].Lo = -1 },
		func(p *impl.Prog) { p.Chans[0].Hi = 1 },
		func(p *impl.Prog) { p.Chans = nil },
		func(p *impl.Prog) { p.Locks[0] = "n" },
		func(p *impl.Prog) { p.Locks = append(p.Locks, "n") },
		func(p *impl.Prog) { p.Tasks = p.Tasks[:1] },
		func(p *impl.Prog) { p.Tasks[0], p.Tasks[1] = p.Tasks[1], p.Tasks[0] },
		func(p *impl.Prog) { p.Tasks[0] = p.Tasks[0][:2] },
		func(p *impl.Prog) { p.Tasks[0][0].Kind = impl.StmtWhile },
		func(p *impl.Prog) { p.Tasks[0][0].Name = "x" },
		func(p *impl.Prog) { p.Tasks[0][0].E = num(1) },
		func(p *impl.Prog) { p.Tasks[0][0].F = num(1) },
		func(p *impl.Prog) { p.Tasks[0][0].A = nil },
		func(p *impl.Prog) { p.Tasks[0][0].B = p.Tasks[0][0].B[:1] },
		func(p *impl.Prog) { p.Tasks[0][0].B = []impl.Stmt{p.Tasks[0][0].B[1], p.Tasks[0][0].B[0]} },
		func(p *impl.Prog) { p.Tasks[0][2].E.Kind = impl.ExprSub },
		func(p *impl.Prog) { p.Tasks[0][2].E.Num = 1 },
		func(p *impl.Prog) { p.Tasks[0][2].E.Name = "x" },
		func(p *impl.Prog) { p.Tasks[0][2].E.Kids[1].Num = 3 },
		func(p *impl.Prog) { p.Tasks[0][2].E.Kids = p.Tasks[0][2].E.Kids[:1] },
	}
	for i, turn := range turns {
		p, q := spared(), spared()
		turn(&q)
		if impl.TreeSame(p, q) || impl.TreeSame(q, p) {
			t.Errorf("not the same: %d", i)
		}
	}
}

// Lists that share memory can hold themselves: no walk of these would end, but each call must.
func TestTreesThatHoldThemselves(t *testing.T) {
	kids := []impl.Expr{num(1), {Kind: impl.ExprNot}}
	kids[1].Kids = kids[1:]
	list := []impl.Stmt{show(num(1)), {Kind: impl.StmtIf, E: num(1)}}
	list[1].A = list
	other := []impl.Stmt{show(num(1)), {Kind: impl.StmtWhile, E: num(1), B: []impl.Stmt{{Kind: impl.StmtIf}}}}
	other[1].B[0].B = other[1:]
	if impl.TreeExprOk(kids[1]) || stmtsOk(list...) || stmtsOk(other...) || stmtsOk(show(kids[1])) {
		t.Error("ok")
	}
	put := impl.Stmt{Kind: impl.StmtPut, Name: "a", E: num(1), F: kids[1]}
	for i, endless := range [][]impl.Stmt{list, other, {show(kids[1])}, {put}, {branch(num(1), nil, []impl.Stmt{put})}} {
		if len(impl.TreeStmtsOf(endless)) != 0 {
			t.Errorf("statements: %d", i)
		}
		if impl.TreeSame(tasksOf(endless), tasksOf(endless)) || impl.TreeSame(tasksOf(endless), impl.Prog{}) || impl.TreeSame(impl.Prog{}, tasksOf(endless)) {
			t.Errorf("the same: %d", i)
		}
	}
	// A list that stands twice, but not within itself, is nothing special.
	twice := []impl.Stmt{show(num(1))}
	if got := impl.TreeStmtsOf([]impl.Stmt{branch(num(1), twice, twice), branch(num(1), nil, twice)}); len(got) != 5 {
		t.Errorf("a list that stands twice: %d", len(got))
	}
}
