package tests

import (
	"fmt"
	"slices"
	"strconv"
	"strings"
	"testing"

	"loop.example/hedge/impl"
)

// instrOf reads an instruction: does and a statement, tests and a branch without its lists, jumps, ends; and to and a place behind it.
func instrOf(t *testing.T, line string) impl.Instr {
	t.Helper()
	op, rest, _ := strings.Cut(strings.TrimSpace(line), " ")
	text, place, leads := strings.Cut(rest, "to ")
	var i impl.Instr
	switch op {
	case "does":
		i = does(progOf(t, "prog task "+text+" end").Tasks[0][0])
	case "tests":
		i = tests(branchOf(t, text), 0)
	case "jumps":
		i = jumps(0)
	case "ends":
		i = ends()
	default:
		t.Fatalf("%q is no instruction", line)
	}
	if leads {
		i.To = numsOf(t, place)[0]
	}
	return i
}

// branchOf reads a branch or a loop with nothing in it.
func branchOf(t *testing.T, text string) impl.Stmt {
	t.Helper()
	if strings.HasPrefix(text, "if") {
		text += " else"
	}
	return progOf(t, "prog task "+text+" end end").Tasks[0][0]
}

func does(s impl.Stmt) impl.Instr { return impl.Instr{Op: impl.FlatDoes, S: s} }

func tests(s impl.Stmt, to int) impl.Instr { return impl.Instr{Op: impl.FlatTests, S: s, To: to} }

func jumps(to int) impl.Instr { return impl.Instr{Op: impl.FlatJumps, To: to} }

func ends() impl.Instr { return impl.Instr{Op: impl.FlatEnds} }

// codeOf reads instructions with semicolons between.
func codeOf(t *testing.T, text string) []impl.Instr {
	t.Helper()
	var code []impl.Instr
	for line := range strings.SplitSeq(text, ";") {
		code = append(code, instrOf(t, line))
	}
	return code
}

func listOf(t *testing.T, body string) []impl.Stmt {
	t.Helper()
	return progOf(t, "prog task "+body+" end").Tasks[0]
}

func sameInstr(a, b impl.Instr) bool {
	return a.Op == b.Op && a.To == b.To && impl.TreeSame(tasksOf([]impl.Stmt{a.S}), tasksOf([]impl.Stmt{b.S}))
}

func checkCode(t *testing.T, what string, got, want []impl.Instr) {
	t.Helper()
	if !slices.EqualFunc(got, want, sameInstr) {
		t.Errorf("%s:\n%+v\nnot\n%+v", what, got, want)
	}
}

// checkLands holds where one comes from each place of code, from those around its ends, and from those far off.
func checkLands(t *testing.T, what string, code []impl.Instr, want []int) {
	t.Helper()
	for at := range code {
		if got := impl.FlatAt(code, at); got != want[at] {
			t.Errorf("%s: from %d one comes to %d, not to %d", what, at, got, want[at])
		}
	}
	for _, at := range []int{-1, len(code), len(code) + 1, -1 << 62, 1 << 62} {
		if got := impl.FlatAt(code, at); got != -1 {
			t.Errorf("%s: from %d, which is no place, one comes to %d", what, at, got)
		}
	}
}

func checkWrong(t *testing.T, what string, code []impl.Instr) {
	t.Helper()
	if impl.FlatOk(code) {
		t.Errorf("%s: right: %+v", what, code)
	}
	checkLands(t, what, code, times(len(code), -1))
}

// Promise 7.
func TestCodeOfStatements(t *testing.T) {
	for _, c := range []struct{ body, code, lands string }{
		{"", "ends", "0"},
		{"set x add x 1", "does set x add x 1; ends", "0,1"},
		{"put a 1 x", "does put a 1 x; ends", "0,1"},
		{"lock m", "does lock m; ends", "0,1"},
		{"unlock m", "does unlock m; ends", "0,1"},
		{"send c x", "does send c x; ends", "0,1"},
		{"recv c x", "does recv c x; ends", "0,1"},
		{"assert less x 3", "does assert less x 3; ends", "0,1"},
		{"show at a 2", "does show at a 2; ends", "0,1"},
		{"show 1 show 2", "does show 1; does show 2; ends", "0,1,2"},
		{"if x show 1 else show 2 end", "tests if x to 3; does show 1; jumps to 4; does show 2; ends", "0,1,4,3,4"},
		{"if not x show 1 show 2 else end", "tests if not x to 4; does show 1; does show 2; jumps to 4; ends", "0,1,2,4,4"},
		{"if x else show 1 show 2 end", "tests if x to 2; jumps to 4; does show 1; does show 2; ends", "0,4,2,3,4"},
		{"if x else end", "tests if x to 2; jumps to 2; ends", "0,2,2"},
		{"if x else end show 1", "tests if x to 2; jumps to 2; does show 1; ends", "0,2,2,3"},
		{"while x show 1 show 2 end", "tests while x to 4; does show 1; does show 2; jumps to 0; ends", "0,1,2,0,4"},
		{"while x end", "tests while x to 2; jumps to 0; ends", "0,0,2"},
		{"show 1 while less x 2 end show 2", "does show 1; tests while less x 2 to 3; jumps to 1; does show 2; ends", "0,1,1,3,4"},
		{"if x if y show 1 else end else end", "tests if x to 5; tests if y to 4; does show 1; jumps to 4; jumps to 5; ends", "0,1,2,5,5,5"},
		{"if x else if y show 1 else end end", "tests if x to 2; jumps to 5; tests if y to 5; does show 1; jumps to 5; ends", "0,5,2,3,5,5"},
		{"while x if y show 1 else show 2 end end", "tests while x to 6; tests if y to 4; does show 1; jumps to 5; does show 2; jumps to 0; ends", "0,1,2,0,4,0,6"},
		{"while x while y end end", "tests while x to 4; tests while y to 3; jumps to 1; jumps to 0; ends", "0,1,1,0,4"},
		{"if x while y end else while y show 1 end end", "tests if x to 4; tests while y to 3; jumps to 1; jumps to 7; tests while y to 7; does show 1; jumps to 4; ends", "0,1,1,7,4,5,4,7"},
		{"while x if y if x else end else end end", "tests while x to 6; tests if y to 5; tests if x to 4; jumps to 4; jumps to 5; jumps to 0; ends", "0,1,2,0,0,0,6"},
		{"while x if x while x if x show 1 else end end else end end", "tests while x to 9; tests if x to 8; tests while x to 7; tests if x to 6; does show 1; jumps to 6; jumps to 2; jumps to 8; jumps to 0; ends", "0,1,2,3,4,2,2,0,0,9"},
		{"set x 1 while x set x 0 end if y lock m unlock m else send c 1 recv c x end assert x put a x y", "does set x 1; tests while x to 4; does set x 0; jumps to 1; tests if y to 8; does lock m; does unlock m; jumps to 10; does send c 1; does recv c x; does assert x; does put a x y; ends", "0,1,2,1,4,5,6,10,8,9,10,11,12"},
	} {
		list, want := listOf(t, c.body), codeOf(t, c.code)
		checkCode(t, c.body, impl.FlatOf(list), want)
		if !impl.FlatOk(want) {
			t.Errorf("%q: the code is not right", c.body)
		}
		checkLands(t, c.body, want, numsOf(t, c.lands))
	}
}

// flatTold tells the code of a list that begins at a place, without its end: each length is known ahead of the places that hang on it.
func flatTold(list []impl.Stmt, from int) []impl.Instr {
	var code []impl.Instr
	for _, s := range list {
		here := from + len(code)
		alone := impl.Stmt{Kind: s.Kind, Name: s.Name, E: s.E, F: s.F}
		switch s.Kind {
		case impl.StmtIf:
			a := flatTold(s.A, here+1)
			b := flatTold(s.B, here+1+len(a)+1)
			code = slices.Concat(code, []impl.Instr{tests(alone, here+len(a)+2)}, a, []impl.Instr{jumps(here + len(a) + 2 + len(b))}, b)
		case impl.StmtWhile:
			a := flatTold(s.A, here+1)
			code = slices.Concat(code, []impl.Instr{tests(alone, here+len(a)+2)}, a, []impl.Instr{jumps(here)})
		default:
			code = append(code, does(alone))
		}
	}
	return code
}

// landTold is where one comes from a place of code; -1, if one comes to no end.
func landTold(code []impl.Instr, at int) int {
	seen := map[int]bool{}
	for at >= 0 && at < len(code) && !seen[at] {
		if code[at].Op != impl.FlatJumps {
			return at
		}
		seen[at] = true
		at = code[at].To
	}
	return -1
}

// okTold says whether code is right, statements being asked as those of a task that has no other.
func okTold(code []impl.Instr) bool {
	if len(code) == 0 || len(code) > 121 {
		return false
	}
	nothing := tasksOf([]impl.Stmt{{}})
	for at, i := range code {
		given, last := tasksOf([]impl.Stmt{i.S}), at == len(code)-1
		isPlace := i.To >= 0 && i.To < len(code)
		isBranch := i.S.Kind == impl.StmtIf || i.S.Kind == impl.StmtWhile
		bare := len(i.S.A) == 0 && len(i.S.B) == 0
		right := map[int]bool{
			1: impl.TreeOk(given) && !isBranch && i.To == 0,
			2: impl.TreeOk(given) && isBranch && bare && isPlace,
			3: impl.TreeSame(given, nothing) && isPlace,
			4: impl.TreeSame(given, nothing) && i.To == 0,
		}
		if !right[i.Op] || last != (i.Op == 4) {
			return false
		}
	}
	for at := range code {
		if landTold(code, at) < 0 {
			return false
		}
	}
	return true
}

// checkFlat holds that code is right or not as told, and that one comes from each place to where is told.
func checkFlat(t *testing.T, code []impl.Instr) bool {
	t.Helper()
	right := okTold(code)
	if impl.FlatOk(code) != right {
		t.Fatalf("right: %v, but told is %v: %+v", !right, right, code)
	}
	for at := -1; at <= len(code); at++ {
		want := -1
		if right {
			want = landTold(code, at)
		}
		if got := impl.FlatAt(code, at); got != want {
			t.Fatalf("from %d one comes to %d, not to %d: %+v", at, got, want, code)
		}
	}
	return right
}

// checkFlatOf holds that the code of a list is as told, and whether it is right; of a list that is ok it must be.
func checkFlatOf(t *testing.T, list []impl.Stmt) []impl.Instr {
	t.Helper()
	code := impl.FlatOf(list)
	checkCode(t, fmt.Sprintf("%+v", list), code, append(flatTold(list, 0), ends()))
	if right := checkFlat(t, code); stmtsOk(list...) && !right {
		t.Fatalf("code of statements is not right: %+v", list)
	}
	return code
}

// Promise 7.
func TestCodeOfAllShortLists(t *testing.T) {
	for n := range 14 {
		for _, body := range bodies(n) {
			checkFlatOf(t, listOf(t, body))
		}
	}
}

// Promise 7.
func TestCodeOfManyLists(t *testing.T) {
	c := &choices{seed: 71}
	longest, led := 0, 0
	for range 3000 {
		code := checkFlatOf(t, slices.Concat(c.list(4), c.list(4), c.list(4)))
		longest = max(longest, len(code))
		for _, i := range code {
			if i.Op == impl.FlatJumps && code[i.To].Op == impl.FlatJumps {
				led++
			}
		}
	}
	for range 200 {
		for _, list := range c.fieldProg(t).Tasks {
			checkFlatOf(t, list)
		}
	}
	if longest < 70 || led < 300 {
		t.Errorf("the longest has %d, and %d jumps lead to jumps", longest, led)
	}
}

// Promise 7: a program that is ok has no code that is too long.
func TestTheLongestCode(t *testing.T) {
	for n, s := range map[int]impl.Stmt{
		41: show(num(1)),
		81: loop(num(1)),
	} {
		list := times(40, s)
		if code := checkFlatOf(t, list); len(code) != n || !impl.FlatOk(code) {
			t.Errorf("%d instructions, not %d", len(code), n)
		}
	}
	branches := times(40, branch(num(1), nil, nil))
	if code := checkFlatOf(t, branches); len(code) != 81 || impl.FlatAt(code, 79) != 80 {
		t.Errorf("%d instructions of branches", len(code))
	}
}

func TestHowManyInstructions(t *testing.T) {
	for n, want := range map[int]bool{0: true, 1: true, 119: true, 120: true, 121: false, 122: false, 400: false} {
		code := checkFlatOf(t, times(n, show(num(1))))
		if len(code) != n+1 || impl.FlatOk(code) != want {
			t.Errorf("%d statements: %d instructions", n, len(code))
		}
	}
	for n, want := range map[int]bool{119: true, 120: true, 121: false} {
		// From the first place one goes along all others.
		code := append(times(n, jumps(0)), ends())
		for at := range n {
			code[at].To = at + 1
		}
		if checkFlat(t, code); impl.FlatOk(code) != want {
			t.Errorf("%d jumps", n)
		}
		if code[n-1].To = 0; impl.FlatOk(code) {
			t.Errorf("%d jumps in a ring", n)
		}
		// The longest way to the end, from the last jump back to the first.
		for at := range n {
			code[at].To = at - 1
		}
		if code[0].To = n; impl.FlatOk(code) != want {
			t.Errorf("%d jumps back", n)
		}
		if want && impl.FlatAt(code, n-1) != n {
			t.Errorf("%d jumps back lead to %d", n, impl.FlatAt(code, n-1))
		}
	}
}

// What is not ok has code as well: each statement is taken by its Kind, with what of it is bare.
func TestCodeOfStatementsThatAreNotOk(t *testing.T) {
	inner := []impl.Stmt{show(num(1)), branch(num(2), []impl.Stmt{show(num(3))}, nil)}
	full := impl.Stmt{Name: "x", E: num(1), F: num(2), A: inner, B: inner[1:]}
	bare := impl.Stmt{Name: "x", E: num(1), F: num(2)}
	for kind := -1; kind <= 12; kind++ {
		full.Kind, bare.Kind = kind, kind
		want := []impl.Instr{does(bare), ends()}
		a := []impl.Instr{does(show(num(1))), tests(branch(num(2), nil, nil), 5), does(show(num(3))), jumps(5)}
		switch kind {
		case impl.StmtIf:
			b := []impl.Instr{tests(branch(num(2), nil, nil), 9), does(show(num(3))), jumps(9)}
			want = slices.Concat([]impl.Instr{tests(bare, 6)}, a, []impl.Instr{jumps(9)}, b, []impl.Instr{ends()})
		case impl.StmtWhile:
			want = slices.Concat([]impl.Instr{tests(bare, 6)}, a, []impl.Instr{jumps(0), ends()})
		}
		got := impl.FlatOf([]impl.Stmt{full})
		checkCode(t, fmt.Sprint("the kind ", kind), got, want)
		if impl.FlatOk(got) != (kind == impl.StmtPut) {
			t.Errorf("the kind %d: right: %v", kind, impl.FlatOk(got))
		}
		checkFlatOf(t, []impl.Stmt{full, loop(num(1), full), branch(num(1), []impl.Stmt{full}, []impl.Stmt{full, full})})
	}
	// Lists that a statement should not have are not in its code, which is right without them.
	for _, s := range goodStmts() {
		if s.Kind != impl.StmtIf {
			s.B = []impl.Stmt{{Kind: 99}}
		}
		if s.Kind != impl.StmtIf && s.Kind != impl.StmtWhile {
			s.A = []impl.Stmt{{Kind: 99}}
		}
		if code := checkFlatOf(t, []impl.Stmt{s}); !impl.FlatOk(code) {
			t.Errorf("not right: %+v", code)
		}
	}
	for _, e := range wrongExprs() {
		for _, s := range []impl.Stmt{show(e), loop(e), branch(e, nil, nil)} {
			if code := checkFlatOf(t, []impl.Stmt{s}); impl.FlatOk(code) {
				t.Errorf("right: %+v", code)
			}
		}
	}
}

func TestCodeOfManyStatementsThatAreNotOk(t *testing.T) {
	c := &choices{seed: 72}
	for range 1000 {
		list := c.list(4)
		for _, turn := range []func(s *impl.Stmt){
			func(s *impl.Stmt) { s.Kind = c.below(14) - 1 },
			func(s *impl.Stmt) { s.Name = "x" },
			func(s *impl.Stmt) { s.A = c.list(2) },
			func(s *impl.Stmt) { s.B = c.list(2) },
			func(s *impl.Stmt) { s.F = c.expr(2) },
		} {
			if len(list) > 0 && c.below(2) == 0 {
				turn(&list[c.below(len(list))])
			}
		}
		checkFlatOf(t, list)
	}
	for around := range 12 {
		for _, wrap := range []func(s impl.Stmt) impl.Stmt{
			func(s impl.Stmt) impl.Stmt { return loop(num(1), s) },
			func(s impl.Stmt) impl.Stmt { return branch(num(1), []impl.Stmt{s}, nil) },
			func(s impl.Stmt) impl.Stmt { return branch(num(1), nil, []impl.Stmt{s}) },
		} {
			if code := checkFlatOf(t, []impl.Stmt{deepStmt(around, wrap)}); len(code) != 2+2*around || !impl.FlatOk(code) {
				t.Errorf("%d around: %d instructions", around, len(code))
			}
		}
	}
}

// yardCode is code with each kind of instruction.
func yardCode(t *testing.T) []impl.Instr {
	t.Helper()
	return codeOf(t, "does set x 1; tests if x to 4; does show 1; jumps to 5; does show 2; tests while x to 8; does lock m; jumps to 5; ends")
}

func TestCodeThatIsNotRight(t *testing.T) {
	good := yardCode(t)
	if !impl.FlatOk(good) {
		t.Fatal("not right")
	}
	checkLands(t, "right", good, []int{0, 1, 2, 5, 4, 5, 6, 5, 8})
	checkWrong(t, "none at all", nil)
	checkWrong(t, "an empty list", []impl.Instr{})
	checkWrong(t, "no end", good[:8])
	checkWrong(t, "an end behind the end", append(slices.Clone(good), ends()))
	checkWrong(t, "an instruction behind the end", append(slices.Clone(good), does(show(num(1)))))
	checkWrong(t, "a jump alone", []impl.Instr{jumps(0)})
	checkWrong(t, "a jump behind the end", []impl.Instr{ends(), jumps(0)})
	plain, test, jump, end := 0, 1, 3, 8
	for at := range 8 {
		code := yardCode(t)
		code[at] = ends()
		checkWrong(t, fmt.Sprint("an end at ", at), code)
	}
	for what, c := range map[string]struct {
		at   int
		turn func(i *impl.Instr)
	}{
		"does, with a place of 1":              {plain, func(i *impl.Instr) { i.To = 1 }},
		"does, with a place of -1":             {plain, func(i *impl.Instr) { i.To = -1 }},
		"does, with a place that is none":      {plain, func(i *impl.Instr) { i.To = 1 << 40 }},
		"does nothing":                         {plain, func(i *impl.Instr) { i.S = impl.Stmt{} }},
		"does a branch":                        {plain, func(i *impl.Instr) { i.S = branch(num(1), nil, nil) }},
		"does a loop":                          {plain, func(i *impl.Instr) { i.S = loop(num(1)) }},
		"does what is within a loop":           {plain, func(i *impl.Instr) { i.S = loop(num(1), show(num(1))) }},
		"does, with an A":                      {plain, func(i *impl.Instr) { i.S.A = times(1, show(num(1))) }},
		"does, with a B":                       {plain, func(i *impl.Instr) { i.S.B = times(1, show(num(1))) }},
		"does, with an F":                      {plain, func(i *impl.Instr) { i.S.F = num(1) }},
		"does, without an E":                   {plain, func(i *impl.Instr) { i.S.E = impl.Expr{} }},
		"does, without a name":                 {plain, func(i *impl.Instr) { i.S.Name = "" }},
		"does, with a name that is none":       {plain, func(i *impl.Instr) { i.S.Name = "end" }},
		"tests, to -1":                         {test, func(i *impl.Instr) { i.To = -1 }},
		"tests, to behind the end":             {test, func(i *impl.Instr) { i.To = 9 }},
		"tests, to far behind":                 {test, func(i *impl.Instr) { i.To = 1 << 40 }},
		"tests nothing":                        {test, func(i *impl.Instr) { i.S = impl.Stmt{} }},
		"tests what is no branch":              {test, func(i *impl.Instr) { i.S = show(num(1)) }},
		"tests, with an A":                     {test, func(i *impl.Instr) { i.S.A = times(1, show(num(1))) }},
		"tests, with a B":                      {test, func(i *impl.Instr) { i.S.B = times(1, show(num(1))) }},
		"tests, with a name":                   {test, func(i *impl.Instr) { i.S.Name = "x" }},
		"tests, with an F":                     {test, func(i *impl.Instr) { i.S.F = num(1) }},
		"tests, without an E":                  {test, func(i *impl.Instr) { i.S.E = impl.Expr{} }},
		"jumps to -1":                          {jump, func(i *impl.Instr) { i.To = -1 }},
		"jumps to behind the end":              {jump, func(i *impl.Instr) { i.To = 9 }},
		"jumps to itself":                      {jump, func(i *impl.Instr) { i.To = 3 }},
		"jumps, with a statement":              {jump, func(i *impl.Instr) { i.S = show(num(1)) }},
		"jumps, with a kind":                   {jump, func(i *impl.Instr) { i.S.Kind = 99 }},
		"jumps, with a name":                   {jump, func(i *impl.Instr) { i.S.Name = "x" }},
		"jumps, with a number":                 {jump, func(i *impl.Instr) { i.S.E.Num = 1 }},
		"jumps, with an F":                     {jump, func(i *impl.Instr) { i.S.F = num(1) }},
		"jumps, with an A":                     {jump, func(i *impl.Instr) { i.S.A = times(1, impl.Stmt{}) }},
		"jumps, with a B":                      {jump, func(i *impl.Instr) { i.S.B = times(1, impl.Stmt{}) }},
		"ends, with a place":                   {end, func(i *impl.Instr) { i.To = 1 }},
		"ends, with the place -1":              {end, func(i *impl.Instr) { i.To = -1 }},
		"ends, with its own place":             {end, func(i *impl.Instr) { i.To = 8 }},
		"ends, with a statement":               {end, func(i *impl.Instr) { i.S = show(num(1)) }},
		"ends, with a kind":                    {end, func(i *impl.Instr) { i.S.Kind = -1 }},
		"ends, with a name":                    {end, func(i *impl.Instr) { i.S.Name = "x" }},
		"ends, with an E":                      {end, func(i *impl.Instr) { i.S.E = num(1) }},
		"ends, with an F that has a name":      {end, func(i *impl.Instr) { i.S.F.Name = "x" }},
		"ends, with an F that has a Kid":       {end, func(i *impl.Instr) { i.S.F.Kids = times(1, num(1)) }},
		"ends, with an A":                      {end, func(i *impl.Instr) { i.S.A = times(1, impl.Stmt{}) }},
		"ends, with a B":                       {end, func(i *impl.Instr) { i.S.B = times(1, impl.Stmt{}) }},
		"a jump instead of the end":            {end, func(i *impl.Instr) { *i = jumps(0) }},
		"a statement instead of the end":       {end, func(i *impl.Instr) { *i = does(show(num(1))) }},
		"a test instead of the end":            {end, func(i *impl.Instr) { *i = tests(loop(num(1)), 0) }},
		"no instruction at all":                {plain, func(i *impl.Instr) { *i = impl.Instr{} }},
		"no instruction at all, at the end":    {end, func(i *impl.Instr) { *i = impl.Instr{} }},
		"a branch that is done without a test": {test, func(i *impl.Instr) { i.Op = impl.FlatDoes }},
	} {
		code := yardCode(t)
		c.turn(&code[c.at])
		checkWrong(t, what, code)
	}
	for at := range good {
		for _, op := range []int{-1, 0, 5, 6, 1 << 40} {
			code := yardCode(t)
			code[at].Op = op
			checkWrong(t, fmt.Sprint("the Op ", op, " at ", at), code)
		}
	}
}

// Nothing and an empty list are the same.
func TestCodeWithEmptyLists(t *testing.T) {
	code := yardCode(t)
	for at := range code {
		code[at].S.A, code[at].S.B = []impl.Stmt{}, []impl.Stmt{}
		code[at].S.F.Kids = []impl.Expr{}
	}
	for _, at := range []int{3, 7, 8} {
		code[at].S.E.Kids = []impl.Expr{}
	}
	if !impl.FlatOk(code) || impl.FlatAt(code, 7) != 5 {
		t.Error("not right")
	}
	empty := []impl.Stmt{}
	checkCode(t, "a branch", impl.FlatOf(times(1, branch(num(1), empty, empty))), codeOf(t, "tests if 1 to 2; jumps to 2; ends"))
	checkCode(t, "a loop", impl.FlatOf(times(1, loop(num(1), empty...))), codeOf(t, "tests while 1 to 2; jumps to 0; ends"))
	checkCode(t, "an empty list", impl.FlatOf([]impl.Stmt{}), []impl.Instr{ends()})
}

// Promise 7: jumps go anywhere, but not round.
func TestWhereJumpsLead(t *testing.T) {
	for _, c := range []struct{ code, lands string }{
		{"jumps to 1; ends", "1,1"},
		{"jumps to 2; jumps to 0; ends", "2,2,2"},
		{"jumps to 1; jumps to 2; jumps to 3; ends", "3,3,3,3"},
		{"does show 1; jumps to 0; ends", "0,0,2"},
		{"tests if x to 0; ends", "0,1"},
		{"tests if x to 1; ends", "0,1"},
		{"tests while x to 1; jumps to 0; ends", "0,0,2"},
		{"jumps to 3; does show 1; jumps to 4; jumps to 2; ends", "4,1,4,4,4"},
	} {
		code := codeOf(t, c.code)
		if !impl.FlatOk(code) {
			t.Errorf("%q: not right", c.code)
		}
		checkLands(t, c.code, code, numsOf(t, c.lands))
	}
	for _, text := range []string{
		"jumps to 0; ends",
		"does show 1; jumps to 1; ends",
		"jumps to 2; jumps to 1; ends",
		"jumps to 1; jumps to 0; ends",
		"jumps to 1; jumps to 2; jumps to 1; ends",
		"jumps to 3; jumps to 2; jumps to 1; ends",
		"does show 1; jumps to 4; jumps to 1; jumps to 2; jumps to 3; ends",
		"jumps to -1; ends",
		"jumps to 2; ends",
		"tests if x to -1; ends",
		"tests if x to 2; ends",
		"tests while x to 2; ends",
		"ends to 1",
		"ends to -1",
		"does show 1 to 1; ends",
	} {
		checkWrong(t, text, codeOf(t, text))
	}
}

// allCodes is all code of so many instructions, each of them a statement, an end, or a test or a jump to a place or to just beside the places.
func allCodes(n int) [][]impl.Instr {
	letters := []impl.Instr{does(show(num(1))), ends(), {Op: 5}}
	for to := -1; to <= n; to++ {
		letters = append(letters, tests(loop(num(1)), to), jumps(to))
	}
	all := [][]impl.Instr{nil}
	for range n {
		var longer [][]impl.Instr
		for _, code := range all {
			for _, i := range letters {
				longer = append(longer, append(slices.Clone(code), i))
			}
		}
		all = longer
	}
	return all
}

// Promise 7.
func TestAllShortCode(t *testing.T) {
	// Ahead of the end each is the statement, a test to any place, or a jump to any, but the jumps do not lead round: of 2 jumps among 3 instructions 3 of 9 pairs.
	for n, want := range []int{0, 1, 4, 35, 486} {
		right := 0
		for _, code := range allCodes(n) {
			if checkFlat(t, code) {
				right++
			}
		}
		if right != want {
			t.Errorf("%d instructions: %d are right, not %d", n, right, want)
		}
	}
}

// What a statement of an instruction must be is what one of a task must be.
func TestStatementsOfInstructions(t *testing.T) {
	check := func(s impl.Stmt) {
		t.Helper()
		alone := does(s)
		isBranch := s.Kind == impl.StmtIf || s.Kind == impl.StmtWhile
		want := stmtsOk(s) && !isBranch
		if impl.FlatOk([]impl.Instr{alone, ends()}) != want || impl.FlatOk([]impl.Instr{alone, alone, ends()}) != want {
			t.Errorf("done: %+v", s)
		}
		want = stmtsOk(s) && isBranch && len(s.A)+len(s.B) == 0
		for to := range 2 {
			if impl.FlatOk([]impl.Instr{tests(s, to), ends()}) != want {
				t.Errorf("tested: %+v", s)
			}
		}
		if impl.FlatOk([]impl.Instr{{Op: impl.FlatJumps, S: s, To: 1}, ends()}) || impl.FlatOk([]impl.Instr{{Op: impl.FlatEnds, S: s}}) {
			t.Errorf("with a jump or an end: %+v", s)
		}
	}
	for _, good := range goodStmts() {
		check(good)
		for _, name := range append(taken(), "", "x", "abcdef", "abcdefg", "X", "x1", "none") {
			s := good
			s.Name = name
			check(s)
		}
		for _, e := range slices.Concat(wrongExprs(), goodExprs(), []impl.Expr{deepNot(6), fullTree(6), fullTree(7)}) {
			s := good
			s.E = e
			check(s)
			s = good
			s.F = e
			check(s)
		}
		for _, list := range [][]impl.Stmt{{}, {show(num(1))}, goodStmts(), {{}}} {
			s := good
			s.A = list
			check(s)
			s = good
			s.B = list
			check(s)
		}
		for _, kind := range []int{-1, 0, 11, 12} {
			s := good
			s.Kind = kind
			check(s)
		}
	}
}

// Code of lists, with one part turned, is right or not as told.
func TestManyTurnedCodes(t *testing.T) {
	c := &choices{seed: 73}
	right := map[bool]int{}
	for range 6000 {
		code := impl.FlatOf(c.list(3))
		i := &code[c.below(len(code))]
		switch c.below(9) {
		case 0:
			i.Op = c.below(6)
		case 1, 2, 3:
			i.To = c.below(len(code)+2) - 1
		case 4:
			i.S.Kind = c.below(12)
		case 5:
			i.S = c.stmt(1)
		case 6:
			i.S.E = c.expr(2)
		case 7:
			code = slices.Delete(code, len(code)/2, len(code)/2+1)
		case 8:
			*i = jumps(c.below(len(code)))
		}
		right[checkFlat(t, code)]++
	}
	if right[true] < 1000 || right[false] < 1000 {
		t.Error(right)
	}
}

// roomy is code with room behind its lists.
func roomy(code []impl.Instr) []impl.Instr {
	code = append(code, does(show(num(9))), jumps(0))[:len(code)]
	for at := range code {
		s := &code[at].S
		s.A, s.B = append(s.A, show(num(8)))[:len(s.A)], append(s.B, show(num(8)))[:len(s.B)]
		s.E.Kids = append(s.E.Kids, num(7))[:len(s.E.Kids)]
	}
	return code
}

func TestCodeIsKept(t *testing.T) {
	for i, list := range append(spared().Tasks, shop().Tasks...) {
		what := strconv.Itoa(i)
		var code []impl.Instr
		checkKept(t, what, func() { code = impl.FlatOf(list) }, list)
		checkNew(t, what, code, list)
		checkCode(t, what, code, append(flatTold(list, 0), ends()))
		for _, given := range [][]impl.Instr{code, roomy(code), roomy(yardCode(t)), roomy(codeOf(t, "jumps to 0; ends"))} {
			checkKept(t, what, func() { impl.FlatOk(given) }, given)
			for at := -1; at <= len(given); at++ {
				checkKept(t, what, func() { impl.FlatAt(given, at) }, given)
			}
		}
	}
	// What is done to an answer does nothing to the next one.
	list := spared().Tasks[0]
	first := impl.FlatOf(list)
	for at := range first {
		first[at].S.E.Kids = append(first[at].S.E.Kids[:0], num(5), num(6), num(7))
	}
	checkCode(t, "again", impl.FlatOf(list), append(flatTold(list, 0), ends()))
}

// What holds itself has no code, and is not right; but where it stands in a list that is not in the code, nothing is asked of it.
func TestCodeOfTreesThatHoldThemselves(t *testing.T) {
	list := []impl.Stmt{show(num(1)), {Kind: impl.StmtWhile, E: num(1)}}
	list[1].A = list
	other := []impl.Stmt{{Kind: impl.StmtIf, E: num(1)}, show(num(1))}
	other[0].B = []impl.Stmt{branch(num(1), other, nil)}
	kids := []impl.Expr{named("x"), {Kind: impl.ExprNot}}
	kids[1].Kids = kids[1:]
	put := impl.Stmt{Kind: impl.StmtPut, Name: "a", E: num(1), F: kids[1]}
	for i, endless := range [][]impl.Stmt{list, list[1:], other, {show(kids[1])}, {put}, {loop(kids[1])}, {branch(num(1), nil, list)}, {loop(num(1), show(num(1)), put)}} {
		if got := impl.FlatOf(endless); len(got) != 0 {
			t.Errorf("%d: %d instructions", i, len(got))
		}
		for _, s := range endless {
			if s.Kind != impl.StmtShow || len(s.E.Kids) > 0 {
				checkWrong(t, "done", []impl.Instr{does(s), ends()})
				checkWrong(t, "tested", []impl.Instr{tests(s, 1), ends()})
				checkWrong(t, "jumped", []impl.Instr{{Op: impl.FlatJumps, S: s, To: 1}, ends()})
				checkWrong(t, "ended", []impl.Instr{{Op: impl.FlatEnds, S: s}})
			}
		}
	}
	for _, s := range goodStmts() {
		s.B = list
		if s.Kind == impl.StmtIf {
			continue
		}
		want := flatTold([]impl.Stmt{{Kind: s.Kind, Name: s.Name, E: s.E, F: s.F}}, 0)
		checkCode(t, "a B", impl.FlatOf([]impl.Stmt{s}), append(want, ends()))
		if s.Kind != impl.StmtWhile {
			s.A = other
			checkCode(t, "an A and a B", impl.FlatOf([]impl.Stmt{s}), append(want, ends()))
		}
	}
	// A list that stands twice, but not within itself, is nothing special.
	twice := []impl.Stmt{show(num(1))}
	checkFlatOf(t, []impl.Stmt{branch(num(1), twice, twice), loop(num(1), twice...)})
}

func TestInstructionsAreNumbered(t *testing.T) {
	if got := []int{impl.FlatDoes, impl.FlatTests, impl.FlatJumps, impl.FlatEnds}; !slices.Equal(got, []int{1, 2, 3, 4}) {
		t.Error(got)
	}
}
