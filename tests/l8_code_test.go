package tests

import (
	"fmt"
	"maps"
	"math"
	"math/big"
	"slices"
	"strconv"
	"strings"
	"testing"

	"loop.example/hedge/impl"
)

// codeWord tells a run over code in all parts, nothing and an empty list being the same.
func codeWord(c impl.Code) string {
	return fmt.Sprint(c.Vals, " ", c.Queues, " ", c.Holds, " at ", c.Ats, " ", c.Out, " ", c.Fault, " ", c.Who)
}

func checkCodes(t *testing.T, what string, got, want impl.Code) {
	t.Helper()
	if codeWord(got) != codeWord(want) {
		t.Errorf("%s:\n%s\nnot\n%s", what, codeWord(got), codeWord(want))
	}
}

func checkCodeCan(t *testing.T, what string, p impl.Prog, c impl.Code, task, want int) {
	t.Helper()
	if got := impl.CodeCan(p, c, task); got != want {
		t.Errorf("%s: the task %d can %d, not %d", what, task, got, want)
	}
}

func checkNoCode(t *testing.T, what string, c impl.Code) {
	t.Helper()
	checkCodes(t, what, c, impl.Code{})
}

// treesOf has all that tasks share of a run over code, and no tasks.
func treesOf(c impl.Code) impl.Walk {
	return impl.Walk{Vals: c.Vals, Queues: c.Queues, Holds: c.Holds, Out: c.Out, Fault: c.Fault, Who: c.Who}
}

// codeAt has all that tasks share of a run over trees, and its tasks at these places.
func codeAt(w impl.Walk, ats ...int) impl.Code {
	return impl.Code{Vals: w.Vals, Queues: w.Queues, Holds: w.Holds, Ats: ats, Out: w.Out, Fault: w.Fault, Who: w.Who}
}

// turnedCode turns parts of a run of a mill, as turned does.
func turnedCode(t *testing.T, p impl.Prog, c impl.Code, me int, words string) impl.Code {
	t.Helper()
	return codeAt(turned(t, p, treesOf(c), me, words), c.Ats...)
}

func TestCodeOfTasks(t *testing.T) {
	c := &choices{seed: 81}
	progs := []impl.Prog{
		{}, progOf(t, "prog"), progOf(t, "prog task end"), progOf(t, relay), progOf(t, fullYard("show s")), mill(t, 1, "if x else end"),
		{Tasks: times(4, times(40, loop(num(1))))}, {Tasks: [][]impl.Stmt{nil, {}, {show(num(1))}}},
	}
	for range 200 {
		progs = append(progs, c.fieldProg(t))
	}
	for i, p := range progs {
		what := fmt.Sprint("the program ", i)
		var codes [][]impl.Instr
		checkKept(t, what, func() { codes = impl.CodeOf(p) }, p)
		checkNew(t, what, codes, p)
		if len(codes) != len(p.Tasks) {
			t.Fatalf("%s: the code of %d tasks, not of %d", what, len(codes), len(p.Tasks))
		}
		for task, code := range codes {
			checkCode(t, what, code, impl.FlatOf(p.Tasks[task]))
			checkCode(t, what, code, append(flatTold(p.Tasks[task], 0), ends()))
			if !impl.FlatOk(code) || impl.FlatAt(code, 0) != 0 {
				t.Errorf("%s: the code of the task %d is not right", what, task)
			}
		}
	}
	for code, p := range wrongStores(t) {
		if got := impl.CodeOf(p); len(got) != 0 {
			t.Errorf("wrong by %d: %d", code, len(got))
		}
	}
	for _, p := range []impl.Prog{tasksOf(times(5, []impl.Stmt(nil))...), tasksOf([]impl.Stmt{show(num(1))}, []impl.Stmt{{}}), tasksOf(nil, []impl.Stmt{show(named("x"))})} {
		if got := impl.CodeOf(p); len(got) != 0 {
			t.Errorf("%+v: %d", p, len(got))
		}
	}
}

func TestCodesAtTheirBeginning(t *testing.T) {
	for text, want := range map[string]string{
		"prog":                           "[] [] [] at [] [] 0 0",
		"prog task end":                  "[] [] [] at [0] [] 0 0",
		"prog lock m":                    "[] [] [0] at [] [] 0 0",
		"prog chan c 1 0 9 chan d 1 0 9": "[] [[] []] [] at [] [] 0 0",
		"prog var x 0 3 0 9 task 0":      "[[3]] [] [] at [] [] 0 0",
		"prog task while 1 end end":      "[] [] [] at [0] [] 0 0",
		"prog task if 0 else end show 1 end task end task show 2 end":                                                                              "[] [] [] at [0 0 0] [] 0 0",
		"prog var x 2 3 0 9 lock m var y 0 -1 -1 9 task 2 chan c 4 0 9 lock m lock n task show 1 end task end task set y 1 while 1 show y end end": "[[3 3] [-1]] [[]] [0 0] at [0 0 0] [] 0 0",
	} {
		p := progOf(t, text)
		got := impl.CodeOpen(p)
		if codeWord(got) != want {
			t.Errorf("%q: %s", text, codeWord(got))
		}
		checkKept(t, text, func() { impl.CodeOpen(p) }, p)
		checkNew(t, text, got, p)
		checkCodes(t, text+", run by no picks", impl.CodeRun(p, nil), got)
		if !impl.CodeTwin(p, impl.WalkOpen(p), got) {
			t.Errorf("%q: trees and code are not one", text)
		}
	}
	checkNoCode(t, "of nothing", impl.CodeOpen(impl.Prog{}))
	for code, p := range wrongStores(t) {
		checkNoCode(t, fmt.Sprint("opened, wrong by ", code), impl.CodeOpen(p))
		checkNoCode(t, fmt.Sprint("run, wrong by ", code), impl.CodeRun(p, times(9, 0)))
		checkNoCode(t, fmt.Sprint("run by no picks, wrong by ", code), impl.CodeRun(p, nil))
	}
	full := impl.CodeOpen(progOf(t, fullYard("show s")))
	if len(full.Vals) != 6 || len(full.Queues) != 3 || len(full.Holds) != 3 || !slices.Equal(full.Ats, []int{0, 0, 0, 0}) {
		t.Error(codeWord(full))
	}
}

// checkPlainCode holds what the instruction of a statement turns, where it stands alone and ahead of others, and that nothing else is turned.
func checkPlainCode(t *testing.T, me int, c plainCase, behind string) int {
	t.Helper()
	what := fmt.Sprintf("task %d, %q, %q%s", me, c.given, c.stmt, behind)
	p := mill(t, me, c.stmt+behind)
	ahead := turnedCode(t, p, impl.CodeOpen(p), me, c.given)
	want := turnedCode(t, p, impl.CodeOpen(p), me, c.given)
	can := impl.WalkGoes
	switch {
	case c.want == "waits":
		can = impl.WalkWaits
	case strings.HasPrefix(c.want, "fault"):
		want = turnedCode(t, p, want, me, c.want)
	default:
		want = turnedCode(t, p, want, me, c.want)
		want.Ats[me] = 1
	}
	checkCodeCan(t, what, p, ahead, me, can)
	var got impl.Code
	checkKept(t, what, func() { got = impl.CodeStep(p, ahead, me) }, p, ahead)
	checkCodes(t, what, got, want)
	checkNew(t, what, got, p, ahead)
	w := turned(t, p, impl.WalkOpen(p), me, c.given)
	if !impl.CodeTwin(p, w, ahead) || !impl.CodeTwin(p, impl.WalkStep(p, w, me), got) {
		t.Errorf("%s: trees and code are not one", what)
	}
	if got.Fault == impl.CalcFine {
		return impl.CalcFine
	}
	for _, task := range []int{me, 1 - me} {
		checkCodeCan(t, what, p, got, task, impl.WalkEnds)
		checkCodes(t, what+", behind the fault", impl.CodeStep(p, got, task), got)
	}
	return got.Fault
}

func TestStepsOfInstructions(t *testing.T) {
	faults := map[int]int{}
	for _, c := range plainCases() {
		for me := range 2 {
			faults[checkPlainCode(t, me, c, "")]++
			faults[checkPlainCode(t, me, c, " show 9 show x")]++
		}
	}
	for fault := impl.CalcFine; fault < impl.CalcForm; fault++ {
		if faults[fault] == 0 {
			t.Errorf("no statement has the fault %d", fault)
		}
	}
}

// Where a task is, ahead of each of its steps and behind the last one; the x of a mill is 1.
func TestWhereInstructionsLead(t *testing.T) {
	for body, want := range map[string]string{
		"":                                    "0",
		"show 1":                              "0,1",
		"show 1 show 2":                       "0,1,2",
		"if 1 show 1 else show 2 end show 3":  "0,1,4,5",
		"if -1 show 1 else show 2 end show 3": "0,1,4,5",
		"if 0 show 1 else show 2 end show 3":  "0,3,4,5",
		"if 1 else show 2 end show 3":         "0,3,4",
		"if 0 else show 2 end show 3":         "0,2,3,4",
		"if 1 show 1 else end show 3":         "0,1,3,4",
		"if 0 show 1 else end show 3":         "0,3,4",
		"if 1 else end show 3":                "0,2,3",
		"if 0 else end show 3":                "0,2,3",
		"if 1 else end":                       "0,2",
		"if 0 else end":                       "0,2",
		"if 0 show 1 else end":                "0,3",
		"if 1 else show 2 end":                "0,3",
		"if 1 if 1 else end else end show 3":  "0,1,4,5",
		"if 1 if 0 show 1 else end else end":  "0,1,5",
		"if 0 else if 1 else end show 1 end":  "0,2,4,5",
		"if 1 if 1 if 1 if 1 show 1 else end else end else end else end": "0,1,2,3,4,9",
		"while 0 show 1 end show 2":                                      "0,3,4",
		"while 0 end show 2":                                             "0,2,3",
		"while 0 end":                                                    "0,2",
		"while 1 end show 1":                                             "0,0,0,0",
		"show 1 while -1 end":                                            "0,1,1,1",
		"while 1 show 1 end":                                             "0,1,0,1,0",
		"while x set x 0 end":                                            "0,1,0,3",
		"while 1 if 1 show 1 else show 2 end end":                        "0,1,2,0,1,2,0",
		"while 1 if 0 show 1 else show 2 end end":                        "0,1,4,0,1,4,0",
		"while 1 if 1 else end end":                                      "0,1,0,1,0",
		"while 1 if 0 else end end":                                      "0,1,0,1,0",
		"while 1 if 0 show 1 else end end":                               "0,1,0,1,0",
		"while 1 if 1 else show 1 end end":                               "0,1,0,1,0",
		"while 1 show 1 if 1 show 2 else end end":                        "0,1,2,3,0,1",
		"while x if 1 if 1 set x 0 else end else end end show 9":         "0,1,2,3,0,7,8",
		"while 1 while 0 end end":                                        "0,1,0,1,0",
		"while 1 while 1 end end":                                        "0,1,1,1",
		"while x while x set x 0 end end":                                "0,1,2,1,0,5",
		"if 1 while 1 end else end":                                      "0,1,1,1",
		"if 1 while 0 end else show 1 end show 2":                        "0,1,5,6",
		"if 0 else while x set x 0 end end show 2":                       "0,2,3,2,5,6",
	} {
		for me := range 2 {
			checkAts(t, mill(t, me, body), me, body, numsOf(t, want))
		}
	}
}

func checkAts(t *testing.T, p impl.Prog, me int, body string, want []int) {
	t.Helper()
	c, w := impl.CodeOpen(p), impl.WalkOpen(p)
	code := impl.CodeOf(p)[me]
	for i, at := range want {
		what := fmt.Sprintf("task %d, %q, behind %d steps", me, body, i)
		if c.Ats[me] != at || c.Ats[1-me] != 0 || c.Fault != impl.CalcFine {
			t.Fatalf("%s: %s, not at %d", what, codeWord(c), at)
		}
		can := impl.WalkGoes
		switch code[at].Op {
		case impl.FlatEnds:
			can = impl.WalkEnds
		case impl.FlatJumps:
			t.Errorf("%s: at a jump", what)
		}
		checkCodeCan(t, what, p, c, me, can)
		if !impl.CodeTwin(p, w, c) {
			t.Errorf("%s: trees and code are not one", what)
		}
		next := impl.CodeStep(p, c, me)
		checkNew(t, what, next, p, c)
		if can == impl.WalkEnds {
			checkCodes(t, what, next, c)
		}
		c, w = next, impl.WalkStep(p, w, me)
	}
}

// A test turns nothing but where its task is; a fault of its condition turns not even that.
func TestTestsTurnNothingElse(t *testing.T) {
	for cond, c := range map[string]struct{ n, fault int }{
		"1": {1, impl.CalcFine}, "0": {0, impl.CalcFine}, "x": {1, impl.CalcFine}, "less x 1": {0, impl.CalcFine}, "and at a 2 not x": {0, impl.CalcFine}, "sub 1 at a 1": {1, impl.CalcFine},
		"div 1 0": {0, impl.CalcNought}, "mul 9999 9999": {0, impl.CalcGreat}, "at a 3": {0, impl.CalcPlace}, "s": {0, impl.CalcBare}, "at r 9": {0, impl.CalcBare}, "and 0 div 1 0": {0, impl.CalcNought},
	} {
		for form, to := range map[string][2]int{
			"if # show 1 else show 2 end": {3, 1}, "if # else end": {2, 2}, "if # else show 2 end": {2, 3}, "if # show 1 else end": {3, 1}, "while # show 1 end": {3, 1}, "while # end": {2, 0},
		} {
			for me := range 2 {
				p := mill(t, me, strings.Replace(form, "#", cond, 1)+" show 3")
				const words = "x=3 a=1,2,0 s=99 c=4,5 n=me out=6,7"
				ahead, want := turnedCode(t, p, impl.CodeOpen(p), me, words), turnedCode(t, p, impl.CodeOpen(p), me, words)
				what := fmt.Sprintf("task %d, %q of %q", me, form, cond)
				checkCodeCan(t, what, p, ahead, me, impl.WalkGoes)
				var got impl.Code
				checkKept(t, what, func() { got = impl.CodeStep(p, ahead, me) }, p, ahead)
				checkNew(t, what, got, p, ahead)
				if c.fault != impl.CalcFine {
					want.Fault, want.Who = c.fault, me
				} else {
					want.Ats[me] = to[c.n]
				}
				if cond == "x" || cond == "sub 1 at a 1" {
					want.Ats[me] = to[1]
				}
				checkCodes(t, what, got, want)
			}
		}
	}
}

// codeRail is a rail as code: of the first task at the place 4 of 10, of which 5 and 7 are jumps.
func codeRail(t *testing.T) (impl.Prog, impl.Walk, impl.Code) {
	t.Helper()
	p, w := rail(t)
	_, same := rail(t)
	return p, w, codeAt(same, 4, 0)
}

func TestTheRailAsCode(t *testing.T) {
	p, w, c := codeRail(t)
	checkCode(t, "the rail", impl.CodeOf(p)[0], codeOf(t, "does set x 2; tests while x to 8; tests if s to 6; does show x; does show 5; jumps to 6; does show 7; jumps to 1; does show 4; ends"))
	if !impl.CodeTwin(p, w, c) {
		t.Error("trees and code are not one")
	}
}

// wrongCodeTurns are what makes the run of a rail one that is not right.
func wrongCodeTurns() map[string]func(c *impl.Code) {
	turns := map[string]func(c *impl.Code){
		"nothing":                      func(c *impl.Code) { *c = impl.Code{} },
		"no variables":                 func(c *impl.Code) { c.Vals = nil },
		"a variable too few":           func(c *impl.Code) { c.Vals = c.Vals[:3] },
		"a variable too many":          func(c *impl.Code) { c.Vals = append(c.Vals, []int{1}) },
		"an empty one too many":        func(c *impl.Code) { c.Vals = append(c.Vals, nil) },
		"a variable without number":    func(c *impl.Code) { c.Vals[0] = nil },
		"a variable of two numbers":    func(c *impl.Code) { c.Vals[0] = []int{1, 1} },
		"an array too short":           func(c *impl.Code) { c.Vals[1] = c.Vals[1][:2] },
		"an array too long":            func(c *impl.Code) { c.Vals[3] = append(c.Vals[3], 1) },
		"a variable too great":         func(c *impl.Code) { c.Vals[0][0] = most + 1 },
		"a variable by far too great":  func(c *impl.Code) { c.Vals[2][0] = math.MaxInt },
		"an array too far below":       func(c *impl.Code) { c.Vals[3][1] = -most - 1 },
		"no channels":                  func(c *impl.Code) { c.Queues = nil },
		"a channel too few":            func(c *impl.Code) { c.Queues = c.Queues[:1] },
		"a channel too many":           func(c *impl.Code) { c.Queues = append(c.Queues, nil) },
		"a number too great":           func(c *impl.Code) { c.Queues[0][0] = most + 1 },
		"the last too great":           func(c *impl.Code) { c.Queues[0] = append(c.Queues[0], 1, 2, 3, most+1) },
		"a number too far below":       func(c *impl.Code) { c.Queues[1][0] = -most - 1 },
		"by far too far below":         func(c *impl.Code) { c.Queues[1][0] = math.MinInt },
		"no locks":                     func(c *impl.Code) { c.Holds = nil },
		"a lock too few":               func(c *impl.Code) { c.Holds = c.Holds[:1] },
		"a lock too many":              func(c *impl.Code) { c.Holds = append(c.Holds, 0) },
		"no places":                    func(c *impl.Code) { c.Ats = nil },
		"a place too few":              func(c *impl.Code) { c.Ats = c.Ats[:1] },
		"a place too many":             func(c *impl.Code) { c.Ats = append(c.Ats, 0) },
		"places exchanged":             func(c *impl.Code) { c.Ats[0], c.Ats[1] = c.Ats[1], c.Ats[0] },
		"of the other, ahead of all":   func(c *impl.Code) { c.Ats[1] = -1 },
		"of the other, behind the end": func(c *impl.Code) { c.Ats[1] = 2 },
		"both behind the end":          func(c *impl.Code) { c.Ats[0], c.Ats[1] = 10, 2 },
	}
	for _, at := range []int{math.MinInt, -1 << 32, -10, -2, -1, 5, 7, 10, 11, 1 << 32, 1<<32 + 4, math.MaxInt} {
		turns[fmt.Sprint("at ", at)] = func(c *impl.Code) { c.Ats[0] = at }
	}
	return turns
}

func checkCodeNotRight(t *testing.T, what string, p impl.Prog, w impl.Walk, c impl.Code) {
	t.Helper()
	for _, task := range []int{math.MinInt, -1, 0, 1, 2, math.MaxInt} {
		checkCodeCan(t, what, p, c, task, impl.WalkEnds)
		checkKept(t, what, func() { checkNoCode(t, what, impl.CodeStep(p, c, task)) }, p, c)
	}
	checkKept(t, what, func() {
		if impl.CodeTwin(p, w, c) {
			t.Errorf("%s: trees and code are one", what)
		}
	}, p, w, c)
}

func TestCodesThatAreNotRight(t *testing.T) {
	for what, turn := range wrongCodeTurns() {
		for _, fault := range []int{impl.CalcFine, impl.CalcPlace} {
			p, w, c := codeRail(t)
			w.Fault, c.Fault = fault, fault
			turn(&c)
			checkCodeNotRight(t, what, p, w, c)
			// What both share is as wrong in the other.
			w.Vals, w.Queues, w.Holds, w.Out = c.Vals, c.Queues, c.Holds, c.Out
			checkCodeNotRight(t, what+", in both", p, w, c)
		}
	}
	for code, p := range wrongStores(t) {
		checkCodeNotRight(t, fmt.Sprint("wrong by ", code), p, impl.Walk{}, impl.Code{})
		w := impl.Walk{Vals: storeVals(), Holds: times(2, 0), Tasks: make([][]impl.Frame, len(p.Tasks))}
		checkCodeNotRight(t, fmt.Sprint("wrong by ", code, ", at its beginning"), p, w, codeAt(w, times(len(p.Tasks), 0)...))
	}
	// A run that is right for one program is not so for others.
	for what, turn := range map[string]func(p *impl.Prog){
		"another task names what it may not": func(p *impl.Prog) { p.Tasks[1] = []impl.Stmt{show(named("x"))} },
		"a variable of another task":         func(p *impl.Prog) { p.Vars[0].Task = 1 },
		"another lock":                       func(p *impl.Prog) { p.Locks = append(p.Locks, "o") },
		"another task":                       func(p *impl.Prog) { p.Tasks = append(p.Tasks, nil) },
		"shorter code":                       func(p *impl.Prog) { p.Tasks[0] = p.Tasks[0][:1] },
		"code with a jump there":             func(p *impl.Prog) { p.Tasks[0] = []impl.Stmt{loop(num(1), times(3, show(num(5)))...)} },
		"no tasks":                           func(p *impl.Prog) { p.Tasks = nil },
	} {
		p, w, c := codeRail(t)
		turn(&p)
		checkCodeNotRight(t, what, p, w, c)
	}
}

// Each place of the code is one where a task can be, but those of jumps; whether it can come there is not asked.
func TestAllPlacesOfATask(t *testing.T) {
	for at, next := range map[int]int{0: 1, 1: 2, 2: 3, 3: 4, 4: 6, 6: 1, 8: 9, 9: 9} {
		for other, otherNext := range map[int]int{0: 1, 1: 1} {
			p, _, c := codeRail(t)
			c.Ats = []int{at, other}
			for task, want := range [][]int{{next, other}, {at, otherNext}} {
				what := fmt.Sprintf("at %d, the task %d", c.Ats, task)
				can := impl.WalkGoes
				if slices.Equal(want, c.Ats) {
					can = impl.WalkEnds
				}
				checkCodeCan(t, what, p, c, task, can)
				if got := impl.CodeStep(p, c, task); !slices.Equal(got.Ats, want) || got.Fault != impl.CalcFine {
					t.Errorf("%s: %s", what, codeWord(got))
				}
			}
		}
	}
}

// What is not asked of a run does not make it wrong.
func TestCodesThatAreOddButRight(t *testing.T) {
	for what, turn := range map[string]func(c *impl.Code){
		"as it is":                func(*impl.Code) {},
		"outside ranges":          func(c *impl.Code) { c.Vals = [][]int{{most}, {-1, 10, most}, {-most}, {99, 99}} },
		"more than a capacity":    func(c *impl.Code) { c.Queues = [][]int{times(50, 1), {1, 2}} },
		"outside a channel":       func(c *impl.Code) { c.Queues = [][]int{{most, -most}, {most}} },
		"held by nobody":          func(c *impl.Code) { c.Holds = []int{99, -7} },
		"held by nobody at all":   func(c *impl.Code) { c.Holds = []int{math.MaxInt, math.MinInt} },
		"shown too great numbers": func(c *impl.Code) { c.Out = []int{most + 1, math.MinInt, math.MaxInt} },
		"whose, without a fault":  func(c *impl.Code) { c.Who = 77 },
		"whose, below 0":          func(c *impl.Code) { c.Who = -1 },
		"the other one is done":   func(c *impl.Code) { c.Ats[1] = 1 },
		"room behind":             roomBehindCode,
	} {
		p, w, c := codeRail(t)
		turn(&c)
		w = impl.Walk{Vals: c.Vals, Queues: c.Queues, Holds: c.Holds, Tasks: w.Tasks, Out: c.Out, Fault: c.Fault, Who: c.Who}
		if c.Ats[1] == 1 {
			w.Tasks[1] = nil
		}
		if !impl.CodeTwin(p, w, c) {
			t.Errorf("%s: trees and code are not one", what)
		}
		checkCodeCan(t, what, p, c, 0, impl.WalkGoes)
		var got impl.Code
		checkKept(t, what, func() { got = impl.CodeStep(p, c, 0) }, p, c)
		checkNew(t, what, got, p, c)
		want := c
		want.Out = append(slices.Clone(c.Out), 5)
		want.Ats = []int{6, c.Ats[1]}
		checkCodes(t, what, got, want)
	}
}

// roomBehindCode lays what would be wrong behind the ends of all lists of a run.
func roomBehindCode(c *impl.Code) {
	w := treesOf(*c)
	roomBehind(&w)
	*c = codeAt(w, append(c.Ats, -1, 5)[:len(c.Ats)]...)
}

// A lock is held by another one, whoever that is; what nobody's number stands for is nobody of the tasks.
func TestCodeWithLocksOfOthers(t *testing.T) {
	for _, mark := range []int{math.MinInt, -3, -1, 2, 3, 99, math.MaxInt} {
		p := mill(t, 0, "lock m set s 3 unlock m")
		c := impl.CodeOpen(p)
		c.Holds[0] = mark
		what := fmt.Sprint("held by ", mark)
		checkCodeCan(t, what, p, c, 0, impl.WalkWaits)
		checkCodes(t, what, impl.CodeStep(p, c, 0), c)
		for at, fault := range map[int]int{1: impl.CalcBare, 2: impl.CalcFree} {
			c.Ats[0] = at
			checkCodeCan(t, what, p, c, 0, impl.WalkGoes)
			if got := impl.CodeStep(p, c, 0); got.Fault != fault || got.Holds[0] != mark || got.Ats[0] != at {
				t.Errorf("%s: %s", what, codeWord(got))
			}
		}
	}
}

func TestWhoDoesNothingOverCode(t *testing.T) {
	same := func(what string, p impl.Prog, c impl.Code, task, can int) {
		t.Helper()
		checkCodeCan(t, what, p, c, task, can)
		var got impl.Code
		checkKept(t, what, func() { got = impl.CodeStep(p, c, task) }, p, c)
		checkCodes(t, what, got, c)
		checkNew(t, what, got, p, c)
	}
	for _, task := range []int{math.MinInt, -2, -1, 2, 3, 1 << 32, 1 << 40, math.MaxInt} {
		p, _, c := codeRail(t)
		same("no such task", p, c, task, impl.WalkEnds)
		c.Fault = 1
		same("no such task, and a fault", p, c, task, impl.WalkEnds)
		same("no task at all", progOf(t, "prog"), impl.Code{}, task, impl.WalkEnds)
	}
	same("no task at all", impl.Prog{}, impl.Code{}, 0, impl.WalkEnds)
	for _, fault := range []int{math.MinInt, -1, 1, 2, 3, 4, 5, 6, 7, 8, 9, 10, 99, math.MaxInt} {
		for task := range 2 {
			p, _, c := codeRail(t)
			c.Fault, c.Who = fault, 1
			same(fmt.Sprint("the fault ", fault), p, c, task, impl.WalkEnds)
		}
	}
	p, _, c := codeRail(t)
	c.Ats = []int{9, 1}
	same("done", p, c, 0, impl.WalkEnds)
	same("done, the other one", p, c, 1, impl.WalkEnds)
	same("done from the beginning", mill(t, 0, ""), impl.CodeOpen(mill(t, 0, "")), 0, impl.WalkEnds)
	for _, body := range []string{"recv c x", "while 1 recv d x end", "if 1 recv c x else end"} {
		// Who waits ahead of a fault that is there already is at an end.
		p = mill(t, 0, body)
		c = impl.CodeOpen(p)
		for body != "recv c x" && c.Ats[0] == 0 {
			c = impl.CodeStep(p, c, 0)
		}
		same("waits", p, c, 0, impl.WalkWaits)
		c.Fault = 5
		same("waits no longer", p, c, 0, impl.WalkEnds)
	}
}

func TestWhoIsPickedOverCode(t *testing.T) {
	for _, c := range []struct {
		text  string
		picks []int
		want  []int
	}{
		{relay, nil, nil}, {relay, []int{0}, []int{10}}, {relay, []int{1}, []int{20}}, {relay, []int{2}, []int{30}}, {relay, []int{3}, []int{10}}, {relay, []int{5}, []int{30}},
		{relay, []int{-1}, []int{30}}, {relay, []int{-2}, []int{20}}, {relay, []int{-3}, []int{10}}, {relay, []int{-4}, []int{30}}, {relay, []int{-6}, []int{10}},
		{relay, times(9, 0), []int{10, 11, 20, 21, 30}}, {relay, times(9, -1), []int{30, 20, 21, 10, 11}},
		{relay, []int{2, 2, 3, -1, 0}, []int{30, 10, 20, 21, 11}},
		// Who waits is not counted, and neither is who is done.
		{"prog chan c 1 0 9 var x 0 0 0 9 task 0 task recv c x show x end task show 20 send c 5 show 21 end", []int{7, -3, 0, 2, 1}, []int{20, 5, 21}},
		{"prog lock m task lock m show 10 unlock m end task lock m show 20 unlock m end task end", []int{1, 1, 0, 5, 0, 0}, []int{20, 10}},
		{"prog task end task end task show 30 show 31 end", []int{2, 1}, []int{30, 31}},
		{"prog task if 1 else end show 10 end task while 0 end show 20 end", []int{0, 1, 1, 0}, []int{20, 10}},
	} {
		p := progOf(t, c.text)
		got := impl.CodeRun(p, c.picks)
		if !slices.Equal(got.Out, c.want) || got.Fault != impl.CalcFine || got.Who != 0 {
			t.Errorf("%q by %d: %s, not %v", c.text, c.picks, codeWord(got), c.want)
		}
	}
	texts := []string{"prog task show 0 end", "prog task show 0 end task show 1 end", "prog task show 0 end task show 1 end task show 2 end", "prog task show 0 end task show 1 end task show 2 end task show 3 end"}
	for i, text := range texts {
		p, many := progOf(t, text), int64(i+1)
		for _, pick := range []int{0, 1, 2, 3, 4, 5, 100, 101, 102, 103, -1, -2, -3, -4, -5, -100, -101, -102, -103, 1 << 31, -1 << 31, 1<<32 + 1, math.MaxInt, math.MaxInt - 1, math.MinInt, math.MinInt + 1, math.MinInt + 2} {
			left := new(big.Int).Mod(big.NewInt(int64(pick)), big.NewInt(many))
			if got := impl.CodeRun(p, []int{pick}); len(got.Out) != 1 || int64(got.Out[0]) != left.Int64() {
				t.Errorf("the pick %d of %d: %v", pick, many, got.Out)
			}
		}
	}
}

func TestHowManyPicksAreTakenOverCode(t *testing.T) {
	const text = "prog var x 0 0 0 9 task 0 task while 1 set x add x 1 end end"
	p := progOf(t, text)
	for picks, want := range map[int]int{0: 0, 1: 0, 2: 1, 1998: 999, 1999: 999, impl.WalkMax: 1000} {
		got := impl.CodeRun(p, times(picks, 0))
		if len(got.Vals) != 1 || got.Vals[0][0] != want || !slices.Equal(got.Ats, []int{picks % 2}) {
			t.Errorf("%d picks: %s", picks, codeWord(got))
		}
	}
	// One pick more is refused, however soon nobody could go.
	for _, text := range []string{text, "prog", "prog task end", "prog task show 1 end", "prog task assert 0 end", "prog task while 1 end end", "prog lock m task lock m lock m end"} {
		p := progOf(t, text)
		for _, many := range []int{impl.WalkMax + 1, impl.WalkMax + 2, 5000, 100000} {
			checkNoCode(t, fmt.Sprintf("%q, %d picks", text, many), impl.CodeRun(p, times(many, 0)))
		}
		got := impl.CodeRun(p, times(impl.WalkMax, 0))
		if len(got.Ats) != len(p.Tasks) || len(got.Holds) != len(p.Locks) {
			t.Errorf("%q, as many picks as may be: %s", text, codeWord(got))
		}
		if !impl.CodeTwin(p, impl.WalkRun(p, times(impl.WalkMax, 0)), got) {
			t.Errorf("%q: trees and code are not one", text)
		}
	}
}

// What stands behind an end, a fault, or where all wait, is as if it were not picked.
func TestCodesEnd(t *testing.T) {
	for text, steps := range map[string]int{
		"prog":                   0,
		"prog task end task end": 0,
		relay:                    5,
		"prog task show 1 assert 0 show 2 end task show 3 end":                                          2,
		"prog lock m task lock m lock m end task show 1 show 2 end":                                     2,
		"prog var x 0 0 0 9 task 0 chan c 1 0 9 task recv c x end":                                      0,
		"prog chan c 2 0 9 task send c 1 send c 2 send c 3 show 4 end":                                  2,
		"prog lock m lock n task lock m lock n end task lock n lock m end":                              2,
		"prog lock m task lock m end task lock m show 1 end":                                            1,
		"prog var x 0 0 0 9 task 0 task while less x 3 set x add x 1 end show div 1 sub x 3 show 2 end": 8,
		"prog task if 0 else end while 0 end if 1 show 1 else show 2 end end":                           4,
	} {
		p := progOf(t, text)
		whole := impl.CodeRun(p, times(steps, 0))
		for _, pick := range []int{0, 1, -1, 5} {
			for _, more := range []int{1, 2, 50} {
				checkCodes(t, text, impl.CodeRun(p, append(times(steps, 0), times(more, pick)...)), whole)
			}
		}
		if goers := codeGoersOf(p, whole); len(goers) > 0 {
			t.Errorf("%q: %d still can go", text, goers)
		}
		if steps > 0 && len(codeGoersOf(p, impl.CodeRun(p, times(steps-1, 0)))) == 0 {
			t.Errorf("%q: ends too soon", text)
		}
	}
	// Two that take two locks in each other's order wait for ever, or not.
	p := progOf(t, "prog lock m lock n task lock m lock n unlock n unlock m end task lock n lock m unlock m unlock n end")
	stuck := impl.CodeRun(p, []int{0, 1, 0, 0, 0, 0, 0, 0, 0, 0})
	checkCodes(t, "both wait", stuck, impl.Code{Holds: []int{1, 2}, Ats: []int{1, 1}})
	for task := range 2 {
		checkCodeCan(t, "both wait", p, stuck, task, impl.WalkWaits)
	}
	checkCodes(t, "one behind the other", impl.CodeRun(p, times(8, 0)), impl.Code{Holds: []int{0, 0}, Ats: []int{4, 4}})
}

func codeGoersOf(p impl.Prog, c impl.Code) []int {
	var can []int
	for task := range p.Tasks {
		if impl.CodeCan(p, c, task) == impl.WalkGoes {
			can = append(can, task)
		}
	}
	return can
}

// toldCode is a run over code told apart from the program's own: what tasks still have to do is told as statements, and where in their code they are as places.
type toldCode struct {
	*toldRun
	codes [][]impl.Instr
	ats   []int
}

func openToldCode(p impl.Prog) *toldCode {
	r := &toldCode{toldRun: openTold(p), ats: times(len(p.Tasks), 0)}
	for _, list := range p.Tasks {
		r.codes = append(r.codes, append(flatTold(list, 0), ends()))
	}
	return r
}

func (r *toldCode) step(p impl.Prog, task int) {
	i := r.codes[task][r.ats[task]]
	next := r.ats[task] + 1
	if i.Op == impl.FlatTests {
		if n, _, _ := runTold(p, r.vals, r.heldTold(task), strings.Fields(impl.TextExpr(i.S.E))); n == 0 {
			next = i.To
		}
	}
	r.toldRun.step(p, task)
	if r.fault == impl.CalcFine {
		r.ats[task] = landTold(r.codes[task], next)
	}
}

// checkToldCode holds that a run over code is as it is told apart, and that each task has the statement ahead that it still has to do first.
func checkToldCode(t *testing.T, what string, p impl.Prog, c impl.Code, r *toldCode) {
	t.Helper()
	w := treesOf(c)
	for _, rest := range r.rest {
		w.Tasks = append(w.Tasks, []impl.Frame{{Body: rest}})
	}
	checkTold(t, what, p, w, r.toldRun)
	if !slices.Equal(c.Ats, r.ats) {
		t.Fatalf("%s: %s, not at %d", what, codeWord(c), r.ats)
	}
	for task, rest := range r.rest {
		i := r.codes[task][c.Ats[task]]
		done := i.Op == impl.FlatEnds
		if done != (len(rest) == 0) || i.Op == impl.FlatJumps || !done && !sameInstr(does(i.S), does(impl.Stmt{Kind: rest[0].Kind, Name: rest[0].Name, E: rest[0].E, F: rest[0].F})) {
			t.Fatalf("%s: the task %d at %d: %+v", what, task, c.Ats[task], i)
		}
	}
}

// checkOne holds that a run over trees and one over code are one: they have the same, CodeTwin says so, and who goes, waits or ends in the one does so in the other.
func checkOne(t *testing.T, what string, p impl.Prog, w impl.Walk, c impl.Code) {
	t.Helper()
	w2 := treesOf(c)
	w2.Tasks = w.Tasks
	checkRuns(t, what, w2, w)
	if !impl.CodeTwin(p, w, c) {
		t.Errorf("%s: %s%s: trees and code are not one", what, runWord(w), codeWord(c))
	}
	for task := -1; task <= len(p.Tasks); task++ {
		checkCodeCan(t, what, p, c, task, impl.WalkCan(p, w, task))
	}
}

// Promise 8, behind the same picks.
func TestTreesAndCodeAreOneBehindPicks(t *testing.T) {
	c := &choices{seed: 8}
	count := map[int]int{}
	for range 2000 {
		p := c.fieldProg(t)
		r := openToldCode(p)
		var picks []int
		for range c.below(60) {
			pick := c.below(24) - 12
			picks = append(picks, pick)
			if can := r.goers(p); len(can) > 0 {
				left := new(big.Int).Mod(big.NewInt(int64(pick)), big.NewInt(int64(len(can))))
				r.step(p, can[left.Int64()])
			}
		}
		what := fmt.Sprintf("%s by %d", impl.TextOf(p), picks)
		got := impl.CodeRun(p, picks)
		checkToldCode(t, what, p, got, r)
		checkOne(t, what, p, impl.WalkRun(p, picks), got)
		count[endOf(p, r.toldRun)]++
		if t.Failed() {
			break
		}
	}
	checkEnds(t, count, 12)
}

// Promise 8, step by step, with all that a step may not turn.
func TestTreesAndCodeAreOneStepByStep(t *testing.T) {
	c := &choices{seed: 83}
	count, ops := map[int]int{}, map[int]int{}
	waited := 0
	for range 150 {
		p := c.fieldProg(t)
		w, code, r := impl.WalkOpen(p), impl.CodeOpen(p), openToldCode(p)
		for range 40 {
			task := c.below(4) - c.below(10)/9
			can := r.can(p, task)
			what := impl.TextOf(p) + codeWord(code) + fmt.Sprint(", the task ", task)
			checkCodeCan(t, what, p, code, task, can)
			checkOne(t, what, p, w, code)
			next := impl.CodeStep(p, code, task)
			if can == impl.WalkGoes {
				ops[r.codes[task][r.ats[task]].Op]++
				r.step(p, task)
			} else {
				checkCodes(t, what, next, code)
				waited += can / impl.WalkWaits
			}
			checkToldCode(t, what, p, next, r)
			checkOtherPlaces(t, what, p, code, next, task)
			w, code = impl.WalkStep(p, w, task), next
			if t.Failed() || code.Fault != impl.CalcFine {
				break
			}
		}
		checkOne(t, "at the end", p, w, code)
		count[endOf(p, r.toldRun)]++
	}
	checkEnds(t, count, 3)
	if waited < 300 || ops[impl.FlatTests] < 100 || ops[impl.FlatDoes] < 500 {
		t.Errorf("only %d that wait, and by kinds %v", waited, ops)
	}
}

// checkOtherPlaces holds that a step of a task leaves all others where they are, that by a fault it leaves all else, and nobody goes then.
func checkOtherPlaces(t *testing.T, what string, p impl.Prog, c, next impl.Code, task int) {
	t.Helper()
	for other := range p.Tasks {
		if other != task && next.Ats[other] != c.Ats[other] {
			t.Errorf("%s: the task %d is elsewhere: %s", what, other, codeWord(next))
		}
	}
	if next.Fault == impl.CalcFine {
		return
	}
	c.Fault, c.Who = next.Fault, task
	checkCodes(t, what, next, c)
	for other := range p.Tasks {
		checkCodeCan(t, what, p, next, other, impl.WalkEnds)
		checkCodes(t, what, impl.CodeStep(p, next, other), next)
	}
}

// All lists of three of these statements, run to their end by one task, over trees and over code.
func TestAllShortCodes(t *testing.T) {
	stmts := []string{
		"set x add x 2", "set s x", "put a sub x 1 x", "if less x 2 set x 3 else end", "if x else end", "if not x set x 1 else end", "while less x 4 set x add x 1 end", "lock m", "unlock m", "send c add x 3", "recv c x", "assert less x 3", "show x", "show div 6 sub x 3",
		"if s else if x show 1 else show 2 end end", "while x if less x 2 set x 0 else set x sub x 1 end end", "while less 1 x end", "while x if x set x sub x 1 else end end",
	}
	count := map[int]int{}
	for _, first := range stmts {
		for _, second := range stmts {
			for _, third := range stmts {
				p := progOf(t, field+"task "+first+" "+second+" "+third+" end task end task end")
				r := openToldCode(p)
				for range 30 {
					if r.can(p, 0) == impl.WalkGoes {
						r.step(p, 0)
					}
				}
				got := impl.CodeRun(p, times(30, 0))
				checkToldCode(t, impl.TextOf(p), p, got, r)
				if !impl.CodeTwin(p, impl.WalkRun(p, times(30, 0)), got) {
					t.Errorf("%s: trees and code are not one", impl.TextOf(p))
				}
				count[endOf(p, r.toldRun)]++
			}
		}
	}
	checkEnds(t, count, 10)
}

// All orders of two tasks, step by step: of two that always end, two that may wait for ever, and two that may have a fault.
func TestAllOrdersOverTreesAndCode(t *testing.T) {
	const vars = "prog var x 0 1 0 9 task 0 var y 0 0 0 9 task 1 var s 0 0 0 9 lock m lock m lock n chan c 1 0 9 "
	for tasks, want := range map[string][]int{
		"task lock m if x set s add s x else end unlock m while x send c x set x 0 end end task recv c y lock m if s else set s 9 end show div s y unlock m end": {allDone},
		"task lock m lock n if s else end unlock n unlock m end task lock n while y end lock m unlock m unlock n end":                                            {allDone, forEver},
		"task lock m set s 3 unlock m send c 0 end task lock m if less s 3 while 0 end else show div 1 y end unlock m recv c y end":                              {impl.CalcNought, allDone},
	} {
		p := progOf(t, vars+tasks)
		seen := map[int]int{}
		checkOrders(t, p, impl.WalkOpen(p), impl.CodeOpen(p), nil, seen)
		if got := slices.Sorted(maps.Keys(seen)); !slices.Equal(got, want) {
			t.Errorf("%q: ends by %d, not %d", tasks, got, want)
		}
	}
}

// checkOrders holds that trees and code are one behind these picks, and behind all that may come behind these, and counts by what all of them end.
func checkOrders(t *testing.T, p impl.Prog, w impl.Walk, c impl.Code, picks []int, seen map[int]int) {
	t.Helper()
	what := fmt.Sprint(picks)
	checkOne(t, what, p, w, c)
	checkCodes(t, what, impl.CodeRun(p, picks), c)
	if t.Failed() {
		t.FailNow()
	}
	goers := codeGoersOf(p, c)
	for pick, task := range goers {
		checkOrders(t, p, impl.WalkStep(p, w, task), impl.CodeStep(p, c, task), append(slices.Clone(picks), pick), seen)
	}
	if len(goers) == 0 {
		seen[codeEndOf(p, c)]++
	}
}

// codeEndOf is by what a run ends in which no task can go.
func codeEndOf(p impl.Prog, c impl.Code) int {
	if c.Fault != impl.CalcFine {
		return c.Fault
	}
	for task := range p.Tasks {
		if impl.CodeCan(p, c, task) == impl.WalkWaits {
			return forEver
		}
	}
	return allDone
}

// The example of the document: what its script says of runs.
func TestTheExampleAsCode(t *testing.T) {
	p := progOf(t, `prog
var x 0 0 0 9 task 0
var s 0 1 1 9 lock m
var a 3 0 0 5 task 1
var i 0 0 0 9 task 1
chan c 2 0 2
lock m
task
while less x 3
send c x
set x add x 1
end
lock m
set s add s x
if less 9 s
set s 9
else
end
unlock m
end
task
recv c i
put a i 5
assert less at a i 6
lock m
show div 9 s
unlock m
end
`)
	if got := codeWord(impl.CodeRun(p, times(22, 0))); got != "[[3] [4] [5 0 0] [0]] [[1 2]] [0] at [10 6] [2] 0 0" {
		t.Error(got)
	}
	if got := codeWord(impl.CodeRun(p, times(3, 0))); got != "[[1] [1] [0 0 0] [0]] [[0]] [0] at [0 0] [] 0 0" {
		t.Error(got)
	}
}

// partTurns turn one part alone of what the tasks of the run of a rail share.
func partTurns() map[string]func(c *impl.Code) {
	turns := map[string]func(c *impl.Code){
		"a queue is longer":        func(c *impl.Code) { c.Queues[0] = append(c.Queues[0], 1) },
		"a queue is shorter":       func(c *impl.Code) { c.Queues[0] = c.Queues[0][:1] },
		"a queue is empty":         func(c *impl.Code) { c.Queues[1] = nil },
		"a queue is turned round":  func(c *impl.Code) { slices.Reverse(c.Queues[0]) },
		"queues are exchanged":     func(c *impl.Code) { slices.Reverse(c.Queues) },
		"a lock is taken":          func(c *impl.Code) { c.Holds[1] = 1 },
		"a lock is given back":     func(c *impl.Code) { c.Holds[0] = 0 },
		"a lock is another one's":  func(c *impl.Code) { c.Holds[0] = 2 },
		"a lock is held by nobody": func(c *impl.Code) { c.Holds[1] = -5 },
		"locks are exchanged":      func(c *impl.Code) { slices.Reverse(c.Holds) },
		"less was shown":           func(c *impl.Code) { c.Out = c.Out[:1] },
		"more was shown":           func(c *impl.Code) { c.Out = append(c.Out, 0) },
		"nothing was shown":        func(c *impl.Code) { c.Out = nil },
		"shown in another order":   func(c *impl.Code) { slices.Reverse(c.Out) },
		"a fault":                  func(c *impl.Code) { c.Fault = 1 },
		"a fault that is none":     func(c *impl.Code) { c.Fault = -1 },
		"whose":                    func(c *impl.Code) { c.Who = 1 },
		"whose, below 0":           func(c *impl.Code) { c.Who = -1 },
	}
	for v, numbers := range []int{1, 3, 1, 2} {
		for at := range numbers {
			turns[fmt.Sprint("the variable ", v, " at ", at)] = func(c *impl.Code) { c.Vals[v][at]++ }
		}
	}
	for q, numbers := range []int{2, 1} {
		for at := range numbers {
			turns[fmt.Sprint("the queue ", q, " at ", at)] = func(c *impl.Code) { c.Queues[q][at]-- }
		}
	}
	return turns
}

func TestTwinsHaveTheSame(t *testing.T) {
	twin := func(what string, p impl.Prog, w impl.Walk, c impl.Code, want bool) {
		t.Helper()
		checkKept(t, what, func() {
			if impl.CodeTwin(p, w, c) != want {
				t.Errorf("%s: trees and code are one: %v", what, !want)
			}
		}, p, w, c)
	}
	turns := partTurns()
	for what, turn := range turns {
		p, w, c := codeRail(t)
		turn(&c)
		twin(what+", of code", p, w, c, false)
		_, same, _ := codeRail(t)
		same.Vals, same.Queues, same.Holds, same.Out, same.Fault, same.Who = c.Vals, c.Queues, c.Holds, c.Out, c.Fault, c.Who
		twin(what+", of both", p, same, c, true)
		_, _, c = codeRail(t)
		twin(what+", of trees", p, same, c, false)
	}
	for what, turn := range wrongTurns() {
		p, w, c := codeRail(t)
		turn(&w)
		twin("trees that are not right: "+what, p, w, c, false)
		// What both share is as wrong in the other.
		twin("both are not right: "+what, p, w, codeAt(w, 4, 0), false)
	}
	// At any other place the statement is another one.
	for at := range 10 {
		p, w, c := codeRail(t)
		c.Ats[0] = at
		twin(fmt.Sprint("at ", at), p, w, c, at == 4)
		_, _, c = codeRail(t)
		c.Ats[1] = 1
		twin("the other one is done in code", p, w, c, false)
		w.Tasks[1] = nil
		twin("the other one is done in both", p, w, c, true)
		c.Ats[1] = 0
		twin("the other one is done in trees", p, w, c, false)
		c.Ats[0], w.Tasks[0] = at, nil
		c.Ats[1] = 1
		twin(fmt.Sprint("done in trees, and at ", at), p, w, c, at == 9)
	}
	// Nothing is right, where there is nothing, and nothing is wrong.
	twin("nothing", impl.Prog{}, impl.Walk{}, impl.Code{}, true)
	twin("nothing but tasks", tasksOf(nil, nil), impl.Walk{Tasks: make([][]impl.Frame, 2)}, impl.Code{Ats: []int{0, 0}}, true)
	for code, p := range wrongStores(t) {
		twin(fmt.Sprint("wrong by ", code), p, impl.WalkOpen(p), impl.CodeOpen(p), false)
		twin(fmt.Sprint("run, wrong by ", code), p, impl.WalkRun(p, times(3, 0)), impl.CodeRun(p, times(3, 0)), false)
	}
	// An empty list is as good as none.
	p := mill(t, 0, "")
	twin("empty lists", p, impl.Walk{Vals: impl.CalcOpen(p), Queues: [][]int{{}, nil}, Holds: []int{0, 0}, Tasks: [][]impl.Frame{{}, {{Body: p.Tasks[1]}}}, Out: []int{}}, impl.Code{Vals: impl.CalcOpen(p), Queues: [][]int{nil, {}}, Holds: []int{0, 0}, Ats: []int{0, 0}}, true)
}

// Of a task that is not done the statement alone is asked, as far as it is bare, and not where it stands.
func TestTwinsHaveOneStatementAhead(t *testing.T) {
	body := []string{
		"show x", "show 1", "assert x", "assert 1", "set x 1", "set x x", "lock m", "lock n", "unlock m", "unlock n", "send c 1", "send d 1", "send c x", "recv c x", "recv d x", "put a 0 1", "put a 0 2", "put a 1 1", "put a at a 0 1",
		"if x else end", "if x show 1 else end", "if x else show 1 end", "if not x else end", "while x end", "while x show 1 end", "while not x end", "show x", "show at a 1", "show at a 2", "show add x 1", "show add 1 x", "show sub x 1", "show add x add x 1",
	}
	var list []impl.Stmt
	p := mill(t, 0, strings.Join(body, " "))
	list, p.Tasks[1] = p.Tasks[0], nil
	if len(list) != len(body) {
		t.Fatal(len(list))
	}
	var words []string
	for _, text := range body {
		bare := strings.ReplaceAll(strings.ReplaceAll(text, " show 1", ""), " else", "")
		words = append(words, bare)
	}
	ones := 0
	for i := range list {
		place := len(flatTold(list[:i], 0))
		c := impl.CodeOpen(p)
		c.Ats[0] = place
		for j := range list {
			want := words[i] == words[j]
			w := impl.WalkOpen(p)
			w.Tasks[0] = []impl.Frame{{Body: list, At: j}}
			what := fmt.Sprintf("%q in code, %q in trees", body[i], body[j])
			if impl.CodeTwin(p, w, c) != want {
				t.Errorf("%s: one: %v", what, !want)
			}
			// The last frame is asked, and no other.
			w.Tasks[0] = []impl.Frame{{Body: list, At: i}, {Body: list[j:], At: 0}}
			if impl.CodeTwin(p, w, c) != want {
				t.Errorf("%s, in the last frame: one: %v", what, !want)
			}
			w.Tasks[0] = []impl.Frame{{Body: list, At: j}, {Body: list[:i+1], At: i}}
			if !impl.CodeTwin(p, w, c) {
				t.Errorf("%s, in the first frame: not one", what)
			}
			if want {
				ones++
			}
		}
	}
	// Beside each with itself: two that are the same, three branches, and two loops.
	if ones != len(list)+2+6+2 {
		t.Error(ones)
	}
}

// A step hangs on the run alone: where it is done twice, it is the same, and what came of the first is not turned by the second.
func TestStepsOfCodeAreOnTheirOwn(t *testing.T) {
	p, _, c := codeRail(t)
	first := impl.CodeStep(p, c, 0)
	ahead := allOf(first)
	second := impl.CodeStep(p, c, 0)
	checkCodes(t, "twice", second, first)
	checkNew(t, "twice", second, first, c, p)
	for i := range second.Vals {
		second.Vals[i][0] = 77
		second.Vals[i] = append(second.Vals[i], 1, 2, 3)
	}
	second.Queues[0] = append(second.Queues[0][:0], 9, 9, 9, 9)
	second.Holds[0], second.Out[0], second.Ats[0] = 9, 9, 9
	if allOf(first) != ahead {
		t.Error("what is done to an answer is seen in another one")
	}
	checkCodes(t, "once more", impl.CodeStep(p, c, 0), first)
	codes := impl.CodeOf(p)
	codes[0][0], codes[0][1].To = ends(), 0
	checkCodes(t, "once more, behind other code", impl.CodeStep(p, c, 0), first)
}

func TestCodesAreKept(t *testing.T) {
	for i := range 8 {
		p, w, c := codeRail(t)
		for range i / 2 {
			c, w = impl.CodeStep(p, c, 0), impl.WalkStep(p, w, 0)
		}
		if i%2 == 1 {
			roomBehind(&w)
			roomBehindCode(&c)
			p.Tasks[0] = append(p.Tasks[0], impl.Stmt{Kind: 99})[:len(p.Tasks[0])]
			p.Locks = append(p.Locks, "x")[:len(p.Locks)]
		}
		// What stands twice in what is handed in is not shared in what is answered.
		c.Vals[2], c.Queues[1] = c.Vals[0], c.Queues[0]
		w.Vals, w.Queues = c.Vals, c.Queues
		picks := append(make([]int, 0, 9), 0, 1, -1, 5)
		for task := -1; task < 4; task++ {
			for what, call := range map[string]func() any{
				"CodeOf":   func() any { return impl.CodeOf(p) },
				"CodeOpen": func() any { return impl.CodeOpen(p) },
				"CodeCan":  func() any { impl.CodeCan(p, c, task); return impl.Code{} },
				"CodeStep": func() any { return impl.CodeStep(p, c, task) },
				"CodeRun":  func() any { return impl.CodeRun(p, picks) },
				"CodeTwin": func() any { impl.CodeTwin(p, w, c); return impl.Code{} },
			} {
				var got any
				what += " " + strconv.Itoa(i)
				checkKept(t, what, func() { got = call() }, p, w, c, picks)
				checkNew(t, what, got, p, w, c)
			}
		}
		if !impl.CodeTwin(p, w, c) {
			t.Errorf("%d: trees and code are not one", i)
		}
	}
	for i, p := range []impl.Prog{spared(), shop(), {}, {Vars: make([]impl.Var, 2, 7)}} {
		checkKept(t, fmt.Sprint("what is not ok ", i), func() {
			checkNoCode(t, "opened", impl.CodeOpen(p))
			checkNoCode(t, "run", impl.CodeRun(p, times(5, 0)))
			if len(impl.CodeOf(p)) != 0 {
				t.Error("has code")
			}
		}, p)
	}
}

// What holds itself is not right, and each call of it ends.
func TestCodesOfTreesThatHoldThemselves(t *testing.T) {
	list := []impl.Stmt{show(num(1)), {Kind: impl.StmtWhile, E: num(1)}}
	list[1].A = list
	kids := []impl.Expr{named("x"), {Kind: impl.ExprNot}}
	kids[1].Kids = kids[1:]
	for i, body := range [][]impl.Stmt{list, {show(kids[1])}, {branch(num(1), nil, list)}} {
		what := fmt.Sprint("endless ", i)
		p, w, c := codeRail(t)
		w.Tasks[0][0] = impl.Frame{Body: body}
		if impl.CodeTwin(p, w, c) {
			t.Errorf("%s: trees and code are one", what)
		}
		p, w, c = codeRail(t)
		p.Tasks[1] = body
		checkCodeCan(t, what, p, c, 0, impl.WalkEnds)
		checkNoCode(t, what, impl.CodeStep(p, c, 0))
		checkNoCode(t, what, impl.CodeOpen(p))
		checkNoCode(t, what, impl.CodeRun(p, times(3, 0)))
		if impl.CodeTwin(p, w, c) || len(impl.CodeOf(p)) != 0 {
			t.Errorf("%s: right", what)
		}
	}
	// A list that doubles 60 times is not gone through to its end.
	doubled := []impl.Stmt{show(num(1))}
	for range 60 {
		doubled = []impl.Stmt{branch(num(1), doubled, doubled)}
	}
	p, _, c := codeRail(t)
	p.Tasks[1] = doubled
	checkCodeCan(t, "doubled", p, c, 0, impl.WalkEnds)
	checkNoCode(t, "doubled", impl.CodeStep(p, c, 0))
	checkNoCode(t, "doubled", impl.CodeRun(p, nil))
	if len(impl.CodeOf(p)) != 0 {
		t.Error("doubled: right")
	}
}

// A run of the longest code that there is, and of all tasks that there can be.
func TestTheLongestRuns(t *testing.T) {
	for text, want := range map[string]int{"while 0 end ": 40, "if 0 else end ": 40, "show 1 ": 40, "if 1 else end ": 40} {
		p := progOf(t, "prog"+strings.Repeat(" task "+strings.Repeat(text, 40)+"end", 4))
		c := impl.CodeRun(p, times(4*want, -1))
		checkOne(t, text, p, impl.WalkRun(p, times(4*want, -1)), c)
		if goers := codeGoersOf(p, c); len(goers) > 0 || len(codeGoersOf(p, impl.CodeRun(p, times(4*want-1, -1)))) != 1 {
			t.Errorf("%q: %s, %d still can go", text, codeWord(c), goers)
		}
	}
	p := progOf(t, fullYard("show s"))
	for _, pick := range []int{0, 1, 2, 3} {
		picks := times(impl.WalkMax, pick)
		checkOne(t, "a full yard", p, impl.WalkRun(p, picks), impl.CodeRun(p, picks))
	}
}

// Where a run over code and one over trees go different ways, they are twins no longer.
func TestDifferentPicksAreNoTwins(t *testing.T) {
	p := progOf(t, relay)
	words := map[string]impl.Code{}
	trees := map[string]impl.Walk{}
	for _, picks := range [][]int{nil, {0}, {1}, {2}, {0, 0}, {0, 1}, {1, 0}, {0, 0, 0}, {0, 0, 0, 0}, {0, 0, 0, 0, 0}} {
		words[fmt.Sprint(picks)], trees[fmt.Sprint(picks)] = impl.CodeRun(p, picks), impl.WalkRun(p, picks)
	}
	for _, ahead := range slices.Sorted(maps.Keys(words)) {
		for _, other := range slices.Sorted(maps.Keys(words)) {
			if impl.CodeTwin(p, trees[ahead], words[other]) != (ahead == other) {
				t.Errorf("%s over trees, %s over code", ahead, other)
			}
		}
	}
}
