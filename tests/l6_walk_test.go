package tests

import (
	"fmt"
	"maps"
	"math"
	"math/big"
	"reflect"
	"slices"
	"strconv"
	"strings"
	"testing"

	"loop.example/hedge/impl"
)

// mill is a program of two tasks, the task me with that body and with numbers and an array of its own, the other one with a statement.
func mill(t *testing.T, me int, body string) impl.Prog {
	t.Helper()
	tasks := []string{"show 1", "show 1"}
	tasks[me] = body
	text := `prog
var x 0 1 0 9 task me
var a 3 4 0 9 task me
var s 0 2 0 9 lock m
var r 2 3 0 9 lock m
chan c 2 0 5
chan d 1 -3 9
lock m
lock n
task ` + tasks[0] + ` end task ` + tasks[1] + " end"
	p := progOf(t, strings.ReplaceAll(text, "task me", "task "+strconv.Itoa(me)))
	if impl.ScopeCheck(p) != impl.ScopeFine {
		t.Fatalf("%q: something is wrong with the names", body)
	}
	return p
}

// runWord tells a run in all parts, nothing and an empty list being the same.
func runWord(w impl.Walk) string {
	var b strings.Builder
	fmt.Fprintln(&b, w.Vals, w.Queues, w.Holds, w.Out, w.Fault, w.Who)
	for task, frames := range w.Tasks {
		fmt.Fprintln(&b, "task", task, framesWord(frames))
	}
	return b.String()
}

func framesWord(frames []impl.Frame) string {
	var b strings.Builder
	for _, f := range frames {
		fmt.Fprintf(&b, "at %d of %q ", f.At, impl.TextOf(tasksOf(f.Body)))
	}
	return b.String()
}

func checkRuns(t *testing.T, what string, got, want impl.Walk) {
	t.Helper()
	if runWord(got) != runWord(want) {
		t.Errorf("%s:\n%snot\n%s", what, runWord(got), runWord(want))
	}
}

func checkCan(t *testing.T, what string, p impl.Prog, w impl.Walk, task, want int) {
	t.Helper()
	if got := impl.WalkCan(p, w, task); got != want {
		t.Errorf("%s: the task %d can %d, not %d", what, task, got, want)
	}
}

// numsOf reads numbers with commas between.
func numsOf(t *testing.T, word string) []int {
	t.Helper()
	var nums []int
	for part := range strings.SplitSeq(word, ",") {
		if part == "" {
			continue
		}
		n, err := strconv.Atoi(part)
		if err != nil {
			t.Fatal(err)
		}
		nums = append(nums, n)
	}
	return nums
}

// turned turns parts of a run of a mill: what variables and channels have, who holds locks (me, other, free), what was shown, or a fault of me.
func turned(t *testing.T, p impl.Prog, w impl.Walk, me int, words string) impl.Walk {
	t.Helper()
	for _, word := range strings.Fields(words) {
		name, value, _ := strings.Cut(word, "=")
		v, c, lock := impl.ScopeVar(p, name), impl.ScopeChan(p, name), impl.ScopeLock(p, name)
		switch {
		case v >= 0:
			w.Vals[v] = numsOf(t, value)
		case c >= 0:
			w.Queues[c] = numsOf(t, value)
		case lock >= 0:
			w.Holds[lock] = map[string]int{"me": me + 1, "other": 2 - me, "free": 0}[value]
		case name == "out":
			w.Out = numsOf(t, value)
		case name == "fault":
			w.Fault, w.Who = numsOf(t, value)[0], me
		default:
			t.Fatalf("%q is no part of a run", name)
		}
	}
	return w
}

// plainCase is a statement that is no branch, what is so ahead of it, and what it turns: a fault alone, nothing for those that wait, or what else.
type plainCase struct{ given, stmt, want string }

// plainCases are of each kind but branches. Faults: 1 assert, 2 nought, 3 great, 4 place, 5 range, 6 bare, 7 free, 8 again.
func plainCases() []plainCase {
	return []plainCase{
		{"", "set x 5", "x=5"}, {"", "set x x", ""}, {"", "set x add x at a 1", "x=5"}, {"", "set x 0", "x=0"},
		{"", "set x 10", "x=10"}, {"", "set x -1", "x=-1"}, {"x=99", "set x mul x x", "x=9801"}, {"", "set x mul 1000 1000", "x=1000000"}, {"", "set x mul -1000 1000", "x=-1000000"},
		{"", "set x mul 1001 1000", "fault=3"}, {"", "set x div x 0", "fault=2"}, {"", "set x at a 3", "fault=4"}, {"", "set x s", "fault=6"}, {"m=other", "set x s", "fault=6"}, {"m=me", "set x s", "x=2"},
		{"", "set s 5", "fault=6"}, {"m=other", "set s 5", "fault=6"}, {"n=me", "set s 5", "fault=6"}, {"m=me", "set s 5", "s=5"}, {"m=me n=other", "set s 5", "s=5"},
		{"m=me", "set s 99", "s=99"}, {"m=me", "set s -1", "s=-1"}, {"m=me s=50", "set s add s 1", "s=51"},
		{"", "set s div 1 0", "fault=2"}, {"", "set s at a 9", "fault=4"}, {"m=me", "set s mul 9999 9999", "fault=3"},

		{"", "put a 0 7", "a=7,4,4"}, {"", "put a 1 7", "a=4,7,4"}, {"", "put a 2 7", "a=4,4,7"}, {"", "put a -1 7", "fault=4"}, {"", "put a 3 7", "fault=4"}, {"", "put a 1000000 7", "fault=4"}, {"", "put a -1000000 7", "fault=4"},
		{"", "put a 1 0", "a=4,0,4"}, {"", "put a 1 9", "a=4,9,4"}, {"", "put a 1 -1", "fault=5"}, {"", "put a 1 10", "fault=5"}, {"", "put a 1 1000000", "fault=5"},
		{"a=0,50,60", "put a 0 1", "a=1,50,60"}, {"a=2,1,0", "put a at a 0 add at a 1 at a 2", "a=2,1,1"}, {"x=2", "put a x x", "a=4,4,2"}, {"x=3", "put a x x", "fault=4"},
		{"", "put a 3 10", "fault=4"}, {"", "put a -1 -1", "fault=4"}, {"", "put r 0 1", "fault=6"}, {"", "put r 9 99", "fault=6"}, {"", "put r 0 99", "fault=6"}, {"m=other", "put r 0 1", "fault=6"}, {"n=me", "put r 0 1", "fault=6"},
		{"m=me", "put r 0 1", "r=1,3"}, {"m=me", "put r 1 9", "r=3,9"}, {"m=me", "put r 2 9", "fault=4"}, {"m=me", "put r 2 10", "fault=4"}, {"m=me", "put r 1 10", "fault=5"}, {"m=me", "put r -1 9", "fault=4"},
		{"", "put r div 1 0 at a 3", "fault=2"}, {"", "put r at a 3 div 1 0", "fault=4"}, {"", "put r 9 div 1 0", "fault=2"}, {"", "put r mul 9999 9999 1", "fault=3"}, {"", "put a 9 s", "fault=6"}, {"", "put a s 1", "fault=6"}, {"", "put a 0 mul 9999 9999", "fault=3"},

		{"", "lock m", "m=me"}, {"", "lock n", "n=me"}, {"n=other", "lock m", "m=me"}, {"m=me", "lock n", "n=me"}, {"s=99 r=99,99", "lock m", "m=me"},
		{"m=me", "lock m", "fault=8"}, {"m=me n=me", "lock n", "fault=8"}, {"m=other", "lock m", "waits"}, {"m=me n=other", "lock n", "waits"},
		{"m=me", "unlock m", "m=free"}, {"m=me n=me", "unlock n", "n=free"}, {"m=me n=other", "unlock m", "m=free"},
		{"", "unlock m", "fault=7"}, {"m=other", "unlock m", "fault=7"}, {"n=me", "unlock m", "fault=7"}, {"m=me", "unlock n", "fault=7"},
		{"m=me s=9", "unlock m", "m=free"}, {"m=me s=0", "unlock m", "m=free"}, {"m=me s=10", "unlock m", "fault=5"}, {"m=me s=-1", "unlock m", "fault=5"},
		{"m=me r=10,-1", "unlock m", "m=free"}, {"m=me s=10 r=10,10", "unlock m", "fault=5"}, {"m=me x=10 a=-1,-1,-1", "unlock m", "m=free"}, {"n=me m=me s=10", "unlock n", "n=free"},
		{"m=other s=10", "unlock m", "fault=7"}, {"s=10", "unlock m", "fault=7"},

		{"", "send c 3", "c=3"}, {"c=1", "send c 3", "c=1,3"}, {"c=1,2", "send c 3", "waits"}, {"c=1,2,3", "send c 3", "waits"}, {"d=7", "send d 3", "waits"}, {"d=7", "send c 3", "c=3"}, {"c=1,2", "send d 3", "d=3"},
		{"", "send c 0", "c=0"}, {"", "send c 5", "c=5"}, {"", "send c -1", "fault=5"}, {"", "send c 6", "fault=5"}, {"", "send d -3", "d=-3"}, {"", "send d 9", "d=9"}, {"", "send d -4", "fault=5"}, {"", "send d 10", "fault=5"},
		{"c=4", "send c add x at a 2", "c=4,5"}, {"", "send c div 1 0", "fault=2"}, {"", "send c s", "fault=6"}, {"", "send c mul 9999 9999", "fault=3"},
		{"c=1,2", "send c div 1 0", "waits"}, {"c=1,2", "send c 6", "waits"}, {"c=70,-80", "send c 1", "waits"}, {"c=70", "send c 1", "c=70,1"},
		{"c=3", "recv c x", "x=3 c="}, {"c=3,4", "recv c x", "x=3 c=4"}, {"c=4,3,9", "recv c x", "x=4 c=3,9"}, {"d=-3", "recv d x", "x=-3 d="}, {"c=1 d=2", "recv d x", "x=2 d="}, {"", "recv c x", "waits"}, {"d=2", "recv c x", "waits"}, {"c=2", "recv d x", "waits"},
		// Of a variable that is no array the range is not asked where it is filled.
		{"c=10", "recv c x", "x=10 c="}, {"c=1000000,2", "recv c x", "x=1000000 c=2"}, {"c=-1000000", "recv c x", "x=-1000000 c="}, {"m=me c=10", "recv c s", "s=10 c="},
		{"c=3", "recv c s", "fault=6"}, {"m=other c=3,4", "recv c s", "fault=6"}, {"n=me c=10", "recv c s", "fault=6"}, {"", "recv c s", "waits"}, {"m=me c=3,4", "recv c s", "s=3 c=4"},

		{"", "assert 1", ""}, {"", "assert -1", ""}, {"", "assert 0", "fault=1"}, {"", "assert less x 2", ""}, {"", "assert less x 1", "fault=1"}, {"", "assert not x", "fault=1"},
		{"", "assert div 1 0", "fault=2"}, {"", "assert s", "fault=6"}, {"", "assert at a x", ""}, {"x=3", "assert at a x", "fault=4"}, {"", "assert mul 9999 9999", "fault=3"},
		{"", "show 5", "out=5"}, {"out=7,8", "show x", "out=7,8,1"}, {"out=7", "show -1000000", "out=7,-1000000"}, {"", "show div 1 0", "fault=2"}, {"out=7", "show s", "fault=6"}, {"m=me", "show s", "out=2"}, {"", "show at a 3", "fault=4"}, {"out=1", "show add 1000000 1", "fault=3"},
	}
}

// checkPlain holds what a statement turns, where it stands alone and ahead of others, and that nothing else is turned.
func checkPlain(t *testing.T, me int, c plainCase, behind string) {
	t.Helper()
	what := fmt.Sprintf("task %d, %q, %q%s", me, c.given, c.stmt, behind)
	p := mill(t, me, c.stmt+behind)
	w := turned(t, p, impl.WalkOpen(p), me, c.given)
	want := turned(t, p, impl.WalkOpen(p), me, c.given)
	can := impl.WalkGoes
	switch {
	case c.want == "waits":
		can = impl.WalkWaits
	case strings.HasPrefix(c.want, "fault"):
		want = turned(t, p, want, me, c.want)
	default:
		want = turned(t, p, want, me, c.want)
		if want.Tasks[me][0].At = 1; behind == "" {
			want.Tasks[me] = nil
		}
	}
	checkCan(t, what, p, w, me, can)
	var got impl.Walk
	checkKept(t, what, func() { got = impl.WalkStep(p, w, me) }, p, w)
	checkRuns(t, what, got, want)
	checkNew(t, what, got, p, w)
	if got.Fault == impl.CalcFine {
		return
	}
	for _, task := range []int{me, 1 - me} {
		checkCan(t, what, p, got, task, impl.WalkEnds)
		checkRuns(t, what+", behind the fault", impl.WalkStep(p, got, task), got)
	}
}

func TestStepsOfStatements(t *testing.T) {
	for _, c := range plainCases() {
		for me := range 2 {
			checkPlain(t, me, c, "")
			checkPlain(t, me, c, " show 9 show x")
		}
	}
}

// placesWord tells where a task is: its frames with a bar between, and a sign ahead of the statement at which each is.
func placesWord(frames []impl.Frame) string {
	var all []string
	for _, f := range frames {
		var lines []string
		for i, s := range f.Body {
			line := strings.Split(impl.TextOf(tasksOf([]impl.Stmt{s})), "\n")[2]
			if i == f.At {
				line = ">" + line
			}
			lines = append(lines, line)
		}
		all = append(all, strings.Join(lines, "; "))
	}
	return strings.Join(all, " | ")
}

// Where a task is, ahead of each of its steps and behind the last one.
func TestWhereBranchesLead(t *testing.T) {
	for body, want := range map[string][]string{
		"":                                          {""},
		"show 1":                                    {">show 1", ""},
		"show 1 show 2":                             {">show 1; show 2", "show 1; >show 2", ""},
		"if 1 show 1 else show 2 end show 3":        {">if 1; show 3", "if 1; >show 3 | >show 1", "if 1; >show 3", ""},
		"if 0 show 1 else show 2 end show 3":        {">if 0; show 3", "if 0; >show 3 | >show 2", "if 0; >show 3", ""},
		"if -1 show 1 else show 2 end":              {">if -1", ">show 1", ""},
		"if 7 show 1 else show 2 end":               {">if 7", ">show 1", ""},
		"if 0 show 1 else show 2 end":               {">if 0", ">show 2", ""},
		"if 1 else show 2 end show 3":               {">if 1; show 3", "if 1; >show 3", ""},
		"if 0 show 1 else end show 3":               {">if 0; show 3", "if 0; >show 3", ""},
		"if 1 else end show 3":                      {">if 1; show 3", "if 1; >show 3", ""},
		"if 0 else end":                             {">if 0", ""},
		"if 1 else show 2 end":                      {">if 1", ""},
		"if 0 show 1 else end":                      {">if 0", ""},
		"if 1 if 1 else end else end show 3":        {">if 1; show 3", "if 1; >show 3 | >if 1", "if 1; >show 3", ""},
		"if 1 if 0 show 1 else end else end show 3": {">if 1; show 3", "if 1; >show 3 | >if 0", "if 1; >show 3", ""},
		"if 0 else if 1 else end show 1 end":        {">if 0", ">if 1; show 1", "if 1; >show 1", ""},
		"if 1 show 1 if 1 if 1 show 2 else end else end else end show 3": {
			">if 1; show 3", "if 1; >show 3 | >show 1; if 1", "if 1; >show 3 | show 1; >if 1", "if 1; >show 3 | >if 1", "if 1; >show 3 | >show 2", "if 1; >show 3", "",
		},
		"if 1 if 1 show 1 else end show 2 else end show 3": {
			">if 1; show 3", "if 1; >show 3 | >if 1; show 2", "if 1; >show 3 | if 1; >show 2 | >show 1", "if 1; >show 3 | if 1; >show 2", "if 1; >show 3", "",
		},
		"while 0 show 1 end show 2": {">while 0; show 2", "while 0; >show 2", ""},
		"while 0 show 1 end":        {">while 0", ""},
		"while 0 end":               {">while 0", ""},
		"while 1 end show 1":        {">while 1; show 1", ">while 1; show 1", ">while 1; show 1", ">while 1; show 1"},
		"while -1 end":              {">while -1", ">while -1", ">while -1"},
		"while 1 show 1 end":        {">while 1", ">while 1 | >show 1", ">while 1", ">while 1 | >show 1", ">while 1"},
		"while x show 1 set x sub x 1 end show 2": {
			">while x; show 2", ">while x; show 2 | >show 1; set x sub x 1", ">while x; show 2 | show 1; >set x sub x 1", ">while x; show 2", "while x; >show 2", "",
		},
		"while less x 3 set x add x 1 end": {
			">while less x 3", ">while less x 3 | >set x add x 1", ">while less x 3", ">while less x 3 | >set x add x 1", ">while less x 3", "",
		},
		"while 1 if 1 else end end":         {">while 1", ">while 1 | >if 1", ">while 1", ">while 1 | >if 1", ">while 1"},
		"while 1 if 0 else show 1 end end":  {">while 1", ">while 1 | >if 0", ">while 1 | >show 1", ">while 1"},
		"while 1 while 0 end end":           {">while 1", ">while 1 | >while 0", ">while 1", ">while 1 | >while 0"},
		"while 1 while 1 end end":           {">while 1", ">while 1 | >while 1", ">while 1 | >while 1", ">while 1 | >while 1"},
		"while 1 while x set x 0 end end":   {">while 1", ">while 1 | >while x", ">while 1 | >while x | >set x 0", ">while 1 | >while x", ">while 1", ">while 1 | >while x", ">while 1"},
		"if 1 while x set x 0 end else end": {">if 1", ">while x", ">while x | >set x 0", ">while x", ""},
		"if 0 else while 0 end end show 1":  {">if 0; show 1", "if 0; >show 1 | >while 0", "if 0; >show 1", ""},
		"while x if x set x 0 else end end": {">while x", ">while x | >if x", ">while x | >set x 0", ">while x", ""},
		"while x if x set x 0 else end while x end end show x": {
			">while x; show x", ">while x; show x | >if x; while x", ">while x; show x | if x; >while x | >set x 0", ">while x; show x | if x; >while x", ">while x; show x", "while x; >show x", "",
		},
		"if 1 if 1 if 1 if 1 show 1 else end else end else end else end": {">if 1", ">if 1", ">if 1", ">if 1", ">show 1", ""},
		"while 1 while 1 while 1 while 1 show 1 end end end end": {
			">while 1", ">while 1 | >while 1", ">while 1 | >while 1 | >while 1", ">while 1 | >while 1 | >while 1 | >while 1", ">while 1 | >while 1 | >while 1 | >while 1 | >show 1", ">while 1 | >while 1 | >while 1 | >while 1",
		},
	} {
		for me := range 2 {
			checkPlaces(t, mill(t, me, body), me, body, want)
		}
	}
}

func checkPlaces(t *testing.T, p impl.Prog, me int, body string, want []string) {
	t.Helper()
	w := impl.WalkOpen(p)
	for i, place := range want {
		what := fmt.Sprintf("task %d, %q, behind %d steps", me, body, i)
		if got := placesWord(w.Tasks[me]); got != place {
			t.Fatalf("%s: at %q, not %q", what, got, place)
		}
		checkFrames(t, p, me, w)
		can := impl.WalkGoes
		if place == "" {
			can = impl.WalkEnds
		}
		checkCan(t, what, p, w, me, can)
		next := impl.WalkStep(p, w, me)
		checkNew(t, what, next, p, w)
		if next.Fault != impl.CalcFine || framesWord(next.Tasks[1-me]) != framesWord(w.Tasks[1-me]) {
			t.Fatalf("%s: %s", what, runWord(next))
		}
		if place == "" {
			checkRuns(t, what, next, w)
		}
		w = next
	}
}

// checkFrames holds that each frame is a whole list of the task, and not gone through.
func checkFrames(t *testing.T, p impl.Prog, task int, w impl.Walk) {
	t.Helper()
	lists := []string{impl.TextOf(tasksOf(p.Tasks[task]))}
	for _, s := range flat(p.Tasks[task]) {
		lists = append(lists, impl.TextOf(tasksOf(s.A)), impl.TextOf(tasksOf(s.B)))
	}
	for i, f := range w.Tasks[task] {
		if f.At < 0 || f.At >= len(f.Body) || !slices.Contains(lists, impl.TextOf(tasksOf(f.Body))) {
			t.Errorf("the frame %d of the task %d: at %d of %+v", i, task, f.At, f.Body)
		}
	}
}

// A branch turns nothing but where its task is; a fault of its condition turns not even that.
func TestBranchesTurnNothingElse(t *testing.T) {
	for cond, fault := range map[string]int{
		"1": impl.CalcFine, "0": impl.CalcFine, "x": impl.CalcFine, "less x 1": impl.CalcFine, "and at a 2 not x": impl.CalcFine,
		"div 1 0": impl.CalcNought, "mul 9999 9999": impl.CalcGreat, "at a 3": impl.CalcPlace, "s": impl.CalcBare, "at r 9": impl.CalcBare, "and 0 div 1 0": impl.CalcNought,
	} {
		for _, form := range []string{"if # show 1 else show 2 end", "if # else end", "while # show 1 end", "while # end"} {
			for me := range 2 {
				p := mill(t, me, strings.Replace(form, "#", cond, 1)+" show 3")
				const words = "x=3 a=1,2,0 s=99 c=4,5 n=me out=6,7"
				w, want := turned(t, p, impl.WalkOpen(p), me, words), turned(t, p, impl.WalkOpen(p), me, words)
				what := fmt.Sprintf("task %d, %q of %q", me, form, cond)
				checkCan(t, what, p, w, me, impl.WalkGoes)
				var got impl.Walk
				checkKept(t, what, func() { got = impl.WalkStep(p, w, me) }, p, w)
				checkNew(t, what, got, p, w)
				if fault != impl.CalcFine {
					want.Fault, want.Who = fault, me
				} else {
					want.Tasks[me] = got.Tasks[me]
				}
				checkRuns(t, what, got, want)
			}
		}
	}
}

func TestRunsAtTheirBeginning(t *testing.T) {
	for text, want := range map[string]string{
		"prog":                           "[] [] [] [] 0 0\n",
		"prog task end":                  "[] [] [] [] 0 0\ntask 0 \n",
		"prog lock m":                    "[] [] [0] [] 0 0\n",
		"prog chan c 1 0 9 chan d 1 0 9": "[] [[] []] [] [] 0 0\n",
		"prog var x 0 3 0 9 task 0":      "[[3]] [] [] [] 0 0\n",
		"prog var x 2 3 0 9 lock m var y 0 -1 -1 9 task 2 chan c 4 0 9 lock m lock n task show 1 end task end task set y 1 while 1 show y end end": "[[3 3] [-1]] [[]] [0 0] [] 0 0\n" +
			"task 0 at 0 of \"prog\\ntask\\nshow 1\\nend\\n\" \ntask 1 \ntask 2 at 0 of \"prog\\ntask\\nset y 1\\nwhile 1\\nshow y\\nend\\nend\\n\" \n",
	} {
		p := progOf(t, text)
		got := impl.WalkOpen(p)
		if runWord(got) != want {
			t.Errorf("%q: %s", text, runWord(got))
		}
		checkNew(t, text, got, p)
		checkRuns(t, text+", run by no picks", impl.WalkRun(p, nil), got)
	}
	checkNoRun(t, "of nothing", impl.WalkOpen(impl.Prog{}))
	for code, p := range wrongStores(t) {
		checkNoRun(t, fmt.Sprint("opened, wrong by ", code), impl.WalkOpen(p))
		checkNoRun(t, fmt.Sprint("run, wrong by ", code), impl.WalkRun(p, times(9, 0)))
		checkNoRun(t, fmt.Sprint("run by no picks, wrong by ", code), impl.WalkRun(p, nil))
	}
	full := progOf(t, fullYard("show s"))
	if got := impl.WalkOpen(full); len(got.Vals) != 6 || len(got.Queues) != 3 || len(got.Holds) != 3 || len(got.Tasks) != 4 || !reflect.DeepEqual(got.Tasks[3], []impl.Frame{{Body: full.Tasks[3]}}) {
		t.Error(runWord(got))
	}
}

func checkNoRun(t *testing.T, what string, w impl.Walk) {
	t.Helper()
	if runWord(w) != runWord(impl.Walk{}) {
		t.Errorf("%s: %s", what, runWord(w))
	}
}

func TestLocksThatATaskHolds(t *testing.T) {
	locks := []string{"m", "n", "o"}
	for _, c := range []struct {
		holds []int
		task  int
		want  string
	}{
		{[]int{1, 2, 1}, 0, "m o"}, {[]int{1, 2, 1}, 1, "n"}, {[]int{1, 2, 1}, 2, ""}, {[]int{1, 1, 1}, 0, "m n o"}, {[]int{3, 4, 3}, 3, "n"}, {[]int{0, 0, 0}, 0, ""}, {[]int{0, 1, 0}, 0, "n"},
		// Holds that are not as many as locks, and numbers that are of nobody: of none more is told than the words say.
		{nil, 0, ""}, {[]int{1}, 0, "m"}, {[]int{0, 1}, 0, "n"}, {[]int{0, 0, 0, 1}, 0, ""}, {[]int{1, 0, 1, 1, 1}, 0, "m o"},
		{[]int{9, -9, 1}, 8, "m"}, {[]int{9, -9, 1}, -10, "n"}, {[]int{0, 1, 0}, -1, "m o"}, {[]int{-1, 1, 0}, -2, "m"},
		{[]int{math.MinInt, math.MaxInt, 0}, math.MaxInt, ""}, {[]int{math.MinInt, math.MaxInt, 0}, math.MaxInt - 1, "n"}, {[]int{math.MinInt, math.MaxInt, 0}, math.MinInt, ""}, {[]int{math.MinInt + 1, 1, 1}, math.MinInt, "m"},
	} {
		// Nothing but locks and Holds is asked, so that the program need not be ok, nor the run right.
		for _, p := range []impl.Prog{{Locks: locks}, progOf(t, "prog var x 0 0 0 9 task 0 task show x end lock m lock n lock o"), {Locks: locks, Vars: []impl.Var{{Name: "m"}}}} {
			for _, w := range []impl.Walk{{Holds: c.holds}, {Holds: c.holds, Vals: [][]int{{0}}, Tasks: make([][]impl.Frame, 1)}, {Holds: c.holds, Vals: make([][]int, 7), Fault: 3}} {
				var got []string
				checkKept(t, "WalkHeld", func() { got = impl.WalkHeld(p, w, c.task) }, p, w)
				if strings.Join(got, " ") != c.want {
					t.Errorf("the task %d, of %v: %q, not %q", c.task, c.holds, got, c.want)
				}
				checkNew(t, "WalkHeld", got, p, w)
			}
		}
	}
	if got := impl.WalkHeld(impl.Prog{Locks: []string{"m", "n", "m"}}, impl.Walk{Holds: []int{1, 1, 1}}, 0); strings.Join(got, " ") != "m n m" {
		t.Errorf("%q", got)
	}
	// Who holds a lock behind the end of Holds is not told.
	if got := impl.WalkHeld(impl.Prog{Locks: locks}, impl.Walk{Holds: []int{1, 1, 1}[:1]}, 0); strings.Join(got, " ") != "m" {
		t.Errorf("%q", got)
	}
}

// rail is a program with all that a run has, and its run with the first task deep within its statements.
func rail(t *testing.T) (impl.Prog, impl.Walk) {
	t.Helper()
	p := mill(t, 0, "set x 2 while x if s show x show 5 else end show 7 end show 4")
	w := turned(t, p, impl.WalkOpen(p), 0, "m=me")
	for range 4 {
		w = impl.WalkStep(p, w, 0)
	}
	if got := placesWord(w.Tasks[0]); got != "set x 2; >while x; show 4 | if s; >show 7 | show x; >show 5" {
		t.Fatal(got)
	}
	return p, turned(t, p, w, 0, "c=1,2 d=3 out=8,9")
}

// bodyTurns are lists that no frame of the first task of a rail may have.
func bodyTurns() map[string][]impl.Stmt {
	deep := func(around int) []impl.Stmt {
		return []impl.Stmt{deepStmt(around, func(s impl.Stmt) impl.Stmt { return loop(num(1), s) })}
	}
	return map[string][]impl.Stmt{
		"nil":                      nil,
		"no statement":             {},
		"a statement of no kind":   {{}},
		"a name too many":          {{Kind: impl.StmtShow, Name: "x", E: num(1)}},
		"none":                     {show(named("q"))},
		"an array":                 {show(named("a"))},
		"a number":                 {show(at("x", num(1)))},
		"a lock that is none":      {taking("o")},
		"a channel that is none":   {{Kind: impl.StmtSend, Name: "m", E: num(1)}},
		"of no form, further on":   {show(num(1)), {Kind: 11}},
		"within a branch":          {show(num(1)), branch(num(1), nil, []impl.Stmt{show(named("q"))})},
		"a kind of expression":     {show(impl.Expr{Kind: 13})},
		"too deep":                 deep(5),
		"an expression too deep":   {show(deepNot(7))},
		"too many statements":      times(41, show(num(1))),
		"too many within a branch": {branch(num(1), times(20, show(num(1))), times(20, show(num(1))))},
	}
}

// wrongTurns are what makes the run of a rail one that is not right.
func wrongTurns() map[string]func(w *impl.Walk) {
	turns := map[string]func(w *impl.Walk){
		"nothing":                    func(w *impl.Walk) { *w = impl.Walk{} },
		"no variables":               func(w *impl.Walk) { w.Vals = nil },
		"a variable too few":         func(w *impl.Walk) { w.Vals = w.Vals[:3] },
		"a variable too many":        func(w *impl.Walk) { w.Vals = append(w.Vals, []int{1}) },
		"an empty one too many":      func(w *impl.Walk) { w.Vals = append(w.Vals, nil) },
		"a variable without number":  func(w *impl.Walk) { w.Vals[0] = nil },
		"a variable of two numbers":  func(w *impl.Walk) { w.Vals[0] = []int{1, 1} },
		"an array too short":         func(w *impl.Walk) { w.Vals[1] = w.Vals[1][:2] },
		"an array too long":          func(w *impl.Walk) { w.Vals[3] = append(w.Vals[3], 1) },
		"a variable too great":       func(w *impl.Walk) { w.Vals[0][0] = most + 1 },
		"an array too far below":     func(w *impl.Walk) { w.Vals[3][1] = -most - 1 },
		"no channels":                func(w *impl.Walk) { w.Queues = nil },
		"a channel too few":          func(w *impl.Walk) { w.Queues = w.Queues[:1] },
		"a channel too many":         func(w *impl.Walk) { w.Queues = append(w.Queues, nil) },
		"a number too great":         func(w *impl.Walk) { w.Queues[0][0] = most + 1 },
		"the last too great":         func(w *impl.Walk) { w.Queues[0] = append(w.Queues[0], 1, 2, 3, most+1) },
		"a number too far below":     func(w *impl.Walk) { w.Queues[1][0] = -most - 1 },
		"by far too far below":       func(w *impl.Walk) { w.Queues[1][0] = math.MinInt },
		"no locks":                   func(w *impl.Walk) { w.Holds = nil },
		"a lock too few":             func(w *impl.Walk) { w.Holds = w.Holds[:1] },
		"a lock too many":            func(w *impl.Walk) { w.Holds = append(w.Holds, 0) },
		"no tasks":                   func(w *impl.Walk) { w.Tasks = nil },
		"a task too few":             func(w *impl.Walk) { w.Tasks = w.Tasks[:1] },
		"a task too many":            func(w *impl.Walk) { w.Tasks = append(w.Tasks, nil) },
		"tasks exchanged":            func(w *impl.Walk) { w.Tasks[0], w.Tasks[1] = w.Tasks[1], w.Tasks[0] },
		"another task's variable":    func(w *impl.Walk) { w.Tasks[1] = []impl.Frame{{Body: []impl.Stmt{show(named("x"))}}} },
		"another task's array":       func(w *impl.Walk) { w.Tasks[1][0].Body = []impl.Stmt{show(at("a", num(1)))} },
		"of the other, gone through": func(w *impl.Walk) { w.Tasks[1][0].At = 1 },
		"of the other, ahead of all": func(w *impl.Walk) { w.Tasks[1][0].At = -1 },
		"of the other, an empty one": func(w *impl.Walk) { w.Tasks[1] = append(w.Tasks[1], impl.Frame{}) },
	}
	for i := range 3 {
		for what, body := range bodyTurns() {
			turns[fmt.Sprint("the frame ", i, ": ", what)] = func(w *impl.Walk) { w.Tasks[0][i].Body, w.Tasks[0][i].At = body, 0 }
		}
		for _, at := range []int{math.MinInt, -2, -1} {
			turns[fmt.Sprint("the frame ", i, " at ", at)] = func(w *impl.Walk) { w.Tasks[0][i].At = at }
		}
		for _, past := range []int{0, 1, 1 << 32, 1 << 40} {
			turns[fmt.Sprint("the frame ", i, " past its end by ", past)] = func(w *impl.Walk) { w.Tasks[0][i].At = len(w.Tasks[0][i].Body) + past }
		}
	}
	return turns
}

func TestRunsThatAreNotRight(t *testing.T) {
	for what, turn := range wrongTurns() {
		for _, fault := range []int{impl.CalcFine, impl.CalcPlace} {
			p, w := rail(t)
			w.Fault = fault
			turn(&w)
			checkNotRight(t, what, p, w)
		}
	}
	for code, p := range wrongStores(t) {
		checkNotRight(t, fmt.Sprint("wrong by ", code), p, impl.Walk{})
		checkNotRight(t, fmt.Sprint("wrong by ", code, ", at its beginning"), p, impl.Walk{Vals: storeVals(), Holds: times(2, 0), Tasks: make([][]impl.Frame, len(p.Tasks))})
	}
	// A run that is right for one program is not so for others.
	p, w := rail(t)
	p.Tasks[1] = []impl.Stmt{show(named("x"))}
	checkNotRight(t, "another task names what it may not", p, w)
	p, w = rail(t)
	p.Vars[0].Task = 1
	checkNotRight(t, "a variable of another task", p, w)
	p, w = rail(t)
	p.Locks = append(p.Locks, "o")
	checkNotRight(t, "another lock", p, w)
}

func checkNotRight(t *testing.T, what string, p impl.Prog, w impl.Walk) {
	t.Helper()
	for _, task := range []int{math.MinInt, -1, 0, 1, 2, math.MaxInt} {
		checkCan(t, what, p, w, task, impl.WalkEnds)
		checkKept(t, what, func() { checkNoRun(t, what, impl.WalkStep(p, w, task)) }, p, w)
	}
}

// What is not asked of a run does not make it wrong.
func TestRunsThatAreOddButRight(t *testing.T) {
	long := times(300, impl.Frame{Body: []impl.Stmt{show(num(7)), show(num(8))}, At: 1})
	for what, turn := range map[string]func(w *impl.Walk){
		"as it is":                func(*impl.Walk) {},
		"outside ranges":          func(w *impl.Walk) { w.Vals = [][]int{{most}, {-1, 10, most}, {-most}, {99, 99}} },
		"more than a capacity":    func(w *impl.Walk) { w.Queues = [][]int{times(50, 1), {1, 2}} },
		"outside a channel":       func(w *impl.Walk) { w.Queues = [][]int{{most, -most}, {most}} },
		"held by nobody":          func(w *impl.Walk) { w.Holds = []int{99, -7} },
		"held by nobody at all":   func(w *impl.Walk) { w.Holds = []int{math.MaxInt, math.MinInt} },
		"shown too great numbers": func(w *impl.Walk) { w.Out = []int{most + 1, math.MinInt, math.MaxInt} },
		"whose, without a fault":  func(w *impl.Walk) { w.Who = 77 },
		"whose, below 0":          func(w *impl.Walk) { w.Who = -1 },
		"other statements": func(w *impl.Walk) {
			w.Tasks[0] = []impl.Frame{{Body: []impl.Stmt{taking("n"), show(num(7)), show(named("x"))}, At: 1}}
		},
		"frames on no branch":     func(w *impl.Walk) { w.Tasks[0] = slices.Clone(long) },
		"the other one is done":   func(w *impl.Walk) { w.Tasks[1] = nil },
		"the other one is deeper": func(w *impl.Walk) { w.Tasks[1] = append(w.Tasks[1], impl.Frame{Body: []impl.Stmt{show(named("s"))}}) },
		"room behind":             roomBehind,
	} {
		p, w := rail(t)
		turn(&w)
		frames := w.Tasks[0]
		last := frames[len(frames)-1]
		number := last.Body[last.At].E.Num
		checkCan(t, what, p, w, 0, impl.WalkGoes)
		var got impl.Walk
		checkKept(t, what, func() { got = impl.WalkStep(p, w, 0) }, p, w)
		checkNew(t, what, got, p, w)
		want := w
		want.Out = append(slices.Clone(w.Out), number)
		want.Tasks = slices.Clone(w.Tasks)
		want.Tasks[0] = slices.Clone(frames[:len(frames)-1])
		if last.At+1 < len(last.Body) {
			want.Tasks[0] = append(want.Tasks[0], impl.Frame{Body: last.Body, At: last.At + 1})
		}
		checkRuns(t, what, got, want)
	}
}

// roomBehind lays what would be wrong behind the ends of all lists of a run.
func roomBehind(w *impl.Walk) {
	for i := range w.Vals {
		w.Vals[i] = append(w.Vals[i], most+1)[:len(w.Vals[i])]
	}
	for i := range w.Queues {
		w.Queues[i] = append(w.Queues[i], most+1)[:len(w.Queues[i])]
	}
	w.Vals = append(w.Vals, []int{1})[:len(w.Vals)]
	w.Queues = append(w.Queues, []int{1})[:len(w.Queues)]
	w.Holds = append(w.Holds, 9)[:len(w.Holds)]
	w.Out = append(w.Out, 9)[:len(w.Out)]
	for i, frames := range w.Tasks {
		for j := range frames {
			frames[j].Body = append(frames[j].Body, impl.Stmt{Kind: 99})[:len(frames[j].Body)]
		}
		w.Tasks[i] = append(frames, impl.Frame{At: -1})[:len(frames)]
	}
	w.Tasks = append(w.Tasks, []impl.Frame{{}})[:len(w.Tasks)]
}

// A lock is held by another one, whoever that is; what nobody's number stands for is nobody of the tasks.
func TestLocksOfOthers(t *testing.T) {
	for _, mark := range []int{math.MinInt, -3, -1, 2, 3, 99, math.MaxInt} {
		p := mill(t, 0, "lock m set s 3 unlock m")
		w := impl.WalkOpen(p)
		w.Holds[0] = mark
		what := fmt.Sprint("held by ", mark)
		checkCan(t, what, p, w, 0, impl.WalkWaits)
		checkRuns(t, what, impl.WalkStep(p, w, 0), w)
		for at, fault := range map[int]int{1: impl.CalcBare, 2: impl.CalcFree} {
			w.Tasks[0][0].At = at
			checkCan(t, what, p, w, 0, impl.WalkGoes)
			if got := impl.WalkStep(p, w, 0); got.Fault != fault || got.Holds[0] != mark {
				t.Errorf("%s: %s", what, runWord(got))
			}
		}
	}
}

// Promise 6: who is none, is done, waits, or is of a run that has a fault, does nothing.
func TestWhoDoesNothing(t *testing.T) {
	same := func(what string, p impl.Prog, w impl.Walk, task, can int) {
		t.Helper()
		checkCan(t, what, p, w, task, can)
		var got impl.Walk
		checkKept(t, what, func() { got = impl.WalkStep(p, w, task) }, p, w)
		checkRuns(t, what, got, w)
		checkNew(t, what, got, p, w)
	}
	for _, task := range []int{math.MinInt, -2, -1, 2, 3, 1 << 32, 1 << 40, math.MaxInt} {
		p, w := rail(t)
		same("no such task", p, w, task, impl.WalkEnds)
		w.Fault = 1
		same("no such task, and a fault", p, w, task, impl.WalkEnds)
		same("no task at all", progOf(t, "prog"), impl.Walk{}, task, impl.WalkEnds)
	}
	same("no task at all", impl.Prog{}, impl.Walk{}, 0, impl.WalkEnds)
	for _, fault := range []int{math.MinInt, -1, 1, 2, 3, 4, 5, 6, 7, 8, 9, 10, 99, math.MaxInt} {
		for task := range 2 {
			p, w := rail(t)
			w.Fault, w.Who = fault, 1
			same(fmt.Sprint("the fault ", fault), p, w, task, impl.WalkEnds)
		}
	}
	p, w := rail(t)
	w.Tasks[1] = nil
	same("done", p, w, 1, impl.WalkEnds)
	w.Tasks[1] = []impl.Frame{}
	same("done, of no frames", p, w, 1, impl.WalkEnds)
	// Who waits ahead of a fault that is there already is at an end.
	p = mill(t, 0, "recv c x")
	w = impl.WalkOpen(p)
	same("waits", p, w, 0, impl.WalkWaits)
	w.Fault = 5
	same("waits no longer", p, w, 0, impl.WalkEnds)
}

// relay has three tasks that show who they are, twice, twice and once.
const relay = "prog task show 10 show 11 end task show 20 show 21 end task show 30 end"

func TestWhoIsPicked(t *testing.T) {
	for _, c := range []struct {
		text  string
		picks []int
		want  []int
	}{
		{relay, nil, nil}, {relay, []int{0}, []int{10}}, {relay, []int{1}, []int{20}}, {relay, []int{2}, []int{30}}, {relay, []int{3}, []int{10}}, {relay, []int{4}, []int{20}}, {relay, []int{5}, []int{30}},
		{relay, []int{-1}, []int{30}}, {relay, []int{-2}, []int{20}}, {relay, []int{-3}, []int{10}}, {relay, []int{-4}, []int{30}}, {relay, []int{-5}, []int{20}}, {relay, []int{-6}, []int{10}},
		{relay, times(9, 0), []int{10, 11, 20, 21, 30}}, {relay, times(9, -1), []int{30, 20, 21, 10, 11}},
		{relay, []int{1, 1, 1}, []int{20, 21, 30}}, {relay, []int{2, 1, 1, 1, 1, 1}, []int{30, 20, 21, 10, 11}},
		{relay, []int{0, 1, 2, 2, 1}, []int{10, 20, 30, 11, 21}}, {relay, []int{2, 2, 3, -1, 0}, []int{30, 10, 20, 21, 11}},
		// Who waits is not counted, and neither is who is done.
		{"prog chan c 1 0 9 var x 0 0 0 9 task 0 task recv c x show x end task show 20 send c 5 show 21 end", []int{0, 0, 0, 1, 0, 0, 0}, []int{20, 21, 5}},
		{"prog chan c 1 0 9 var x 0 0 0 9 task 0 task recv c x show x end task show 20 send c 5 show 21 end", []int{7, -3, 0, 2, 1}, []int{20, 5, 21}},
		{"prog lock m task lock m show 10 unlock m end task lock m show 20 unlock m end task end", []int{1, 1, 0, 5, 0, 0}, []int{20, 10}},
		{"prog lock m task lock m show 10 unlock m end task lock m show 20 unlock m end task end", []int{0, 1, -1, 1, 1, 1}, []int{10, 20}},
		{"prog task end task end task show 30 show 31 end", []int{2, 1}, []int{30, 31}},
	} {
		p := progOf(t, c.text)
		got := impl.WalkRun(p, c.picks)
		if !slices.Equal(got.Out, c.want) || got.Fault != impl.CalcFine || got.Who != 0 {
			t.Errorf("%q by %d: %v and the fault %d, not %v", c.text, c.picks, got.Out, got.Fault, c.want)
		}
	}
}

// What is left of a pick is told by numbers without bounds: it is 0 or more, whatever the sign.
func TestPicksOfAllSizes(t *testing.T) {
	texts := []string{"prog task show 0 end", "prog task show 0 end task show 1 end", "prog task show 0 end task show 1 end task show 2 end", "prog task show 0 end task show 1 end task show 2 end task show 3 end"}
	for i, text := range texts {
		p, many := progOf(t, text), int64(i+1)
		for _, pick := range []int{0, 1, 2, 3, 4, 5, 6, 7, 100, 101, 102, 103, -1, -2, -3, -4, -5, -6, -7, -8, -100, -101, -102, -103, 1 << 31, -1 << 31, 1 << 32, 1<<32 + 1, math.MaxInt, math.MaxInt - 1, math.MinInt, math.MinInt + 1, math.MinInt + 2} {
			left := new(big.Int).Mod(big.NewInt(int64(pick)), big.NewInt(many))
			if got := impl.WalkRun(p, []int{pick}); len(got.Out) != 1 || int64(got.Out[0]) != left.Int64() {
				t.Errorf("the pick %d of %d: %v", pick, many, got.Out)
			}
		}
	}
}

func TestHowManyPicksAreTaken(t *testing.T) {
	const text = "prog var x 0 0 0 9 task 0 task while 1 set x add x 1 end end"
	p := progOf(t, text)
	for picks, want := range map[int]int{0: 0, 1: 0, 2: 1, 1998: 999, 1999: 999, impl.WalkMax: 1000} {
		got := impl.WalkRun(p, times(picks, 0))
		if len(got.Vals) != 1 || got.Vals[0][0] != want || len(got.Tasks[0]) != 1+picks%2 {
			t.Errorf("%d picks: %s", picks, runWord(got))
		}
	}
	// One pick more is refused, however soon nobody could go.
	for _, text := range []string{text, "prog", "prog task end", "prog task show 1 end", "prog task assert 0 end", "prog lock m task lock m lock m end"} {
		p := progOf(t, text)
		for _, many := range []int{impl.WalkMax + 1, impl.WalkMax + 2, 5000, 100000} {
			checkNoRun(t, fmt.Sprintf("%q, %d picks", text, many), impl.WalkRun(p, times(many, 0)))
		}
		if got := impl.WalkRun(p, times(impl.WalkMax, 0)); len(got.Tasks) != len(p.Tasks) || len(got.Holds) != len(p.Locks) {
			t.Errorf("%q, as many picks as may be: %s", text, runWord(got))
		}
	}
}

// What stands behind an end, a fault, or where all wait, is as if it were not picked.
func TestRunsEnd(t *testing.T) {
	for text, steps := range map[string]int{
		"prog":                   0,
		"prog task end task end": 0,
		relay:                    5,
		"prog task show 1 assert 0 show 2 end task show 3 end":                                          2,
		"prog lock m task lock m lock m end task show 1 show 2 end":                                     2,
		"prog var x 0 0 0 9 task 0 chan c 1 0 9 task recv c x end":                                      0,
		"prog chan c 2 0 9 task send c 1 send c 2 send c 3 show 4 end":                                  2,
		"prog lock m lock n task lock m lock n end task lock n lock m end":                              2,
		"prog lock m task lock m end task lock m show 1 end":                                            1,
		"prog var x 0 0 0 9 task 0 task while less x 3 set x add x 1 end show div 1 sub x 3 show 2 end": 8,
	} {
		p := progOf(t, text)
		whole := impl.WalkRun(p, times(steps, 0))
		for _, pick := range []int{0, 1, -1, 5} {
			for _, more := range []int{1, 2, 50} {
				checkRuns(t, text, impl.WalkRun(p, append(times(steps, 0), times(more, pick)...)), whole)
			}
		}
		if goers := goersOf(p, whole); len(goers) > 0 {
			t.Errorf("%q: %d still can go", text, goers)
		}
		if steps > 0 && len(goersOf(p, impl.WalkRun(p, times(steps-1, 0)))) == 0 {
			t.Errorf("%q: ends too soon", text)
		}
	}
	// Two that take two locks in each other's order wait for ever, or not.
	p := progOf(t, "prog lock m lock n task lock m lock n unlock n unlock m end task lock n lock m unlock m unlock n end")
	stuck := impl.WalkRun(p, []int{0, 1, 0, 0, 0, 0, 0, 0, 0, 0})
	if !slices.Equal(stuck.Holds, []int{1, 2}) || stuck.Fault != impl.CalcFine {
		t.Error(runWord(stuck))
	}
	for task := range 2 {
		checkCan(t, "both wait", p, stuck, task, impl.WalkWaits)
	}
	if free := impl.WalkRun(p, times(8, 0)); !slices.Equal(free.Holds, []int{0, 0}) || len(free.Tasks[0])+len(free.Tasks[1]) > 0 {
		t.Error(runWord(free))
	}
}

func goersOf(p impl.Prog, w impl.Walk) []int {
	var can []int
	for task := range p.Tasks {
		if impl.WalkCan(p, w, task) == impl.WalkGoes {
			can = append(can, task)
		}
	}
	return can
}

// The example of the document: what its script says of runs.
func TestRunsOfTheExample(t *testing.T) {
	p := progOf(t, `prog
var x 0 0 0 9 task 0
var s 0 1 1 9 lock m
var a 3 0 0 5 task 1
var i 0 0 0 9 task 1
chan c 2 0 2
lock m
task
while less x 3
send c x
set x add x 1
end
lock m
set s add s x
if less 9 s
set s 9
else
end
unlock m
end
task
recv c i
put a i 5
assert less at a i 6
lock m
show div 9 s
unlock m
end
`)
	if got := impl.WalkRun(p, times(22, 0)); !slices.Equal(got.Out, []int{2}) || got.Fault != impl.CalcFine || len(got.Tasks[0])+len(got.Tasks[1]) > 0 || fmt.Sprint(got.Vals) != "[[3] [4] [5 0 0] [0]]" {
		t.Error(runWord(got))
	}
	if got := impl.WalkRun(p, times(3, 0)); fmt.Sprint(got.Vals) != "[[1] [1] [0 0 0] [0]]" || fmt.Sprint(got.Queues) != "[[0]]" {
		t.Error(runWord(got))
	}
}

// toldRun is a run told apart from the program's own: a task has no frames, but all that it still has to do, a loop standing behind what is in it.
type toldRun struct {
	vals       [][]int
	queues     map[string][]int
	holder     map[string]int
	rest       [][]impl.Stmt
	out        []int
	fault, who int
}

func openTold(p impl.Prog) *toldRun {
	r := &toldRun{queues: map[string][]int{}, holder: map[string]int{}, rest: slices.Clone(p.Tasks)}
	for _, v := range p.Vars {
		r.vals = append(r.vals, times(max(v.Size, 1), v.Init))
	}
	return r
}

func (r *toldRun) can(p impl.Prog, task int) int {
	if r.fault != impl.CalcFine || task < 0 || task >= len(r.rest) || len(r.rest[task]) == 0 {
		return impl.WalkEnds
	}
	waits := false
	switch s := r.rest[task][0]; s.Kind {
	case impl.StmtLock:
		holder, held := r.holder[s.Name]
		waits = held && holder != task
	case impl.StmtSend:
		for _, c := range p.Chans {
			waits = waits || c.Name == s.Name && len(r.queues[c.Name]) > c.Cap-1
		}
	case impl.StmtRecv:
		waits = r.queues[s.Name] == nil
	}
	if waits {
		return impl.WalkWaits
	}
	return impl.WalkGoes
}

func (r *toldRun) goers(p impl.Prog) []int {
	var can []int
	for task := range r.rest {
		if r.can(p, task) == impl.WalkGoes {
			can = append(can, task)
		}
	}
	return can
}

// heldTold is the locks of a task, in any order.
func (r *toldRun) heldTold(task int) []string {
	var held []string
	for lock, holder := range r.holder {
		if holder == task {
			held = append(held, lock)
		}
	}
	return held
}

// calc reckons, if there is no fault yet.
func (r *toldRun) calc(p impl.Prog, task int, e impl.Expr) (n int) {
	if r.fault == impl.CalcFine {
		n, r.fault, _ = runTold(p, r.vals, r.heldTold(task), strings.Fields(impl.TextExpr(e)))
	}
	return n
}

// put writes, if there is no fault yet, and says whether it did.
func (r *toldRun) put(p impl.Prog, task int, name string, place, n int) bool {
	if r.fault != impl.CalcFine {
		return false
	}
	if _, r.fault = touchTold(p, r.vals, r.heldTold(task), name, place); r.fault != impl.CalcFine {
		return false
	}
	for i, v := range p.Vars {
		if v.Name == name && v.Size > 0 && (n < v.Lo || n > v.Hi) {
			r.fault = impl.CalcRange
			return false
		}
		if v.Name == name {
			r.vals[i][place] = n
		}
	}
	return true
}

func (r *toldRun) step(p impl.Prog, task int) {
	s, behind := r.rest[task][0], r.rest[task][1:]
	holder, taken := r.holder[s.Name]
	mine := taken && holder == task
	switch s.Kind {
	case impl.StmtSet:
		r.put(p, task, s.Name, 0, r.calc(p, task, s.E))
	case impl.StmtPut:
		place := r.calc(p, task, s.E)
		r.put(p, task, s.Name, place, r.calc(p, task, s.F))
	case impl.StmtIf:
		if r.calc(p, task, s.E) != 0 {
			behind = slices.Concat(s.A, behind)
		} else {
			behind = slices.Concat(s.B, behind)
		}
	case impl.StmtWhile:
		if r.calc(p, task, s.E) != 0 {
			behind = slices.Concat(s.A, r.rest[task])
		}
	case impl.StmtLock:
		if r.holder[s.Name] = task; mine {
			r.fault = impl.CalcAgain
		}
	case impl.StmtUnlock:
		r.giveBack(p, s.Name, mine)
	case impl.StmtSend:
		n := r.calc(p, task, s.E)
		for _, c := range p.Chans {
			if c.Name == s.Name && r.fault == impl.CalcFine && (n < c.Lo || n > c.Hi) {
				r.fault = impl.CalcRange
			}
		}
		if r.fault == impl.CalcFine {
			r.queues[s.Name] = append(r.queues[s.Name], n)
		}
	case impl.StmtRecv:
		if queue := r.queues[s.Name]; r.put(p, task, s.E.Name, 0, queue[0]) {
			r.queues[s.Name] = append([]int(nil), queue[1:]...)
		}
	case impl.StmtAssert:
		if r.calc(p, task, s.E) == 0 && r.fault == impl.CalcFine {
			r.fault = impl.CalcAssert
		}
	case impl.StmtShow:
		if n := r.calc(p, task, s.E); r.fault == impl.CalcFine {
			r.out = append(r.out, n)
		}
	}
	if r.fault != impl.CalcFine {
		r.who = task
		return
	}
	r.rest[task] = behind
}

func (r *toldRun) giveBack(p impl.Prog, lock string, mine bool) {
	if !mine {
		r.fault = impl.CalcFree
		return
	}
	for i, v := range p.Vars {
		if v.Lock == lock && v.Size == 0 && (r.vals[i][0] < v.Lo || r.vals[i][0] > v.Hi) {
			r.fault = impl.CalcRange
			return
		}
	}
	delete(r.holder, lock)
}

// checkTold holds that a run is as it is told apart.
func checkTold(t *testing.T, what string, p impl.Prog, w impl.Walk, r *toldRun) {
	t.Helper()
	queues, holder := map[string][]int{}, map[string]int{}
	for i, c := range p.Chans {
		queues[c.Name] = w.Queues[i]
	}
	for i, lock := range p.Locks {
		if w.Holds[i] != 0 {
			holder[lock] = w.Holds[i] - 1
		}
	}
	same := sameLists(w.Vals, r.vals) && maps.Equal(holder, r.holder) && slices.Equal(w.Out, r.out) && w.Fault == r.fault && w.Who == r.who && len(w.Tasks) == len(r.rest)
	for name, queue := range queues {
		same = same && slices.Equal(queue, r.queues[name])
	}
	for task, frames := range w.Tasks {
		var rest []impl.Stmt
		for i := len(frames) - 1; i >= 0; i-- {
			rest = append(rest, frames[i].Body[frames[i].At:]...)
		}
		same = same && impl.TreeSame(tasksOf(rest), tasksOf(r.rest[task]))
	}
	if !same {
		t.Fatalf("%s: %snot %+v", what, runWord(w), *r)
	}
}

// field declares, for three tasks, a number of each, an array of the first, and a number and an array behind locks.
const field = `prog
var x 0 1 0 9 task 0
var y 0 2 0 9 task 1
var z 0 0 0 9 task 2
var a 3 4 0 9 task 0
var s 0 2 -2 3 lock m
var r 2 1 0 3 lock n
chan c 1 -2 5
chan d 2 0 9
lock m
lock n
`

// fieldExpr is an expression that a task may name in a field.
func (c *choices) fieldExpr(task, depth int) impl.Expr {
	own := string("xyz"[task])
	pick := c.below(24)
	if depth == 1 {
		pick = c.below(11)
	}
	switch {
	case pick < 5:
		return num(c.below(6) - 1)
	case pick < 10:
		return named(own)
	case pick < 11:
		return named("s")
	case pick < 12:
		return at("r", c.fieldExpr(task, depth-1))
	case pick < 14 && task == 0:
		return at("a", num(c.below(25)/8))
	case pick < 15:
		return not(c.fieldExpr(task, depth-1))
	}
	kinds := []int{impl.ExprAdd, impl.ExprSub, impl.ExprLess, impl.ExprEqual, impl.ExprAnd, impl.ExprOr, impl.ExprMul, impl.ExprDiv}
	return two(kinds[c.below(len(kinds))], c.fieldExpr(task, depth-1), c.fieldExpr(task, depth-1))
}

// fieldList is statements of a task of a field. Most of what is behind locks is touched with the lock held.
func (c *choices) fieldList(task, depth int) []impl.Stmt {
	own, lock := string("xyz"[task]), string("mn"[c.below(2)])
	setting := func(name string, e impl.Expr) impl.Stmt { return impl.Stmt{Kind: impl.StmtSet, Name: name, E: e} }
	putting := func(name string, place int, e impl.Expr) impl.Stmt {
		return impl.Stmt{Kind: impl.StmtPut, Name: name, E: num(place), F: e}
	}
	giving := impl.Stmt{Kind: impl.StmtUnlock, Name: lock}
	var list []impl.Stmt
	for range 1 + c.below(3) {
		pick := c.below(20)
		switch {
		case pick < 3:
			list = append(list, setting(own, c.fieldExpr(task, 2)))
		case pick < 5 && task == 0:
			list = append(list, putting("a", c.below(25)/8, c.fieldExpr(task, 2)))
		case pick < 7 && depth > 0:
			list = append(list, branch(c.fieldExpr(task, 2), c.fieldList(task, depth-1), c.fieldList(task, depth-1)[c.below(2):]))
		case pick < 9 && depth > 0:
			list = append(list, loop(c.fieldExpr(task, 2), c.fieldList(task, depth-1)[c.below(8)/7:]...))
		case pick < 11:
			list = append(list, taking("m"), setting("s", num(c.below(7)-2)), show(named("s")), impl.Stmt{Kind: impl.StmtUnlock, Name: "m"})
		case pick < 13:
			list = append(list, taking("n"), putting("r", c.below(17)/8, num(c.below(5))), show(at("r", num(c.below(2)))), impl.Stmt{Kind: impl.StmtUnlock, Name: "n"})
		case pick < 14:
			odd := [][]impl.Stmt{{taking(lock)}, {taking(lock), taking(lock)}, {giving}, {setting("s", num(1)), putting("r", 1, num(1))}}
			list = append(list, odd[c.below(4)]...)
		case pick < 16:
			list = append(list, impl.Stmt{Kind: impl.StmtSend, Name: string("cd"[c.below(2)]), E: c.fieldExpr(task, 1)})
		case pick < 18:
			list = append(list, impl.Stmt{Kind: impl.StmtRecv, Name: string("cd"[c.below(2)]), E: named([]string{own, own, own, own, "s"}[c.below(5)])})
		case pick < 19:
			list = append(list, impl.Stmt{Kind: impl.StmtAssert, E: two(impl.ExprOr, c.fieldExpr(task, 2), num(c.below(2)))})
		default:
			list = append(list, show(c.fieldExpr(task, 3)))
		}
	}
	return list
}

// fieldProg is a field with one to three tasks that are as ever.
func (c *choices) fieldProg(t *testing.T) impl.Prog {
	t.Helper()
	for {
		p := progOf(t, field+"task end task end task end")
		for task := range p.Tasks {
			if c.below(6) > 0 {
				p.Tasks[task] = c.fieldList(task, 3)
			}
		}
		if impl.TreeOk(p) {
			if impl.ScopeCheck(p) != impl.ScopeFine {
				t.Fatalf("%q", impl.TextOf(p))
			}
			return p
		}
	}
}

// How runs end: with which fault, or else with all done, with some that wait for ever, or with some that still can go.
const (
	allDone = 100 + iota
	forEver
	goesOn
)

func endOf(p impl.Prog, r *toldRun) int {
	if r.fault != impl.CalcFine {
		return r.fault
	}
	end := allDone
	for task := range r.rest {
		switch r.can(p, task) {
		case impl.WalkGoes:
			return goesOn
		case impl.WalkWaits:
			end = forEver
		}
	}
	return end
}

func checkEnds(t *testing.T, count map[int]int, least int) {
	t.Helper()
	for _, end := range []int{impl.CalcAssert, impl.CalcNought, impl.CalcPlace, impl.CalcRange, impl.CalcBare, impl.CalcFree, impl.CalcAgain, allDone, forEver, goesOn} {
		if count[end] < least {
			t.Errorf("only %d runs that end by %d", count[end], end)
		}
	}
}

func TestManyRuns(t *testing.T) {
	c := &choices{seed: 6}
	count := map[int]int{}
	for range 6000 {
		p := c.fieldProg(t)
		r := openTold(p)
		var picks []int
		for range c.below(60) {
			pick := c.below(24) - 12
			picks = append(picks, pick)
			if can := r.goers(p); len(can) > 0 {
				left := new(big.Int).Mod(big.NewInt(int64(pick)), big.NewInt(int64(len(can))))
				r.step(p, can[left.Int64()])
			}
		}
		w := impl.WalkRun(p, picks)
		checkTold(t, fmt.Sprintf("%s by %d", impl.TextOf(p), picks), p, w, r)
		count[endOf(p, r)]++
	}
	checkEnds(t, count, 40)
}

// Promise 6, step by step, with all that a step may not turn.
func TestManySteps(t *testing.T) {
	c := &choices{seed: 66}
	count := map[int]int{}
	waited := 0
	for range 250 {
		p := c.fieldProg(t)
		w, r := impl.WalkOpen(p), openTold(p)
		for range 40 {
			task := c.below(4) - c.below(10)/9
			can := r.can(p, task)
			what := impl.TextOf(p) + runWord(w) + fmt.Sprint("the task ", task)
			checkCan(t, what, p, w, task, can)
			next := impl.WalkStep(p, w, task)
			if can == impl.WalkGoes {
				r.step(p, task)
			} else {
				checkRuns(t, what, next, w)
				waited += can / impl.WalkWaits
			}
			checkTold(t, what, p, next, r)
			checkOthers(t, what, p, w, next, task)
			w = next
			if t.Failed() || w.Fault != impl.CalcFine {
				break
			}
		}
		count[endOf(p, r)]++
	}
	checkEnds(t, count, 3)
	if waited < 250 {
		t.Errorf("only %d that wait", waited)
	}
}

// checkOthers holds that a step of a task leaves all others where they are, that by a fault it leaves all else, and nobody goes then.
func checkOthers(t *testing.T, what string, p impl.Prog, w, next impl.Walk, task int) {
	t.Helper()
	for other := range p.Tasks {
		checkFrames(t, p, other, next)
		if other != task && framesWord(next.Tasks[other]) != framesWord(w.Tasks[other]) {
			t.Errorf("%s: the task %d is elsewhere: %s", what, other, runWord(next))
		}
	}
	if next.Fault == impl.CalcFine {
		return
	}
	w.Fault, w.Who = next.Fault, task
	checkRuns(t, what, next, w)
	for other := range p.Tasks {
		checkCan(t, what, p, next, other, impl.WalkEnds)
		checkRuns(t, what, impl.WalkStep(p, next, other), next)
	}
}

// All lists of three of these statements, run to their end by one task.
func TestAllShortRuns(t *testing.T) {
	stmts := []string{
		"set x add x 2", "set s x", "put a sub x 1 x", "if less x 2 set x 3 else end", "while less x 4 set x add x 1 end", "lock m", "unlock m", "send c add x 3", "recv c x", "recv c s", "assert less x 3", "show x", "show div 6 sub x 3",
		"if s else if x show 1 else show 2 end end", "while x if less x 2 set x 0 else set x sub x 1 end end", "while less 1 x end",
	}
	count := map[int]int{}
	for _, first := range stmts {
		for _, second := range stmts {
			for _, third := range stmts {
				p := progOf(t, field+"task "+first+" "+second+" "+third+" end task end task end")
				r := openTold(p)
				for range 30 {
					if r.can(p, 0) == impl.WalkGoes {
						r.step(p, 0)
					}
				}
				checkTold(t, impl.TextOf(p), p, impl.WalkRun(p, times(30, 0)), r)
				count[endOf(p, r)]++
			}
		}
	}
	checkEnds(t, count, 10)
}

// In all orders of two tasks the lock keeps what is behind it, and the last number is what both did.
func TestAllOrdersOfTwoTasks(t *testing.T) {
	p := progOf(t, "prog var x 0 0 0 9 task 0 var y 0 0 0 9 task 1 var s 0 0 0 9 lock m lock m task lock m set x s set s add x 1 unlock m end task lock m set y s set s add y 1 unlock m end")
	for bits := range 1 << 8 {
		var picks []int
		for i := range 8 {
			picks = append(picks, bits>>i&1)
		}
		w := impl.WalkRun(p, picks)
		if w.Fault != impl.CalcFine || w.Vals[2][0] != 2 || w.Holds[0] != 0 || len(w.Tasks[0])+len(w.Tasks[1]) > 0 || w.Vals[0][0]+w.Vals[1][0] != 1 {
			t.Errorf("%d: %s", picks, runWord(w))
		}
		for n := range 8 {
			if half := impl.WalkRun(p, picks[:n]); len(impl.WalkHeld(p, half, 0))+len(impl.WalkHeld(p, half, 1)) > 1 {
				t.Errorf("%d: %s", picks[:n], runWord(half))
			}
		}
	}
}

// Channels are gone through in order, by whoever sends.
func TestNumbersGoThroughChannelsInOrder(t *testing.T) {
	p := progOf(t, "prog var x 0 0 0 9 task 1 chan c 4 0 9 task send c 1 send c 2 send c 3 send c 4 send c 5 send c 6 end task while 1 recv c x show x end end")
	c := &choices{seed: 7}
	for range 60 {
		w := impl.WalkOpen(p)
		for range 60 {
			w = impl.WalkStep(p, w, c.below(2))
			if len(w.Queues[0]) > 4 || len(w.Out) > 6 {
				t.Fatal(runWord(w))
			}
		}
		if !slices.Equal(w.Out, []int{1, 2, 3, 4, 5, 6}[:len(w.Out)]) || w.Fault != impl.CalcFine || len(w.Out) < 3 {
			t.Fatal(runWord(w))
		}
	}
}

// A step hangs on the run alone: where it is done twice, it is the same, and what came of the first is not turned by the second.
func TestStepsAreOnTheirOwn(t *testing.T) {
	p, w := rail(t)
	first := impl.WalkStep(p, w, 0)
	ahead := allOf(first)
	second := impl.WalkStep(p, w, 0)
	checkRuns(t, "twice", second, first)
	checkNew(t, "twice", second, first, w, p)
	for i := range second.Vals {
		second.Vals[i][0] = 77
		second.Vals[i] = append(second.Vals[i], 1, 2, 3)
	}
	second.Tasks[0][0].Body[1].A[0].E.Name = "q"
	second.Tasks[0][1].Body[0].A = append(second.Tasks[0][1].Body[0].A[:0], show(num(1)))
	second.Queues[0] = append(second.Queues[0][:0], 9, 9, 9, 9)
	second.Holds[0], second.Out[0] = 9, 9
	if allOf(first) != ahead {
		t.Error("what is done to an answer is seen in another one")
	}
	checkRuns(t, "once more", impl.WalkStep(p, w, 0), first)
}

// A list into which a task goes lies in two frames then, and in none of them twice.
func TestFramesShareNoMemory(t *testing.T) {
	p := progOf(t, fullYard("show s"))
	inner := []impl.Stmt{show(fullTree(4))}
	p.Tasks[0] = []impl.Stmt{loop(num(1), loop(num(1), branch(num(1), inner, inner), loop(num(1), inner...)), show(num(1)))}
	w := impl.WalkOpen(p)
	for i := range 12 {
		what := fmt.Sprint("behind ", i, " steps")
		next := impl.WalkStep(p, w, 0)
		checkNew(t, what, next, p, w)
		run := impl.WalkRun(p, times(i+1, 0))
		checkNew(t, what, run, p, w, next)
		checkRuns(t, what, run, next)
		w = next
	}
}

func TestRunsAreKept(t *testing.T) {
	for i := range 8 {
		p, w := rail(t)
		for range i / 2 {
			w = impl.WalkStep(p, w, 0)
		}
		if i%2 == 1 {
			roomBehind(&w)
			p.Tasks[0] = append(p.Tasks[0], impl.Stmt{Kind: 99})[:len(p.Tasks[0])]
			p.Locks = append(p.Locks, "x")[:len(p.Locks)]
		}
		// A list that stands in two frames of what is handed in is not shared in what is answered.
		w.Tasks[1] = append(w.Tasks[1], w.Tasks[1]...)
		picks := append(make([]int, 0, 9), 0, 1, -1, 5)
		for task := -1; task < 4; task++ {
			for what, call := range map[string]func() impl.Walk{
				"WalkOpen": func() impl.Walk { return impl.WalkOpen(p) },
				"WalkHeld": func() impl.Walk { impl.WalkHeld(p, w, task); return impl.Walk{} },
				"WalkCan":  func() impl.Walk { impl.WalkCan(p, w, task); return impl.Walk{} },
				"WalkStep": func() impl.Walk { return impl.WalkStep(p, w, task) },
				"WalkRun":  func() impl.Walk { return impl.WalkRun(p, picks) },
			} {
				var got impl.Walk
				checkKept(t, fmt.Sprint(what, " ", i), func() { got = call() }, p, w, picks)
				checkNew(t, fmt.Sprint(what, " ", i), got, p, w)
			}
		}
	}
	for i, p := range []impl.Prog{spared(), shop(), {}, {Vars: make([]impl.Var, 2, 7)}} {
		checkKept(t, fmt.Sprint("what is not ok ", i), func() {
			checkNoRun(t, "opened", impl.WalkOpen(p))
			checkNoRun(t, "run", impl.WalkRun(p, times(5, 0)))
		}, p)
	}
}

// What holds itself is not right, and each call of it ends.
func TestRunsOfTreesThatHoldThemselves(t *testing.T) {
	list := []impl.Stmt{show(num(1)), {Kind: impl.StmtWhile, E: num(1)}}
	list[1].A = list
	kids := []impl.Expr{named("x"), {Kind: impl.ExprNot}}
	kids[1].Kids = kids[1:]
	for i, body := range [][]impl.Stmt{list, {show(kids[1])}, {branch(num(1), nil, list)}} {
		what := fmt.Sprint("endless ", i)
		p, w := rail(t)
		w.Tasks[0][0] = impl.Frame{Body: body}
		checkCan(t, what, p, w, 0, impl.WalkEnds)
		checkNoRun(t, what, impl.WalkStep(p, w, 0))
		if got := impl.WalkHeld(p, w, 0); len(got) != 1 {
			t.Errorf("%s: %q", what, got)
		}
		p, w = rail(t)
		p.Tasks[1] = body
		checkCan(t, what, p, w, 0, impl.WalkEnds)
		checkNoRun(t, what, impl.WalkStep(p, w, 0))
		checkNoRun(t, what, impl.WalkOpen(p))
		checkNoRun(t, what, impl.WalkRun(p, times(3, 0)))
	}
}

func TestWhatTasksCanIsNumbered(t *testing.T) {
	if got := []int{impl.WalkEnds, impl.WalkGoes, impl.WalkWaits, impl.WalkMax}; !slices.Equal(got, []int{0, 1, 2, 2000}) {
		t.Error(got)
	}
}
