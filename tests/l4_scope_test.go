package tests

import (
	"fmt"
	"slices"
	"strings"
	"testing"

	"loop.example/hedge/impl"
)

// progOf reads a program that must be one.
func progOf(t *testing.T, text string) impl.Prog {
	t.Helper()
	p, ok := impl.TextRead(text)
	if !ok {
		t.Fatalf("%q is no program", text)
	}
	return p
}

func checkScope(t *testing.T, text string, want int) {
	t.Helper()
	p := progOf(t, text)
	if got := impl.ScopeCheck(p); got != want {
		t.Errorf("%q: %d, not %d", text, got, want)
	}
}

// yard declares a number and an array of the first task, of the second one, and behind a lock, two channels and two locks.
const yard = `prog
var x 0 0 0 9 task 0
var a 3 0 0 9 task 0
var y 0 0 0 9 task 1
var b 6 0 0 9 task 1
var s 0 0 0 9 lock m
var r 1 0 0 9 lock n
chan c 1 0 9
chan d 4 0 9
lock m
lock n
`

func TestPlacesOfNames(t *testing.T) {
	p := progOf(t, yard+"task end task end")
	for name, want := range map[string][3]int{
		"x": {0, -1, -1}, "a": {1, -1, -1}, "y": {2, -1, -1}, "b": {3, -1, -1}, "s": {4, -1, -1}, "r": {5, -1, -1},
		"c": {-1, 0, -1}, "d": {-1, 1, -1}, "m": {-1, -1, 0}, "n": {-1, -1, 1},
		"q": {-1, -1, -1}, "": {-1, -1, -1}, "X": {-1, -1, -1}, "xx": {-1, -1, -1}, "x ": {-1, -1, -1}, "set": {-1, -1, -1}, "\xff": {-1, -1, -1},
	} {
		if got := placesIn(p, name); got != want {
			t.Errorf("%q: %v, not %v", name, got, want)
		}
		if got := placesIn(impl.Prog{}, name); got != [3]int{-1, -1, -1} {
			t.Errorf("%q of nothing: %v", name, got)
		}
	}
}

// placesIn is the places of a name among variables, channels and locks.
func placesIn(p impl.Prog, name string) [3]int {
	return [3]int{impl.ScopeVar(p, name), impl.ScopeChan(p, name), impl.ScopeLock(p, name)}
}

func TestTheFirstOfSeveralWithOneName(t *testing.T) {
	p := impl.Prog{
		Vars:  []impl.Var{{Name: "y"}, {Name: "x", Size: 2}, {Name: "x"}, {Name: "y", Lock: "x"}},
		Chans: []impl.Chan{{Name: "z"}, {Name: "y"}, {Name: "x"}, {Name: "y"}, {Name: "x"}},
		Locks: []string{"w", "x", "w", "x", "y"},
	}
	for name, want := range map[string][3]int{"x": {1, 2, 1}, "y": {0, 1, 4}, "z": {-1, 0, -1}, "w": {-1, -1, 0}} {
		if got := placesIn(p, name); got != want {
			t.Errorf("%q: %v, not %v", name, got, want)
		}
	}
}

// Places are told of programs that are not ok as well.
func TestPlacesInWhatIsNotOk(t *testing.T) {
	p := impl.Prog{
		Vars:  []impl.Var{{Name: "X", Size: -9}, {}, {Name: "set", Task: -1}, {}},
		Chans: []impl.Chan{{Name: "abcdefghi", Cap: -1}, {Name: "\xff\x00"}, {}},
		Locks: []string{"m", "end", ""},
		Tasks: [][]impl.Stmt{{{Kind: 99}}},
	}
	for name, want := range map[string][3]int{
		"X": {0, -1, -1}, "": {1, 2, 2}, "set": {2, -1, -1}, "abcdefghi": {-1, 0, -1}, "\xff\x00": {-1, 1, -1}, "\xff": {-1, -1, -1}, "end": {-1, -1, 1}, "m": {-1, -1, 0},
	} {
		if got := placesIn(p, name); got != want {
			t.Errorf("%q: %v, not %v", name, got, want)
		}
	}
	var many impl.Prog
	for i := range 1000 {
		name := fmt.Sprint("n", i%700)
		many.Vars = append(many.Vars, impl.Var{Name: name})
		many.Chans = append(many.Chans, impl.Chan{Name: name})
		many.Locks = append(many.Locks, name)
	}
	for i := range 700 {
		if got := placesIn(many, fmt.Sprint("n", i)); got != [3]int{i, i, i} {
			t.Errorf("the name %d of many: %v", i, got)
		}
	}
	if got := placesIn(many, "n700"); got != [3]int{-1, -1, -1} {
		t.Errorf("none of many: %v", got)
	}
}

func TestWhoMayName(t *testing.T) {
	p := progOf(t, yard+"task end task end task end")
	// In the order of variables: whose each is, and -1 of those behind a lock.
	owners := []int{0, 0, 1, 1, -1, -1}
	for _, task := range []int{-1 << 63, -2, -1, 0, 1, 2, 3, 4, 1 << 40} {
		for v, owner := range owners {
			if got := impl.ScopeMay(p, task, v); got != (owner < 0 || owner == task) {
				t.Errorf("the task %d, the variable %d: %v", task, v, got)
			}
		}
		for _, v := range []int{-1 << 63, -2, -1, 6, 7, 1 << 40, 1<<63 - 1} {
			if impl.ScopeMay(p, task, v) {
				t.Errorf("the task %d, no variable at %d", task, v)
			}
			if impl.ScopeMay(impl.Prog{}, task, v) || impl.ScopeMay(impl.Prog{}, task, 0) {
				t.Errorf("the task %d, no variables, %d", task, v)
			}
		}
	}
	// Behind the end of a list there is no variable, though there be room with some.
	p.Vars = p.Vars[:2]
	if impl.ScopeMay(p, 0, 4) || impl.ScopeMay(p, 1, 2) || !impl.ScopeMay(p, 0, 1) {
		t.Error("behind the end")
	}
	// Whether the program is ok is not asked: just the lock and the Task are.
	odd := impl.Prog{Vars: []impl.Var{{Task: -3}, {Lock: "?", Task: 7}, {Name: "x", Task: 9}}}
	for _, c := range []struct {
		task, v int
		want    bool
	}{{-3, 0, true}, {3, 0, false}, {0, 0, false}, {7, 1, true}, {0, 1, true}, {-5, 1, true}, {9, 2, true}, {0, 2, false}} {
		if got := impl.ScopeMay(odd, c.task, c.v); got != c.want {
			t.Errorf("the task %d, the variable %d: %v", c.task, c.v, got)
		}
	}
}

func TestNothingIsWrong(t *testing.T) {
	for _, text := range []string{
		"prog", "prog task end", "prog task end task end task end task end", "prog lock m", "prog chan c 1 0 9", "prog task show 1 end",
		"prog var x 0 0 0 9 task 0", "prog var x 0 0 0 9 lock m lock m", "prog lock m var x 0 0 0 9 lock m var y 2 0 0 9 lock m",
		"prog task set x 1 end var x 0 0 0 9 task 0", "prog task end task set x at y 0 end var x 0 0 0 9 task 1 var y 1 0 0 9 task 1",
		"prog lock m task lock m end task unlock m lock m unlock m end", "prog chan c 1 0 9 task send c 1 end",
		yard + "task end task end", yard + "task set x add x at a x put a x at a at a x end task set y at b y put b y y end",
		yard + "task lock m set s x unlock m lock n put r 0 x unlock n end task show s show at r y end",
		yard + "task send c x recv d x recv d s end task recv c y send d s recv c s end",
		yard + "task show x assert x if x else end while x end end task assert at b s end task show s put r s at r 0 end task lock m unlock n recv c s end",
		yard + "task while x if x while s if at a x set x x else set s x end end else put a x x recv c x end send c x end end task if y if y if y if y set y y else lock m end else unlock n end else send d y end else recv d y end end",
		// No word is kept from a name because other things are told by it.
		"prog var none 0 0 0 9 task 0 chan fine 1 0 9 lock holds task set none none lock holds send fine none end",
	} {
		checkScope(t, text, impl.ScopeFine)
	}
	for i, p := range []impl.Prog{{}, {Vars: []impl.Var{}, Chans: []impl.Chan{}, Locks: []string{}, Tasks: [][]impl.Stmt{}}, tasksOf(nil, []impl.Stmt{})} {
		if got := impl.ScopeCheck(p); got != impl.ScopeFine {
			t.Errorf("nothing at all, %d: %d", i, got)
		}
	}
}

// fullYard is a program at all limits of how much it may have, with one statement more at each task's end.
func fullYard(last string) string {
	deep := strings.Repeat("if x while s ", 2) + "show add x at a s " + strings.Repeat("end else end ", 2)
	body := strings.Repeat("put a x s ", 34) + deep
	other := strings.ReplaceAll(strings.ReplaceAll(body, "a ", "r "), "x ", "s ")
	return yard + "chan e 1 0 9 lock o task " + body + last + " end" + strings.Repeat(" task "+other+last+" end", 3)
}

func TestNamesAtAllLimits(t *testing.T) {
	for last, want := range map[string]int{
		"show s": impl.ScopeFine, "lock o": impl.ScopeFine, "recv e s": impl.ScopeFine,
		"show x": impl.ScopeOwner, "show at a 1": impl.ScopeOwner, "show r": impl.ScopeNone, "lock p": impl.ScopeNone, "recv f s": impl.ScopeNone, "recv e r": impl.ScopeNone,
	} {
		p := progOf(t, fullYard(last))
		for i, list := range p.Tasks {
			if len(impl.TreeStmtsOf(list)) != impl.TreeStmts {
				t.Fatalf("%d statements of the task %d", len(impl.TreeStmtsOf(list)), i)
			}
		}
		if len(p.Vars) != impl.TreeVars || len(p.Chans) != impl.TreeChans || len(p.Locks) != impl.TreeLocks || len(p.Tasks) != impl.TreeTasks {
			t.Fatal("not at all limits")
		}
		if got := impl.ScopeCheck(p); got != want {
			t.Errorf("%q: %d, not %d", last, got, want)
		}
	}
}

// meanings has, for a name of yard, what comes of it where a number, an array, a channel or a lock must be named by the first task.
func meanings() map[string][4]int {
	const fine, none, owner = impl.ScopeFine, impl.ScopeNone, impl.ScopeOwner
	return map[string][4]int{
		"x": {fine, none, none, none},
		"a": {none, fine, none, none},
		"y": {owner, none, none, none},
		"b": {none, owner, none, none},
		"s": {fine, none, none, none},
		"r": {none, fine, none, none},
		"c": {none, none, fine, none},
		"d": {none, none, fine, none},
		"m": {none, none, none, fine},
		"n": {none, none, none, fine},
		"q": {none, none, none, none},
	}
}

// usedAs has, for each of what a name must stand for, statements that use one so, alone.
func usedAs() [4][]string {
	return [4][]string{
		{
			"set # 1", "set x #", "set s #", "set # at a 0", "put a # 1", "put a 1 #", "put r # #", "if # else end", "while # end", "send c #", "recv c #", "assert #", "show #",
			"show at a #", "show not #", "show add # 1", "show add 1 #", "show sub 1 #", "show mul # 1", "show div 1 #", "show less # 1", "show equal 1 #", "show and 0 #", "show or 1 #",
			"show not not not not not #", "show at a at a at a at a at a #", "show add add add add add 1 1 1 1 1 #", "set x add at a 1 mul 2 not #",
		},
		{
			"put # 1 1", "put # x s", "show at # 1", "set x at # x", "put a at # 0 1", "put a 1 at # 0", "put # at # 0 at # 1", "if at # 1 else end", "while at # 1 end", "send c at # 1", "assert at # 1",
			"show at a at # 1", "show at # at a 1", "show not not not not at # 1", "show add 1 at # 1", "show or at # 1 x",
		},
		{"send # 1", "send # x", "recv # x", "recv # s"},
		{"lock #", "unlock #"},
	}
}

// around has what a statement can stand in, or beside.
func around() []string {
	return []string{
		"#", "show 1 #", "# show 1", "set x 1 lock m # unlock m", "if 1 # else end", "if 1 else # end", "while 1 # end", "if 1 show 1 else show 2 end #", "while 0 end #",
		"if x if x if x if x # else end else end else end else end", "if x else if x else if x else if x else # end end end end", "while x while x while x while x # end end end end",
		"while x if x show x else while x # end end end", "if 1 show x # show x else show x end",
	}
}

func TestWhatNamesMustStandFor(t *testing.T) {
	for kind, forms := range usedAs() {
		for _, form := range forms {
			for _, outer := range around() {
				for name, codes := range meanings() {
					stmt := strings.ReplaceAll(form, "#", name)
					checkScope(t, yard+"task "+strings.ReplaceAll(outer, "#", stmt)+" end task end", codes[kind])
				}
			}
		}
	}
}

// The second task may name what the first may not, and the other way round; tasks that own nothing may name what is behind locks alone.
func TestWhatEachTaskMayName(t *testing.T) {
	const fine, none, owner = impl.ScopeFine, impl.ScopeNone, impl.ScopeOwner
	for stmt, want := range map[string][4]int{
		"show x":      {fine, owner, owner, owner},
		"set x 1":     {fine, owner, owner, owner},
		"recv c x":    {fine, owner, owner, owner},
		"show at a 1": {fine, owner, owner, owner},
		"put a 1 1":   {fine, owner, owner, owner},
		"show y":      {owner, fine, owner, owner},
		"set y 1":     {owner, fine, owner, owner},
		"recv c y":    {owner, fine, owner, owner},
		"show at b 1": {owner, fine, owner, owner},
		"put b 1 1":   {owner, fine, owner, owner},
		"show s":      {fine, fine, fine, fine},
		"set s 1":     {fine, fine, fine, fine},
		"put r 1 1":   {fine, fine, fine, fine},
		"lock m":      {fine, fine, fine, fine},
		"send c 1":    {fine, fine, fine, fine},
		"show r":      {none, none, none, none},
		"show q":      {none, none, none, none},
		"set a 1":     {none, none, none, none},
		"put x 1 1":   {none, none, none, none},
		"put y 1 1":   {none, none, none, none},
	} {
		for task, code := range want {
			tasks := times(4, "task end ")
			tasks[task] = "task " + stmt + " end "
			checkScope(t, yard+strings.Join(tasks, ""), code)
		}
	}
}

func TestNoVariables(t *testing.T) {
	for _, stmt := range []string{"show x", "set x 1", "put x 1 1", "show at x 1", "lock x", "unlock x", "send x 1", "recv x x"} {
		checkScope(t, "prog task "+stmt+" end", impl.ScopeNone)
		checkScope(t, "prog task end task show 1 end task "+stmt+" end", impl.ScopeNone)
	}
	checkScope(t, "prog lock m chan c 1 0 9 task lock m send c 1 unlock m end", impl.ScopeFine)
	checkScope(t, "prog lock m chan c 1 0 9 task recv c m end", impl.ScopeNone)
	checkScope(t, "prog lock m chan c 1 0 9 task recv c c end", impl.ScopeNone)
	checkScope(t, "prog lock m chan c 1 0 9 task show at c m end", impl.ScopeNone)
}

func TestTwoWithOneName(t *testing.T) {
	parts := []string{"var # 0 0 0 9 task 0 ", "var # 2 0 0 9 task 0 ", "var # 0 0 0 9 lock k ", "var # 2 0 0 9 lock k ", "chan # 1 0 9 ", "lock # "}
	for _, a := range parts {
		for _, b := range parts {
			one, other := strings.Replace(a, "#", "x", 1), strings.Replace(b, "#", "x", 1)
			checkScope(t, "prog lock k "+one+other, impl.ScopeTwice)
			checkScope(t, "prog lock k "+one+"var y 0 0 0 9 task 0 chan z 1 0 9 "+other+"task end", impl.ScopeTwice)
			checkScope(t, "prog lock k "+one+strings.Replace(b, "#", "xx", 1), impl.ScopeFine)
			// Ahead of a lock that is none, and of names that are wrong in statements.
			checkScope(t, "prog lock k var y 0 0 0 9 lock none "+one+other, impl.ScopeTwice)
			checkScope(t, "prog lock k var w 0 0 0 9 task 1 "+one+other+"task show none show w lock x end task end", impl.ScopeTwice)
		}
	}
	checkScope(t, "prog lock x var x 0 0 0 9 lock x", impl.ScopeTwice)
	checkScope(t, "prog lock m lock n lock m", impl.ScopeTwice)
	checkScope(t, "prog var u 0 0 0 9 task 0 var v 0 0 0 9 task 0 var w 0 0 0 9 task 0 var x 0 0 0 9 task 0 var y 0 0 0 9 task 0 var y 0 0 0 9 task 0", impl.ScopeTwice)
}

func TestLocksOfVariablesThatAreNone(t *testing.T) {
	for _, text := range []string{
		"prog var x 0 0 0 9 lock m", "prog var x 0 0 0 9 lock x", "prog var x 2 0 0 9 lock m task end", "prog lock n var x 0 0 0 9 lock m", "prog lock mm var x 0 0 0 9 lock m",
		"prog chan m 1 0 9 var x 0 0 0 9 lock m", "prog var m 0 0 0 9 task 0 var x 0 0 0 9 lock m", "prog lock m var x 0 0 0 9 lock m var y 0 0 0 9 lock n",
		"prog lock n var x 0 0 0 9 lock m var y 0 0 0 9 lock n", "prog lock n var y 0 0 0 9 task 0 var x 0 0 0 9 lock m",
		// Ahead of what is wrong in statements.
		"prog var x 0 0 0 9 lock m var y 0 0 0 9 task 1 task show y end task end", "prog var x 0 0 0 9 lock m task set x 1 end",
	} {
		checkScope(t, text, impl.ScopeNone)
	}
}

// A program that is not ok is so ahead of all else.
func TestProgramsThatAreNotOkAreOfNoForm(t *testing.T) {
	turns := []func(p *impl.Prog){
		func(p *impl.Prog) { p.Vars[0].Name = "set" },
		func(p *impl.Prog) { p.Vars[0].Name = "" },
		func(p *impl.Prog) { p.Vars[0].Size = 7 },
		func(p *impl.Prog) { p.Vars[0].Size = -1 },
		func(p *impl.Prog) { p.Vars[0].Init = 10 },
		func(p *impl.Prog) { p.Vars[0].Lo = 10 },
		func(p *impl.Prog) { p.Vars[0].Hi = most + 1 },
		func(p *impl.Prog) { p.Vars[0].Task = 2 },
		func(p *impl.Prog) { p.Vars[0].Task = -1 },
		func(p *impl.Prog) { p.Vars[4].Task = 1 },
		func(p *impl.Prog) { p.Vars[4].Lock = "lock" },
		func(p *impl.Prog) { p.Vars = append(p.Vars, impl.Var{Name: "z"}) },
		func(p *impl.Prog) { p.Chans[0].Name = "C" },
		func(p *impl.Prog) { p.Chans[0].Cap = 0 },
		func(p *impl.Prog) { p.Chans[0].Lo = 10 },
		func(p *impl.Prog) { p.Chans = append(p.Chans, times(2, impl.Chan{Name: "f", Cap: 1})...) },
		func(p *impl.Prog) { p.Locks[0] = "abcdefg" },
		func(p *impl.Prog) { p.Locks = append(p.Locks, "p", "q") },
		func(p *impl.Prog) { p.Tasks = append(p.Tasks, nil, nil, nil) },
		func(p *impl.Prog) { p.Tasks[1] = times(41, show(num(1))) },
		func(p *impl.Prog) { p.Tasks[1] = []impl.Stmt{{}} },
		func(p *impl.Prog) { p.Tasks[1] = []impl.Stmt{show(deepNot(7))} },
		func(p *impl.Prog) { p.Tasks[1] = []impl.Stmt{show(named("set"))} },
		func(p *impl.Prog) { p.Tasks[1] = []impl.Stmt{{Kind: impl.StmtRecv, Name: "c", E: at("a", num(1))}} },
		func(p *impl.Prog) {
			p.Tasks[1] = []impl.Stmt{deepStmt(5, func(s impl.Stmt) impl.Stmt { return loop(num(1), s) })}
		},
	}
	texts := []string{
		yard + "task end task end",
		yard + "task show q end task end",
		yard + "task show y end task end",
		strings.Replace(yard, "lock m\n", "lock o\n", 1) + "task end task end",
		strings.Replace(yard, "chan d", "chan x", 1) + "task end task end",
	}
	for i, turn := range turns {
		for _, text := range texts {
			p := progOf(t, text)
			turn(&p)
			if got := impl.ScopeCheck(p); got != impl.ScopeForm {
				t.Errorf("%d of %q: %d", i, text, got)
			}
		}
	}
	// What the texts are without these turns: of each other code one.
	for i, text := range texts {
		checkScope(t, text, []int{impl.ScopeFine, impl.ScopeNone, impl.ScopeOwner, impl.ScopeNone, impl.ScopeTwice}[i])
	}
}

// slot is a place for a name in a text of statements, with one that is right there, and, if there is one, another task's of the same kind.
type slot struct{ right, owned string }

// slotted tells the statements and their slots; the words of a text are in just the order in which names are asked.
func slotted() (string, []slot) {
	number, array, channel, lock := slot{"x", "y"}, slot{"a", "b"}, slot{"c", ""}, slot{"m", ""}
	text := `set # add at # # mul # not #
put # sub # at # # at # div # #
if less at # # # lock # while and # # send # or # # put # # # end else recv # # unlock # if # else show at # # end end
assert equal # # while # end recv # #`
	return text, []slot{
		number, array, number, number, number,
		array, number, array, number, array, number, number,
		array, number, number, lock, number, number, channel, number, number, array, number, number, channel, number, lock, number, array, number,
		number, number, number, channel, number,
	}
}

// fill is the text with these names in the places of the signs, in order.
func fill(text string, names []string) string {
	for _, name := range names {
		text = strings.Replace(text, "#", name, 1)
	}
	return text
}

func TestTheFirstWrongName(t *testing.T) {
	text, slots := slotted()
	right := make([]string, len(slots))
	for i, s := range slots {
		right[i] = s.right
	}
	if strings.Count(text, "#") != len(slots) {
		t.Fatalf("%d slots", strings.Count(text, "#"))
	}
	check := func(names []string, want int) {
		t.Helper()
		body := fill(text, names)
		checkScope(t, yard+"task "+body+" end task end", want)
		checkScope(t, yard+"task while x "+body+" end end task end", want)
	}
	check(right, impl.ScopeFine)
	for i, first := range slots {
		for j := i + 1; j < len(slots); j++ {
			names := slices.Clone(right)
			names[i], names[j] = "q", slots[j].owned
			if slots[j].owned != "" {
				check(names, impl.ScopeNone)
			}
			names[i], names[j] = first.owned, "q"
			if first.owned != "" {
				check(names, impl.ScopeOwner)
			}
		}
	}
}

func TestTheFirstTaskWithAWrongName(t *testing.T) {
	stmts := map[int][]string{
		impl.ScopeFine:  {"", "show s", "lock m send c s"},
		impl.ScopeNone:  {"show q", "show s show q show at b 0", "lock c"},
		impl.ScopeOwner: {"show $", "show s show $ show q", "if 1 while 1 set $ 1 end else end lock q"},
	}
	check := func(a, b string, want int) {
		t.Helper()
		first, second := strings.ReplaceAll(a, "$", "y"), strings.ReplaceAll(b, "$", "x")
		checkScope(t, yard+"task "+first+" end task "+second+" end", want)
	}
	for one, firsts := range stmts {
		for other, seconds := range stmts {
			want := one
			if one == impl.ScopeFine {
				want = other
			}
			for _, a := range firsts {
				for _, b := range seconds {
					check(a, b, want)
				}
			}
		}
	}
}

// namesOf is all parts of expressions that have a name, from the outside in and from left to right.
func namesOf(list ...impl.Expr) []impl.Expr {
	var all []impl.Expr
	for len(list) > 0 {
		e := list[0]
		if e.Name != "" {
			all = append(all, e)
		}
		list = slices.Concat(e.Kids, list[1:])
	}
	return all
}

// scopeTold is told apart from the program's own: each name is looked for in all lists.
func scopeTold(p impl.Prog) int {
	if !impl.TreeOk(p) {
		return impl.ScopeForm
	}
	for _, n := range declared(p) {
		if n > 1 {
			return impl.ScopeTwice
		}
	}
	for _, v := range p.Vars {
		if v.Lock != "" && !slices.Contains(p.Locks, v.Lock) {
			return impl.ScopeNone
		}
	}
	for task, list := range p.Tasks {
		for _, s := range flat(list) {
			if code := stmtTold(p, task, s); code != impl.ScopeFine {
				return code
			}
		}
	}
	return impl.ScopeFine
}

// declared counts how many variables, channels and locks have each name.
func declared(p impl.Prog) map[string]int {
	count := map[string]int{}
	for _, v := range p.Vars {
		count[v.Name]++
	}
	for _, c := range p.Chans {
		count[c.Name]++
	}
	for _, lock := range p.Locks {
		count[lock]++
	}
	return count
}

func stmtTold(p impl.Prog, task int, s impl.Stmt) int {
	parts := namesOf(s.E, s.F)
	switch s.Kind {
	case impl.StmtSet:
		parts = append([]impl.Expr{named(s.Name)}, parts...)
	case impl.StmtPut:
		parts = append([]impl.Expr{at(s.Name, num(0))}, parts...)
	case impl.StmtLock, impl.StmtUnlock:
		if !slices.Contains(p.Locks, s.Name) {
			return impl.ScopeNone
		}
	case impl.StmtSend, impl.StmtRecv:
		if !slices.ContainsFunc(p.Chans, func(c impl.Chan) bool { return c.Name == s.Name }) {
			return impl.ScopeNone
		}
	}
	for _, e := range parts {
		code := impl.ScopeNone
		for _, v := range p.Vars {
			if v.Name == e.Name && (v.Size > 0) == (e.Kind == impl.ExprAt) {
				code = impl.ScopeOwner
				if v.Lock != "" || v.Task == task {
					code = impl.ScopeFine
				}
			}
		}
		if code != impl.ScopeFine {
			return code
		}
	}
	return impl.ScopeFine
}

// renamed is the expression with a name that is picked in the place of each that it has.
func renamed(e impl.Expr, pick func(array bool) string) impl.Expr {
	if e.Name != "" {
		e.Name = pick(e.Kind == impl.ExprAt)
	}
	kids := e.Kids
	e.Kids = nil
	for _, kid := range kids {
		e.Kids = append(e.Kids, renamed(kid, pick))
	}
	return e
}

// scoped makes a program in which most names stand for what they must.
func (c *choices) scoped() impl.Prog {
	var p impl.Prog
	p.Tasks = make([][]impl.Stmt, 1+c.below(4))
	for i := range 6 {
		v := impl.Var{Name: string(rune('u' + i)), Size: i % 2 * 3}
		if v.Task = c.below(len(p.Tasks)); i < 2 || c.below(3) == 0 {
			v.Lock, v.Task = string(rune('m'+c.below(2))), 0
		}
		p.Vars = append(p.Vars, v)
	}
	p.Chans = []impl.Chan{{Name: "c", Cap: 1}, {Name: "d", Cap: 2}}
	p.Locks = []string{"m", "n"}
	for task := range p.Tasks {
		p.Tasks[task] = c.fitted(p, task, c.list(4))
	}
	switch c.below(12) {
	case 0:
		p.Vars[c.below(6)].Name = []string{"u", "z", "c", "m", "q"}[c.below(5)]
	case 1:
		p.Locks[c.below(2)] = []string{"d", "o", "u"}[c.below(3)]
	case 2:
		p.Vars[c.below(6)].Size = 7 - 7*c.below(2)
	}
	return p
}

// fitted is the statements with names that fit, but for a few.
func (c *choices) fitted(p impl.Prog, task int, list []impl.Stmt) []impl.Stmt {
	pick := func(array bool) string {
		for {
			v := c.below(len(p.Vars))
			odd := c.below(150)
			if odd == 0 {
				return []string{"c", "n", "q"}[c.below(3)]
			}
			if odd == 1 || (p.Vars[v].Size > 0) == array && (odd == 2 || p.Vars[v].Lock != "" || p.Vars[v].Task == task) {
				return p.Vars[v].Name
			}
		}
	}
	among := func(names string) string { return string(names[c.below(len(names))]) }
	var all []impl.Stmt
	for _, s := range list {
		s.E, s.F = renamed(s.E, pick), renamed(s.F, pick)
		s.A, s.B = c.fitted(p, task, s.A), c.fitted(p, task, s.B)
		switch s.Kind {
		case impl.StmtSet, impl.StmtPut:
			s.Name = pick(s.Kind == impl.StmtPut)
		case impl.StmtLock, impl.StmtUnlock:
			s.Name = among("mnmnmnmnmnmnmnmnmnmnmnmnmnmnmnmnmnmc")
		case impl.StmtSend, impl.StmtRecv:
			s.Name = among("cdcdcdcdcdcdcdcdcdcdcdcdcdcdcdcdcdcm")
		}
		all = append(all, s)
	}
	return all
}

func TestCodesOfManyPrograms(t *testing.T) {
	c := &choices{seed: 44}
	count := map[int]int{}
	for range 6000 {
		p := c.scoped()
		want := scopeTold(p)
		if got := impl.ScopeCheck(p); got != want || impl.ScopeCheck(p) != want {
			t.Fatalf("%q: %d, not %d", impl.TextOf(p), got, want)
		}
		count[want]++
	}
	for code := impl.ScopeFine; code <= impl.ScopeOwner; code++ {
		if count[code] < 50 {
			t.Errorf("only %d programs with the code %d", count[code], code)
		}
	}
}

// Promise 4.
func TestEachNameStandsForOneThing(t *testing.T) {
	c := &choices{seed: 4}
	fine, names := 0, 0
	for range 6000 {
		p := c.scoped()
		if impl.ScopeCheck(p) != impl.ScopeFine {
			continue
		}
		fine++
		for name, n := range declared(p) {
			kinds := 0
			for _, place := range placesIn(p, name) {
				if place >= 0 {
					kinds++
				}
			}
			if n != 1 || kinds != 1 {
				t.Fatalf("%q: the name %q stands for %d things", impl.TextOf(p), name, n)
			}
		}
		for task, list := range p.Tasks {
			for _, s := range flat(list) {
				names += checkNamed(t, p, task, s)
			}
		}
	}
	if fine < 1000 || names < 5000 {
		t.Errorf("only %d programs of which nothing is wrong, with %d names", fine, names)
	}
}

// checkNamed holds that each name of a statement stands for something that the task may name, and counts these names.
func checkNamed(t *testing.T, p impl.Prog, task int, s impl.Stmt) int {
	t.Helper()
	all := namesOf(s.E, s.F)
	switch s.Kind {
	case impl.StmtSet:
		all = append(all, named(s.Name))
	case impl.StmtPut:
		all = append(all, at(s.Name, num(0)))
	case impl.StmtLock, impl.StmtUnlock:
		if impl.ScopeLock(p, s.Name) < 0 {
			t.Fatalf("%q: the lock %q", impl.TextOf(p), s.Name)
		}
	case impl.StmtSend, impl.StmtRecv:
		if impl.ScopeChan(p, s.Name) < 0 {
			t.Fatalf("%q: the channel %q", impl.TextOf(p), s.Name)
		}
	}
	for _, e := range all {
		v := impl.ScopeVar(p, e.Name)
		if v < 0 || (p.Vars[v].Size > 0) != (e.Kind == impl.ExprAt) || p.Vars[v].Lock == "" && p.Vars[v].Task != task {
			t.Fatalf("%q: the variable %q of the task %d", impl.TextOf(p), e.Name, task)
		}
	}
	return len(all)
}

// scopeCalls is all calls of the chapter, of a program.
func scopeCalls(p impl.Prog) map[string]func() {
	return map[string]func(){
		"ScopeVar":   func() { impl.ScopeVar(p, "x") },
		"ScopeChan":  func() { impl.ScopeChan(p, "c") },
		"ScopeLock":  func() { impl.ScopeLock(p, "m") },
		"ScopeMay":   func() { impl.ScopeMay(p, 0, 0) },
		"ScopeCheck": func() { impl.ScopeCheck(p) },
	}
}

func TestProgramsThatAreCheckedAreKept(t *testing.T) {
	roomy := progOf(t, fullYard("show s"))
	roomy.Vars = append(make([]impl.Var, 0, 9), roomy.Vars...)
	roomy.Locks = append(make([]string, 0, 9), roomy.Locks...)
	for i, p := range []impl.Prog{spared(), shop(), roomy, {}, {Vars: []impl.Var{{Name: "set"}}, Locks: make([]string, 2, 7)}} {
		for what, call := range scopeCalls(p) {
			checkKept(t, fmt.Sprint(what, " ", i), call, p)
		}
	}
	// No answer hangs on what lies behind the end of a list.
	p := progOf(t, yard+"task show x end task end")
	p.Vars = append(p.Vars, impl.Var{Name: "x"})[:6]
	p.Locks = append(p.Locks, "x", "")[:2]
	p.Tasks[0] = append(p.Tasks[0], show(named("q")))[:1]
	if got := impl.ScopeCheck(p); got != impl.ScopeFine {
		t.Errorf("behind the ends: %d", got)
	}
}

// What holds itself is not ok, and each call of it ends.
func TestScopesOfTreesThatHoldThemselves(t *testing.T) {
	kids := []impl.Expr{named("x"), {Kind: impl.ExprNot}}
	kids[1].Kids = kids[1:]
	list := []impl.Stmt{show(named("x")), {Kind: impl.StmtWhile, E: num(1)}}
	list[1].A = list
	for i, body := range [][]impl.Stmt{list, {show(kids[1])}, {branch(num(1), nil, list)}, {{Kind: impl.StmtPut, Name: "a", E: num(0), F: kids[1]}}} {
		p := impl.Prog{Vars: []impl.Var{{Name: "x"}, {Name: "a", Size: 1}}, Tasks: [][]impl.Stmt{body}}
		if impl.ScopeCheck(p) != impl.ScopeForm || impl.ScopeVar(p, "a") != 1 || impl.ScopeChan(p, "a") != -1 || impl.ScopeLock(p, "a") != -1 || !impl.ScopeMay(p, 0, 1) {
			t.Errorf("%d", i)
		}
	}
}
