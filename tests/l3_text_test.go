package tests

import (
	"fmt"
	"reflect"
	"slices"
	"strings"
	"testing"
	"unsafe"

	"loop.example/hedge/impl"
)

func parted(c rune) bool { return c == ' ' || c == '\n' }

func TestWordsOfAText(t *testing.T) {
	for text, want := range map[string][]string{
		"":                    {},
		" ":                   {},
		"\n":                  {},
		" \n\n  \n ":          {},
		"a":                   {"a"},
		" a":                  {"a"},
		"a\n":                 {"a"},
		"set x 1":             {"set", "x", "1"},
		"\n set  x\n\n 1 \n ": {"set", "x", "1"},
		"a\tb c\rd":           {"a\tb", "c\rd"},
		"\t \r\n\v\f":         {"\t", "\r", "\v\f"},
		"a\x00b \x00":         {"a\x00b", "\x00"},
		"é\u00a0ü \u2003x":    {"é\u00a0ü", "\u2003x"},
		"\xff \xfe\xfd\n\x80": {"\xff", "\xfe\xfd", "\x80"},
		"prog prog prog":      {"prog", "prog", "prog"},
	} {
		if got := impl.TextWords(text); !slices.Equal(got, want) {
			t.Errorf("%q: %q", text, got)
		}
	}
	c := &choices{seed: 31}
	for range 2000 {
		bytes := make([]byte, c.below(30))
		for i := range bytes {
			bytes[i] = " \n\tab\x00\xc3\xa9\xff"[c.below(9)]
		}
		text := string(bytes)
		if got := impl.TextWords(text); !slices.Equal(got, strings.FieldsFunc(text, parted)) {
			t.Fatalf("%q: %q", text, got)
		}
	}
	// How much is split into words is not bounded.
	if got := impl.TextWords(strings.Repeat("ab ", impl.TextMax)); len(got) != impl.TextMax {
		t.Errorf("a long text: %d", len(got))
	}
}

// toldExprs has expressions of each kind, and how they are told.
func toldExprs() map[string]impl.Expr {
	told := map[string]impl.Expr{
		"0":                   num(0),
		"7":                   num(7),
		"-12":                 num(-12),
		"1000000":             num(most),
		"-1000000":            num(-most),
		"x":                   named("x"),
		"abcdef":              named("abcdef"),
		"none":                named("none"),
		"at a 0":              at("a", num(0)),
		"at a sub 1 x":        at("a", two(impl.ExprSub, num(1), named("x"))),
		"not x":               not(named("x")),
		"not not at a at b 2": not(not(at("a", at("b", num(2))))),
		"add mul 2 x div y -3": two(impl.ExprAdd, two(impl.ExprMul, num(2), named("x")),
			two(impl.ExprDiv, named("y"), num(-3))),
		"or and less x 1 equal y 2 not z": two(impl.ExprOr, two(impl.ExprAnd, two(impl.ExprLess, named("x"), num(1)),
			two(impl.ExprEqual, named("y"), num(2))), not(named("z"))),
	}
	for i, word := range strings.Fields("add sub mul div less equal and or") {
		told[word+" x 3"] = two(impl.ExprAdd+i, named("x"), num(3))
	}
	return told
}

func TestExpressionsAreToldAndRead(t *testing.T) {
	for text, e := range toldExprs() {
		if got := impl.TextExpr(e); got != text {
			t.Errorf("told %q, not %q", got, text)
		}
		for _, spaced := range []string{text, " " + text, text + "\n", "\n\n " + strings.ReplaceAll(text, " ", "\n  \n") + "  \n"} {
			if got, ok := impl.TextExprRead(spaced); !ok || !reflect.DeepEqual(got, e) {
				t.Errorf("%q: %+v %v", spaced, got, ok)
			}
		}
	}
}

// Promise 3, of expressions.
func TestExpressionsAreReadAsTold(t *testing.T) {
	c := &choices{seed: 3}
	for range 3000 {
		e := c.expr(6)
		text := impl.TextExpr(e)
		got, ok := impl.TextExprRead(text)
		if !ok || !reflect.DeepEqual(got, e) || impl.TextExpr(got) != text {
			t.Fatalf("%q: %+v %v", text, got, ok)
		}
	}
}

func TestOddExpressionsAreTold(t *testing.T) {
	for _, c := range []struct {
		e    impl.Expr
		want string
	}{
		{impl.Expr{}, "none"},
		{impl.Expr{Kind: 13}, "none"},
		{impl.Expr{Kind: -1, Num: 3, Name: "x", Kids: times(2, num(1))}, "none"},
		{impl.Expr{Kind: 1 << 40}, "none"},
		{impl.Expr{Kind: -1 << 63}, "none"},
		{not(impl.Expr{}), "not none"},
		{two(impl.ExprAdd, impl.Expr{Kind: 99, Kids: times(1, num(1))}, num(2)), "add none 2"},
		{impl.Expr{Kind: impl.ExprNum, Num: 4, Name: "x", Kids: times(2, num(1))}, "4"},
		{num(most + 1), "1000001"},
		{num(-most - 1), "-1000001"},
		{num(-1 << 63), "-9223372036854775808"},
		{impl.Expr{Kind: impl.ExprVar, Num: 4, Name: "x", Kids: times(2, num(1))}, "x"},
		{named("set"), "set"},
		{named("a b"), "a b"},
		{named(""), ""},
		{impl.Expr{Kind: impl.ExprAt, Name: "a"}, "at a"},
		{impl.Expr{Kind: impl.ExprAt, Kids: times(1, num(1))}, "at  1"},
		{impl.Expr{Kind: impl.ExprAt, Name: "a", Kids: times(3, num(1))}, "at a 1 1 1"},
		{impl.Expr{Kind: impl.ExprAdd}, "add"},
		{impl.Expr{Kind: impl.ExprAdd, Num: 7, Name: "x", Kids: times(1, num(1))}, "add 1"},
		{impl.Expr{Kind: impl.ExprNot, Name: "x", Kids: times(2, num(1))}, "not 1 1"},
		{deepNot(9), "not not not not not not not not 1"},
	} {
		if got := impl.TextExpr(c.e); got != c.want {
			t.Errorf("%+v: %q, not %q", c.e, got, c.want)
		}
	}
	if got := impl.TextExpr(deepNot(2000)); got != strings.Repeat("not ", 1999)+"1" {
		t.Error("an expression 2000 deep")
	}
}

func checkNoExpr(t *testing.T, text string) {
	t.Helper()
	if e, ok := impl.TextExprRead(text); ok || !reflect.DeepEqual(e, impl.Expr{}) {
		t.Errorf("%.60q: %+v %v", text, e, ok)
	}
}

// wrongNumbers has words that are no numbers, or none that are in any range.
func wrongNumbers() []string {
	return []string{
		"-", "+", "-0", "+0", "+1", "00", "01", "-01", "007", "0x1", "1_0", "1.", "1.0", "1e3", "--1", "-+1", "1-", "1a", "a1", "\u0661",
		"1000001", "-1000001", "9223372036854775807", "9223372036854775808", "-9223372036854775808", "-9223372036854775809",
		"18446744073709551617", "4294967297000000000000000000", strings.Repeat("9", 3000), "-" + strings.Repeat("9", 3000),
		"0" + strings.Repeat("0", 3000), "1\t", "\t1", "1\r", "1\x00",
	}
}

// taken has all words that can be no names.
func taken() []string {
	return strings.Fields("at add sub mul div less equal and or not set put if while lock unlock send recv assert show var chan task prog else end")
}

func TestWhatIsNoExpression(t *testing.T) {
	for _, text := range []string{
		"", " ", "\n", "add", "add 1", "add 1 2 3", "1 2", "x y", "x 1", "not", "not 1 1", "at", "at a", "at a 1 2", "at 1 1", "at 1", "at add 1 2",
		"at at 1", "at A 1", "at abcdefg 1", "add add 1 2", "add 1 end", "end", "set", "set x 1", "prog", "less x", "none none",
		"X", "abcdefg", "a_b", "a-b", "é", "\xff", "x,", "(x)", "add\t1 2", "add 1\t2", "not\tx", "\tx", "x\t", "x\r\n", "add\v1 2", "x\x00", "\x00", "x\u00a0",
	} {
		checkNoExpr(t, text)
	}
	for _, word := range append(wrongNumbers(), taken()...) {
		for _, text := range []string{word, "add 1 " + word, "add " + word + " 1", "at a " + word, "at " + word + " 1"} {
			checkNoExpr(t, text)
		}
	}
}

func TestEdgesOfExpressionsThatAreRead(t *testing.T) {
	if e, ok := impl.TextExprRead("sub -1000000 1000000"); !ok || e.Kids[0].Num != -most || e.Kids[1].Num != most {
		t.Errorf("%+v %v", e, ok)
	}
	checkNoExpr(t, "sub -1000001 1000000")
	checkNoExpr(t, "sub -1000000 1000001")
	for _, make := range []func(int) impl.Expr{deepNot, fullTree} {
		if e, ok := impl.TextExprRead(impl.TextExpr(make(6))); !ok || !reflect.DeepEqual(e, make(6)) {
			t.Error("6 deep")
		}
		checkNoExpr(t, impl.TextExpr(make(7)))
	}
	checkNoExpr(t, strings.Repeat("not ", 1999)+"x")
	checkNoExpr(t, strings.Repeat("not ", 2000))
	checkNoExpr(t, strings.Repeat("add ", 2000))
	for _, text := range []string{"at a sub 1 x", "1", "x"} {
		pad := impl.TextMax - len(text)
		for i, full := range []string{text + strings.Repeat(" ", pad), strings.Repeat("\n", pad) + text} {
			if e, ok := impl.TextExprRead(full); len(full) != impl.TextMax || !ok || impl.TextExpr(e) != text {
				t.Errorf("%q in 8000 bytes: %d", text, i)
			}
			checkNoExpr(t, full+" ")
			checkNoExpr(t, "\n"+full)
		}
	}
}

// prefixOk says whether words are an expression, by counting how many are still to come.
func prefixOk(list []string) bool {
	needed := 1
	for i := 0; i < len(list); i++ {
		if needed == 0 {
			return false
		}
		switch list[i] {
		case "add":
			needed++
		case "at":
			if i++; i == len(list) || list[i] != "x" {
				return false
			}
		case "01", "end":
			return false
		case "x", "1":
			needed--
		}
	}
	return needed == 0
}

// sequences yields all lists of so many of these words.
func sequences(words []string, n int, yield func(list []string)) {
	if n == 0 {
		yield(nil)
		return
	}
	sequences(words, n-1, func(list []string) {
		for _, word := range words {
			yield(append(slices.Clone(list), word))
		}
	})
}

func TestAllShortExpressions(t *testing.T) {
	right := 0
	for n := range 7 {
		sequences([]string{"at", "add", "not", "x", "1", "01", "end"}, n, func(list []string) {
			text := strings.Join(list, " ")
			e, ok := impl.TextExprRead(text)
			if ok != prefixOk(list) || ok && impl.TextExpr(e) != text {
				t.Fatalf("%q: %v", text, ok)
			}
			if ok {
				right++
			}
		})
	}
	if right < 100 {
		t.Errorf("only %d of them are expressions", right)
	}
}

// shop is a program with all that a program can have, and shopText is how it is told.
func shop() impl.Prog {
	return impl.Prog{
		Vars: []impl.Var{
			{Name: "x", Init: 1, Lo: -3, Hi: 9},
			{Name: "s", Init: most, Lo: -most, Hi: most, Lock: "m"},
			{Name: "a", Size: 3, Hi: 5, Task: 2},
			{Name: "b", Size: 6, Init: -1, Lo: -1, Hi: -1, Lock: "n"},
		},
		Chans: []impl.Chan{{Name: "c", Cap: 1, Lo: -9, Hi: -8}, {Name: "d", Cap: 4, Hi: 7}},
		Locks: []string{"m", "n"},
		Tasks: [][]impl.Stmt{
			{
				loop(two(impl.ExprLess, named("x"), num(3)),
					branch(named("x"),
						[]impl.Stmt{{Kind: impl.StmtSend, Name: "c", E: named("x")}},
						[]impl.Stmt{branch(num(0), nil, nil), loop(num(-1))}),
					impl.Stmt{Kind: impl.StmtSet, Name: "x", E: two(impl.ExprAdd, named("x"), num(1))}),
				taking("m"),
				{Kind: impl.StmtUnlock, Name: "m"},
			},
			nil,
			{
				{Kind: impl.StmtRecv, Name: "c", E: named("i")},
				{Kind: impl.StmtPut, Name: "a", E: at("a", num(0)), F: not(num(5))},
				{Kind: impl.StmtAssert, E: two(impl.ExprOr, num(1), num(0))},
				show(two(impl.ExprDiv, num(9), named("s"))),
			},
		},
	}
}

const shopText = `prog
var x 0 1 -3 9 task 0
var s 0 1000000 -1000000 1000000 lock m
var a 3 0 0 5 task 2
var b 6 -1 -1 -1 lock n
chan c 1 -9 -8
chan d 4 0 7
lock m
lock n
task
while less x 3
if x
send c x
else
if 0
else
end
while -1
end
end
set x add x 1
end
lock m
unlock m
end
task
end
task
recv c i
put a at a 0 not 5
assert or 1 0
show div 9 s
end
`

// checkRead holds that a text is read as that program, and what is told of that is read as the same.
func checkRead(t *testing.T, text string, want impl.Prog) {
	t.Helper()
	got, ok := impl.TextRead(text)
	if !ok || !impl.TreeSame(got, want) {
		t.Errorf("%.200q: %+v %v", text, got, ok)
		return
	}
	if again, ok := impl.TextRead(impl.TextOf(got)); !ok || !impl.TreeSame(again, got) {
		t.Errorf("%.200q: read again as %+v %v", text, again, ok)
	}
}

func checkNoProg(t *testing.T, text string) {
	t.Helper()
	if p, ok := impl.TextRead(text); ok || !reflect.DeepEqual(p, impl.Prog{}) {
		t.Errorf("%.200q: %+v %v", text, p, ok)
	}
}

func TestProgramsAreToldAndRead(t *testing.T) {
	if got := impl.TextOf(shop()); got != shopText {
		t.Errorf("told as %q", got)
	}
	checkRead(t, shopText, shop())
	if got := impl.TextOf(impl.Prog{}); got != "prog\n" {
		t.Errorf("nothing is told as %q", got)
	}
	checkRead(t, "prog\n", impl.Prog{})
	checkRead(t, "prog", impl.Prog{})
	checkRead(t, "  prog\n\n", impl.Prog{})
	// A program without tasks may have all else.
	bare := shop()
	bare.Tasks, bare.Vars[2].Task = nil, 0
	text := strings.Replace(shopText[:strings.Index(shopText, "task\nwhile")], "task 2", "task 0", 1)
	if got := impl.TextOf(bare); got != text {
		t.Errorf("told as %q", got)
	}
	checkRead(t, text, bare)
	for i, s := range goodStmts() {
		want := strings.Split("set x 1|put a 1 2|if 1\nelse\nend|while 1\nend|lock m|unlock m|send c 1|recv c x|assert 1|show 1", "|")[i]
		text := "prog\ntask\n" + want + "\nend\n"
		if got := impl.TextOf(tasksOf([]impl.Stmt{s})); got != text {
			t.Errorf("told as %q, not %q", got, text)
		}
		checkRead(t, text, tasksOf([]impl.Stmt{s}))
	}
}

func TestEmptyParts(t *testing.T) {
	some := []impl.Stmt{show(num(1)), show(num(2))}
	for text, s := range map[string]impl.Stmt{
		"if 1 else end":               branch(num(1), nil, nil),
		"if 1 show 1 show 2 else end": branch(num(1), some, nil),
		"if 1 else show 1 show 2 end": branch(num(1), nil, some),
		"while 1 end":                 loop(num(1)),
		"while 1 show 1 show 2 end":   loop(num(1), some...),
		"if 1 if 2 else end else end": branch(num(1), []impl.Stmt{branch(num(2), nil, nil)}, nil),
		"if 1 else if 2 else end end": branch(num(1), nil, []impl.Stmt{branch(num(2), nil, nil)}),
		"while 1 while 2 end end":     loop(num(1), loop(num(2))),
		"while 1 if 2 while 3 end show 1 show 2 else show 1 show 2 end end": loop(num(1), branch(num(2), append([]impl.Stmt{loop(num(3))}, some...), some)),
	} {
		checkRead(t, "prog task "+text+" end", tasksOf([]impl.Stmt{s}))
		both := []impl.Stmt{s, show(num(1)), s}
		checkRead(t, "prog task end task "+text+" show 1 "+text+" end", tasksOf(nil, both))
	}
}

// prog makes a program that is ok but for how much it may have.
func (c *choices) prog() impl.Prog {
	var p impl.Prog
	for range c.below(5) {
		p.Tasks = append(p.Tasks, c.list(4))
	}
	for i := range c.below(7) {
		v := impl.Var{Name: string(rune('u' + i)), Size: c.below(7), Lo: -c.below(3), Hi: c.below(most + 1)}
		if c.below(2) == 0 {
			v.Lock = "m"
		} else {
			v.Task = c.below(max(1, len(p.Tasks)))
		}
		p.Vars = append(p.Vars, v)
	}
	for i := range c.below(4) {
		p.Chans = append(p.Chans, impl.Chan{Name: string(rune('c' + i)), Cap: 1 + c.below(4), Lo: -c.below(most + 1), Hi: c.below(5)})
	}
	for i := range c.below(4) {
		p.Locks = append(p.Locks, string(rune('m'+i)))
	}
	return p
}

// Promise 3.
func TestProgramsAreReadAsTold(t *testing.T) {
	c := &choices{seed: 33}
	read := 0
	for range 2000 {
		p := c.prog()
		text := impl.TextOf(p)
		fits := impl.TreeOk(p) && len(text) <= impl.TextMax
		got, ok := impl.TextRead(text)
		if ok != fits || ok && (!impl.TreeSame(got, p) || impl.TextOf(got) != text) {
			t.Fatalf("%q: %+v %v", text, got, ok)
		}
		if ok {
			read++
		}
	}
	if read < 1000 {
		t.Errorf("only %d are read", read)
	}
}

func TestSpacesOfPrograms(t *testing.T) {
	want := shop()
	list := impl.TextWords(shopText)
	for _, gap := range []string{" ", "\n", "   ", "\n\n", " \n ", "\n  \n"} {
		for _, end := range []string{"", " ", "\n", "\n \n"} {
			checkRead(t, end+strings.Join(list, gap)+end, want)
		}
	}
	for _, gap := range []string{"\t", "\r", "\v", "\f", "\x00", "\u00a0", "\u2003", "\u0085", ",", ";"} {
		checkNoProg(t, strings.Join(list, gap))
		checkNoProg(t, gap+shopText)
		checkNoProg(t, shopText+gap)
		checkNoProg(t, strings.ReplaceAll(shopText, "\n", gap+"\n"))
		for i := 1; i < len(list); i++ {
			checkNoProg(t, strings.Join(list[:i], " ")+gap+strings.Join(list[i:], " "))
		}
	}
	for i := 1; i < len(list); i++ {
		text := strings.Join(list[:i], " ") + strings.Join(list[i:], " ")
		if p, ok := impl.TextRead(text); ok && impl.TreeSame(p, want) {
			t.Errorf("two words without a gap: %q", text)
		}
	}
}

func TestDeclarationsInAnyOrder(t *testing.T) {
	parts := []string{"var x 0 1 0 9 task 1", "var y 2 0 0 0 lock m", "chan c 1 0 0", "lock m", "task lock m unlock m end", "task show 1 end"}
	want, ok := impl.TextRead("prog " + strings.Join(parts, " "))
	if !ok || len(want.Vars) != 2 || len(want.Chans) != 1 || len(want.Locks) != 1 || len(want.Tasks) != 2 {
		t.Fatalf("%+v %v", want, ok)
	}
	// All orders in which the variables, and the tasks, are in the same order: these give the order of what is read.
	orders := 0
	var order func(text string, left []string)
	order = func(text string, left []string) {
		if len(left) == 0 {
			checkRead(t, text, want)
			orders++
		}
		for i, part := range left {
			word := part[:4]
			if slices.ContainsFunc(left[:i], func(s string) bool { return s[:4] == word }) {
				continue
			}
			order(text+" "+part, slices.Concat(left[:i], left[i+1:]))
		}
	}
	order("prog", parts)
	if orders != 180 {
		t.Errorf("%d orders", orders)
	}
	turned, ok := impl.TextRead("prog " + parts[5] + " " + parts[1] + " " + parts[4] + " " + parts[0])
	if !ok || turned.Vars[0].Name != "y" || turned.Vars[1].Name != "x" || turned.Tasks[0][0].Kind != impl.StmtShow || turned.Tasks[1][0].Kind != impl.StmtLock {
		t.Errorf("%+v %v", turned, ok)
	}
}

func TestOddProgramsAreTold(t *testing.T) {
	body := []impl.Stmt{show(num(1))}
	for _, c := range []struct {
		s    impl.Stmt
		want string
	}{
		{impl.Stmt{}, "none\n"},
		{impl.Stmt{Kind: 11, Name: "x", E: num(1), F: num(2), A: body, B: body}, "none\n"},
		{impl.Stmt{Kind: -1 << 63, Name: "x"}, "none\n"},
		{impl.Stmt{Kind: impl.StmtSet}, "set\n"},
		{impl.Stmt{Kind: impl.StmtSet, E: num(1)}, "set 1\n"},
		{impl.Stmt{Kind: impl.StmtSet, Name: "x"}, "set x\n"},
		{impl.Stmt{Kind: impl.StmtSet, Name: "x", F: num(2)}, "set x 2\n"},
		{impl.Stmt{Kind: impl.StmtSet, Name: "x", E: num(1), F: num(2), A: body, B: body}, "set x 1 2\n"},
		{impl.Stmt{Kind: impl.StmtLock, Name: "m", E: named("x")}, "lock m x\n"},
		{impl.Stmt{Kind: impl.StmtShow, E: impl.Expr{Num: 1}}, "show none\n"},
		{impl.Stmt{Kind: impl.StmtShow, E: impl.Expr{Kind: 13}}, "show none\n"},
		{impl.Stmt{Kind: impl.StmtShow, E: impl.Expr{Name: "x"}}, "show none\n"},
		{impl.Stmt{Kind: impl.StmtShow, E: impl.Expr{Kids: times(1, num(1))}}, "show none\n"},
		{impl.Stmt{Kind: impl.StmtShow, E: impl.Expr{Kids: []impl.Expr{}}}, "show\n"},
		{impl.Stmt{Kind: impl.StmtIf, Name: "x", A: body, B: []impl.Stmt{{}}}, "if x\nshow 1\nelse\nnone\nend\n"},
		{impl.Stmt{Kind: impl.StmtWhile, E: num(1), F: num(2), A: body, B: []impl.Stmt{{}}}, "while 1 2\nshow 1\nend\n"},
		{impl.Stmt{Kind: impl.StmtRecv, Name: "c", E: num(1)}, "recv c 1\n"},
		{impl.Stmt{Kind: impl.StmtSend, Name: "end", E: named("send")}, "send end send\n"},
	} {
		text := "prog\ntask\n" + c.want + "end\n"
		p := tasksOf([]impl.Stmt{c.s})
		if got := impl.TextOf(p); got != text {
			t.Errorf("%+v: %q, not %q", c.s, got, text)
		}
		// Another one may have the same words and be ok; that is read then.
		if other, ok := impl.TextRead(text); ok && (impl.TreeSame(other, p) || !impl.TreeOk(other) || impl.TextOf(other) != text) {
			t.Errorf("%q is read as %+v", text, other)
		}
	}
	odd := impl.Prog{
		Vars:  []impl.Var{{Size: -1, Init: 1 << 40, Lo: 5, Hi: -5, Task: -7}, {Name: "a b", Lock: "lock", Task: 3}},
		Chans: []impl.Chan{{Name: "chan", Cap: 9, Lo: 1, Hi: -1}, {}},
		Locks: []string{"", "X"},
		Tasks: make([][]impl.Stmt, 5),
	}
	want := "prog\nvar  -1 1099511627776 5 -5 task -7\nvar a b 0 0 0 0 lock lock\nchan chan 9 1 -1\nchan  0 0 0\nlock \nlock X\n" + strings.Repeat("task\nend\n", 5)
	if got := impl.TextOf(odd); got != want {
		t.Errorf("%q", got)
	}
	checkNoProg(t, want)
}

// What is told of a program that is not ok is not read as that program.
func TestProgramsThatAreNotOkAreNotReadBack(t *testing.T) {
	turns := []func(p *impl.Prog){
		func(p *impl.Prog) { p.Vars[0].Name = "var" },
		func(p *impl.Prog) { p.Vars[0].Name = "" },
		func(p *impl.Prog) { p.Vars[0].Name = "abcdefg" },
		func(p *impl.Prog) { p.Vars[0].Size = 7 },
		func(p *impl.Prog) { p.Vars[0].Size = -1 },
		func(p *impl.Prog) { p.Vars[0].Init = 10 },
		func(p *impl.Prog) { p.Vars[0].Lo = 2 },
		func(p *impl.Prog) { p.Vars[0].Hi = most + 1 },
		func(p *impl.Prog) { p.Vars[1].Lo = -most - 1 },
		func(p *impl.Prog) { p.Vars[0].Task = 3 },
		func(p *impl.Prog) { p.Vars[0].Task = -1 },
		func(p *impl.Prog) { p.Vars[1].Lock = "lock" },
		func(p *impl.Prog) { p.Vars = append(p.Vars, manyVars(3)...) },
		func(p *impl.Prog) { p.Chans[0].Name = "chan" },
		func(p *impl.Prog) { p.Chans[0].Cap = 0 },
		func(p *impl.Prog) { p.Chans[0].Cap = 5 },
		func(p *impl.Prog) { p.Chans[0].Lo = -7 },
		func(p *impl.Prog) { p.Chans = append(p.Chans, p.Chans...) },
		func(p *impl.Prog) { p.Locks[0] = "end" },
		func(p *impl.Prog) { p.Locks = append(p.Locks, p.Locks...) },
		func(p *impl.Prog) { p.Tasks = append(p.Tasks, nil, nil) },
		func(p *impl.Prog) { p.Tasks[1] = times(41, show(num(1))) },
		func(p *impl.Prog) { p.Tasks[1] = []impl.Stmt{{}} },
		func(p *impl.Prog) { p.Tasks[1] = []impl.Stmt{{Kind: impl.StmtLock}} },
		func(p *impl.Prog) { p.Tasks[1] = []impl.Stmt{show(deepNot(7))} },
		func(p *impl.Prog) { p.Tasks[1] = []impl.Stmt{show(num(most + 1))} },
		func(p *impl.Prog) { p.Tasks[1] = []impl.Stmt{{Kind: impl.StmtRecv, Name: "c", E: at("a", num(1))}} },
		func(p *impl.Prog) { p.Tasks[1] = []impl.Stmt{{Kind: impl.StmtSet, Name: "set", E: num(1)}} },
		func(p *impl.Prog) { p.Tasks[1] = []impl.Stmt{{Kind: impl.StmtIf, Name: "x", E: num(1)}} },
		func(p *impl.Prog) { p.Tasks[1] = []impl.Stmt{{Kind: impl.StmtPut, Name: "x", E: num(1)}} },
		func(p *impl.Prog) { p.Tasks[1] = []impl.Stmt{{Kind: impl.StmtShow, E: num(1), F: num(1)}} },
	}
	for i, turn := range turns {
		p := shop()
		turn(&p)
		if impl.TreeOk(p) {
			t.Fatalf("%d is ok", i)
		}
		checkNoProg(t, impl.TextOf(p))
	}
}

func TestEdgesOfNumbersOfPrograms(t *testing.T) {
	checkRead(t, "prog var x 0 -1000000 -1000000 1000000 task 0 chan c 4 -1000000 1000000",
		impl.Prog{Vars: []impl.Var{{Name: "x", Init: -most, Lo: -most, Hi: most}}, Chans: []impl.Chan{{Name: "c", Cap: 4, Lo: -most, Hi: most}}})
	checkRead(t, "prog task show sub -1000000 1000000 end", tasksOf([]impl.Stmt{show(two(impl.ExprSub, num(-most), num(most)))}))
	for _, text := range []string{
		"prog var x 0 0 -1000001 0 task 0", "prog var x 0 0 0 1000001 task 0", "prog chan c 1 -1000001 0", "prog chan c 1 0 1000001",
		"prog task show -1000001 end", "prog task show 1000001 end", "prog task set x 1000001 end",
		"prog var x 7 0 0 0 task 0", "prog var x -1 0 0 0 task 0", "prog var x 0 1 0 0 task 0", "prog var x 0 0 0 0 task 1", "prog var x 0 0 0 0 task -1",
		"prog chan c 0 0 0", "prog chan c 5 0 0", "prog chan c 1 1 0",
	} {
		checkNoProg(t, text)
	}
	// A number that is wrong wherever a number stands.
	for _, wrong := range wrongNumbers() {
		for _, form := range []string{
			"prog var x # 0 0 9 task 0", "prog var x 0 # 0 9 task 0", "prog var x 0 0 # 9 task 0", "prog var x 0 0 0 # task 0", "prog var x 0 0 0 9 task #",
			"prog chan c # 0 9", "prog chan c 1 # 9", "prog chan c 1 0 #", "prog task show # end", "prog task put a 1 # end", "prog task if # else end end",
		} {
			checkNoProg(t, strings.Replace(form, "#", wrong, 1))
		}
	}
}

func TestHowMuchOfAProgramIsRead(t *testing.T) {
	for n := range 9 {
		for part, limit := range map[string]int{" var x 0 0 0 0 task 0": 6, " chan c 1 0 0": 3, " lock m": 3, " task end": 4} {
			if _, ok := impl.TextRead("prog" + strings.Repeat(part, n)); ok != (n <= limit) {
				t.Errorf("%d times %q: %v", n, part, ok)
			}
		}
	}
	for _, n := range []int{0, 1, 39} {
		checkRead(t, "prog task"+strings.Repeat(" show x", n)+" while x end end", tasksOf(append(times(n, show(named("x"))), loop(named("x")))))
	}
	checkRead(t, "prog task"+strings.Repeat(" show x", 40)+" end", tasksOf(times(40, show(named("x")))))
	checkNoProg(t, "prog task"+strings.Repeat(" show x", 41)+" end")
	checkRead(t, "prog task if x"+strings.Repeat(" show x", 20)+" else"+strings.Repeat(" show x", 19)+" end end",
		tasksOf([]impl.Stmt{branch(named("x"), times(20, show(named("x"))), times(19, show(named("x"))))}))
	checkNoProg(t, "prog task if x"+strings.Repeat(" show x", 20)+" else"+strings.Repeat(" show x", 20)+" end end")
	checkRead(t, "prog task show "+strings.Repeat("not ", 5)+"1 end", tasksOf([]impl.Stmt{show(deepNot(6))}))
	checkNoProg(t, "prog task show "+strings.Repeat("not ", 6)+"1 end")
	within := func(n int) string {
		return "prog task" + strings.Repeat(" while 1", n) + " show 1" + strings.Repeat(" end", n+1)
	}
	checkRead(t, within(4), tasksOf([]impl.Stmt{deepStmt(4, func(s impl.Stmt) impl.Stmt { return loop(num(1), s) })}))
	checkNoProg(t, within(5))
	checkNoProg(t, within(600))
}

// wide is a program that is ok, and of which the text has so many bytes, about TextMax.
func wide(size int) impl.Prog {
	p := tasksOf(make([][]impl.Stmt, 4)...)
	for i := range p.Tasks {
		great := impl.Stmt{Kind: impl.StmtPut, Name: "a", E: fullTree(5), F: fullTree(5)}
		p.Tasks[i] = append(times(10, great), times(5, taking("m"))...)
	}
	more := size - len(impl.TextOf(p))
	for _, list := range p.Tasks {
		for i := range list {
			longer := min(more, 5)
			list[i].Name += strings.Repeat("q", longer)
			more -= longer
		}
	}
	return p
}

func TestHowManyBytesAreRead(t *testing.T) {
	full, over := wide(impl.TextMax), wide(impl.TextMax+1)
	if len(impl.TextOf(full)) != 8000 || len(impl.TextOf(over)) != 8001 || !impl.TreeOk(full) || !impl.TreeOk(over) {
		t.Fatal("the programs are not as they must be")
	}
	checkRead(t, impl.TextOf(full), full)
	checkNoProg(t, impl.TextOf(over))
	// The last newline may be missing in what is read, but what is told of it is a byte too long then.
	bare := strings.TrimSuffix(impl.TextOf(over), "\n")
	if p, ok := impl.TextRead(bare); len(bare) != impl.TextMax || !ok || !impl.TreeSame(p, over) {
		t.Error("8000 bytes without a newline at the end")
	}
	for _, text := range []string{"prog", shopText} {
		want, _ := impl.TextRead(text)
		pad := impl.TextMax - len(text)
		for _, padded := range []string{text + strings.Repeat(" ", pad), strings.Repeat("\n", pad) + text} {
			checkRead(t, padded, want)
			checkNoProg(t, padded+"\n")
			checkNoProg(t, " "+padded)
		}
	}
	checkNoProg(t, strings.Repeat(" ", 1<<20))
	checkNoProg(t, strings.Repeat(" ", impl.TextMax))
}

func TestWhatIsNoProgram(t *testing.T) {
	for _, text := range []string{
		"", " ", "\n", "\n \n", "x", "1", "task end", "var x 0 0 0 9 task 0", "lock m prog", "Prog", "PROG", "program", "pro", "prog prog", "prog task end prog",
		"prog end", "prog else", "prog x", "prog 1", "prog set x 1", "prog show 1", "prog unlock m", "prog if 1 else end", "prog none",
		// Lists that never end, and what ends too much.
		"prog task", "prog task task", "prog task task end", "prog task task end end", "prog task end end", "prog task else", "prog task else end", "prog task show 1",
		"prog task if 1", "prog task if 1 else", "prog task if 1 else end", "prog task if 1 end", "prog task if 1 end end", "prog task if 1 end else end", "prog task if 1 else else end end",
		"prog task if 1 else end else end", "prog task if 1 else end end end", "prog task if 1 if 1 else end end", "prog task if 1 if 1 end else end end", "prog task if else end end",
		"prog task while 1", "prog task while 1 end", "prog task while 1 else end end", "prog task while 1 end end end", "prog task while 1 show 1 else end", "prog task while end end",
		"prog task while 1 while 1 end end", "prog task if 1 while 1 else end end end", "prog task while 1 if 1 end else end end", "prog task if 1 lock m",
		// Words that are left, missing, or in a wrong place.
		"prog task set x end", "prog task set x 1 2 end", "prog task set 1 end", "prog task set 1 x end", "prog task set end", "prog task set x add 1 end",
		"prog task put a 1 end", "prog task put a 1 2 3 end", "prog task put 1 2 end", "prog task lock end", "prog task lock end end", "prog task lock m n end", "prog task lock 1 end",
		"prog task unlock end", "prog task send c end", "prog task send 1 end", "prog task recv c end", "prog task recv c 1 end", "prog task recv c at a 1 end", "prog task recv c not x end",
		"prog task recv x end", "prog task assert end", "prog task assert x 1 end", "prog task show end", "prog task show 1 2 end", "prog task show x x end", "prog task none end",
		"prog task x end", "prog task 1 end", "prog task var x 0 0 0 9 task 0 end", "prog task chan c 1 0 0 end", "prog task prog end",
		"prog var", "prog var x", "prog var x 0", "prog var x 0 1", "prog var x 0 1 0", "prog var x 0 1 0 9", "prog var x 0 1 0 9 task", "prog var x 0 1 0 9 lock", "prog var x 0 1 0 9 lock lock m",
		"prog var x 0 1 0 9 m", "prog var x 0 1 0 9 0", "prog var x 0 1 0 9 task m", "prog var x 0 1 0 9 lock 0", "prog var x 0 1 0 9 task 0 0", "prog var x 0 1 0 9 lock m 0",
		"prog var x 0 1 0 9 lock m task 0", "prog var x 0 1 0 9 task end", "prog var x 0 1 0 9 chan c 1 0 0", "prog var 0 1 0 9 task 0", "prog var x y 0 1 0 9 task 0", "prog var x 0 1 0 9 end",
		"prog chan", "prog chan c", "prog chan c 1", "prog chan c 1 0", "prog chan c 1 0 0 0", "prog chan 1 0 0", "prog chan c 1 0 x", "prog lock", "prog lock m n", "prog lock 1", "prog lock lock", "prog lock lock m",
	} {
		checkNoProg(t, text)
		checkNoProg(t, strings.ReplaceAll(text, " ", "\n")+"\n")
	}
}

func TestNamesThatAreWords(t *testing.T) {
	forms := []string{
		"prog var # 0 0 0 9 task 0", "prog var x 0 0 0 9 lock #", "prog chan # 1 0 0", "prog lock #",
		"prog task set # 1 end", "prog task put # 1 1 end", "prog task lock # end", "prog task unlock # end", "prog task send # 1 end", "prog task recv # x end",
		"prog task recv c # end", "prog task show # end", "prog task show at # 1 end", "prog task assert add 1 # end",
	}
	wrong := append(taken(), "abcdefg", "X", "x1", "x_", "é", "\xff", "x\t", "\tx", "x\x00", "x\r")
	for _, form := range forms {
		for _, right := range []string{"x", "none", "abcdef", "ends", "sets", "whil"} {
			if p, ok := impl.TextRead(strings.Replace(form, "#", right, 1)); !ok || !strings.Contains(impl.TextOf(p), " "+right) {
				t.Errorf("%q with %q", form, right)
			}
		}
		for _, word := range wrong {
			checkNoProg(t, strings.Replace(form, "#", word, 1))
		}
	}
}

// bodies is the texts of all lists of statements with so many words, of branches, loops and one other.
func bodies(n int) []string {
	if n == 0 {
		return []string{""}
	}
	var all []string
	for size := 2; size <= n; size++ {
		for _, first := range singles(size) {
			for _, rest := range bodies(n - size) {
				all = append(all, first+rest)
			}
		}
	}
	return all
}

func singles(n int) []string {
	var all []string
	if n == 2 {
		all = append(all, " show x")
	}
	if n >= 3 {
		for _, a := range bodies(n - 3) {
			all = append(all, " while x"+a+" end")
		}
	}
	for size := 0; size <= n-4; size++ {
		for _, a := range bodies(size) {
			for _, b := range bodies(n - 4 - size) {
				all = append(all, " if x"+a+" else"+b+" end")
			}
		}
	}
	return all
}

func TestAllShortLists(t *testing.T) {
	for n := range 8 {
		right := map[string]bool{}
		for _, body := range bodies(n) {
			right["prog task"+body+" end"] = true
		}
		read := 0
		sequences([]string{"if", "while", "else", "end", "show", "x"}, n, func(list []string) {
			text := strings.Join(slices.Concat([]string{"prog", "task"}, list, []string{"end"}), " ")
			p, ok := impl.TextRead(text)
			if ok != right[text] || ok && strings.Join(impl.TextWords(impl.TextOf(p)), " ") != text {
				t.Fatalf("%q: %v", text, ok)
			}
			if ok {
				read++
			}
		})
		if read != len(right) {
			t.Errorf("%d of %d lists of %d words", read, len(right), n)
		}
	}
}

// A text with one word turned is read as nothing, or as a program that has just its words.
func TestTurnedTexts(t *testing.T) {
	list := impl.TextWords(shopText)
	others := append(taken(), "x", "m", "none", "0", "1", "-1", "01", "-0", "+1", "-", "1000001", "X", "abcdefg")
	check := func(words []string) {
		p, ok := impl.TextRead(strings.Join(words, " "))
		if !ok {
			if !reflect.DeepEqual(p, impl.Prog{}) {
				t.Fatalf("%q: %+v", words, p)
			}
			return
		}
		told := impl.TextWords(impl.TextOf(p))
		slices.Sort(told)
		if !impl.TreeOk(p) || !slices.Equal(told, slices.Sorted(slices.Values(words))) {
			t.Fatalf("%q is read as %q", words, impl.TextOf(p))
		}
		if again, ok := impl.TextRead(impl.TextOf(p)); !ok || !impl.TreeSame(again, p) {
			t.Fatalf("%q is not read again", impl.TextOf(p))
		}
	}
	for i := range list {
		check(slices.Concat(list[:i], list[i+1:]))
		check(list[:i])
		check(slices.Concat(list[:i], list[i:i+1], list[i:]))
		for _, word := range others {
			check(slices.Concat(list[:i], []string{word}, list[i:]))
			check(slices.Concat(list[:i], []string{word}, list[i+1:]))
		}
		for j := range i {
			swapped := slices.Clone(list)
			swapped[i], swapped[j] = swapped[j], swapped[i]
			check(swapped)
		}
	}
}

func TestTextsAreKept(t *testing.T) {
	p := spared()
	var text string
	checkKept(t, "TextOf", func() { text = impl.TextOf(p) }, p)
	checkKept(t, "TextExpr", func() { impl.TextExpr(p.Tasks[0][0].E) }, p)
	got, ok := impl.TextRead(text)
	if !ok || !impl.TreeSame(got, p) {
		t.Errorf("%+v %v", got, ok)
	}
	checkNew(t, "TextRead", got, p)
	again, _ := impl.TextRead(text)
	checkNew(t, "TextRead, once more", again, got)
	full, _ := impl.TextRead(impl.TextOf(wide(impl.TextMax)))
	checkNew(t, "TextRead of much", full)
	e, _ := impl.TextExprRead("add mul x y sub at a 1 not z")
	other, _ := impl.TextExprRead("add mul x y sub at a 1 not z")
	checkNew(t, "TextExprRead", e, other)
	list := impl.TextWords(text)
	checkNew(t, "TextWords", list, impl.TextWords(text))
	// What is told does not hang on spare room, nor on whether a list is empty or nil.
	bare := tasksOf(nil, []impl.Stmt{{Kind: impl.StmtIf, E: num(1)}})
	empty := impl.Prog{
		Vars: []impl.Var{}, Chans: []impl.Chan{}, Locks: []string{},
		Tasks: [][]impl.Stmt{{}, {{Kind: impl.StmtIf, E: impl.Expr{Kind: 1, Num: 1, Kids: []impl.Expr{}}, F: impl.Expr{Kids: []impl.Expr{}}, A: []impl.Stmt{}, B: []impl.Stmt{}}}},
	}
	if impl.TextOf(bare) != impl.TextOf(empty) {
		t.Errorf("%q, %q", impl.TextOf(bare), impl.TextOf(empty))
	}
}

// lies says whether a piece of text lies in the memory of another one.
func lies(piece string, whole string) bool {
	from, at := uintptr(unsafe.Pointer(unsafe.StringData(whole))), uintptr(unsafe.Pointer(unsafe.StringData(piece)))
	return from <= at && at < from+uintptr(len(whole))
}

func TestWordsAreNewMemory(t *testing.T) {
	text := fmt.Sprintf("prog lock %s task show at %s %s end", "abc", "def", "ghi")
	for _, word := range impl.TextWords(text) {
		if lies(word, text) {
			t.Errorf("the word %q lies in the text", word)
		}
	}
	p, ok := impl.TextRead(text)
	if !ok {
		t.Fatal(text)
	}
	e := p.Tasks[0][0].E
	for _, name := range []string{p.Locks[0], e.Name, e.Kids[0].Name} {
		if lies(name, text) {
			t.Errorf("the name %q lies in the text", name)
		}
	}
	if name := fmt.Sprint("abc", "def"); lies(impl.TextExpr(named(name)), name) {
		t.Error("what is told of a variable lies in its name")
	}
}

// Of what holds itself, so that its text would never end, nothing is told; a part that is not told may hold itself.
func TestTextsThatWouldNeverEnd(t *testing.T) {
	kids := []impl.Expr{num(1), {Kind: impl.ExprNot}}
	kids[1].Kids = kids[1:]
	if got := impl.TextExpr(kids[1]) + impl.TextExpr(not(kids[1])) + impl.TextExpr(two(impl.ExprAdd, num(1), kids[1])); got != "" {
		t.Errorf("an expression: %q", got)
	}
	for _, kind := range []int{0, 13, impl.ExprNum} {
		want := map[bool]string{true: "7", false: "none"}[kind == impl.ExprNum]
		if got := impl.TextExpr(impl.Expr{Kind: kind, Num: 7, Kids: kids}); got != want {
			t.Errorf("Kids that are not told: %q", got)
		}
	}
	for _, kind := range []int{impl.StmtIf, impl.StmtWhile, impl.StmtShow, 0} {
		list := []impl.Stmt{{Kind: kind, E: num(1)}}
		list[0].A = list
		other := []impl.Stmt{{Kind: kind, E: num(1)}}
		other[0].B = other
		wantA := map[int]string{impl.StmtShow: "prog\ntask\nshow 1\nend\n", 0: "prog\ntask\nnone\nend\n"}
		if got := impl.TextOf(tasksOf(nil, list)); got != strings.Replace(wantA[kind], "task", "task\nend\ntask", 1) {
			t.Errorf("a list of the kind %d in itself: %q", kind, got)
		}
		wantB := map[int]string{impl.StmtShow: wantA[impl.StmtShow], 0: wantA[0], impl.StmtWhile: "prog\ntask\nwhile 1\nend\nend\n"}
		if got := impl.TextOf(tasksOf(other)); got != wantB[kind] {
			t.Errorf("a B of the kind %d in itself: %q", kind, got)
		}
	}
	if got := impl.TextOf(tasksOf([]impl.Stmt{show(kids[1]), show(num(1))})); got != "prog\ntask\nshow \nshow 1\nend\n" {
		t.Errorf("a statement with such an expression: %q", got)
	}
	// A list that stands twice, but not within itself, is told twice.
	twice := []impl.Stmt{show(num(1))}
	if got := impl.TextOf(tasksOf([]impl.Stmt{branch(num(1), twice, twice)})); got != "prog\ntask\nif 1\nshow 1\nelse\nshow 1\nend\nend\n" {
		t.Errorf("%q", got)
	}
}
