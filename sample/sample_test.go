package sample

import (
	"slices"
	"strings"
	"testing"

	"caracole/api"
)

func TestReadShow(t *testing.T) {
	for _, text := range []string{"()", "#f", "#t", "-5", "a-b", `"s"`, "(1 . 2)", "(1 (a #(2 #()) . b) ())", "#(#(1) (2))"} {
		if got := Show(Read(text)); got != text {
			t.Error(text, got)
		}
	}
	if got := Show(api.Datum{Kind: 9}); got != "??" {
		t.Error(got)
	}
}

func TestSame(t *testing.T) {
	all := ReadAll("()", "#f", "#t", "1", "2", "a", `"a"`, "(1)", "(1 . 2)", "#()", "#(1)", "#(1 2)")
	for i, a := range all {
		for k, b := range all {
			if Same(a, Copy(b)) != (i == k) {
				t.Error(Show(a), Show(b))
			}
		}
	}
}

// TestRandom: the same seed makes the same data, another one does not, and numbers are in their range.
func TestRandom(t *testing.T) {
	a, b, c := NewRandom(1), NewRandom(1), NewRandom(2)
	same := 0
	for range 100 {
		x, y, z := a.Datum(4), b.Datum(4), c.Datum(4)
		if !Same(x, y) {
			t.Error(Show(x), Show(y))
		}
		if Same(x, z) {
			same++
		}
		if n := a.Below(3); n < 0 || n > 2 || n != b.Below(3) {
			t.Error(n)
		}
		if !Same(a.Part(x), b.Part(x)) {
			t.Error(Show(x))
		}
	}
	if same > 50 {
		t.Error(same)
	}
}

func TestParseGraph(t *testing.T) {
	for _, x := range []string{"Nil", "Pair 1 0, Num 1", "2; Bool 0, Num -5, Sym ab, Str a, Vec, Vec 0 1 2, Pair 3 3"} {
		if got := GraphText(ParseGraph(x)); got != x {
			t.Error(x, got)
		}
	}
	for i, g := range append(Graphs(3, 20), GraphC(), GraphB(), GraphT()) {
		if text := GraphText(g); GraphText(ParseGraph(text)) != text || g.Root >= len(g.Cells) {
			t.Error(i, text)
		}
	}
}

func TestTermText(t *testing.T) {
	for _, x := range []string{"x", "5", "(quote x)", "(quote #())", "(fn (x y) (x y))", "(rec f () (let x 1 x))", "(if (marks) (car x) (cons 1 2))", "(f)", "((quote if) 1)"} {
		if got := TermText(Term(x)); got != x {
			t.Error(x, got)
		}
	}
	if got := TermText(api.Term{Op: 99}); got != "??" {
		t.Error(got)
	}
}

// TestRandomTerms: terms by chance are told by their texts, have any Op, and share no memory with their copies.
func TestRandomTerms(t *testing.T) {
	r := NewRandom(4)
	met := map[int]bool{}
	for i := range 400 {
		x := r.Term(i % 5)
		if again := Term(TermText(x)); !SameTerm(again, x) || !SameTerm(CopyTerm(x), x) {
			t.Error(TermText(x), TermText(again))
		}
		for _, path := range TermPaths(x) {
			met[FollowTerm(x, path).Op] = true
		}
	}
	if len(met) != api.Emit+1 {
		t.Error(met)
	}
}

// TestMemory: memory is found to be shared just if it is.
func TestMemory(t *testing.T) {
	x := Term("(f (fn (x) (quote (1 #(2)))))")
	for i, y := range []api.Term{x, {Args: x.Args}, {Args: []api.Term{{Names: x.Args[1].Names}}}, {Data: x.Args[1].Args[0].Data}, {Data: Pair(Num(0), x.Args[1].Args[0].Data)}, {Data: api.Datum{Parts: x.Args[1].Args[0].Data.Parts[:0]}}} {
		m := Memory{}
		if !m.TermList([]api.Term{x}) || m.Terms(y) {
			t.Error(i)
		}
	}
	m := Memory{}
	l, d := []int{1}, []api.Datum{Read("(1 2)")}
	if !m.Terms(x, CopyTerm(x)) || !m.DataList(d) || !m.Numbers(l) || !m.Numbers(nil) || !m.Names([]string{""}) || m.Numbers(l) || m.Data(d...) || m.DataList(d[:0]) {
		t.Error("memory")
	}
	if h := HollowTerm(x); !SameTerm(h, x) || !m.Terms(h) || h.Data.Parts == nil || h.Args[1].Args[0].Data.Parts[0].Parts == nil {
		t.Error(TermText(h))
	}
}

// TestProgram: programs are closed, and have any Op.
func TestProgram(t *testing.T) {
	r, again := NewRandom(5), NewRandom(5)
	met := map[int]bool{}
	for i := range 400 {
		x := r.Program(i % 6)
		if !SameTerm(x, again.Program(i%6)) {
			t.Error(TermText(x))
		}
		for _, path := range TermPaths(x) {
			part := FollowTerm(x, path)
			met[part.Op] = true
			if part.Op == api.Var && !boundAt(x, path, part.Name) {
				t.Error(TermText(x), part.Name)
			}
		}
	}
	if len(met) != api.Emit+1 {
		t.Error(met)
	}
}

// boundAt says whether a name is bound where a path leads to.
func boundAt(t api.Term, path []int, name string) bool {
	bound := false
	for _, i := range path {
		known := append(slices.Clone(t.Names), t.Name)
		if t.Op == api.Fn || t.Op == api.Rec || t.Op == api.Let && i == 1 {
			bound = bound || slices.Contains(known, name)
		}
		t = t.Args[i]
	}
	return bound
}

// TestState: states by chance are the same each time, and are told by their texts; a state shares no memory with its copies.
func TestState(t *testing.T) {
	r, again, other := NewRandom(6), NewRandom(6), NewRandom(7)
	kinds, changed := map[int]bool{}, 0
	for i := range 300 {
		s := r.State(i % 4)
		text := StateText(s)
		m := Memory{}
		if copied, hollow := CopyState(s), HollowState(s); !SameState(s, again.State(i%4)) || !SameState(s, copied) || !SameState(s, hollow) || !m.States(s, copied, hollow) || StateText(hollow) != text || hollow.Val.Parts == nil || hollow.Term.Args == nil {
			t.Error(text)
		}
		if len(s.Stack)+len(s.Env)+len(s.Out) > 0 && m.States(s) {
			t.Error(text, "is not in memory")
		}
		kinds[s.Val.Kind] = true
		wild := CopyState(s)
		other.WildState(&wild)
		same := SameState(s, wild)
		if !same {
			changed++
		}
		if StateText(s) != text || same && StateText(wild) != text {
			t.Error(text, StateText(wild))
		}
	}
	if len(kinds) != 4 || changed < 200 {
		t.Error(kinds, changed)
	}
}

// TestFrees: free names, and those of frames.
func TestFrees(t *testing.T) {
	for text, want := range map[string]string{"(fn (x) (f x y))": "f y", "(let x x x)": "x", "(rec f (x) (f x))": "", "(let x y (x z))": "y z", "(car (fn () x))": "x"} {
		if got := strings.Join(Free(Term(text)), " "); got != want {
			t.Error(text, got)
		}
	}
	for text, want := range map[string]string{"(f x y)": "x y", "(let x y (x z))": "z", "(if a b (fn (c) (c d)))": "b d", "(emit x)": ""} {
		if got := strings.Join(Behind(api.MachineFrame{Term: Term(text)}), " "); got != want {
			t.Error(text, got)
		}
	}
	for text, want := range map[string]int{"(f x y)": 3, "(let x 1 2)": 1, "(if 1 2 3)": 1, "(mark 1 2)": 2, "(marks)": 0, "x": 0, "(fn () 1)": 0} {
		if got := Early(Term(text)); got != want {
			t.Error(text, got)
		}
	}
	if got := TermText(Renamed(Term("(rec f (x) (let y (car x) (f 5 z)))"))); got != "(rec qf (qx) (let qy (car qx) (qf 5 qz)))" {
		t.Error(got)
	}
}

func TestStateText(t *testing.T) {
	one := api.MachineVal{Data: Num(1)}
	f := api.MachineVal{Kind: api.MachineFn, Fun: Term("(fn () x)"), Env: []api.MachineBind{{Name: "x", Val: one}}}
	frame := api.MachineFrame{Term: Term("(cons 1 x)"), Done: []api.MachineVal{f}, Env: f.Env}
	for want, s := range map[string]api.MachineState{
		"eval ()": {}, "mode 2 ()": {Mode: 2}, "failed 4": {Err: 4}, "back [fn (fn () x) x=1] on (cons 1 x) / [fn (fn () x) x=1] x=1 out 1 a": {Mode: 1, Val: f, Stack: []api.MachineFrame{frame}, Out: []api.Datum{Num(1), Sym("a")}},
		"eval x x=1 [pair 1 [rest (cons 1 x) / [fn (fn () x) x=1] x=1;]]": {Term: Var("x"), Env: f.Env, Val: api.MachineVal{Kind: api.MachinePair, Parts: []api.MachineVal{one, {Kind: api.MachineRest, Stack: []api.MachineFrame{frame}}}}},
		"back [9 1]": {Mode: 1, Val: api.MachineVal{Kind: 9, Data: Num(1)}}, "back [data 1 1]": {Mode: 1, Val: api.MachineVal{Data: Num(1), Parts: []api.MachineVal{one}}},
	} {
		if got := StateText(s); got != want {
			t.Error(got, "want", want)
		}
	}
}
