package sample

import (
	"slices"
	"strconv"
	"strings"

	"caracole/api"
)

// StateText is a state of the machine as a text, with all of its fields that are not zero.
func StateText(s api.MachineState) string {
	words := []string{[]string{"eval", "back"}[min(max(s.Mode, 0), 1)]}
	if s.Mode < 0 || s.Mode > 1 {
		words[0] = "mode " + strconv.Itoa(s.Mode)
	}
	if s.Err != api.OK {
		words[0] = "failed " + strconv.Itoa(int(s.Err))
	}
	if s.Mode == api.MachineEval && s.Err == api.OK || !SameTerm(s.Term, api.Term{}) {
		words = append(words, TermText(s.Term))
	}
	words = append(words, bindsText(s.Env)...)
	if s.Mode != api.MachineEval || !SameVal(s.Val, api.MachineVal{}) {
		words = append(words, ValText(s.Val))
	}
	for _, f := range slices.Backward(s.Stack) {
		words = append(words, "on", frameText(f))
	}
	if len(s.Out) > 0 {
		words = append(words, "out", ShowAll(s.Out))
	}
	return strings.Join(words, " ")
}

func bindsText(l []api.MachineBind) []string {
	var words []string
	for _, b := range l {
		words = append(words, b.Name+"="+ValText(b.Val))
	}
	return words
}

func frameText(f api.MachineFrame) string {
	words := []string{TermText(f.Term)}
	for _, v := range f.Done {
		words = append(words, "/", ValText(v))
	}
	return strings.Join(append(words, bindsText(f.Env)...), " ")
}

// ValText is a value of the machine as a text. Data are as they are shown, other values are in square brackets.
func ValText(v api.MachineVal) string {
	plain := api.MachineVal{Kind: v.Kind, Data: v.Data}
	if v.Kind == api.MachineData && SameVal(v, plain) {
		return Show(v.Data)
	}
	words := []string{strconv.Itoa(v.Kind)}
	if v.Kind >= 0 && v.Kind <= api.MachineRest {
		words[0] = []string{"data", "pair", "fn", "rest"}[v.Kind]
	}
	if v.Kind == api.MachineData || !Same(v.Data, api.Datum{}) {
		words = append(words, Show(v.Data))
	}
	for _, p := range v.Parts {
		words = append(words, ValText(p))
	}
	if v.Kind == api.MachineFn || !SameTerm(v.Fun, api.Term{}) {
		words = append(words, TermText(v.Fun))
	}
	words = append(words, bindsText(v.Env)...)
	for _, f := range v.Stack {
		words = append(words, frameText(f)+";")
	}
	return "[" + strings.Join(words, " ") + "]"
}

// SameVal, SameFrame and SameState are equality in all fields. A nil slice and an empty one mean the same.
func SameVal(a, b api.MachineVal) bool {
	return a.Kind == b.Kind && Same(a.Data, b.Data) && slices.EqualFunc(a.Parts, b.Parts, SameVal) && SameTerm(a.Fun, b.Fun) && slices.EqualFunc(a.Env, b.Env, sameBind) && slices.EqualFunc(a.Stack, b.Stack, SameFrame)
}

func sameBind(a, b api.MachineBind) bool { return a.Name == b.Name && SameVal(a.Val, b.Val) }

func SameFrame(a, b api.MachineFrame) bool {
	return SameTerm(a.Term, b.Term) && slices.EqualFunc(a.Done, b.Done, SameVal) && slices.EqualFunc(a.Env, b.Env, sameBind)
}

func SameState(a, b api.MachineState) bool {
	return a.Mode == b.Mode && SameTerm(a.Term, b.Term) && slices.EqualFunc(a.Env, b.Env, sameBind) && SameVal(a.Val, b.Val) && slices.EqualFunc(a.Stack, b.Stack, SameFrame) && slices.EqualFunc(a.Out, b.Out, Same) && a.Err == b.Err
}

// each is what is made of all elements, with no slice for none, unless there is memory to be had behind them.
func each[T any](l []T, do func(T) T, spare int) []T {
	if len(l)+spare == 0 {
		return nil
	}
	out := make([]T, 0, len(l)+spare)
	for _, x := range l {
		out = append(out, do(x))
	}
	return out
}

// copier makes copies of states that share no memory with them; with spare ones, slices have memory behind them, so that none is nil.
type copier struct {
	datum func(api.Datum) api.Datum
	term  func(api.Term) api.Term
	spare int
}

// CopyState is a state that shares no memory with s.
func CopyState(s api.MachineState) api.MachineState {
	return copier{datum: Copy, term: CopyTerm}.state(s)
}

// HollowState is a state with empty slices in the place of nil ones, which have memory behind them.
func HollowState(s api.MachineState) api.MachineState {
	return copier{datum: Hollow, term: HollowTerm, spare: 1}.state(s)
}

func (c copier) val(v api.MachineVal) api.MachineVal {
	return api.MachineVal{Kind: v.Kind, Data: c.datum(v.Data), Parts: each(v.Parts, c.val, c.spare), Fun: c.term(v.Fun), Env: each(v.Env, c.bind, c.spare), Stack: each(v.Stack, c.frame, c.spare)}
}

func (c copier) bind(b api.MachineBind) api.MachineBind {
	return api.MachineBind{Name: b.Name, Val: c.val(b.Val)}
}

func (c copier) frame(f api.MachineFrame) api.MachineFrame {
	return api.MachineFrame{Term: c.term(f.Term), Done: each(f.Done, c.val, c.spare), Env: each(f.Env, c.bind, c.spare)}
}

func (c copier) state(s api.MachineState) api.MachineState {
	return api.MachineState{Mode: s.Mode, Term: c.term(s.Term), Env: each(s.Env, c.bind, c.spare), Val: c.val(s.Val), Stack: each(s.Stack, c.frame, c.spare), Out: each(s.Out, c.datum, c.spare), Err: s.Err}
}

// States notes states, and all that is in them.
func (m Memory) States(all ...api.MachineState) bool {
	apart := true
	for _, s := range all {
		apart = m.Terms(s.Term) && apart
		apart = m.binds(s.Env) && apart
		apart = m.vals([]api.MachineVal{s.Val}) && apart
		apart = m.frames(s.Stack) && apart
		apart = m.DataList(s.Out) && apart
	}
	return apart
}

func (m Memory) vals(l []api.MachineVal) bool {
	apart := note(m, l)
	for _, v := range l {
		apart = m.Data(v.Data) && apart
		apart = m.Terms(v.Fun) && apart
		apart = m.vals(v.Parts) && apart
		apart = m.binds(v.Env) && apart
		apart = m.frames(v.Stack) && apart
	}
	return apart
}

func (m Memory) binds(l []api.MachineBind) bool {
	apart := note(m, l)
	for _, b := range l {
		apart = m.vals([]api.MachineVal{b.Val}) && apart
	}
	return apart
}

func (m Memory) frames(l []api.MachineFrame) bool {
	apart := note(m, l)
	for _, f := range l {
		apart = m.Terms(f.Term) && apart
		apart = m.vals(f.Done) && apart
		apart = m.binds(f.Env) && apart
	}
	return apart
}
