package match_test

import (
	"strconv"
	"testing"

	"caracole/match"
)

// TestExamples is the table of the chapter.
func TestExamples(t *testing.T) {
	p, d := read("(let ((?x ?e) etc) ?b)"), read("(let ((a 1) (b 2)) (a b))")
	l, _ := match.Match(p, d)
	for i, x := range []struct{ got, want string }{
		{strconv.FormatBool(match.IsVar("?x")), "true"},
		{strconv.FormatBool(match.IsVar("?")), "false"},
		{strconv.FormatBool(match.IsVar("x")), "false"},
		{toldVars(match.Vars(p)), "?b 0; ?e 1; ?x 1"},
		{toldBinds(match.Match(p, d)), "?b 0 (a b); ?e 1 (1 2); ?x 1 (a b)"},
		{toldBinds(match.Match(read("(?a . ?r)"), read("(1 2)"))), "?a 0 1; ?r 0 (2)"},
		{toldBinds(match.Match(read("(?a etc ?z)"), read("(1 2 3)"))), "?a 1 (1 2); ?z 0 3"},
		{toldBinds(match.Match(read("(?a)"), num(1))), "error 10"},
		{toldOr("", match.Check(read("(etc)"))), "error 1"},
		{toldOr("", match.Check(read("(?a etc etc)"))), "error 1"},
		{toldOr("", match.Check(read("(a etc b etc)"))), "error 6"},
		{toldOr("", match.Check(read("(?a ?a)"))), "error 3"},
		{toldOr("", match.Check(read("((((?a etc) etc) etc) etc)"))), "error 8"},
		{told(match.Fill(read("((fn (?x etc) ?b) ?e etc)"), l)), "((fn (a b) (a b)) 1 2)"},
		{told(match.Fill(read("?x"), l)), "error 4"},
		{told(match.Fill(read("(1 etc)"), l)), "error 10"},
		{told(match.Fill(read("?q"), l)), "error 2"},
		{told(match.Fill(read("(?x ?e etc)"), l)), "error 4"},
		{told(match.Fill(read("((?x ?b) etc)"), l)), "((a (a b)) (b (a b)))"},
		{told(match.Fill(read("(?p ?q etc)"), binds("?p 0 1; ?q 1 (2)"))), "(1 2)"},
		{told(match.Fill(read("((?p ?q) etc)"), binds("?p 1 (1); ?q 1 (2 3)"))), "error 11"},
		{told(match.Example(p)), "(let () ())"},
		{told(match.Rename(read("(?a ?b)"), "?a", "?c")), "(?c ?b)"},
		{told(match.Rename(read("(?a ?b)"), "?a", "?b")), "error 3"},
		{told(match.Rename(read("(?a ?b)"), "?z", "?c")), "error 10"},
		{toldPaths(match.Everywhere(read("(?a ?b)"), read("((1 2) 3)"))), "@; @ 0"},
		{toldSteps(match.Rewrite(rules("(?a 0) to ?a; (?a ?b) to (?b ?a)"), read("(1 2)"))), "(2 1), 1"},
		{toldSteps(match.Rewrite(rules("(?a 0) to ?a; (?a ?b) to (?b ?a)"), read("(1 0)"))), "1, 0"},
		{toldSteps(match.Rewrite(rules("(?a 0) to ?a; (?a ?b) to (?b ?a)"), num(5))), "error 10"},
		{toldSteps(match.Sweep(rules("(s ?a) to ?a"), read("((s (s 1)) (s 2))"), 10)), "(1 2), 3"},
		{toldSteps(match.Sweep(rules("(s ?a) to ?a"), read("((s (s 1)) (s 2))"), 2)), "error 12"},
	} {
		if x.got != x.want {
			t.Error(i, x.got, "want", x.want)
		}
	}
}
