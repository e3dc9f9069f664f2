package sample

import (
	"strconv"

	"caracole/api"
)

// Told is what a function returns as a text, or its error. The functions below tell so of results of some sorts.
func Told(s string, e api.Errno) string {
	if e != api.OK {
		return "error " + strconv.Itoa(int(e))
	}
	return s
}

func ToldTerm(t api.Term, e api.Errno) string { return Told(TermText(t), e) }

func ToldDatum(d api.Datum, e api.Errno) string { return Told(Show(d), e) }

func ToldBool(b bool, e api.Errno) string { return Told(strconv.FormatBool(b), e) }

func ToldInt(n int, e api.Errno) string { return Told(strconv.Itoa(n), e) }

// ToldResult tells what a run ends with, and what it has put out. If there is a value beside an error, it tells that, too.
func ToldResult(r api.Result, e api.Errno) string {
	got := Show(r.Value)
	if r.Err != api.OK {
		got = Told("", r.Err)
		if !Same(r.Value, api.Datum{}) {
			got += " with " + Show(r.Value)
		}
	}
	return Told(got+PutOut(r.Out), e)
}

// PutOut is what was put out, to stand behind another text.
func PutOut(out []api.Datum) string {
	if len(out) == 0 {
		return ""
	}
	return " out " + ShowAll(out)
}

// ToldRun tells how many steps there were, too.
func ToldRun(r api.Result, steps int, e api.Errno) string {
	return Told(ToldResult(r, e)+" in "+strconv.Itoa(steps), e)
}
