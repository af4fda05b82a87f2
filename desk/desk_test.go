package desk

import (
	"strconv"
	"strings"
	"testing"

	"linchpin/api"
	"linchpin/sample"
	"linchpin/text"
	"linchpin/walk"
)

const playText = "(((await x; emit A) | (pause; emit B)); (pause; was A then emit C else halt end))"

// script: lines, with a line feed behind each.
func script(lines ...string) string {
	s := ""
	for _, l := range lines {
		s += l + "\n"
	}
	return s
}

func mustGive(t *testing.T, s string, lines, want []string) {
	t.Helper()
	if got, e := Play(s, script(lines...)); got != script(want...) || e != api.OK {
		t.Errorf("%q, %.20q: %q %d, not %q", s, lines, got, e, want)
	}
}

func mustRefuse(t *testing.T, s, script string, want api.Errno) {
	t.Helper()
	if got, e := Play(s, script); got != "" || e != want {
		t.Errorf("%.90q, %.90q: %q %d, not %d", s, script, got, e, want)
	}
}

// Nodes 3 and 6 wait, then 9; A and B, then C, and it is over.
func TestM1Example(t *testing.T) {
	mustGive(t, playText,
		[]string{"rest", "tick", "rest", "tick x", "rest", "tick", "rest", "tick x y z", "rest", "show", "again", "rest", "tick x", "rest"},
		[]string{"-", "-", "3 6", "A B", "9", "C over", "-", "-", "-", playText, "ok", "-", "-", "3 6"})
	mustGive(t, playText,
		[]string{"tick", "tick y z", "rest", "tick", "tick x y z", "rest", "tick z", "tick z"},
		[]string{"-", "B", "3", "-", "A", "9", "C over", "-"})
}

// A program that is over is over once; over stands behind all outputs, which rise.
func TestM1WhatATickGives(t *testing.T) {
	for s, want := range map[string][]string{
		"nothing":                              {"over", "-"},
		"halt":                                 {"-", "-"},
		"pause":                                {"-", "over", "-"},
		"emit A":                               {"A over", "-"},
		"emit B":                               {"B over", "-"},
		"emit C":                               {"C over", "-"},
		"(emit C; (emit B; emit A))":           {"A B C over", "-"},
		"(emit C | emit A)":                    {"A C over", "-"},
		"(emit C; (pause; (emit B | emit A)))": {"C", "A B over", "-"},
		"(emit C; halt)":                       {"C", "-", "-"},
		"(emit A; (pause; was A then emit B else emit C end))": {"A", "B over", "-"},
	} {
		mustGive(t, s, []string{"tick", "tick", "tick"}[:len(want)], want)
		mustGive(t, s, []string{"tick x y z", "tick x y z", "tick x y z"}[:len(want)], want)
	}
}

// Each input by its own name, alone and beside others.
func TestM1InputsOfATick(t *testing.T) {
	s := "(if x then emit A else nothing end; (if y then emit B else nothing end; if z then emit C else nothing end))"
	for line, want := range map[string]string{
		"tick": "over", "tick x": "A over", "tick y": "B over", "tick z": "C over",
		"tick x y": "A B over", "tick x z": "A C over", "tick y z": "B C over", "tick x y z": "A B C over",
	} {
		mustGive(t, s, []string{line}, []string{want})
	}
}

// Numbers of two digits, too, and all that may wait at once.
func TestM1Rest(t *testing.T) {
	mustGive(t, "halt", []string{"rest", "tick", "rest"}, []string{"-", "-", "0"})
	mustGive(t, "((((((halt | halt) | halt) | halt) | halt) | halt) | halt)", []string{"tick", "rest"}, []string{"-", "6 7 8 9 10 11 12"})
	mustGive(t, "(pause; (pause; (pause; (pause; (pause; (pause; halt))))))",
		[]string{"tick", "rest", "tick", "tick", "tick", "tick", "rest", "tick", "rest"},
		[]string{"-", "1", "-", "-", "-", "-", "9", "-", "11"})
}

// Again: also what was put out is forgotten.
func TestM1Again(t *testing.T) {
	s := "(was A then emit B else emit A end; pause)"
	mustGive(t, s,
		[]string{"again", "tick", "rest", "again", "rest", "tick", "tick", "tick", "again", "again", "tick"},
		[]string{"ok", "A", "4", "ok", "-", "A", "over", "-", "ok", "ok", "A"})
}

// A program is shown wherever it rests.
func TestM1Show(t *testing.T) {
	d := sample.Draw(127)
	for i := range 100 {
		s, _ := text.Show(d.Program(i % 7))
		mustGive(t, s, []string{"show"}, []string{s})
		got, e := Play(s, "tick\nshow\ntick x\nshow\nagain\nshow\n")
		lines := strings.Split(got, "\n")
		if e != api.OK || len(lines) != 7 || lines[1] != s || lines[3] != s || lines[5] != s {
			t.Errorf("%q: %q %d", s, got, e)
		}
	}
}

// near: lines that are nearly one of those that there are.
func near() []string {
	return []string{
		"", " ", "-", "ok", "over", "x", "y", "x y", "A", "0", "error 1", "pause", playText,
		"tick ", " tick", "ticks", "tic", "tickx", "Tick", "TICK", "tick\t", "tick\r", "tick\x00", "tick  x", "tick x ", "tick\tx", "tick x\r", "tick X", "tick A", "tick w", "tick 0", "tick 1",
		"tick x x", "tick y x", "tick z x", "tick z y", "tick x z y", "tick y x z", "tick z y x", "tick x y y", "tick x y z z", "tick x y z x", "tick x y z w", "tick xy", "tick xyz", "tick x,y", "tick x  y", "tick x y  z", "tick x\ty", "tick tick", "tick tick x", "tick rest", "tick over",
		"rest ", " rest", "rests", "res", "Rest", "rest x", "rest rest", "rest\r", "rest 0", "REST",
		"show ", " show", "shows", "sho", "Show", "show x", "show show", "show\r", "show A",
		"again ", " again", "agains", "agai", "Again", "again x", "again again", "again\r",
		"\xff", "tick \xff", "tick \xc3\xa4", "rest\xc2\xa0", strings.Repeat("tick", 200), "tick" + strings.Repeat(" x", 300),
	}
}

// They give an error, and change nothing.
func TestM1LinesThatAreNearlyOne(t *testing.T) {
	for _, line := range near() {
		mustGive(t, playText,
			[]string{line, "tick", "rest", line, "rest", "tick x", line, "tick", line, "tick"},
			[]string{"error 1", "-", "3 6", "error 1", "3 6", "A B", "error 1", "C over", "error 1", "-"})
	}
}

// All lines of so many words: just those are one of the lines that there are.
func TestM1AllLinesOfFewWords(t *testing.T) {
	words := []string{"tick", "rest", "show", "again", "x", "y", "z", ""}
	are := map[string]bool{"tick": true, "tick x": true, "tick y": true, "tick z": true, "tick x y": true, "tick x z": true, "tick y z": true, "tick x y z": true, "rest": true, "show": true, "again": true}
	for count := range 5 {
		for _, l := range sample.Rows(count, len(words)) {
			var line []string
			for _, k := range l {
				line = append(line, words[k])
			}
			s := strings.Join(line, " ")
			if got, e := Play("halt", s+"\n"); e != api.OK || (got != "error 1\n") != are[s] {
				t.Errorf("%q: %q %d", s, got, e)
			}
		}
	}
}

// The errors of the text come first, whatever the script is.
func TestM1TextsErrorsFirst(t *testing.T) {
	for _, t2 := range []string{"", "tick\n", "tick", strings.Repeat("\n", api.MaxLines+1), strings.Repeat("x", api.MaxBytes+1)} {
		for _, s := range []string{"", "x", "pause ", "pause\n", "(pause)", playText[1:], strings.Repeat("(", api.MaxBytes)} {
			mustRefuse(t, s, t2, api.ErrForm)
		}
		mustRefuse(t, strings.Repeat("(", api.MaxBytes+1), t2, api.ErrMany)
	}
}

// So many bytes, and so many lines, and no more; of a script that does not end as it must, too.
func TestM1TooMany(t *testing.T) {
	long := strings.Repeat("x", api.MaxBytes)
	mustGive(t, "pause", []string{long[1:]}, []string{"error 1"})
	mustRefuse(t, "pause", long+"\n", api.ErrMany)
	mustRefuse(t, "pause", long+"x", api.ErrMany)
	mustRefuse(t, "pause", "\n"+long, api.ErrMany)
	mustRefuse(t, "pause", strings.Repeat("tick\n", 1<<16), api.ErrMany)
	for _, line := range []string{"tick\n", "\n", "x\n"} {
		most := strings.Repeat(line, api.MaxLines)
		if got, e := Play("halt", most); strings.Count(got, "\n") != api.MaxLines || e != api.OK {
			t.Errorf("%d lines %q: %q %d", api.MaxLines, line, got, e)
		}
		mustRefuse(t, "halt", most+line, api.ErrMany)
		mustRefuse(t, "halt", most+line+"tick", api.ErrMany)
		// What has no line feed behind it is no line.
		mustRefuse(t, "halt", most+"tick", api.ErrForm)
	}
	full := strings.Repeat("x", 95) + "\n"
	full = strings.Repeat(full, api.MaxLines) + strings.Repeat("x", api.MaxBytes-96*api.MaxLines)
	mustRefuse(t, "halt", full, api.ErrForm)
	mustRefuse(t, "halt", full+"\n", api.ErrMany)
}

func TestM1DoesNotEndWithALineFeed(t *testing.T) {
	for _, t2 := range []string{"x", "rest", "tick\nrest", "tick\n\nrest", "\nx", "tick\n ", "tick\r", "tick\n\r", "show\nagain\x00", strings.Repeat("x", api.MaxBytes)} {
		mustRefuse(t, playText, t2, api.ErrForm)
	}
}

// Nothing gives nothing; an empty line gives one.
func TestM2LinesAndNoLines(t *testing.T) {
	mustGive(t, playText, nil, nil)
	mustGive(t, playText, []string{""}, []string{"error 1"})
	mustGive(t, playText, []string{"", "", "rest", ""}, []string{"error 1", "error 1", "-", "error 1"})
}

// told: what the lines must give, told by package walk.
func told(p []api.Node, lines []string) []string {
	r, _ := walk.Begin(p)
	var all []string
	for _, line := range lines {
		given := ""
		switch {
		case line == "rest":
			for k, waits := range r.Waits {
				if waits {
					given += " " + strconv.Itoa(k)
				}
			}
		case line == "show":
			given, _ = text.Show(p)
			given = " " + given
		case line == "again":
			r, _ = walk.Begin(p)
			given = " ok"
		case strings.HasPrefix(line, "tick"):
			ins, over := 0, false
			for k, name := range []string{"x", "y", "z"} {
				if strings.Contains(line, name) {
					ins += 1 << k
				}
			}
			r, over, _ = walk.Step(p, r, ins)
			for k, name := range []string{" A", " B", " C"} {
				if r.Outs[k] {
					given += name
				}
			}
			if over {
				given += " over"
			}
		default:
			given = " error 1"
		}
		if given == "" {
			given = " -"
		}
		all = append(all, given[1:])
	}
	return all
}

// Drawn programs, and drawn scripts of up to as many lines as there may be.
func TestM2DrawnScripts(t *testing.T) {
	d := sample.Draw(131)
	few := []string{"tick", "tick x", "tick y", "tick z", "tick x y", "tick x z", "tick y z", "tick x y z", "rest", "rest", "show", "again", "oops"}
	for i := range 2000 {
		p := d.Program(i % 7)
		s, _ := text.Show(p)
		var lines []string
		for range d.Below(api.MaxLines + 1) {
			lines = append(lines, few[d.Below(len(few))])
		}
		mustGive(t, s, lines, told(p, lines))
	}
}

// One Play leaves nothing behind that the next could tell.
func TestP3PlaysDoNotMeet(t *testing.T) {
	for range 3 {
		mustGive(t, playText, []string{"tick", "tick x"}, []string{"-", "A B"})
		mustGive(t, "pause", []string{"rest", "tick"}, []string{"-", "-"})
		mustRefuse(t, "pause", "tick", api.ErrForm)
	}
}
