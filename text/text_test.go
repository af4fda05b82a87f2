package text

import (
	"slices"
	"strings"
	"testing"

	"linchpin/api"
	"linchpin/sample"
)

// mostForks: the longest program has one leaf more than forks.
const mostForks = (api.MaxNodes - 1) / 2

const playText = "(((await x; emit A) | (pause; emit B)); (pause; was A then emit C else halt end))"

// Nodes of tests, by short names.
var (
	nothing, pause, halt = api.Node{Kind: api.Nothing}, api.Node{Kind: api.Pause}, api.Node{Kind: api.Halt}
	putA, putB, putC     = api.Node{Kind: api.Emit, Sig: 0}, api.Node{Kind: api.Emit, Sig: 1}, api.Node{Kind: api.Emit, Sig: 2}
	seq, par             = api.Node{Kind: api.Seq}, api.Node{Kind: api.Par}
)

// shown: programs, and their texts.
func shown() map[string][]api.Node {
	return map[string][]api.Node{
		"nothing": {nothing},
		"pause":   {pause},
		"halt":    {halt},
		"emit A":  {putA},
		"emit B":  {putB},
		"emit C":  {putC},
		"await x": {{Kind: api.Await, Sig: 0}},
		"await y": {{Kind: api.Await, Sig: 1}},
		"await z": {{Kind: api.Await, Sig: 2}},
		// One part behind the other, and both at once.
		"(pause; halt)":                            {seq, pause, halt},
		"(pause | halt)":                           {par, pause, halt},
		"((pause; halt); nothing)":                 {seq, seq, pause, halt, nothing},
		"(pause; (halt; nothing))":                 {seq, pause, seq, halt, nothing},
		"((pause | halt); emit C)":                 {seq, par, pause, halt, putC},
		"(pause | (halt; emit C))":                 {par, pause, seq, halt, putC},
		"((pause; halt) | emit C)":                 {par, seq, pause, halt, putC},
		"if x then pause else halt end":            {{Kind: api.If, Sig: 0}, pause, halt},
		"if y then nothing else emit A end":        {{Kind: api.If, Sig: 1}, nothing, putA},
		"if z then emit B else emit C end":         {{Kind: api.If, Sig: 2}, putB, putC},
		"was A then pause else halt end":           {{Kind: api.Was, Sig: 0}, pause, halt},
		"was B then halt else pause end":           {{Kind: api.Was, Sig: 1}, halt, pause},
		"was C then emit A else (pause; halt) end": {{Kind: api.Was, Sig: 2}, putA, seq, pause, halt},
		"if x then if y then pause else halt end else was B then halt else pause end end": {{Kind: api.If, Sig: 0}, {Kind: api.If, Sig: 1}, pause, halt, {Kind: api.Was, Sig: 1}, halt, pause},
		playText: sample.Play(),
	}
}

func mustShow(t *testing.T, p []api.Node, want string) {
	t.Helper()
	if s, e := Show(p); s != want || e != api.OK {
		t.Errorf("Show of %v: %q %d, not %q", p, s, e, want)
	}
}

func mustRead(t *testing.T, s string, want []api.Node) {
	t.Helper()
	if p, e := Read(s); !slices.Equal(p, want) || e != api.OK {
		t.Errorf("Read of %q: %v %d, not %v", s, p, e, want)
	}
}

func mustRefuse(t *testing.T, s string, want api.Errno) {
	t.Helper()
	if p, e := Read(s); p != nil || e != want {
		t.Errorf("Read of %.100q: %v %d, not %d", s, p, e, want)
	}
}

func TestL1ShowAndRead(t *testing.T) {
	for s, p := range shown() {
		mustShow(t, p, s)
		mustRead(t, s, p)
	}
}

func TestL1ShowTellsProgramsErrors(t *testing.T) {
	for _, c := range sample.NoPrograms() {
		if s, e := Show(c.Nodes); s != "" || e != c.Err {
			t.Errorf("%v: %q %d, not %d", c.Nodes, s, e, c.Err)
		}
	}
}

// One byte more than there may be, whatever it says; as many as there may be are read, and are no program.
func TestL1TooManyBytes(t *testing.T) {
	for _, s := range []string{"x", "(", " ", "\x00", "\xff", "pause", "(pause; ", "if x then ", "was A then "} {
		long := strings.Repeat(s, api.MaxBytes+1)
		mustRefuse(t, long[:api.MaxBytes], api.ErrForm)
		mustRefuse(t, long[:api.MaxBytes+1], api.ErrMany)
	}
	mustRefuse(t, playText+strings.Repeat(" ", api.MaxBytes-len(playText)), api.ErrForm)
	mustRefuse(t, playText+strings.Repeat(" ", api.MaxBytes+1-len(playText)), api.ErrMany)
	mustRefuse(t, strings.Repeat("pause", 1<<16), api.ErrMany)
}

func TestL1TextsThatAreNearlyAProgram(t *testing.T) {
	for _, s := range []string{
		"", " ", "\n", "-", "pause ", " pause", "pause\n", "pause\r", "\npause", "pause;", "pausepause", "pause pause", "paus", "ause", "Pause", "PAUSE", "(pause", "pause)",
		"nothin", "nothing.", "halts", "hal", "skip", "error", "tick",
		"emit", "emit ", "emitA", "emit  A", "emit A ", "emit D", "emit a", "emit x", "emit AB", "emit A B", "emit 0", "emit\tA", "Emit A",
		"await", "await ", "awaitx", "await  x", "await w", "await X", "await A", "await xy", "await x y", "await 0",
		"()", "(pause)", "((pause; halt))", "(pause;halt)", "(pause ; halt)", "(pause;  halt)", "( pause; halt)", "(pause; halt )", "(pause; halt", "pause; halt", "pause; halt)", "(pause, halt)", "(pause: halt)",
		"(pause; halt; halt)", "(pause; )", "(; halt)", "(pause halt)", "(pausehalt)", "(pause; halt))", "[pause; halt]", "{pause; halt}", "(pause; halt) ", "(pause; halt)\n",
		"(pause|halt)", "(pause |halt)", "(pause| halt)", "(pause || halt)", "(pause  | halt)", "(pause |  halt)", "pause | halt", "(pause | halt | halt)", "(pause | halt; halt)", "(pause; halt | halt)", "(pause & halt)", "( | halt)", "(pause | )",
		"if x then pause end", "if x then pause else end", "if x then else halt end", "if x pause else halt end", "if then pause else halt end", "if x then pause else halt", "if x then pause else halt en", "if x then pause else halt end ", "if x then pause else halt ends", "if x then pause else halt  end",
		"if x then pause else halt end end", "if x then pause  else halt end", "if x then  pause else halt end", "if  x then pause else halt end", "ifx then pause else halt end", "if A then pause else halt end", "if w then pause else halt end", "if X then pause else halt end", "if xy then pause else halt end", "If x then pause else halt end",
		"if x then pause else halt else halt end", "if x then pause; halt end", "if x then pause | halt end", "if x then pause else halt)", "(pause else halt end", "(pause else halt)", "(if x then pause else halt end)", "x then pause else halt end", "if x then pause halt end", "if x\nthen pause else halt end",
		"was x then pause else halt end", "was D then pause else halt end", "was a then pause else halt end", "was A then pause end", "was A pause else halt end", "wasA then pause else halt end", "if was A then pause else halt end", "if A was then pause else halt end", "was A then pause else halt", "was A else pause then halt end", "is A then pause else halt end",
		"pause\x00", "\x00pause", "emit \xff", "await \xc3\xa4", "pa\xffuse", "(pause\xc2\xa0| halt)", "\xef\xbb\xbfpause",
	} {
		mustRefuse(t, s, api.ErrForm)
	}
}

// The longest program that there may be is read; one with two nodes more is none, of whatever shape.
func TestL1AsManyNodesAsThereMayBe(t *testing.T) {
	for _, f := range [][3]string{{"(", "; ", ")"}, {"(", " | ", ")"}, {"if z then ", " else ", " end"}, {"was B then ", " else ", " end"}} {
		left, right, middle := "pause", "emit C", "halt"
		for forks := 1; forks < 20; forks++ {
			left, right = f[0]+left+f[1]+"pause"+f[2], f[0]+"await y"+f[1]+right+f[2]
			if forks%2 == 0 {
				middle = f[0] + middle + f[1] + "halt" + f[2]
			} else {
				middle = f[0] + "halt" + f[1] + middle + f[2]
			}
			for _, s := range []string{left, right, middle} {
				if forks > mostForks {
					mustRefuse(t, s, api.ErrForm)
				} else if p, e := Read(s); len(p) != 2*forks+1 || e != api.OK {
					t.Errorf("%q: %v %d", s, p, e)
				}
			}
		}
	}
}

// fewPrograms: all of at most so many forks, of few kinds of nodes.
func fewPrograms(forks int, leaves, nodes []api.Node) [][]api.Node {
	var all [][]api.Node
	for _, leaf := range leaves {
		all = append(all, []api.Node{leaf})
	}
	if forks == 0 {
		return all
	}
	for left := range forks {
		for _, a := range fewPrograms(left, leaves, nodes) {
			for _, b := range fewPrograms(forks-1-left, leaves, nodes) {
				for _, node := range nodes {
					all = append(all, slices.Concat([]api.Node{node}, a, b))
				}
			}
		}
	}
	return all
}

func mustComeBack(t *testing.T, p []api.Node) string {
	t.Helper()
	s, e := Show(p)
	if q, f := Read(s); e != api.OK || f != api.OK || !slices.Equal(q, p) {
		t.Fatalf("%v: %q %d, read %v %d", p, s, e, q, f)
	}
	return s
}

// All programs of one fork at most, and drawn ones of all sizes: no two have the same text.
func TestL2WhatIsShownIsReadAsItWas(t *testing.T) {
	all := fewPrograms(1, sample.Leaves(), sample.Forks())
	d := sample.Draw(113)
	for i := range 5000 {
		all = append(all, d.Program(i%(mostForks+1)))
	}
	was := map[string][]api.Node{}
	for _, p := range all {
		s := mustComeBack(t, p)
		if q, is := was[s]; is && !slices.Equal(p, q) {
			t.Errorf("%q shows %v and %v", s, p, q)
		}
		was[s] = p
	}
}

// mustReadOnly: s is read just if it is one of these texts, and as that one's program.
func mustReadOnly(t *testing.T, s string, texts map[string][]api.Node) {
	t.Helper()
	p, e := Read(s)
	want, is := texts[s]
	if is && (e != api.OK || !slices.Equal(p, want)) || !is && (e != api.ErrForm || p != nil) {
		t.Fatalf("%q: %v %d, not %v", s, p, e, want)
	}
}

func textsOf(programs [][]api.Node) map[string][]api.Node {
	texts := map[string][]api.Node{}
	for _, p := range programs {
		s, _ := Show(p)
		texts[s] = p
	}
	return texts
}

// All rows of so many words: those are read that are a program's text, and nothing else is.
func TestL2NothingElseIsRead(t *testing.T) {
	for _, c := range []struct {
		words  []string
		most   int
		forks  int
		leaves []api.Node
		nodes  []api.Node
	}{
		{[]string{"pause", "(", "; ", ")"}, 9, 2, []api.Node{pause}, []api.Node{seq}},
		{[]string{"pause", "(", "; ", " | ", ")", " "}, 5, 1, []api.Node{pause}, []api.Node{seq, par}},
		{[]string{"halt", "if x then ", " else ", " end"}, 7, 2, []api.Node{halt}, []api.Node{{Kind: api.If}}},
		{[]string{"halt", "was B then ", " else ", " end", "if x then ", "; ", ")", "("}, 5, 1, []api.Node{halt}, []api.Node{{Kind: api.If}, {Kind: api.Was, Sig: 1}, seq}},
		{[]string{"emit", "await", "pause", "nothing", " ", "A", "B", "C", "x", "y", "z", "D"}, 4, 0, []api.Node{nothing, pause, putA, putB, putC, {Kind: api.Await}, {Kind: api.Await, Sig: 1}, {Kind: api.Await, Sig: 2}}, nil},
		{[]string{"if ", "was ", "x ", "A ", "then ", "pause", " else halt end"}, 5, 1, []api.Node{pause, halt}, []api.Node{{Kind: api.If}, {Kind: api.Was}}},
	} {
		texts := textsOf(fewPrograms(c.forks, c.leaves, c.nodes))
		for count := range c.most + 1 {
			for _, l := range sample.Rows(count, len(c.words)) {
				var b strings.Builder
				for _, k := range l {
					b.WriteString(c.words[k])
				}
				mustReadOnly(t, b.String(), texts)
			}
		}
	}
}

// Texts with any one byte changed, put in, or left out: what is read is shown just so.
func TestL2OneByteOff(t *testing.T) {
	for _, s := range []string{playText, "if x then (emit A | await z) else was B then nothing else pause end end"} {
		for i := range len(s) {
			mustBeShownSo(t, s[:i]+s[i+1:])
			mustBeShownSo(t, s[:i])
			mustBeShownSo(t, s[i+1:])
			for b := range 256 {
				mustBeShownSo(t, s[:i]+string([]byte{byte(b)})+s[i+1:])
				mustBeShownSo(t, s[:i]+string([]byte{byte(b)})+s[i:])
			}
		}
	}
}

func mustBeShownSo(t *testing.T, s string) {
	t.Helper()
	p, e := Read(s)
	if e == api.ErrForm && p == nil {
		return
	}
	if again, f := Show(p); e != api.OK || f != api.OK || again != s {
		t.Fatalf("%q: %v %d, shown %q %d", s, p, e, again, f)
	}
}

// Of one byte changed those are programs that name another signal, and no others but the one as it was.
func TestL2OtherSignals(t *testing.T) {
	s := "if x then (emit A | await z) else was B then nothing else pause end end"
	count := 0
	for i := range len(s) {
		for b := range 256 {
			if _, e := Read(s[:i] + string([]byte{byte(b)}) + s[i+1:]); e == api.OK && byte(b) != s[i] {
				count++
			}
		}
	}
	// Four signals, each of which may be one of two others.
	if count != 8 {
		t.Errorf("%d texts with one other byte are read", count)
	}
}

func TestP2WhatIsHandedInIsOnlyRead(t *testing.T) {
	p := append(sample.Play(), api.Node{Kind: 77})
	Show(p[:13])
	if !slices.Equal(p, append(sample.Play(), api.Node{Kind: 77})) {
		t.Errorf("changed: %v", p)
	}
}

func TestP2P3AnswersAreNew(t *testing.T) {
	for range 3 {
		p, e := Read(playText)
		if e != api.OK || !slices.Equal(p, sample.Play()) {
			t.Errorf("%v %d", p, e)
		}
		all := p[:cap(p)]
		for k := range all {
			all[k] = api.Node{Kind: 99}
		}
		mustShow(t, sample.Play(), playText)
		mustRefuse(t, "paus", api.ErrForm)
	}
}
