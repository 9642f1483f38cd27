package tests

import (
	"fmt"
	"regexp"
	"slices"
	"strconv"
	"strings"
	"testing"

	"loop.example/g00310/impl"
)

// wantDesk calls DeskRun and DeskFault, and looks at the answers, at their memory, and at what was handed in.
func wantDesk(t *testing.T, what string, text string, want impl.DeskOut) {
	t.Helper()
	own := strings.Clone(text)
	got, fault := impl.DeskRun(own), impl.DeskFault(own)
	if got != want {
		t.Errorf("DeskRun: %s: %.60q: got %s, want %s", what, text, brief(got), brief(want))
	}
	if want.Text = ""; fault != want {
		t.Errorf("DeskFault: %s: %.60q: got %s, want %s", what, text, brief(fault), brief(want))
	}
	if sharesMemory(got.Text, own) {
		t.Errorf("DeskRun: %s: the answer shares memory with the text that was handed in", what)
	}
	if own != text {
		t.Errorf("DeskRun or DeskFault: %s: the text that was handed in has changed", what)
	}
}

// wantWrongAt: of the text nothing is told but its first wrong line.
func wantWrongAt(t *testing.T, what string, text string, line int64) {
	t.Helper()
	wantDesk(t, what, text, impl.DeskOut{Line: line, Code: impl.ErrSyntax})
}

func withFeeds(lines []string) string {
	var out strings.Builder
	for _, line := range lines {
		out.WriteString(line + "\n")
	}
	return out.String()
}

// deskPlay: lines, and what each of them tells.
type deskPlay struct {
	lines []string
	tells []string
}

// add: so many times that line, which tells the same each time.
func (p *deskPlay) add(times int, line string, tells string) {
	p.lines = append(p.lines, slices.Repeat([]string{line}, times)...)
	p.tells = append(p.tells, slices.Repeat([]string{tells}, times)...)
}

// playOf: the lines that are written so, `LINE -> WHAT IT TELLS`.
func playOf(written string) deskPlay {
	var p deskPlay
	for _, row := range strings.Split(strings.TrimSpace(written), "\n") {
		line, tells, found := strings.Cut(strings.TrimLeft(row, "\t"), " -> ")
		if !found {
			panic("a play by hand: " + row)
		}
		p.add(1, line, tells)
	}
	return p
}

func (p deskPlay) want(t *testing.T, what string) {
	t.Helper()
	wantDesk(t, what, withFeeds(p.lines), impl.DeskOut{Text: withFeeds(p.tells)})
}

// wantEach: the first lines alone tell the beginning, however many they are.
func (p deskPlay) wantEach(t *testing.T, what string) {
	t.Helper()
	for many := range len(p.lines) + 1 {
		deskPlay{p.lines[:many], p.tells[:many]}.want(t, what+", "+strconv.Itoa(many)+" lines")
	}
}

// deskPlays are written by hand: each line of the table, in what it answers.
func deskPlays() map[string]string {
	return map[string]string{
		"a dump, and a torn one": `
			file a x one -> ok
			backup a -> ok 1 0
			dir a d -> ok
			torn a 2 0 -> ok 1
			backup a -> ok 2 2
			restore a 2 -> tree d/ x=3
			chain a 2 -> chain 1 2
			points a -> points 1 2
			prune -> ok 0`,
		"nothing there": `
			points a -> points
			points A -> points
			backup a -> error 6
			backup A -> error 6
			restore a 1 -> error 6
			restore A 0 -> error 6
			chain a 1 -> error 6
			chain a 999999999 -> error 6
			drop a x -> error 6
			drop A x -> error 1
			torn a 0 0 -> error 6
			torn a 4 9 -> error 6
			torn A 4 9 -> error 6
			torn a 5 0 -> error 1
			torn A 999999999 0 -> error 1
			prune -> ok 0
			recycle -> ok 0
			day 0 -> day 0
			day 3 -> day 3
			day 0 -> day 3`,
		"files and dirs": `
			file a x one -> ok
			file a x three -> ok
			file a d/e/f deep -> ok
			dir a d -> ok
			dir a d -> ok
			dir a x -> error 10
			file a d over -> error 10
			file a x/y under -> error 10
			dir a x/y -> error 10
			dir a g/h -> ok
			backup a -> ok 1 0
			restore a 1 -> tree d/ d/e/ d/e/f=4 g/ g/h/ x=5
			file a x 1 -> ok
			backup a -> ok 2 2
			restore a 1 -> tree d/ d/e/ d/e/f=4 g/ g/h/ x=5
			restore a 2 -> tree d/ d/e/ d/e/f=4 g/ g/h/ x=1`,
		"what is not right": `
			file A x one -> error 1
			file 1a x one -> error 1
			file a-b x one -> error 1
			file 1 2 3 -> error 1
			file a ../x y -> error 1
			file a . y -> error 1
			file a /x y -> error 1
			file a x/ y -> error 1
			file a x//y y -> error 1
			dir A d -> error 1
			dir a d/ -> error 1
			dir a .. -> error 1
			backup a -> error 6
			file abcdefghijklmnopqrst x one -> ok
			file abcdefghijklmnopqrstu x one -> error 1
			dir abcdefghijklmnopqrstu x -> error 1
			drop abcdefghijklmnopqrstu x -> error 1
			file a 1 2 -> ok
			backup a -> ok 1 0
			restore a 1 -> tree 1=1
			backup abcdefghijklmnopqrst -> ok 2 0`,
		"what is dropped": `
			file a d/e/f 1 -> ok
			file a d/e/g/h 1 -> ok
			file a d/e-f 1 -> ok
			dir a d/ee -> ok
			backup a -> ok 1 0
			drop a d/f -> error 6
			drop a e -> error 6
			drop a d/ -> error 6
			drop a / -> error 6
			drop b d -> error 6
			drop A d -> error 1
			drop a d/e -> ok
			drop a d/e -> error 6
			drop a d/e/f -> error 6
			backup a -> ok 2 2
			restore a 2 -> tree d/ d/e-f=1 d/ee/
			drop a d/e-f -> ok
			backup a -> ok 3 1
			restore a 3 -> tree d/ d/ee/
			drop a d -> ok
			backup a -> ok 4 2
			restore a 4 -> tree
			chain a 4 -> chain 1 3 4
			restore a 1 -> tree d/ d/e/ d/e-f=1 d/e/f=1 d/e/g/ d/e/g/h=1 d/ee/
			file a d 1 -> ok`,
		"six hosts": `
			file a x 1 -> ok
			dir b x -> ok
			file c x 1 -> ok
			dir d x -> ok
			file e x 1 -> ok
			dir f x -> ok
			file g x 1 -> error 9
			dir g x -> error 9
			file G x 1 -> error 1
			file g / 1 -> error 1
			backup g -> error 6
			drop g x -> error 6
			file a y 1 -> ok
			dir f y -> ok
			drop b x -> ok
			file g x 1 -> error 9
			backup b -> ok 1 0
			restore b 1 -> tree`,
		"two hosts": `
			file a x 1 -> ok
			file b y 22 -> ok
			backup a -> ok 1 0
			backup b -> ok 2 0
			backup a -> ok 3 2
			backup a -> ok 4 1
			backup b -> ok 5 2
			points a -> points 1 3 4
			points b -> points 2 5
			chain a 3 -> chain 1 3
			chain a 4 -> chain 1 4
			chain b 5 -> chain 2 5
			chain a 5 -> error 6
			chain c 5 -> error 6
			restore a 5 -> error 6
			restore a 6 -> error 6
			restore b 1 -> error 6
			restore b 5 -> tree y=2
			backup a -> ok 6 2
			chain a 6 -> chain 1 4 6
			torn a 3 0 -> ok 6
			torn b 0 0 -> ok 6
			prune -> ok 1
			points a -> points 1 4 6
			points b -> points 2 5
			restore a 3 -> error 6
			chain a 3 -> error 6
			chain a 6 -> chain 1 4 6
			recycle -> ok 0
			prune -> ok 0
			torn b 4 0 -> ok 6
			backup a -> ok 8 0`,
		"days": `
			day 499999999 -> day 499999999
			day 500000002 -> day 499999999
			day 500000000 -> day 999999999
			day 2 -> day 999999999
			day 1 -> day 1000000000
			day 1 -> day 1000000000
			day 999999999 -> day 1000000000
			day 0 -> day 1000000000
			file a x one -> ok
			dir a d -> ok
			backup a -> ok 1 0
			restore a 1 -> tree d/ x=3`,
		"levels": `
			dir a x -> ok
			backup a -> ok 1 0
			backup a -> ok 2 2
			backup a -> ok 3 1
			backup a -> ok 4 2
			backup a -> ok 5 0
			backup a -> ok 6 2
			backup a -> ok 7 1
			backup a -> ok 8 2
			backup a -> ok 9 0
			chain a 8 -> chain 5 7 8
			chain a 7 -> chain 5 7
			chain a 6 -> chain 5 6
			chain a 5 -> chain 5
			prune -> ok 5
			points a -> points 5 7 8 9
			backup a -> ok 10 2
			prune -> ok 3
			points a -> points 9 10`,
	}
}

func TestDeskByHand(t *testing.T) {
	for what, written := range deskPlays() {
		playOf(written).wantEach(t, what)
	}
}

// Lines that are refused change nothing: the others tell the same without them.
func TestDeskWithoutRefusedLines(t *testing.T) {
	for what, written := range deskPlays() {
		all := playOf(written)
		var left deskPlay
		for i, tells := range all.tells {
			if !strings.HasPrefix(tells, "error") {
				left.add(1, all.lines[i], tells)
			}
		}
		left.want(t, what+", without refused lines")
	}
}

func TestDeskWords(t *testing.T) {
	words := []string{"backup", "chain", "day", "dir", "drop", "file", "points", "prune", "recycle", "restore", "torn"}
	got, again := impl.DeskWords(), impl.DeskWords()
	if !slices.Equal(got, words) || !slices.Equal(again, words) {
		t.Errorf("DeskWords: got %q, and %q, want %q", got, again, words)
	}
	if listsOverlap(got, again) {
		t.Error("two answers of DeskWords share memory")
	}
	clear(got)
	if !slices.Equal(again, words) || !slices.Equal(impl.DeskWords(), words) {
		t.Error("an answer of DeskWords has changed with another one")
	}
}

// lineForms: what a line takes behind its first word, a letter for any word and a nought for a number.
func lineForms() map[string]string {
	return map[string]string{
		"file": "aaa", "dir": "aa", "drop": "aa", "day": "0", "backup": "a", "torn": "a00",
		"points": "a", "restore": "a0", "chain": "a0", "prune": "", "recycle": "",
	}
}

// lineOf: a line with these words behind its first one.
func lineOf(first string, words ...string) string {
	return strings.Join(append([]string{first}, words...), " ")
}

func wantLine(t *testing.T, line string, right bool) {
	t.Helper()
	want := impl.DeskOut{Code: impl.ErrSyntax}
	if right {
		want = impl.DeskOut{}
	}
	if got := impl.DeskFault(line + "\n"); got != want {
		t.Errorf("DeskFault of the line %.60q: got %s, want %s", line, brief(got), brief(want))
	}
	got := impl.DeskRun(line + "\n")
	if tells := strings.Count(got.Text, "\n"); got.Code != want.Code || got.Line != 0 || right != (tells == 1) || !right && got.Text != "" {
		t.Errorf("DeskRun of the line %.60q: got %s", line, brief(got))
	}
}

func TestDeskForms(t *testing.T) {
	for first, form := range lineForms() {
		for many := range 6 {
			// A number may stand where any word may, but not the other way round.
			wantLine(t, lineOf(first, slices.Repeat([]string{"1"}, many)...), many == len(form))
			wantLine(t, lineOf(first, slices.Repeat([]string{"a"}, many)...), many == len(form) && !strings.Contains(form, "0"))
		}
		for at := range len(form) {
			words := strings.Split(strings.ReplaceAll(form, "0", "7"), "")
			wantLine(t, lineOf(first, words...), true)
			for _, word := range []string{"a", "A", "-1", "1a", "no", "\x00", "\xff"} {
				wantLine(t, lineOf(first, withItem(words, at, word)...), form[at] == 'a')
			}
			wantLine(t, lineOf(first, withItem(words, at, "")...), false)
			wantLine(t, lineOf(first, slices.Insert(words, at, "")...), false)
		}
	}
}

// wrongDeskLines are none that the table has.
func wrongDeskLines() []string {
	out := []string{
		"", " ", "  ", " prune", "  prune", "prune ", "prune  ", "\tprune", "prune\t", "prune\r", "\rprune", "prune\x00", "\x00", "\xff",
		"Prune", "PRUNE", "pruNe", "prunes", "prun", "rune", "prune prune", "prune recycle", "recycle 1", "backup", "backup ", "backup  a",
		"backup a ", "backup a b", " backup a", "Backup a", "back a", "backups a", "file a x", "file a x ", "file a  x y", "file  a x y", "file a x y z",
		"file a x y ", "file a x  y", "dir a", "dir a d ", "dir a d e", "drop a", "drop a d e", "points", "points a b", "restore a", "restore 1",
		"restore a 1 2", "restore 1 a", "chain a", "chain a b", "chain a 1 ", "torn a", "torn a 1", "torn a 1 2 3", "torn 1 2", "torn 1 a 2",
		"torn a 1 x", "torn a x 1", "torn a  1 1", "day", "day ", "day x", "day 1 2", "ok", "error 6", "tree", "help", "#", "prune#", "\ufeffprune",
		"prune\u00a0", "backup\ta", "backup\u00a0a", "backup\u0120a", "backup\u2003a", "day\u01201", "daÿ 1", "pruné", "prune;recycle", "-",
	}
	for first := range lineForms() {
		out = append(out, strings.ToUpper(first)+" a", first+first, first[1:]+" a", first[:len(first)-1]+" a", first+"\x00 a", "\u010a"+first+" a")
	}
	return out
}

func TestDeskWrongLines(t *testing.T) {
	ahead, told := "file a x one\nbackup a\nrestore a 1\n", "ok\nok 1 0\ntree x=3\n"
	wantDesk(t, "what stands ahead", ahead, impl.DeskOut{Text: told})
	for _, line := range wrongDeskLines() {
		what := fmt.Sprintf("%.30q", line)
		wantLine(t, line, false)
		wantWrongAt(t, what+" alone", line+"\n", 0)
		wantWrongAt(t, what+" ahead", line+"\n"+ahead, 0)
		wantWrongAt(t, what+" behind", ahead+line+"\n", 3)
		wantWrongAt(t, what+" between", ahead+line+"\n"+ahead, 3)
		wantWrongAt(t, what+" twice", ahead+line+"\n"+ahead+line+"\n", 3)
		wantWrongAt(t, what+" ahead of an empty line", ahead+line+"\n\n", 3)
		wantWrongAt(t, what+" behind an empty line", ahead+"\n"+line+"\n", 3)
		wantWrongAt(t, what+" as the last one of MaxDesk", strings.Repeat("prune\n", 59)+line+"\n", 59)
	}
}

func TestDeskLineFeeds(t *testing.T) {
	wantDesk(t, "no bytes", "", impl.DeskOut{})
	wantDesk(t, "one line", "prune\n", impl.DeskOut{Text: "ok 0\n"})
	for text, line := range map[string]int64{
		"\n": 0, "\n\n": 0, "\nprune\n": 0, "prune\n\n": 1, "prune\n\nprune\n": 1, "prune": 0, "p": 0, " ": 0, "\r": 0, "\x00": 0, "\xff": 0,
		"prune\nprune": 1, "prune\nx": 1, "prune\n ": 1, "prune\n\x00": 1, "prune\nprune\nprune": 2, "x\nprune": 0, "prune\nx\nprune": 1,
		"day 1\nday 2\nday": 2, "day 1\nday 2\nday 3": 2, "prune\r\n": 0, "prune\n\r": 1, "prune\rprune\n": 0, "prune\u2028": 0, "prune\u0085prune\n": 0,
		"file a x y": 0, "file a x\ny\n": 0, "file a x \ny\n": 0, "backup\na\n": 0, "backup a": 0, "day 1\nday \n": 1,
		// A Ċ has the number of a line feed, and 256 more.
		"prune\u010a": 0, "prune\u010aprune\n": 0, "day 1\nprune\u010a": 1,
	} {
		wantWrongAt(t, "line feeds", text, line)
	}
}

func TestDeskMostLines(t *testing.T) {
	for _, many := range []int{1, 2, 59, 60} {
		text := strings.Repeat("prune\n", many)
		wantDesk(t, "as many as may be", text, impl.DeskOut{Text: strings.Repeat("ok 0\n", many)})
		wantWrongAt(t, "the last one without a line feed", text[:len(text)-1], int64(many-1))
		wantWrongAt(t, "one more without a line feed", text+"prune", int64(many))
		wantWrongAt(t, "one more byte", text+"p", int64(many))
		wantWrongAt(t, "an empty line more", text+"\n", int64(many))
		wantWrongAt(t, "a wrong one more", text+"prunes\n", int64(many))
		for at := range many {
			wrong := strings.Repeat("prune\n", at) + "prunes\n" + strings.Repeat("prune\n", 70)
			wantWrongAt(t, "one too many behind a wrong one", wrong, int64(at))
		}
	}
	full := strings.Repeat("prune\n", 60)
	for _, more := range []string{"prune\n", "prune\nprune\n", "prunes\nprune\n", "prune\nprunes\n", "\n\n", "prune\nprune", "day 1\n\n", full, full + full, strings.Repeat("prune\n", 340) + "x"} {
		wantWrongAt(t, "more than may be", full+more, 60)
	}
}

func TestDeskMostBytes(t *testing.T) {
	long := strings.Repeat("w", impl.MaxBytes)
	for _, c := range []struct {
		line  string
		tells string
	}{{"file a x ", "error 1\n"}, {"file a ", ""}, {"backup ", "error 6\n"}, {"points ", "points\n"}, {"drop a ", "error 6\n"}, {"dir a ", "error 1\n"}, {"", ""}, {"day ", ""}} {
		right := c.line + long[len(c.line)+1:] + "\n"
		want := impl.DeskOut{Text: c.tells}
		if c.tells == "" {
			want.Code = impl.ErrSyntax
		}
		wantDesk(t, "MaxBytes", right, want)
		wantWrongAt(t, "MaxBytes without a line feed", right[:impl.MaxBytes-1]+"w", 0)
		wantDesk(t, "one more", right[:impl.MaxBytes-1]+"w\n", impl.DeskOut{Code: impl.ErrSize})
		wantDesk(t, "one more, an empty line", right+"\n", impl.DeskOut{Code: impl.ErrSize})
	}
	var p deskPlay
	for i := range 15 {
		p.add(1, "file a f"+strconv.Itoa(i)+" "+long[:1200], "ok")
	}
	left := impl.MaxBytes - len(withFeeds(p.lines)) - len("backup \n")
	p.add(1, "backup "+long[:left], "error 6")
	p.want(t, "MaxBytes in many lines")
	wantDesk(t, "one more in many lines", withFeeds(p.lines[:15])+"backup "+long[:left+1]+"\n", impl.DeskOut{Code: impl.ErrSize})
	wantWrongAt(t, "MaxBytes of line feeds", strings.Repeat("\n", impl.MaxBytes), 0)
	wantWrongAt(t, "MaxBytes of lines", strings.Repeat("prune\n", 3333)+"xx", 60)
	for _, text := range []string{strings.Repeat("\n", 20001), strings.Repeat("prune\n", 3333) + "xxx", strings.Repeat("prune\n", 5000), "prunes\n" + long, tooLong, strings.Repeat("\xff", 200000)} {
		wantDesk(t, "more than MaxBytes", text, impl.DeskOut{Code: impl.ErrSize})
	}
}

// numberWords: words that are numbers of a line, or would be but for a rule.
func numberWords() map[string]bool {
	return map[string]bool{
		"0": true, "1": true, "9": true, "10": true, "100": true, "12345678": true, "123456789": true, "99999999": true, "999999999": true, "100000000": true, "900000000": true,
		"": false, "00": false, "01": false, "000": false, "007": false, "010": false, "000000000": false, "000000001": false, "012345678": false,
		"1000000000": false, "0123456789": false, "1234567890": false, "9999999999": false, "0000000000": false, "12345678901234567890": false,
		"18446744073709551617": false, "-1": false, "+1": false, "-0": false, "+0": false, "-": false, "+": false, "--1": false, "1-": false, "-12345678": false,
		"a": false, "1a": false, "a1": false, "1a1": false, "0a": false, "0x1": false, "0b1": false, "1e3": false, "1_0": false, "1.0": false, "1.": false, ".1": false, "1,0": false,
		"1\x00": false, "\x001": false, "1\t": false, "\t1": false, "1\r": false, "/": false, ":": false, "1/": false, "1:": false, "\xff": false, "1\xff": false, "\xb1": false,
		// Digits of other scripts, and letters that have the number of a digit and 256 more.
		"\u0661": false, "\uff11": false, "\u00b2": false, "\u0131": false, "1\u0131": false, "\u0130": false, "\u0139": false,
	}
}

func TestDeskNumbers(t *testing.T) {
	for word, right := range numberWords() {
		for first, form := range lineForms() {
			for at := range len(form) {
				words := strings.Split(strings.ReplaceAll(form, "0", "2"), "")
				wantLine(t, lineOf(first, withItem(words, at, word)...), right || form[at] == 'a' && word != "")
			}
		}
		if right {
			wantDesk(t, "a day", "day "+word+"\n", impl.DeskOut{Text: "day " + word + "\n"})
		} else {
			wantWrongAt(t, "behind a right one", "day 1\nday "+word+"\n", 1)
		}
	}
	for n := range 12000 {
		word := strconv.Itoa(n)
		wantDesk(t, "a day", "day "+word+"\nday 0\n", impl.DeskOut{Text: "day " + word + "\nday " + word + "\n"})
	}
}

// wantSize: the word is so many bytes of a File.
func wantSize(t *testing.T, word string, size int) {
	t.Helper()
	if len(word) != size {
		t.Fatalf("%q has not %d bytes", word, size)
	}
	text := "file a x " + word + "\nbackup a\nrestore a 1\nfile a y " + word + word + "\nbackup a\nrestore a 2\n"
	told := "ok\nok 1 0\ntree x=" + strconv.Itoa(size) + "\nok\nok 2 2\ntree x=" + strconv.Itoa(size) + " y=" + strconv.Itoa(2*size) + "\n"
	wantDesk(t, "a word's bytes", text, impl.DeskOut{Text: told})
}

// Each byte alone, and what words may be made of it.
func TestDeskBytes(t *testing.T) {
	for b := range 256 {
		word := string([]byte{byte(b)})
		if word == "\n" || word == " " {
			wantWrongAt(t, "a word that ends a word", "day 1\nfile a x "+word+"\n", 1)
			wantWrongAt(t, "within a word", "day 1\nfile a x o"+word+"e\n", int64(map[string]int{"\n": 2, " ": 1}[word]))
			continue
		}
		wantSize(t, word, 1)
		wantSize(t, "o"+word+"e", 3)
		wantSize(t, word+word+word+word, 4)
		letter, digit := b >= 'a' && b <= 'z', b >= '0' && b <= '9'
		seen := b >= 33 && b <= 126 && b != '/'
		tells := func(right bool) impl.DeskOut {
			return impl.DeskOut{Text: map[bool]string{true: "ok\n", false: "error 1\n"}[right]}
		}
		wantDesk(t, "a host", "file "+word+" x y\n", tells(letter))
		wantDesk(t, "within a host's name", "file a"+word+"a x y\n", tells(letter || digit || b == '_'))
		wantDesk(t, "a path", "dir a "+word+"\n", tells(seen && b != '.'))
		wantDesk(t, "within a path", "dir a a"+word+"a\n", tells(seen || b == '/'))
		wantDesk(t, "of nobody", "backup "+word+"\npoints a"+word+"\n", impl.DeskOut{Text: "error 6\npoints\n"})
		wantLine(t, "day "+word, digit)
		wantLine(t, "day 1"+word, digit)
		wantLine(t, word, false)
		wantLine(t, word+"prune", false)
		wantLine(t, "prune"+word, false)
		wantLine(t, "pr"+word+"ne", word == "u")
	}
}

// A word is told by its bytes, not by its runes, be it right UTF-8 or not.
func TestDeskRunes(t *testing.T) {
	for word, size := range map[string]int{
		"\u00e4": 2, "\u00df\u00df": 4, "\u20ac": 3, "\U0001f5fc": 4, "\u2028": 3, "\u00a0": 2, "\u0085": 2, "\u3000": 3, "\ufeff": 3, "\ufffd": 3, "e\u0301": 3,
		"\u010a": 2, "\u0120": 2, "o\u010ae": 4, "o\u0120e": 4, "\u0a0a": 3, "\u2020": 3, "\U0001000a": 4, "\U00010020": 4, "\u0130": 2,
		"\xff": 1, "\xc4": 1, "\xc3\x28": 2, "\xe2\x82": 2, "\xe2\x82o": 3, "\xf0\x9f\x97": 3, "\xc0\x8a": 2, "\xc0\xa0": 2, "\xe0\x80\x8a": 3, "\xed\xa0\x80": 3,
		"\xf4\x90\x80\x80": 4, "\x80": 1, "\x8a": 1, "\xa0": 1, "\xff\xfe\x00": 3, "a\xffb\xc3c": 5, "\x00\x01\x02": 3, "\r\t\v\f": 4, "\x7f\x80": 2, "->": 2,
	} {
		wantSize(t, word, size)
	}
	// A byte that begins a rune is cut off by the blank, or the line feed, behind it.
	for _, cut := range []string{"\xc4", "\xe2", "\xe2\x82", "\xf0\x9f\x97"} {
		wantDesk(t, "cut off", "file "+cut+" x y\nfile a "+cut+" y\nfile a x "+cut+"\npoints "+cut+"\n", impl.DeskOut{Text: "error 1\nerror 1\nok\npoints\n"})
		wantWrongAt(t, "a line cut off", "prune\nprune"+cut+"\n", 1)
		wantWrongAt(t, "a number cut off", "prune\nday 1"+cut+"\n", 1)
		wantWrongAt(t, "a first word cut off", "prune\nbackup"+cut+" a\n", 1)
	}
}

// Data, paths and parts of them at their limits.
func TestDeskSizesOfWords(t *testing.T) {
	part := strings.Repeat("p", 60)
	deep := part + "/" + part + "/" + strings.Repeat("q", 28)
	for _, c := range []struct {
		line  string
		tells string
	}{
		{"file a x " + bytesLike(1200), "ok"}, {"file a x " + bytesLike(1201), "error 1"}, {"file a x " + bytesLike(5000), "error 1"},
		{"file a " + part + " 1", "ok"}, {"file a " + part + "p 1", "error 1"}, {"dir a d" + part, "error 1"},
		{"file a " + deep + " 1", "ok"}, {"file a " + deep + "q 1", "error 1"}, {"dir b " + deep, "ok"}, {"dir b " + deep + "q", "error 1"},
	} {
		wantDesk(t, "a size", c.line+"\n", impl.DeskOut{Text: c.tells + "\n"})
	}
	text := "file a " + deep + " " + bytesLike(1200) + "\nbackup a\nrestore a 1\ndrop a " + part + "\ndir a " + deep + "\nbackup a\nrestore a 2\n"
	dirs := "tree " + part + "/ " + part + "/" + part + "/ " + deep
	wantDesk(t, "long ones restored", text, impl.DeskOut{Text: "ok\nok 1 0\n" + dirs + "=1200\nok\nok\nok 2 2\n" + dirs + "/\n"})
}

// What is told may have more bytes than a text that is handed in.
func TestDeskTellsMuch(t *testing.T) {
	var p deskPlay
	tree := "tree"
	for i := range 9 {
		path := strings.Repeat(strconv.Itoa(i), 60)
		p.add(1, "dir a "+path, "ok")
		tree += " " + path + "/"
	}
	p.add(1, "backup a", "ok 1 0")
	p.add(50, "restore a 1", tree)
	p.want(t, "a tree told again and again")
	if told := len(withFeeds(p.tells)); told <= impl.MaxBytes {
		t.Errorf("only %d bytes are told", told)
	}
}

// bytesLike is a word of so many bytes.
func bytesLike(many int) string {
	return strings.Repeat("data_", many/5+1)[:many]
}

// filesOn: lines that put so many small files on a host.
func filesOn(host string, many int) deskPlay {
	var p deskPlay
	for i := range many {
		p.add(1, "file "+host+" f"+strconv.Itoa(100+i)+" x", "ok")
	}
	return p
}

// smallTree: what is told of so many of these files.
func smallTree(many int) string {
	words := []string{"tree"}
	for i := range many {
		words = append(words, "f"+strconv.Itoa(100+i)+"=1")
	}
	return strings.Join(words, " ")
}

func TestDeskFullTrees(t *testing.T) {
	p := filesOn("a", 18)
	p.add(1, "torn a 4 0", "ok 1")
	p.add(1, "restore a 1", smallTree(18))
	p.want(t, "as many as go into an archive")
	// What has changed since is little, so that it is dumped, however many files there are.
	p.add(1, "file a f118 x", "ok")
	p.add(1, "file a f119 x", "ok")
	p.add(1, "file a f120 x", "error 10")
	p.add(1, "dir a f120", "error 10")
	p.add(1, "file a d/e x", "error 10")
	p.add(1, "file a f119 y", "ok")
	p.add(1, "backup a", "ok 2 2")
	p.add(1, "restore a 2", smallTree(20))
	p.add(1, "backup a", "ok 3 1")
	p.add(1, "backup a", "ok 4 2")
	// The next one is of level 0.
	p.add(3, "backup a", "error 2")
	p.add(1, "torn a 0 0", "error 2")
	p.add(1, "torn a 3 99", "error 2")
	p.add(1, "torn a 5 0", "error 1")
	p.add(1, "points a", "points 1 2 3 4")
	p.add(1, "drop a f118", "ok")
	p.add(1, "backup a", "error 2")
	p.add(1, "drop a f119", "ok")
	p.add(1, "backup a", "ok 5 0")
	p.want(t, "as many as a tree has")
	over := filesOn("a", 19)
	for steps := range 5 {
		over.add(1, "torn a "+strconv.Itoa(steps)+" 0", "error 2")
	}
	over.add(1, "backup a", "error 2")
	over.add(1, "recycle", "ok 0")
	over.want(t, "one more than goes into an archive")
	great := deskPlay{}
	for i := range 9 {
		great.add(1, "file a f"+strconv.Itoa(i)+" "+bytesLike(1200), "ok")
	}
	great.add(1, "backup a", "ok 1 0")
	great.add(1, "file b x y", "ok")
	great.want(t, "as much as goes into an archive")
	great = deskPlay{great.lines[:9], great.tells[:9]}
	great.add(1, "file a f9 x", "ok")
	great.add(1, "backup a", "error 2")
	great.want(t, "more than goes into an archive")
}

// Of the three tapes, each of 300 blocks, 257 are taken by fifteen files, 17 by nothing that has changed.
func TestDeskFullTapes(t *testing.T) {
	p := filesOn("a", 15)
	for i, level := range []int{0, 2, 1, 2, 0, 2, 1, 2, 0, 2} {
		p.add(1, "backup a", fmt.Sprintf("ok %d %d", i+1, level))
	}
	p.add(2, "backup a", "error 9")
	p.add(1, "torn a 0 0", "error 9")
	p.add(1, "torn a 4 0", "error 9")
	p.add(1, "torn a 5 0", "error 1")
	p.add(1, "torn b 0 0", "error 6")
	p.add(1, "recycle", "ok 0")
	p.add(1, "backup a", "error 9")
	p.add(1, "prune", "ok 8")
	p.add(1, "points a", "points 9 10")
	// Room comes by tapes that are used again, not by dumps that are dropped.
	p.add(1, "backup a", "error 9")
	p.add(1, "recycle", "ok 2")
	p.add(1, "recycle", "ok 0")
	p.add(1, "restore a 10", smallTree(15))
	p.add(1, "backup a", "ok 11 1")
	p.add(1, "chain a 11", "chain 9 11")
	p.add(1, "backup a", "ok 12 2")
	p.add(1, "restore a 12", smallTree(15))
	p.add(1, "restore a 8", "error 6")
	p.want(t, "tapes that run full")
	// Three hosts, of which each has more than a third of all blocks.
	three := filesOn("a", 18)
	for _, host := range []string{"b", "c"} {
		more := filesOn(host, 18)
		three.lines, three.tells = append(three.lines, more.lines...), append(three.tells, more.tells...)
	}
	three.add(1, "backup c", "ok 1 0")
	three.add(1, "backup a", "ok 2 0")
	three.add(1, "backup b", "error 9")
	three.add(1, "drop b f117", "ok")
	three.add(1, "backup b", "ok 3 0")
	three.add(1, "restore b 3", smallTree(17))
	three.want(t, "three great hosts")
}

// Of one file each dump of level 0 has 33 blocks, so that the tapes have room for more than MaxDumps.
func TestDeskMostDumps(t *testing.T) {
	p := filesOn("a", 1)
	for i := range 40 {
		p.add(1, "backup a", fmt.Sprintf("ok %d %d", i+1, []int{0, 2, 1, 2}[i%4]))
	}
	p.add(1, "backup a", "error 9")
	p.add(1, "torn a 2 0", "error 9")
	p.add(1, "points b", "points")
	p.add(1, "torn b 1 0", "error 6")
	p.add(1, "prune", "ok 37")
	p.add(1, "points a", "points 37 39 40")
	p.add(1, "chain a 40", "chain 37 39 40")
	p.add(1, "torn a 1 0", "ok 3")
	p.add(1, "backup a", "ok 41 0")
	p.add(1, "recycle", "ok 2")
	p.add(1, "prune", "ok 0")
	p.add(1, "backup a", "ok 42 2")
	p.add(1, "prune", "ok 3")
	p.add(1, "points a", "points 41 42")
	p.add(1, "restore a 42", "tree f100=1")
	p.want(t, "MaxDumps")
}

// What was written and is in no dump stays on the tapes, once it is synced, till they are used again.
func TestDeskTornTapes(t *testing.T) {
	for steps, log := range map[int]string{2: "999999999", 3: "3"} {
		p := filesOn("a", 1)
		torn := "torn a " + strconv.Itoa(steps) + " " + log
		p.add(27, torn, "ok 0")
		p.add(2, torn, "error 9")
		p.add(1, "torn a 0 0", "error 9")
		p.add(1, "backup a", "error 9")
		p.add(1, "points a", "points")
		p.add(1, "prune", "ok 0")
		p.add(1, "recycle", "ok 3")
		p.add(1, torn, "ok 0")
		p.add(1, "backup a", "ok 1 0")
		p.want(t, "torn behind "+strconv.Itoa(steps))
	}
	for steps := range 2 {
		p := filesOn("a", 1)
		p.add(40, "torn a "+strconv.Itoa(steps)+" 999999999", "ok 0")
		p.add(1, "recycle", "ok 0")
		p.add(1, "backup a", "ok 1 0")
		p.want(t, "torn behind "+strconv.Itoa(steps))
	}
	p := filesOn("a", 1)
	p.add(9, "torn a 4 0", "ok")
	for i := range 9 {
		p.tells[1+i] = "ok " + strconv.Itoa(i+1)
	}
	p.add(1, "points a", "points 1 2 3 4 5 6 7 8 9")
	p.add(1, "backup a", "ok 10 2")
	p.want(t, "not torn at all")
}

// No tape keeps a block that was not synced: with one on it, and no dump, it would be used again.
func TestDeskTornBlocks(t *testing.T) {
	var p deskPlay
	for i, c := range []struct {
		host  string
		files int
	}{{"a", 15}, {"b", 15}, {"c", 18}} {
		more := filesOn(c.host, c.files)
		p.lines, p.tells = append(p.lines, more.lines...), append(p.tells, more.tells...)
		// Of the dump of b all but 43 blocks go on the second tape, and of that of c all but 86 on the third one.
		p.add(1, "torn "+c.host+" 1 999999999", "ok "+strconv.Itoa(i))
		p.add(1, "recycle", "ok 0")
		if c.host != "c" {
			p.add(1, "backup "+c.host, fmt.Sprintf("ok %d 0", i+1))
		}
	}
	p.want(t, "torn ahead of a sync")
	p.add(1, "torn c 2 0", "ok 2")
	p.add(1, "recycle", "ok 1")
	p.want(t, "torn behind a sync")
}

// deskServer: the server that a desk has at first.
func deskServer() impl.Server {
	return impl.Server{Tapes: emptyTapes(3, 300), Levels: 3, Keep: 2}
}

// deskFile: what a line puts at a path on some day.
func deskFile(path string, data string, day int64) impl.File {
	return impl.File{Path: path, Mode: 420, Time: day, Data: data}
}

// behindTorn: what is told behind a torn backup whose dump is in the catalog, and of one whose dump is not.
func behindTorn(listed bool) string {
	if listed {
		return `
			points a -> points 1 2
			restore a 2 -> tree x=3 y=3
			chain a 2 -> chain 1 2
			restore a 1 -> tree x=3
			backup a -> ok 3 1
			restore a 3 -> tree x=3 y=3
			chain a 3 -> chain 1 3
			prune -> ok 0
			backup a -> ok 4 2
			prune -> ok 1`
	}
	return `
		points a -> points 1
		restore a 2 -> error 6
		chain a 2 -> error 6
		restore a 1 -> tree x=3
		backup a -> ok 2 2
		restore a 2 -> tree x=3 y=3
		chain a 2 -> chain 1 2
		prune -> ok 0
		backup a -> ok 3 1`
}

// A torn backup is in the catalog, if its record was written as a whole.
func TestDeskTorn(t *testing.T) {
	s := withDump(deskServer(), impl.Dump{Id: 1, Host: "a"}, impl.Delta{Puts: []impl.File{deskFile("x", "one", 0)}})
	first := len(s.Log)
	s = withDump(s, impl.Dump{Id: 2, Host: "a", Run: 1, Level: 2, Base: 1}, impl.Delta{Puts: []impl.File{deskFile("y", "two", 0)}})
	record := len(s.Log) - first
	ahead := "file a x one -> ok\nbackup a -> ok 1 0\nfile a y two -> ok\n"
	for steps := range 5 {
		for log := range record + 3 {
			for _, left := range []int{log, log + 256, log + 999999000} {
				line, dumps := fmt.Sprintf("torn a %d %d", steps, left), 1
				listed := steps == 4 || steps == 3 && left >= record
				if listed {
					dumps = 2
				}
				playOf(fmt.Sprintf("%s%s -> ok %d%s", ahead, line, dumps, behindTorn(listed))).want(t, line)
			}
		}
	}
	for _, steps := range []string{"5", "6", "100", "999999999"} {
		playOf(ahead+"torn a "+steps+" 9 -> error 1\ntorn b "+steps+" 9 -> error 1\npoints a -> points 1").want(t, steps+" steps")
	}
}

// wantDumpRecord: behind that line the record of the first dump has as many bytes as it has with these Files.
func wantDumpRecord(t *testing.T, line string, day int64, puts ...impl.File) int {
	t.Helper()
	record := len(withDump(deskServer(), impl.Dump{Id: 1, Host: "a", Day: day}, impl.Delta{Puts: puts}).Log)
	for less, dumps := range map[int]int{0: 1, 1: 0} {
		text := fmt.Sprintf("day %d\n%s\ntorn a 3 %d\n", day, line, record-less)
		wantDesk(t, "a record's bytes", text, impl.DeskOut{Text: fmt.Sprintf("day %d\nok\nok %d\n", day, dumps)})
	}
	return record
}

// No line tells a File's Mode and Time, or a dump's Day; but the length of a dump's record hangs on its CRC, and so on these.
func TestDeskModesAndDays(t *testing.T) {
	seen := map[string]int{}
	for i := range 1500 {
		word := "w" + strconv.Itoa(i)
		for _, day := range []int64{0, 1, 63, 64, 8191, 8192, 999999999} {
			file := wantDumpRecord(t, "file a x "+word, day, deskFile("x", word, day))
			dir := wantDumpRecord(t, "dir a "+word, day, impl.File{Path: word, Dir: true, Mode: 493, Time: day})
			if i < 150 {
				needed := impl.File{Path: word, Dir: true, Mode: 493}
				wantDumpRecord(t, "file a "+word+"/x y", day, needed, deskFile(word+"/x", "y", day))
			}
			seen[fmt.Sprintf("file %d %d", day, file)]++
			seen[fmt.Sprintf("dir %d %d", day, dir)]++
		}
		if i >= 100 && len(seen) >= 28 {
			break
		}
	}
	if len(seen) < 28 {
		t.Errorf("too few records have another length: %v", seen)
	}
}

// deskForm: the lines that are right.
var deskForm = regexp.MustCompile(`^(?:file W W W|(?:dir|drop) W W|day N|(?:backup|points) W|torn W N N|(?:restore|chain) W N|prune|recycle)$`)

// rightLine: is the line one, with its words told as W, and those that are numbers as N, where that helps?
func rightLine(line string) bool {
	number := regexp.MustCompile(`^(?:0|[1-9][0-9]{0,8})$`)
	words := strings.Split(line, " ")
	forms := []string{words[0]}
	for _, word := range words[1:] {
		var longer []string
		for _, form := range forms {
			if word != "" {
				longer = append(longer, form+" W")
			}
			if number.MatchString(word) {
				longer = append(longer, form+" N")
			}
		}
		forms = longer
	}
	return slices.ContainsFunc(forms, deskForm.MatchString)
}

// deskByHand does with a server what a right line says.
func deskByHand(s impl.Server, line string) (impl.Server, string) {
	words := append(strings.Split(line, " "), "", "", "")
	host := words[1]
	number := func(at int) int64 {
		n, _ := strconv.ParseInt(words[at], 10, 64)
		return n
	}
	var out impl.ServerOut
	tells := "ok"
	switch words[0] {
	case "file":
		out = impl.HostPut(s, host, deskFile(words[2], words[3], s.Day))
	case "dir":
		out = impl.HostPut(s, host, impl.File{Path: words[2], Dir: true, Mode: 493, Time: s.Day})
	case "drop":
		out = impl.HostDrop(s, host, words[2])
	case "day":
		out.Server = impl.ServerDay(s, number(1))
		tells = fmt.Sprint("day ", out.Server.Day)
	case "backup":
		out = impl.Backup(s, host)
		if dumps := impl.LogOf(out.Server.Log).Dumps; len(dumps) > 0 {
			tells = fmt.Sprint("ok ", out.Id, dumps[len(dumps)-1].Level)
		}
	case "torn":
		out = impl.BackupAt(s, host, number(2))
		if out.Code == impl.OK {
			out.Server = impl.ServerRecover(impl.ServerCrash(out.Server, nil, number(3)))
		}
		tells = fmt.Sprint("ok ", len(impl.LogOf(out.Server.Log).Dumps))
	case "prune":
		out = impl.Prune(s)
		tells = fmt.Sprint("ok ", out.Id)
	case "recycle":
		out = impl.Recycle(s)
		tells = fmt.Sprint("ok ", out.Id)
	default:
		return s, askedByHand(s, words[0], host, number(2))
	}
	if out.Code != impl.OK {
		return s, fmt.Sprint("error ", out.Code)
	}
	return out.Server, tells
}

// askedByHand: what a line tells that changes nothing.
func askedByHand(s impl.Server, first string, host string, id int64) string {
	out := impl.Restore(s, host, id)
	tells := ""
	switch {
	case first == "points":
		return "points" + strings.TrimRight(" "+strings.Trim(fmt.Sprint(impl.Points(s, host)), "[]"), " ")
	case out.Code != impl.OK:
		return fmt.Sprint("error ", out.Code)
	case first == "chain":
		return "chain " + strings.Trim(fmt.Sprint(out.Ids), "[]")
	}
	for _, f := range out.Tree {
		if f.Dir {
			tells += " " + f.Path + "/"
		} else {
			tells += fmt.Sprintf(" %s=%d", f.Path, len(f.Data))
		}
	}
	return "tree" + tells
}

// toldByDesk: what DeskRun is to tell of a text of no more than MaxBytes bytes.
func toldByDesk(text string) impl.DeskOut {
	lines := strings.SplitAfter(text, "\n")
	for i, line := range lines {
		if line != "" && (i >= 60 || !strings.HasSuffix(line, "\n") || !rightLine(strings.TrimSuffix(line, "\n"))) {
			return impl.DeskOut{Line: int64(i), Code: impl.ErrSyntax}
		}
	}
	s := deskServer()
	var out impl.DeskOut
	for _, line := range lines[:len(lines)-1] {
		var tells string
		s, tells = deskByHand(s, strings.TrimSuffix(line, "\n"))
		out.Text += tells + "\n"
	}
	return out
}

// anyLine is a right one, mostly of things that are there.
func anyLine(next func(int) int) string {
	host := []string{"a", "b", "No", "b1", "c", "d", "e", "f", "g", "h"}[next(10)%(1+next(10))]
	path := []string{"x", "y", "d", "d/e", "d/e/f", "g/h", ".", "x/y"}[next(8)]
	id := strconv.Itoa(next(8))
	switch next(16) {
	case 0, 1, 2:
		return lineOf("file", host, path, strings.Repeat("w", 1+next(30)*next(30)))
	case 3:
		return lineOf("dir", host, path)
	case 4:
		return lineOf("drop", host, path)
	case 5:
		return lineOf("day", []string{"0", "1", "77", "500000000", "999999999"}[next(5)])
	case 6, 7, 8, 9:
		return lineOf("backup", host)
	case 10:
		return lineOf("torn", host, strconv.Itoa(next(6)), strconv.Itoa(next(40)))
	case 11:
		return lineOf("points", host)
	case 12:
		return lineOf("restore", host, id)
	case 13:
		return lineOf("chain", host, id)
	}
	return []string{"prune", "recycle"}[next(2)]
}

// anyTurn: the text with a byte more, less, or another one.
func anyTurn(next func(int) int, text string) string {
	at := next(len(text) + 1)
	b := []string{" ", "\n", "0", "1", "a", "\x00", "\xff", "\r", "-", "\xc4\x8a"}[next(10)]
	switch next(3) {
	case 0:
		return text[:at] + b + text[at:]
	case 1:
		return text[:at] + text[min(len(text), at+1):]
	}
	return text[:at] + b + text[min(len(text), at+1):]
}

// kindOf: of what kind a line is, and what it tells.
func kindOf(line string, tells string) string {
	first, _, _ := strings.Cut(line, " ")
	kind, _, _ := strings.Cut(tells, " ")
	if kind == "error" || tells == "ok 0" {
		kind = tells
	}
	return first + ": " + kind
}

// Promise 26: each line tells a line, and the first ones tell the beginning of what all tell.
func TestDeskLineByLine(t *testing.T) {
	next := rowOfNumbers(26)
	seen := map[string]int{}
	for play := range 130 {
		lines := []string{"file a x 1", "file b x 2", "backup a", "dir b1 x", "dir c x", "dir d x", "file e x y"}[:next(8)]
		for range next(54) {
			lines = append(lines, anyLine(next))
		}
		text, what := withFeeds(lines), "play "+strconv.Itoa(play)
		wantDesk(t, what, text, toldByDesk(text))
		all := impl.DeskRun(text)
		if all.Code != impl.OK || strings.Count(all.Text, "\n") != len(lines) || all.Text != "" && !strings.HasSuffix(all.Text, "\n") {
			t.Errorf("%s: %d lines tell %s", what, len(lines), brief(all))
		}
		told := strings.SplitAfter(all.Text, "\n")
		for _, many := range []int{next(len(lines) + 1), max(0, len(lines)-1)} {
			wantDesk(t, what+", the first lines", withFeeds(lines[:many]), impl.DeskOut{Text: strings.Join(told[:many], "")})
		}
		for i, line := range lines {
			seen[kindOf(line, strings.TrimSuffix(told[i], "\n"))]++
		}
		turned := anyTurn(next, text)
		wantDesk(t, what+", turned", turned, toldByDesk(turned))
		if got := impl.DeskRun(turned); got.Code != impl.OK && got.Text != "" {
			t.Errorf("%s: of a text that is refused %s is told", what, brief(got))
		}
	}
	for _, what := range []string{
		"file: ok", "file: error 1", "file: error 9", "file: error 10", "dir: ok", "dir: error 1", "dir: error 9", "dir: error 10", "drop: ok", "drop: error 1", "drop: error 6",
		"day: day", "backup: ok", "backup: error 6", "torn: ok", "torn: error 1", "torn: error 6", "points: points", "restore: tree", "restore: error 6", "chain: chain", "chain: error 6",
		"prune: ok 0", "prune: ok", "recycle: ok 0", "recycle: ok",
	} {
		if seen[what] == 0 {
			t.Errorf("no line tells %s: %v", what, seen)
		}
	}
}

// towerHost is a host that gets a file more between each two dumps.
type towerHost struct {
	name  string
	files []string
	dumps int
	last  int
}

// tree: what is told of all its files; they are named so that they do not rise as they come.
func (h towerHost) tree() string {
	words := slices.Clone(h.files)
	slices.Sort(words)
	return strings.Join(append([]string{"tree"}, words...), " ")
}

// dump: the lines of a file more, and a dump.
func (h *towerHost) dump(p *deskPlay, next func(int) int, id int) {
	path, size := fmt.Sprintf("%c%02d", 'a'+next(26), h.dumps), 1+next(9)
	h.files = append(h.files, fmt.Sprintf("%s=%d", path, size))
	p.add(1, lineOf("file", h.name, path, bytesLike(size)), "ok")
	p.add(1, lineOf("backup", h.name), fmt.Sprintf("ok %d %d", id, []int{0, 2, 1, 2}[h.dumps%4]))
	h.dumps++
	h.last = id
}

// Promise 27: levels go by the towers, and the last point is restored as all the host's files.
func TestDeskGoesByTheTowers(t *testing.T) {
	next := rowOfNumbers(27)
	for play := range 150 {
		hosts := []towerHost{{name: "a"}, {name: "b"}, {name: "c"}}[:1+next(3)]
		var p deskPlay
		for id := 1; id <= 1+next(14); id++ {
			h := &hosts[next(len(hosts))]
			h.dump(&p, next, id)
			switch next(6) {
			case 0:
				p.add(1, lineOf("restore", h.name, strconv.Itoa(id)), h.tree())
			case 1:
				p.add(1, lineOf("torn", h.name, "1", strconv.Itoa(next(99))), "ok "+strconv.Itoa(id))
			case 2:
				p.add(1, "day 0", "day 0")
			}
		}
		for _, h := range hosts {
			if h.dumps > 0 {
				p.add(1, lineOf("restore", h.name, strconv.Itoa(h.last)), h.tree())
			}
		}
		p.want(t, "play "+strconv.Itoa(play))
	}
}

// With old dumps pruned, and their tapes used again, a host's dumps go on, as long as its files fit in.
func TestDeskGoesOnByTheTowers(t *testing.T) {
	next := rowOfNumbers(28)
	h := towerHost{name: "tower"}
	var p deskPlay
	for id := 1; id <= 17; id++ {
		h.dump(&p, next, id)
		if id%3 == 0 {
			p.add(1, "prune", "ok "+strconv.Itoa(map[int]int{3: 0, 6: 4, 9: 1, 12: 4, 15: 3}[id]))
			p.add(1, "recycle", "*")
		}
		if id%4 == 0 {
			p.add(1, lineOf("restore", h.name, strconv.Itoa(id)), h.tree())
		}
	}
	p.add(1, lineOf("restore", h.name, "17"), h.tree())
	got := strings.Split(impl.DeskRun(withFeeds(p.lines)).Text, "\n")
	for i, tells := range p.tells {
		if i < len(got) && tells != got[i] && tells != "*" {
			t.Errorf("the line %q tells %q, want %q", p.lines[i], got[i], tells)
		}
	}
	if len(got) != len(p.lines)+1 {
		t.Errorf("%d lines tell %q", len(p.lines), got)
	}
}

// Nothing is kept from call to call.
func TestDesksAlone(t *testing.T) {
	p := playOf(deskPlays()["two hosts"])
	text := withFeeds(p.lines)
	first := impl.DeskRun(text)
	impl.DeskRun("file a x other\nbackup a\nday 7\n")
	impl.DeskRun(text + "wrong\n")
	impl.DeskFault("file a y other\nbackup a\n")
	impl.DeskRun(tooLong)
	second := impl.DeskRun(text)
	if first != second || first.Text != withFeeds(p.tells) {
		t.Errorf("two calls tell two answers: %s and %s", brief(first), brief(second))
	}
	if sharesMemory(first.Text, second.Text) {
		t.Error("two answers share memory")
	}
}
