package tests

import (
	"encoding/binary"
	"hash/crc32"
	"math"
	"slices"
	"strconv"
	"strings"
	"testing"

	"loop.example/g00310/impl"
)

const (
	mostId  = 1000000
	mostRun = 1000000
	mostCrc = 1<<32 - 1
)

func sampleDump() impl.Dump {
	return impl.Dump{Id: 64, Host: "host_1", Run: 63, Level: 2, Base: 12, Day: 365, Many: 8192, Crc: 0xCBF43926,
		Parts: []impl.Part{{Tape: 1, Turn: 2, At: 3, Many: 4}, {Tape: 5, Turn: 64, At: 0, Many: 1}}}
}

// greatestDump has as much of everything as it may have.
func greatestDump() impl.Dump {
	return impl.Dump{Id: mostId, Host: strings.Repeat("z", 20), Run: mostRun, Level: 5, Base: mostId, Day: impl.MaxTime,
		Many: impl.MaxBytes, Crc: mostCrc, Parts: someParts(impl.MaxParts, impl.Part{Tape: 7, Turn: 1000000, At: 300, Many: 300})}
}

func someParts(many int, p impl.Part) []impl.Part {
	return slices.Repeat([]impl.Part{p}, many)
}

func ownDump(d impl.Dump) impl.Dump {
	d.Host, d.Parts = strings.Clone(d.Host), ownList(d.Parts)
	return d
}

// ownDumps is a copy whose Hosts and Parts, too, have memory of their own, with spare places behind each list.
func ownDumps(l []impl.Dump) []impl.Dump {
	out := make([]impl.Dump, 0, len(l)+3)
	for _, d := range l {
		out = append(out, ownDump(d))
	}
	return out
}

func sameDump(a impl.Dump, b impl.Dump) bool {
	parts := slices.Equal(a.Parts, b.Parts)
	return parts && a.Id == b.Id && a.Host == b.Host && a.Run == b.Run && a.Level == b.Level && a.Base == b.Base &&
		a.Day == b.Day && a.Many == b.Many && a.Crc == b.Crc
}

func sameDumps(a []impl.Dump, b []impl.Dump) bool {
	return slices.EqualFunc(a, b, sameDump)
}

func wantDumpAlone(t *testing.T, what string, own impl.Dump, was impl.Dump) {
	t.Helper()
	if !sameDump(own, was) {
		t.Errorf("%s: the dump that was handed in has changed", what)
	}
	wantListAlone(t, what, own.Parts, was.Parts)
}

// wantDumpsAlone looks at dumps of ownDumps behind a call: they and all spare places are as they were.
func wantDumpsAlone(t *testing.T, what string, own []impl.Dump, was []impl.Dump) {
	t.Helper()
	for i := range own {
		wantDumpAlone(t, what, own[i], was[i])
	}
	for _, d := range own[len(own):cap(own)] {
		if !sameDump(d, impl.Dump{}) {
			t.Errorf("%s: behind the dumps that were handed in something was written", what)
		}
	}
}

// edge: a number of a dump, and the least and the most that it may be.
type edge struct {
	what  string
	field func(d *impl.Dump) *int64
	least int64
	most  int64
}

func dumpEdges() []edge {
	out := []edge{
		{"Id", func(d *impl.Dump) *int64 { return &d.Id }, 1, mostId},
		{"Run", func(d *impl.Dump) *int64 { return &d.Run }, 0, mostRun},
		{"Level", func(d *impl.Dump) *int64 { return &d.Level }, 0, 5},
		{"Base", func(d *impl.Dump) *int64 { return &d.Base }, 0, mostId},
		{"Day", func(d *impl.Dump) *int64 { return &d.Day }, 0, impl.MaxTime},
		{"Many", func(d *impl.Dump) *int64 { return &d.Many }, 0, impl.MaxBytes},
		{"Crc", func(d *impl.Dump) *int64 { return &d.Crc }, 0, mostCrc},
	}
	for _, at := range []int{0, 3, impl.MaxParts - 1} {
		part := func(d *impl.Dump) *impl.Part { return &d.Parts[at] }
		of := " of the Part " + strconv.Itoa(at)
		out = append(out,
			edge{"Tape" + of, func(d *impl.Dump) *int64 { return &part(d).Tape }, 0, 7},
			edge{"Turn" + of, func(d *impl.Dump) *int64 { return &part(d).Turn }, 0, 1000000},
			edge{"At" + of, func(d *impl.Dump) *int64 { return &part(d).At }, 0, 300},
			edge{"Many" + of, func(d *impl.Dump) *int64 { return &part(d).Many }, 0, 300})
	}
	return out
}

// turnedTo: the sample with as many Parts as may be, and this number in one of its fields.
func (e edge) turnedTo(n int64) impl.Dump {
	d := sampleDump()
	d.Parts = someParts(impl.MaxParts, impl.Part{Tape: 1, Turn: 2, At: 3, Many: 4})
	*e.field(&d) = n
	return d
}

func (e edge) named(n int64) string {
	return e.what + " " + strconv.FormatInt(n, 10)
}

func hosted(host string) impl.Dump {
	d := sampleDump()
	d.Host = host
	return d
}

func inParts(many int) impl.Dump {
	d := sampleDump()
	d.Parts = nil
	for i := range int64(many) {
		d.Parts = append(d.Parts, impl.Part{Tape: i % 8, Turn: 70 * i, At: i % 301, Many: (5 * i) % 301})
	}
	return d
}

// rightDumps: at the edges that the document names.
func rightDumps() map[string]impl.Dump {
	out := map[string]impl.Dump{
		"the sample":             sampleDump(),
		"the least":              {Id: 1, Host: "a"},
		"the greatest":           greatestDump(),
		"an empty list of Parts": {Id: 1, Host: "a", Parts: []impl.Part{}},
		"a Base of Level 0":      {Id: 9, Host: "a", Base: 3},
		"no Base of Level 5":     {Id: 9, Host: "a", Level: 5},
		"its own Id as Base":     {Id: 9, Host: "a", Level: 1, Base: 9},
		"a Base behind it":       {Id: 9, Host: "a", Level: 1, Base: 10},
		"Parts alike":            {Id: 9, Host: "a", Parts: someParts(3, impl.Part{Tape: 1, Many: 1})},
		"Many, and no Parts":     {Id: 9, Host: "a", Many: 700},
		"Parts, and not Many":    {Id: 9, Host: "a", Parts: someParts(2, impl.Part{Many: 300})},
	}
	for _, e := range dumpEdges() {
		for _, n := range []int64{e.least, e.least + 1, (e.least + e.most) / 2, e.most - 1, e.most} {
			out[e.named(n)] = e.turnedTo(n)
		}
	}
	for _, host := range []string{"a", "z", "a0", "b_", "host9_z", "a___________________", strings.Repeat("q", 20)} {
		out["the Host "+host] = hosted(host)
	}
	for many := range impl.MaxParts + 1 {
		out[strconv.Itoa(many)+" Parts"] = inParts(many)
	}
	return out
}

// wrongDumps: each breaks one rule.
func wrongDumps() map[string]impl.Dump {
	out := map[string]impl.Dump{"the zero one": {}, "no Id": {Host: "a"}, "no Host": {Id: 1}}
	for _, e := range dumpEdges() {
		for _, n := range []int64{e.least - 1, e.most + 1, e.least - 1<<32, e.least + 1<<33, math.MinInt64, math.MaxInt64} {
			out[e.named(n)] = e.turnedTo(n)
		}
	}
	for _, host := range []string{"", "A", "0a", "_a", "a-b", "a b", "aB", "a/b", "a.b", "a\x00", "ä", "{", "`", strings.Repeat("q", 21), tooLong[1:], tooLong} {
		out["the Host "+strconv.Quote(host[:min(len(host), 30)])+" of bytes "+strconv.Itoa(len(host))] = hosted(host)
	}
	for _, many := range []int{9, 10, 40, impl.MaxList, impl.MaxList + 1} {
		out[strconv.Itoa(many)+" Parts"] = inParts(many)
	}
	return out
}

func wantDumpRight(t *testing.T, what string, d impl.Dump, want bool) {
	t.Helper()
	own := ownDump(d)
	if got := impl.DumpRight(own); got != want {
		t.Errorf("DumpRight: %s: got %v, want %v", what, got, want)
	}
	wantDumpAlone(t, "DumpRight: "+what, own, d)
}

func TestDumpRight(t *testing.T) {
	for what, d := range rightDumps() {
		wantDumpRight(t, what, d, true)
	}
	for what, d := range wrongDumps() {
		wantDumpRight(t, what, d, false)
	}
	for host := range 256 {
		one := string([]byte{byte(host)})
		wantDumpRight(t, "a Host of one byte", hosted(one), impl.NameRight(one))
		wantDumpRight(t, "a Host of two bytes", hosted("a"+one), impl.NameRight("a"+one))
	}
}

func numByHand(n int64) string {
	return string(binary.AppendVarint(nil, n))
}

// dumpNums: the numbers of a dump in the order of its bytes, those behind the Host.
func dumpNums(d impl.Dump) []int64 {
	out := []int64{d.Run, d.Level, d.Base, d.Day, d.Many, d.Crc, int64(len(d.Parts))}
	for _, p := range d.Parts {
		out = append(out, p.Tape, p.Turn, p.At, p.Many)
	}
	return out
}

// dumpPieces: the bytes of a dump, right or not, number by number, by the library's way to write them.
func dumpPieces(d impl.Dump) []string {
	out := []string{numByHand(d.Id), numByHand(int64(len(d.Host))), d.Host}
	for _, n := range dumpNums(d) {
		out = append(out, numByHand(n))
	}
	return out
}

func dumpByHand(d impl.Dump) string {
	return strings.Join(dumpPieces(d), "")
}

func wantDumpBytes(t *testing.T, what string, d impl.Dump, want string) {
	t.Helper()
	own := ownDump(d)
	if got := impl.DumpBytes(own); got != want {
		t.Errorf("DumpBytes: %s: got %.80q, want %.80q", what, got, want)
	} else if sharesMemory(got, own.Host) {
		t.Errorf("DumpBytes: %s: the answer shares memory with the Host", what)
	}
	wantDumpAlone(t, "DumpBytes: "+what, own, d)
}

func TestDumpBytesWrittenOut(t *testing.T) {
	wantDumpBytes(t, "the least", impl.Dump{Id: 1, Host: "a"}, "\x02\x02a\x00\x00\x00\x00\x00\x00\x00")
	wantDumpBytes(t, "with Parts", impl.Dump{Id: 3, Host: "ab", Run: 1, Level: 2, Base: 64, Day: 5, Many: 6, Crc: 7, Parts: []impl.Part{
		{Tape: 7, Turn: 8, At: 9, Many: 10}, {Tape: 0, Turn: 63, At: 64, Many: 300}}},
		"\x06\x04ab\x02\x04\x80\x01\x0a\x0c\x0e\x04"+"\x0e\x10\x12\x14"+"\x00\x7e\x80\x01\xd8\x04")
	wantDumpBytes(t, "the greatest Crc", impl.Dump{Id: 1000000, Host: "a", Crc: mostCrc}, "\x80\x89\x7a\x02a\x00\x00\x00\x00\x00\xfe\xff\xff\xff\x1f\x00")
}

func TestDumpBytes(t *testing.T) {
	for what, d := range rightDumps() {
		wantDumpBytes(t, what, d, dumpByHand(d))
	}
	for what, d := range wrongDumps() {
		wantDumpBytes(t, what, d, "")
	}
}

func wantDumpRead(t *testing.T, what string, text string, want impl.DumpOut) {
	t.Helper()
	got := impl.DumpRead(text)
	if !sameDump(got.Dump, want.Dump) || got.Code != want.Code {
		t.Errorf("DumpRead: %s: %.80q: got %s, want %s", what, text, brief(got), brief(want))
	}
	if sharesMemory(got.Dump.Host, text) {
		t.Errorf("DumpRead: %s: the Host is a piece of the text", what)
	}
}

func wantNoDump(t *testing.T, what string, text string) {
	t.Helper()
	wantDumpRead(t, what, text, impl.DumpOut{Code: impl.ErrSyntax})
}

// Promise 15.
func TestDumpsComeBack(t *testing.T) {
	for what, d := range rightDumps() {
		wantDumpRead(t, what, impl.DumpBytes(d), impl.DumpOut{Dump: d})
		wantDumpRead(t, what+", by hand", dumpByHand(d), impl.DumpOut{Dump: d})
	}
}

func TestDumpsThatAreNotRightDontComeBack(t *testing.T) {
	for what, d := range wrongDumps() {
		wantNoDump(t, what, impl.DumpBytes(d))
		if text := dumpByHand(d); len(text) <= impl.MaxBytes {
			wantNoDump(t, what+", by hand", text)
		}
	}
}

func TestDumpsCutShort(t *testing.T) {
	for what, d := range rightDumps() {
		text := dumpByHand(d)
		for cut := range len(text) {
			wantNoDump(t, what+", cut", text[:cut])
		}
		for more := range 256 {
			wantNoDump(t, what+", with a byte more", text+string([]byte{byte(more)}))
		}
		wantNoDump(t, what+", twice", text+text)
		wantNoDump(t, what+", with a byte ahead", "\x00"+text)
	}
}

func dumpRightByHand(d impl.Dump) bool {
	most := func(n int64, most int64) bool { return n >= 0 && n <= most }
	for _, p := range d.Parts {
		if !most(p.Tape, 7) || !most(p.Turn, 1000000) || !most(p.At, 300) || !most(p.Many, 300) {
			return false
		}
	}
	return d.Id > 0 && most(d.Id, 1000000) && impl.NameRight(d.Host) && most(d.Run, 1000000) && most(d.Level, 5) && most(d.Base, 1000000) &&
		most(d.Day, impl.MaxTime) && most(d.Many, impl.MaxBytes) && most(d.Crc, mostCrc) && len(d.Parts) <= impl.MaxParts
}

func TestDumpsWithAByteTurned(t *testing.T) {
	refused, others := 0, 0
	for _, d := range []impl.Dump{sampleDump(), greatestDump(), inParts(3), {Id: 1, Host: "a"}} {
		text := dumpByHand(d)
		for i := range text {
			for turn := 1; turn < 256; turn++ {
				turned := text[:i] + string([]byte{text[i] ^ byte(turn)}) + text[i+1:]
				got := impl.DumpRead(turned)
				switch {
				case got.Code == impl.ErrSyntax && sameDump(got.Dump, impl.Dump{}):
					refused++
				case got.Code == impl.OK && dumpRightByHand(got.Dump) && dumpByHand(got.Dump) == turned:
					others++
				default:
					t.Fatalf("the byte %d turned by %d: got %s", i, turn, brief(got))
				}
			}
		}
	}
	if refused < 1000 || others < 1000 {
		t.Errorf("too few texts are refused, or are those of others: %d and %d", refused, others)
	}
}

// stretched: the bytes of a number with one more than it needs.
func stretched(num string) string {
	last := len(num) - 1
	return num[:last] + string([]byte{num[last] | 128}) + "\x00"
}

func TestDumpNumbersInTooManyBytes(t *testing.T) {
	for _, d := range []impl.Dump{sampleDump(), greatestDump(), {Id: 1, Host: "a"}} {
		pieces := dumpPieces(d)
		for i, piece := range pieces {
			if i == 2 {
				continue // the Host is no number
			}
			wantNoDump(t, "the number "+strconv.Itoa(i)+" stretched", strings.Join(withItem(pieces, i, stretched(piece)), ""))
			endless := strings.Repeat("\x80", 9) + "\x02"
			wantNoDump(t, "the number "+strconv.Itoa(i)+" of eleven bytes", strings.Join(withItem(pieces, i, "\x80"+endless), ""))
			wantNoDump(t, "the number "+strconv.Itoa(i)+" too great", strings.Join(withItem(pieces, i, endless), ""))
		}
	}
}

func TestDumpsThatTellAnotherNumberOfParts(t *testing.T) {
	for parts := range impl.MaxParts + 3 {
		pieces := dumpPieces(inParts(parts))
		for _, told := range []int64{-1, 0, 1, 2, 3, 7, 8, 9, 10, 400, 1 << 32, math.MaxInt64, math.MinInt64} {
			text := strings.Join(withItem(pieces, 9, numByHand(told)), "")
			if told == int64(parts) && parts <= impl.MaxParts {
				wantDumpRead(t, "as many Parts as told", text, impl.DumpOut{Dump: inParts(parts)})
			} else {
				wantNoDump(t, strconv.Itoa(parts)+" Parts, told "+strconv.FormatInt(told, 10), text)
			}
		}
	}
}

func TestDumpsWithAnotherLengthOfHost(t *testing.T) {
	pieces := dumpPieces(sampleDump())
	for _, told := range []int64{-1, 0, 1, 5, 7, 20, 21, 400, impl.MaxBytes, impl.MaxBytes + 1, 1<<32 + 6, math.MaxInt64, math.MinInt64} {
		wantNoDump(t, "a Host of told bytes "+strconv.FormatInt(told, 10), strings.Join(withItem(pieces, 1, numByHand(told)), ""))
	}
}

func TestDumpReadOfTexts(t *testing.T) {
	least := dumpByHand(impl.Dump{Id: 1, Host: "a"})
	for what, text := range map[string]string{
		"the empty text": "", "a byte 0": "\x00", "bytes 0": strings.Repeat("\x00", 10), "a name": "host_1", "any bytes": bytesRun(300),
		"a byte 68 ahead of it": "D" + least, "sealed": impl.Seal(least), "as a text": impl.PutText(least),
		"MaxBytes bytes": tooLong[1:], "any MaxBytes bytes": bytesRun(impl.MaxBytes), "a dump filled up": padded(least, impl.MaxBytes),
	} {
		wantNoDump(t, what, text)
	}
	size := impl.DumpOut{Code: impl.ErrSize}
	wantDumpRead(t, "a byte more than MaxBytes", tooLong, size)
	wantDumpRead(t, "many bytes more than MaxBytes", tooLong+tooLong, size)
	wantDumpRead(t, "a dump filled up to a byte more", padded(least, impl.MaxBytes+1), size)
}

func wantMarksOf(t *testing.T, what string, l []impl.Dump, host string, want ...impl.Mark) {
	t.Helper()
	own := ownDumps(l)
	if got := impl.MarksOf(own, host); !slices.Equal(got, want) {
		t.Errorf("MarksOf: %s, %.30q: got %s, want %s", what, host, brief(got), brief(want))
	}
	wantDumpsAlone(t, "MarksOf: "+what, own, l)
}

// twoHosts: a right catalog of dumps of two hosts beside one another, and one of a third one.
func twoHosts() []impl.Dump {
	return []impl.Dump{
		{Id: 2, Host: "a", Run: 0, Day: 9, Parts: someParts(1, impl.Part{Many: 3})},
		{Id: 3, Host: "b", Run: 4, Many: 7},
		{Id: 5, Host: "a", Run: 1, Level: 2, Base: 2, Crc: 8},
		{Id: 6, Host: "b", Run: 5, Level: 1, Base: 3},
		{Id: 7, Host: "a", Run: 3, Level: 1, Base: 2, Parts: someParts(8, impl.Part{Tape: 7, Turn: 1, At: 2, Many: 3})},
		{Id: 9, Host: "a_b", Run: 0},
		{Id: 10, Host: "a", Run: 4, Level: 2, Base: 7},
		{Id: 99, Host: "b", Run: 6, Level: 2, Base: 6},
	}
}

func TestMarksOf(t *testing.T) {
	l := twoHosts()
	wantMarksOf(t, "two hosts", l, "a", impl.Mark{Id: 2}, impl.Mark{Id: 5, Level: 2, Base: 2}, impl.Mark{Id: 7, Level: 1, Base: 2}, impl.Mark{Id: 10, Level: 2, Base: 7})
	wantMarksOf(t, "two hosts", l, "b", impl.Mark{Id: 3}, impl.Mark{Id: 6, Level: 1, Base: 3}, impl.Mark{Id: 99, Level: 2, Base: 6})
	wantMarksOf(t, "two hosts", l, "a_b", impl.Mark{Id: 9})
	for _, host := range []string{"", "c", "a_", "aa", "A", "a ", "a\x00", "ab", "no name", tooLong[1:], tooLong} {
		wantMarksOf(t, "a host that has none", l, host)
	}
	wantMarksOf(t, "no dumps", nil, "a")
	wantMarksOf(t, "an empty list", []impl.Dump{}, "")
}

func TestMarksOfAnyDumps(t *testing.T) {
	strange := []impl.Dump{
		{Id: 9, Host: "", Level: -1, Base: -3}, {}, {Id: 9, Host: "A b", Level: 77, Base: math.MinInt64, Parts: someParts(20, impl.Part{Tape: 9})},
		{Id: 4, Host: "a", Base: 9}, {Id: math.MaxInt64, Host: "A b"}, {Id: 4, Host: "a", Level: 6, Run: -1, Crc: -1}, {Id: -1, Host: "a", Day: -1},
	}
	wantMarksOf(t, "dumps that are not right", strange, "a", impl.Mark{Id: 4, Base: 9}, impl.Mark{Id: 4, Level: 6}, impl.Mark{Id: -1})
	wantMarksOf(t, "dumps that are not right", strange, "", impl.Mark{Id: 9, Level: -1, Base: -3}, impl.Mark{})
	wantMarksOf(t, "a host that is no name", strange, "A b", impl.Mark{Id: 9, Level: 77, Base: math.MinInt64}, impl.Mark{Id: math.MaxInt64})
	wantMarksOf(t, "a Host of MaxBytes bytes", []impl.Dump{{Id: 1, Host: tooLong[1:]}}, tooLong[1:], impl.Mark{Id: 1})
	wantMarksOf(t, "a Host of a byte more", []impl.Dump{{Id: 1, Host: tooLong}}, tooLong)
}

func manyDumps(many int) []impl.Dump {
	var out []impl.Dump
	for i := range int64(many) {
		out = append(out, impl.Dump{Id: i + 1, Host: "h", Run: i, Day: 3 * i})
		if i%6 != 0 {
			out[i].Level, out[i].Base = i%6, i
		}
	}
	return out
}

func TestMarksOfManyDumps(t *testing.T) {
	for _, many := range []int{1, impl.MaxDumps, impl.MaxDumps + 1, 60, 61, impl.MaxList - 1, impl.MaxList} {
		l := manyDumps(many)
		var want []impl.Mark
		for _, d := range l {
			want = append(want, impl.Mark{Id: d.Id, Level: d.Level, Base: d.Base})
		}
		wantMarksOf(t, strconv.Itoa(many)+" dumps", l, "h", want...)
	}
	wantMarksOf(t, "a dump more than MaxList", manyDumps(impl.MaxList+1), "h")
	wantMarksOf(t, "many dumps more than MaxList", manyDumps(3*impl.MaxList), "h")
}

func wantCatalog(t *testing.T, what string, l []impl.Dump, want bool) {
	t.Helper()
	own := ownDumps(l)
	if got := impl.CatalogRight(own); got != want {
		t.Errorf("CatalogRight: %s: got %v, want %v", what, got, want)
	}
	wantDumpsAlone(t, "CatalogRight: "+what, own, l)
}

// eachHost: that many dumps, each of a host of its own.
func eachHost(many int) []impl.Dump {
	var out []impl.Dump
	for i := range many {
		out = append(out, impl.Dump{Id: int64(i + 1), Host: "h" + strconv.Itoa(i), Run: 5})
	}
	return out
}

func rightCatalogs() map[string][]impl.Dump {
	return map[string][]impl.Dump{
		"none":                        nil,
		"an empty list":               {},
		"one":                         {{Id: 1, Host: "a"}},
		"the greatest Id":             {{Id: mostId, Host: "a", Run: mostRun}},
		"two hosts":                   twoHosts(),
		"MaxDumps":                    manyDumps(40),
		"a dump less":                 manyDumps(impl.MaxDumps - 1),
		"MaxDumps hosts":              eachHost(40),
		"one of each Level":           {{Id: 1, Host: "a"}, {Id: 2, Host: "a", Run: 1, Level: 1, Base: 1}, {Id: 3, Host: "a", Run: 2, Level: 2, Base: 2}, {Id: 4, Host: "a", Run: 3, Level: 5, Base: 3}},
		"Runs with gaps":              {{Id: 1, Host: "a", Run: 7}, {Id: 2, Host: "a", Run: 9}, {Id: 3, Host: "a", Run: mostRun}},
		"Runs that fall, of two":      {{Id: 1, Host: "a", Run: 7}, {Id: 2, Host: "b", Run: 6}, {Id: 3, Host: "c"}},
		"Runs that are alike, of two": {{Id: 1, Host: "a", Run: 7}, {Id: 2, Host: "b", Run: 7}, {Id: 3, Host: "a", Run: 8}, {Id: 4, Host: "b", Run: 8}},
		"Days that fall":              {{Id: 1, Host: "a", Run: 1, Day: 7}, {Id: 2, Host: "a", Run: 2, Day: 6}},
		"all else alike":              {{Id: 1, Host: "a", Run: 1, Many: 5, Crc: 6}, {Id: 2, Host: "a", Run: 2, Many: 5, Crc: 6}},
		"Parts alike":                 {{Id: 1, Host: "a", Run: 1, Parts: someParts(1, impl.Part{})}, {Id: 2, Host: "a", Run: 2, Parts: someParts(1, impl.Part{})}},
	}
}

// ofHostA: dumps of one host whose marks are these, with Runs that rise.
func ofHostA(marks []impl.Mark) []impl.Dump {
	var out []impl.Dump
	for i, m := range marks {
		out = append(out, impl.Dump{Id: m.Id, Host: "a", Run: int64(i), Level: m.Level, Base: m.Base})
	}
	return out
}

func wrongCatalogs() map[string][]impl.Dump {
	out := map[string][]impl.Dump{
		"a dump more than MaxDumps":    manyDumps(41),
		"a host more than MaxDumps":    eachHost(41),
		"MaxList dumps":                manyDumps(impl.MaxList),
		"a dump more than MaxList":     manyDumps(impl.MaxList + 1),
		"many dumps more than MaxList": manyDumps(3 * impl.MaxList),
		"many hosts":                   eachHost(3 * impl.MaxList),
		"Ids alike":                    {{Id: 1, Host: "a"}, {Id: 1, Host: "a", Run: 1}},
		"Ids alike, of two":            {{Id: 1, Host: "a"}, {Id: 1, Host: "b"}},
		"Ids that fall":                {{Id: 2, Host: "a"}, {Id: 1, Host: "a", Run: 1}},
		"Ids that fall, of two":        {{Id: 2, Host: "a"}, {Id: 1, Host: "b"}},
		"Ids that fall at the end":     append(twoHosts(), impl.Dump{Id: 98, Host: "c"}),
		"the last Id again":            append(twoHosts(), impl.Dump{Id: 99, Host: "c"}),
		"Runs alike":                   {{Id: 1, Host: "a", Run: 3}, {Id: 2, Host: "a", Run: 3}},
		"Runs that fall":               {{Id: 1, Host: "a", Run: 3}, {Id: 2, Host: "a", Run: 2}},
		"Runs alike, not beside":       {{Id: 1, Host: "a", Run: 3}, {Id: 2, Host: "b", Run: 4}, {Id: 3, Host: "a", Run: 3}},
		"Runs that fall, not beside":   {{Id: 1, Host: "b", Run: 3}, {Id: 2, Host: "a", Run: 4}, {Id: 3, Host: "b", Run: 2}},
		"Runs that fall at the end":    append(twoHosts(), impl.Dump{Id: 100, Host: "b", Run: 5}),
		"the last Run again":           append(twoHosts(), impl.Dump{Id: 100, Host: "b", Run: 6}),
		"a Base of another host":       {{Id: 1, Host: "a"}, {Id: 2, Host: "b", Level: 1, Base: 1}},
		"a Base of a like host":        {{Id: 1, Host: "a"}, {Id: 2, Host: "a_", Level: 1, Base: 1}},
		"a Base of the other of two":   append(twoHosts(), impl.Dump{Id: 100, Host: "b", Run: 7, Level: 4, Base: 7}),
		"a Base that is not there":     append(twoHosts(), impl.Dump{Id: 100, Host: "b", Run: 7, Level: 4, Base: 4}),
		"a Base of a like Level":       append(twoHosts(), impl.Dump{Id: 100, Host: "b", Run: 7, Level: 1, Base: 6}),
		"a Base of Level 0":            append(twoHosts(), impl.Dump{Id: 100, Host: "b", Run: 7, Base: 3}),
		"marks that lack the first":    twoHosts()[1:],
		"marks that lack one":          slices.Delete(twoHosts(), 3, 4),
	}
	for what, d := range wrongDumps() {
		out[what+", alone"] = []impl.Dump{d}
		d.Host, d.Run, d.Level, d.Base = strings.Replace(d.Host, "host_1", "other", 1), max(d.Run, 3), max(d.Level, 2), max(d.Base, 12)
		if !dumpRightByHand(d) {
			out[what+", the last"] = append(slices.Clip(twoHosts()), d)
			out[what+", the first"] = append([]impl.Dump{d}, twoHosts()...)
		}
	}
	for what, marks := range wrongMarks() {
		if len(marks) < 60 {
			out["marks: "+what] = ofHostA(marks)
		}
	}
	return out
}

func TestCatalogRight(t *testing.T) {
	for what, l := range rightCatalogs() {
		wantCatalog(t, what, l, true)
	}
	for what, l := range wrongCatalogs() {
		wantCatalog(t, what, l, false)
	}
	for what, d := range rightDumps() {
		wantCatalog(t, what+", alone", []impl.Dump{d}, d.Level == 0 && d.Base == 0)
	}
	for what, marks := range rightMarks() {
		if len(marks) <= impl.MaxDumps {
			wantCatalog(t, "marks: "+what, ofHostA(marks), true)
		}
	}
	for many := range 2 * impl.MaxDumps {
		wantCatalog(t, strconv.Itoa(many)+" dumps", manyDumps(many), many <= impl.MaxDumps)
	}
}

func catalogRightByHand(l []impl.Dump) bool {
	for i, d := range l {
		if !dumpRightByHand(d) || d.Level == 0 && d.Base != 0 {
			return false
		}
		based := d.Level == 0
		for _, ahead := range l[:i] {
			if ahead.Id >= d.Id || ahead.Host == d.Host && ahead.Run >= d.Run {
				return false
			}
			based = based || ahead.Host == d.Host && ahead.Id == d.Base && ahead.Level < d.Level
		}
		if !based {
			return false
		}
	}
	return len(l) <= impl.MaxDumps
}

// anyDump may mostly be put behind these.
func anyDump(next func(int) int, ahead []impl.Dump) impl.Dump {
	d := impl.Dump{Id: 1, Host: []string{"a", "b", "ab"}[next(3)], Day: int64(next(100)), Many: int64(next(500)), Crc: int64(next(1 << 15))}
	d.Parts = someParts(next(3), impl.Part{Tape: int64(next(8)), At: int64(next(300)), Many: int64(next(9))})
	for _, other := range ahead {
		d.Id = max(d.Id, other.Id+1+int64(next(2)))
		if other.Host == d.Host {
			d.Run = max(d.Run, other.Run+1)
			if other.Level < 5 && next(3) != 0 {
				d.Level, d.Base = other.Level+1, other.Id
			}
		}
	}
	if next(8) == 0 {
		field := []*int64{&d.Id, &d.Run, &d.Level, &d.Base}[next(4)]
		*field = int64(next(14)) - 1
	}
	return d
}

func TestCatalogsInARow(t *testing.T) {
	next := rowOfNumbers(9)
	right, wrong := 0, 0
	for range 3000 {
		var l []impl.Dump
		for range next(12) {
			l = append(l, anyDump(next, l))
		}
		want := catalogRightByHand(l)
		wantCatalog(t, brief(l), l, want)
		if want {
			right++
		} else {
			wrong++
		}
	}
	if right < 500 || wrong < 500 {
		t.Errorf("too few catalogs are right, or are not: %d and %d", right, wrong)
	}
}

// recordByHand is a record with the library's numbers and sum.
func recordByHand(body string) string {
	sealed := binary.LittleEndian.AppendUint32([]byte(body), crc32.ChecksumIEEE([]byte(body)))
	return numByHand(int64(len(sealed))) + string(sealed)
}

func addByHand(d impl.Dump) string {
	return recordByHand("D" + dumpByHand(d))
}

func dropByHand(id int64) string {
	return recordByHand("X" + numByHand(id))
}

func wantLogAdd(t *testing.T, what string, log string, d impl.Dump, want string) {
	t.Helper()
	own := ownDump(d)
	got := impl.LogAdd(log, own)
	if got != want {
		t.Errorf("LogAdd: %s: %d bytes: got %.80q, want %.80q", what, len(log), got, want)
	}
	if sharesMemory(got, log) || sharesMemory(got, own.Host) {
		t.Errorf("LogAdd: %s: the answer shares memory with what was handed in", what)
	}
	wantDumpAlone(t, "LogAdd: "+what, own, d)
}

func wantLogDrop(t *testing.T, what string, log string, id int64, want string) {
	t.Helper()
	got := impl.LogDrop(log, id)
	if got != want {
		t.Errorf("LogDrop: %s: %d bytes, id %d: got %.80q, want %.80q", what, len(log), id, got, want)
	}
	if sharesMemory(got, log) {
		t.Errorf("LogDrop: %s: the answer shares memory with the log", what)
	}
}

// anyLogs: of which some are no logs at all, and none has a record's bytes to MaxBytes.
func anyLogs() map[string]string {
	return map[string]string{
		"the empty log":     "",
		"a dump":            addByHand(impl.Dump{Id: 1, Host: "a"}),
		"a dump and less":   addByHand(impl.Dump{Id: 1, Host: "a"}) + dropByHand(1),
		"the same dump":     addByHand(sampleDump()),
		"a record cut":      addByHand(sampleDump())[:9],
		"any bytes":         bytesRun(1000),
		"a byte 0":          "\x00",
		"words":             "no log at all",
		"many bytes":        bytesRun(impl.MaxBytes - 500),
		"a dump not behind": addByHand(impl.Dump{Id: mostId, Host: "a"}),
	}
}

func TestLogAdd(t *testing.T) {
	wantLogAdd(t, "written out", "ab", impl.Dump{Id: 1, Host: "a"}, "ab\x1eD\x02\x02a\x00\x00\x00\x00\x00\x00\x00"+impl.Seal("D\x02\x02a\x00\x00\x00\x00\x00\x00\x00")[11:])
	for name, log := range anyLogs() {
		for what, d := range rightDumps() {
			wantLogAdd(t, name+": "+what, log, d, log+addByHand(d))
		}
		for what, d := range wrongDumps() {
			wantLogAdd(t, name+": "+what, log, d, log)
		}
	}
}

func TestLogDrop(t *testing.T) {
	wantLogDrop(t, "written out", "ab", 64, "ab\x0eX\x80\x01"+impl.Seal("X\x80\x01")[3:])
	for name, log := range anyLogs() {
		for _, id := range []int64{1, 2, 63, 64, 8191, 8192, mostId - 1, mostId} {
			wantLogDrop(t, name, log, id, log+dropByHand(id))
		}
		for _, id := range []int64{0, -1, mostId + 1, 1<<32 + 1, math.MaxInt64, math.MinInt64} {
			wantLogDrop(t, name, log, id, log)
		}
	}
}

func TestLogsThatGrowTooLong(t *testing.T) {
	text := bytesRun(impl.MaxBytes)
	for what, d := range map[string]impl.Dump{"the least": {Id: 1, Host: "a"}, "the sample": sampleDump(), "the greatest": greatestDump()} {
		record := addByHand(d)
		just := impl.MaxBytes - len(record)
		for less := range 3 {
			wantLogAdd(t, what+" goes", text[:just-less], d, text[:just-less]+record)
		}
		for more := 1; more <= len(record); more++ {
			wantLogAdd(t, what+" goes no more", text[:just+more], d, text[:just+more])
		}
		wantLogAdd(t, what+": a byte more than MaxBytes", tooLong, d, "")
		wantLogAdd(t, what+": many bytes more", tooLong+tooLong, d, "")
	}
	for _, id := range []int64{1, 64, mostId} {
		record := dropByHand(id)
		just := impl.MaxBytes - len(record)
		for less := range 3 {
			wantLogDrop(t, "an Id goes", text[:just-less], id, text[:just-less]+record)
		}
		for more := 1; more <= len(record); more++ {
			wantLogDrop(t, "an Id goes no more", text[:just+more], id, text[:just+more])
		}
		wantLogDrop(t, "a byte more than MaxBytes", tooLong, id, "")
	}
	wantLogAdd(t, "a wrong dump, and just MaxBytes", text, impl.Dump{}, text)
	wantLogAdd(t, "a wrong dump, and a byte more", tooLong, impl.Dump{}, "")
	wantLogDrop(t, "a wrong id, and just MaxBytes", text, 0, text)
	wantLogDrop(t, "a wrong id, and a byte more", tooLong, 0, "")
}

func wantLog(t *testing.T, what string, log string, want impl.LogOut) {
	t.Helper()
	got := impl.LogOf(log)
	if !sameDumps(got.Dumps, want.Dumps) || got.At != want.At || got.Code != want.Code {
		t.Errorf("LogOf: %s: %d bytes: got %d dumps, At %d, %s, want %d dumps, At %d, %s",
			what, len(log), len(got.Dumps), got.At, brief(got), len(want.Dumps), want.At, brief(want))
	}
	for i, d := range got.Dumps {
		if sharesMemory(d.Host, log) {
			t.Errorf("LogOf: %s: the Host of dump %d is a piece of the log", what, i)
		}
		for _, other := range got.Dumps[:i] {
			if listsOverlap(d.Parts, other.Parts) {
				t.Errorf("LogOf: %s: two dumps share their list of Parts", what)
			}
		}
	}
}

// step is a record of a log: of a dump more, or (of no Host) of that Id less.
type step impl.Dump

func (s step) record() string {
	if s.Host == "" {
		return dropByHand(s.Id)
	}
	return addByHand(impl.Dump(s))
}

// behind: the catalog behind the step, and may it be done?
func (s step) behind(l []impl.Dump) ([]impl.Dump, bool) {
	if s.Host != "" {
		after := append(slices.Clip(l), impl.Dump(s))
		return after, catalogRightByHand(after)
	}
	after := slices.DeleteFunc(slices.Clone(l), func(d impl.Dump) bool { return d.Id == s.Id })
	return after, len(after) < len(l) && catalogRightByHand(after)
}

func logByHand(steps []step) string {
	log := ""
	for _, s := range steps {
		log += s.record()
	}
	return log
}

// toldByHand: what comes of a log of these steps, up to the first that may not be done.
func toldByHand(steps []step) impl.LogOut {
	var out impl.LogOut
	for _, s := range steps {
		after, may := s.behind(out.Dumps)
		if !may {
			break
		}
		out.Dumps = after
		out.At += int64(len(s.record()))
	}
	return out
}

func addAll(l []impl.Dump) []step {
	var out []step
	for _, d := range l {
		out = append(out, step(d))
	}
	return out
}

func less(id int64) step {
	return step{Id: id}
}

// sampleSteps: dumps of two hosts come and go.
func sampleSteps() []step {
	return append(addAll(twoHosts()),
		less(10), less(5), step{Id: 100, Host: "a", Run: 9, Level: 3, Base: 7, Parts: someParts(2, impl.Part{Tape: 2, Many: 1})},
		less(9), less(99), less(6), less(3), step{Id: 101, Host: "b"}, less(100), less(101))
}

func TestLogOf(t *testing.T) {
	wantLog(t, "the empty log", "", impl.LogOut{})
	steps := sampleSteps()
	for many := range steps {
		told := toldByHand(steps[:many+1])
		log := logByHand(steps[:many+1])
		if told.At != int64(len(log)) {
			t.Fatalf("by hand: the step %d may not be done", many)
		}
		wantLog(t, "the first steps", log, told)
	}
	last := []impl.Dump{twoHosts()[0], twoHosts()[4]}
	wantLog(t, "all steps", logByHand(steps), impl.LogOut{Dumps: last, At: int64(len(logByHand(steps)))})
}

func TestLogOfWhatLogAddAndLogDropMake(t *testing.T) {
	log := ""
	for _, s := range sampleSteps() {
		if s.Host == "" {
			log = impl.LogDrop(log, s.Id)
		} else {
			log = impl.LogAdd(log, impl.Dump(s))
		}
	}
	if log != logByHand(sampleSteps()) {
		t.Error("LogAdd and LogDrop make another log than was written by hand")
	}
	wantLog(t, "all steps", log, toldByHand(sampleSteps()))
}

// starts: the places at which the records of these steps begin, and the end of the last one.
func starts(steps []step) []int {
	out := []int{0}
	for i := range steps {
		out = append(out, len(logByHand(steps[:i+1])))
	}
	return out
}

// wantCuts looks at promise 16: cut anywhere, a log tells what it told up to the last record that is whole.
func wantCuts(t *testing.T, what string, steps []step) {
	t.Helper()
	log, places := logByHand(steps), starts(steps)
	whole := 0
	for cut := range len(log) + 1 {
		if whole+1 < len(places) && cut == places[whole+1] {
			whole++
		}
		wantLog(t, what, log[:cut], toldByHand(steps[:whole]))
	}
}

// Promise 16.
func TestLogsCutAnywhere(t *testing.T) {
	wantCuts(t, "the sample, cut", sampleSteps())
	wantCuts(t, "great dumps, cut", addAll([]impl.Dump{inHost(greatestDump(), 1), inHost(greatestDump(), 2), inHost(greatestDump(), 3)}))
	wrong := slices.Insert(sampleSteps(), 7, less(3))
	wantCuts(t, "with a wrong step, cut", wrong)
}

// inHost: the dump with that Id, the first one of a host of its own.
func inHost(d impl.Dump, id int64) impl.Dump {
	d.Id, d.Host, d.Level, d.Base = id, "host"+strconv.FormatInt(id, 10), 0, 0
	return d
}

func TestLogsWithAByteTurned(t *testing.T) {
	steps := []step{{Id: 1, Host: "a"}, step(inHost(sampleDump(), 2)), less(1), {Id: 3, Host: "a", Run: 1}, less(2), less(3), {Id: 64, Host: "b"}}
	log, places := logByHand(steps), starts(steps)
	for i := range steps {
		told := toldByHand(steps[:i])
		for at := places[i]; at < places[i+1]; at++ {
			for turn := 1; turn < 256; turn++ {
				wantLog(t, "a byte turned", log[:at]+string([]byte{log[at] ^ byte(turn)})+log[at+1:], told)
			}
		}
	}
}

// wrongForms: records that are none, whatever the catalog is.
func wrongForms() map[string]string {
	d := impl.Dump{Id: 500, Host: "new", Run: 1}
	add, drop := "D"+dumpByHand(d), "X"+numByHand(99)
	out := map[string]string{
		"a seal of nothing":             recordByHand(""),
		"a seal of a byte 68":           recordByHand("D"),
		"a seal of a byte 88":           recordByHand("X"),
		"a byte behind the dump":        recordByHand(add + "\x00"),
		"a byte behind the Id":          recordByHand(drop + "\x00"),
		"a dump behind the Id":          recordByHand(drop + add),
		"an Id behind the dump":         recordByHand(add + drop),
		"a dump twice":                  recordByHand(add + add[1:]),
		"two Ids":                       recordByHand(drop + drop[1:]),
		"a byte 88 ahead of a dump":     recordByHand("X" + add[1:]),
		"a byte 68 ahead of an Id":      recordByHand("D" + drop[1:]),
		"no byte ahead of a dump":       recordByHand(add[1:]),
		"no byte ahead of an Id":        recordByHand(drop[1:]),
		"a byte less of a dump":         recordByHand(add[:len(add)-1]),
		"a byte less of an Id":          recordByHand(drop[:len(drop)-1]),
		"an Id stretched":               recordByHand("X" + stretched(drop[1:])),
		"an Id of eleven bytes":         recordByHand("X" + strings.Repeat("\x80", 10) + "\x01"),
		"a dump's number stretched":     recordByHand("D" + stretched(numByHand(500)) + dumpByHand(d)[len(numByHand(500)):]),
		"an Id of 0":                    dropByHand(0),
		"an Id of -1":                   dropByHand(-1),
		"an Id of -99":                  dropByHand(-99),
		"an Id of 1000001":              dropByHand(mostId + 1),
		"the greatest number as Id":     dropByHand(math.MaxInt64),
		"the least number as Id":        dropByHand(math.MinInt64),
		"a dump put and not sealed":     impl.PutText(add),
		"an Id put and not sealed":      impl.PutText(drop),
		"a dump sealed and not put":     impl.Seal(add),
		"an Id sealed and not put":      impl.Seal(drop),
		"neither sealed nor put":        add,
		"sealed twice":                  impl.PutText(impl.Seal(impl.Seal(add))),
		"put twice":                     impl.PutText(addByHand(d)),
		"put within the seal":           impl.PutText(impl.Seal(impl.PutText(add))),
		"a length stretched":            stretched(addByHand(d)[:1]) + addByHand(d)[1:],
		"a length of -1":                numByHand(-1) + addByHand(d)[1:],
		"a length of MaxBytes and more": numByHand(impl.MaxBytes+1) + addByHand(d)[1:],
		"a length of MaxBytes":          numByHand(impl.MaxBytes) + addByHand(d)[1:],
		"a length of eleven bytes":      strings.Repeat("\x80", 10) + addByHand(d),
		"a byte 0 ahead of it":          "\x00" + addByHand(d),
		"the sum, the highest first":    impl.PutText(string(binary.BigEndian.AppendUint32([]byte(add), crc32.ChecksumIEEE([]byte(add))))),
		"bytes 0":                       strings.Repeat("\x00", 64),
		"bytes 255":                     strings.Repeat("\xff", 64),
	}
	for size := range 4 {
		out["a text of bytes "+strconv.Itoa(size)] = impl.PutText(strings.Repeat("\x00", size))
	}
	for kind := range 256 {
		if kind != 'D' && kind != 'X' {
			out["a dump behind a byte "+strconv.Itoa(kind)] = recordByHand(string([]byte{byte(kind)}) + add[1:])
			out["an Id behind a byte "+strconv.Itoa(kind)] = recordByHand(string([]byte{byte(kind)}) + drop[1:])
		}
	}
	for what, wrong := range wrongDumps() {
		if len(dumpByHand(wrong)) < impl.MaxBytes-1000 {
			out["a wrong dump: "+what] = addByHand(wrong)
		}
	}
	return out
}

// wrongSteps: none of them may be done behind twoHosts.
func wrongSteps() map[string]step {
	return map[string]step{
		"the last Id again":                {Id: 99, Host: "c"},
		"an Id that falls":                 {Id: 98, Host: "c"},
		"an Id that falls behind all":      {Id: 1, Host: "c"},
		"the last Run again":               {Id: 100, Host: "b", Run: 6},
		"a Run that falls":                 {Id: 100, Host: "a", Run: 3},
		"a Run of 0":                       {Id: 100, Host: "a_b", Run: 0},
		"no Base":                          {Id: 100, Host: "a", Run: 9, Level: 1},
		"a Base that is not there":         {Id: 100, Host: "a", Run: 9, Level: 1, Base: 4},
		"a Base of another host":           {Id: 100, Host: "a", Run: 9, Level: 1, Base: 3},
		"a Base of a new host":             {Id: 100, Host: "c", Run: 9, Level: 1, Base: 2},
		"a Base of a like Level":           {Id: 100, Host: "a", Run: 9, Level: 2, Base: 10},
		"its own Id as Base":               {Id: 100, Host: "a", Run: 9, Level: 3, Base: 100},
		"a Base of Level 0":                {Id: 100, Host: "a", Run: 9, Base: 2},
		"the least Id that is not there":   less(1),
		"an Id between others":             less(4),
		"an Id that comes":                 less(100),
		"the greatest Id":                  less(mostId),
		"the base of others":               less(2),
		"the base of one":                  less(7),
		"the first of the other":           less(3),
		"the base of the last of the host": less(6),
	}
}

// wantStopped: at that record it is no more gone on, whatever stands behind it.
func wantStopped(t *testing.T, what string, steps []step, record string) {
	t.Helper()
	log, told := logByHand(steps), toldByHand(steps)
	if told.At != int64(len(log)) {
		t.Fatalf("by hand: %s: the steps ahead of it may not be done", what)
	}
	for _, behind := range []string{"", addByHand(impl.Dump{Id: 900, Host: "behind"}), dropByHand(99), dropByHand(99) + record, bytesRun(40)} {
		wantLog(t, what, log+record+behind, told)
	}
}

func TestRecordsThatAreNone(t *testing.T) {
	for what, record := range wrongForms() {
		wantStopped(t, what, addAll(twoHosts()), record)
		wantStopped(t, what+", the first", nil, record)
	}
	for what, s := range wrongSteps() {
		if _, may := s.behind(twoHosts()); may {
			t.Fatalf("by hand: %s may be done", what)
		}
		wantStopped(t, what, addAll(twoHosts()), s.record())
	}
}

func TestAnIdIsTakenOutOnce(t *testing.T) {
	steps := append(addAll(twoHosts()), less(99))
	wantStopped(t, "taken out twice", steps, dropByHand(99))
	wantStopped(t, "of an empty catalog", []step{{Id: 1, Host: "a"}, less(1)}, dropByHand(1))
	again := append(steps, step{Id: 99, Host: "b", Run: 6, Level: 3, Base: 6}, less(99))
	wantLog(t, "put and taken out again", logByHand(again), toldByHand(again))
	if len(toldByHand(again).Dumps) != len(twoHosts())-1 {
		t.Error("by hand: the Id was not put again")
	}
	wantStopped(t, "taken out, put, taken out, twice", again, dropByHand(99))
}

func TestLogsOfAsManyDumpsAsMayBe(t *testing.T) {
	full := addAll(manyDumps(impl.MaxDumps))
	wantLog(t, "MaxDumps", logByHand(full), impl.LogOut{Dumps: manyDumps(impl.MaxDumps), At: int64(len(logByHand(full)))})
	wantStopped(t, "a dump more than MaxDumps", full, addByHand(impl.Dump{Id: 100, Host: "h", Run: 100}))
	wantStopped(t, "a host more than MaxDumps", full, addByHand(impl.Dump{Id: 100, Host: "i"}))
	more := append(full, less(impl.MaxDumps), step{Id: 100, Host: "i"})
	wantLog(t, "one less, and one more", logByHand(more), toldByHand(more))
	wantStopped(t, "one less, and two more", more, addByHand(impl.Dump{Id: 101, Host: "i", Run: 3}))
}

// fullSteps: as many steps as have just that many bytes in all.
func fullSteps(bytes int) []step {
	steps := addAll(eachHost(5))
	left := bytes - len(logByHand(steps))
	for id := int64(1000); left > 60; id++ {
		pair := []step{{Id: id, Host: "more", Run: id}, less(id)}
		steps = append(steps, pair...)
		left -= len(logByHand(pair))
	}
	for parts := range impl.MaxParts + 1 {
		for size := 1; size <= 20; size++ {
			last := step{Id: mostId, Host: strings.Repeat("l", size), Parts: someParts(parts, impl.Part{Many: 9})}
			if len(last.record()) == left {
				return append(steps, last)
			}
		}
	}
	return nil
}

func TestLogsOfManyBytes(t *testing.T) {
	for _, bytes := range []int{impl.MaxBytes - 1, impl.MaxBytes} {
		steps := fullSteps(bytes)
		log, told := logByHand(steps), toldByHand(steps)
		if len(log) != bytes || told.At != int64(bytes) || len(told.Dumps) != 6 {
			t.Fatalf("by hand: %d bytes, At %d, %d dumps", len(log), told.At, len(told.Dumps))
		}
		wantLog(t, "a long log", log, told)
		wantLog(t, "a long log, cut", log[:bytes-1], toldByHand(steps[:len(steps)-1]))
		wantLog(t, "a long log, turned at the end", log[:bytes-1]+"?", toldByHand(steps[:len(steps)-1]))
	}
	long := logByHand(fullSteps(impl.MaxBytes + 1))
	if len(long) != impl.MaxBytes+1 {
		t.Fatalf("by hand: %d bytes", len(long))
	}
	size := impl.LogOut{Code: impl.ErrSize}
	wantLog(t, "a byte more than MaxBytes", long, size)
	wantLog(t, "a byte more, no log", tooLong, size)
	wantLog(t, "many bytes more", long+long, size)
	wantLog(t, "no log of MaxBytes bytes", tooLong[1:], impl.LogOut{})
	text := addByHand(impl.Dump{Id: 1, Host: "a"})
	wantLog(t, "a record of MaxBytes bytes, cut", text+impl.PutText(tooLong[1:])[:impl.MaxBytes-len(text)], toldByHand([]step{{Id: 1, Host: "a"}}))
}

// anySteps may mostly be done, one behind the other.
func anySteps(next func(int) int, many int) []step {
	var out []step
	for range many {
		ahead := toldByHand(out).Dumps
		s := step(anyDump(next, ahead))
		if len(ahead) > 0 && next(3) == 0 {
			s = less(ahead[next(len(ahead))].Id + int64(next(20)/19))
		}
		if _, may := s.behind(ahead); may || next(10) == 0 {
			out = append(out, s)
		}
	}
	return out
}

// Promise 16, along logs of whatever steps.
func TestLogsInARow(t *testing.T) {
	next := rowOfNumbers(16)
	whole, stopped := 0, 0
	for range 400 {
		steps := anySteps(next, 1+next(25))
		log, told := logByHand(steps), toldByHand(steps)
		wantLog(t, "whatever steps", log, told)
		if told.At == int64(len(log)) {
			whole++
		} else {
			stopped++
		}
		if got := impl.LogOf(log); !impl.CatalogRight(got.Dumps) {
			t.Errorf("what comes of a log is no right catalog: %s", brief(got))
		}
	}
	for range 12 {
		wantCuts(t, "whatever steps, cut", anySteps(next, 12))
	}
	if whole < 50 || stopped < 50 {
		t.Errorf("too few logs are gone through, or stopped at: %d and %d", whole, stopped)
	}
}
