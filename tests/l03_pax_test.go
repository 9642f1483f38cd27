package tests

import (
	"archive/tar"
	"fmt"
	"io"
	"math"
	"slices"
	"strconv"
	"strings"
	"testing"

	"loop.example/g00310/impl"
)

func wantOctal(t *testing.T, n int64, digits int64, want string) {
	t.Helper()
	if got := impl.Octal(n, digits); got != want {
		t.Errorf("Octal(%d, %d): got %q, want %q", n, digits, got, want)
	}
}

func wantOctalRead(t *testing.T, text string, want int64) {
	t.Helper()
	if got := impl.OctalRead(text); got != want {
		t.Errorf("OctalRead(%.40q): got %d, want %d", text, got, want)
	}
}

func TestOctal(t *testing.T) {
	wantOctal(t, 0, 1, "0")
	wantOctal(t, 0, 20, strings.Repeat("0", 20))
	wantOctal(t, 7, 1, "7")
	wantOctal(t, 7, 3, "007")
	wantOctal(t, 8, 1, "")
	wantOctal(t, 8, 2, "10")
	wantOctal(t, 493, 7, "0000755")
	wantOctal(t, 342391, 7, "1234567")
	for _, n := range []int64{math.MaxInt64, math.MaxInt64 - 1, 1 << 60, 1 << 62} {
		wantOctal(t, n, 20, "")
		wantOctal(t, n, 21, "")
	}
	for _, n := range []int64{-1, -8, math.MinInt64} {
		for digits := int64(-1); digits <= 22; digits++ {
			wantOctal(t, n, digits, "")
		}
	}
	for _, digits := range []int64{0, -1, 21, 22, math.MinInt64, math.MaxInt64} {
		wantOctal(t, 0, digits, "")
		wantOctal(t, 7, digits, "")
	}
}

// Promise 4, on both sides of each number of digits.
func TestOctalComesBack(t *testing.T) {
	for digits := int64(1); digits <= 20; digits++ {
		most := int64(1)<<(3*digits) - 1
		wantOctal(t, most, digits, strings.Repeat("7", int(digits)))
		wantOctal(t, most+1, digits, "")
		for _, n := range []int64{0, 1, most / 8, most/8 + 1, most / 3, most - 1, most} {
			text := impl.Octal(n, digits)
			if want := fmt.Sprintf("%0*o", int(digits), n); text != want {
				t.Errorf("Octal(%d, %d): got %q, want %q", n, digits, text, want)
			}
			wantOctalRead(t, text, n)
		}
	}
	for n := int64(0); n < 5000; n++ {
		wantOctalRead(t, impl.Octal(n, 5), n)
	}
}

func TestOctalRead(t *testing.T) {
	wantOctalRead(t, "0", 0)
	wantOctalRead(t, "00", 0)
	wantOctalRead(t, "7", 7)
	wantOctalRead(t, "0755", 493)
	wantOctalRead(t, "1234567", 342391)
	wantOctalRead(t, strings.Repeat("0", 20), 0)
	wantOctalRead(t, strings.Repeat("0", 19)+"1", 1)
	wantOctalRead(t, strings.Repeat("7", 20), 1<<60-1)
	for _, text := range []string{
		"", strings.Repeat("0", 21), strings.Repeat("7", 21), strings.Repeat("0", 20) + "1",
		"8", "9", "18", "81", "079", " ", " 7", "7 ", "1 1", "+7", "-7", "-", "0x7", "0o7", "1_0", "7\n", "7\x00", "\x00", "a", "é",
		strings.Repeat("0", impl.MaxBytes), strings.Repeat("0", impl.MaxBytes+1), tooLong,
	} {
		wantOctalRead(t, text, -1)
	}
	for b := range 256 {
		want := int64(-1)
		if b >= '0' && b <= '7' {
			want = int64(b - '0')
		}
		wantOctalRead(t, string([]byte{byte(b)}), want)
		if want < 0 {
			wantOctalRead(t, string([]byte{'1', byte(b)}), -1)
			wantOctalRead(t, string([]byte{byte(b), '1'}), -1)
		}
	}
}

// brief tells so much of a thing as a line of a report can bear.
func brief(what any) string {
	return fmt.Sprintf("%.300q", fmt.Sprintf("%+v", what))
}

// sumByHand adds the bytes of a header in three pieces.
func sumByHand(block string) int64 {
	sum := int64(8 * ' ')
	for _, piece := range []string{block[:148], block[156:]} {
		for i := range len(piece) {
			sum += int64(piece[i])
		}
	}
	return sum
}

// resealed is a block with the sum that it needs to have, whatever else was written into it.
func resealed(block string) string {
	return block[:148] + fmt.Sprintf("%06o\x00 ", sumByHand(block)) + block[156:]
}

func padded(text string, size int) string {
	return text + strings.Repeat("\x00", size-len(text))
}

func zeros(blocks int) string {
	return strings.Repeat("\x00", 512*blocks)
}

// headerByHand writes the fields of a header one behind the other.
func headerByHand(name string, size int64, mode int64, time int64, kind byte) string {
	return resealed(padded(name, 100) + fmt.Sprintf("%07o\x00", mode) + "0000000\x000000000\x00" +
		fmt.Sprintf("%011o\x00%011o\x00", size, time) + "        " + string([]byte{kind}) +
		strings.Repeat("\x00", 100) + "ustar\x0000" + strings.Repeat("\x00", 247))
}

// entryByHand is a header, and what follows it.
func entryByHand(h string, body string) string {
	return h + body + strings.Repeat("\x00", (512-len(body)%512)%512)
}

// fileByHand are the entries of a File: one, or two of a long Path.
func fileByHand(f impl.File) []string {
	name, kind := f.Path, byte('0')
	if f.Dir {
		name, kind = f.Path+"/", '5'
	}
	var out []string
	if len(name) > 100 {
		// Longer ones have 101 to 151 bytes, so that the length always has three digits.
		record := fmt.Sprintf("%d path=%s\n", len(name)+10, name)
		out = append(out, entryByHand(headerByHand("pax", int64(len(record)), 420, 0, 'x'), record))
		name = name[:100]
	}
	return append(out, entryByHand(headerByHand(name, int64(len(f.Data)), f.Mode, f.Time, kind), f.Data))
}

func entriesByHand(l []impl.File) []string {
	var out []string
	for _, f := range l {
		out = append(out, fileByHand(f)...)
	}
	return out
}

func archiveByHand(l []impl.File) string {
	return strings.Join(entriesByHand(l), "") + zeros(2)
}

func TestHeaderFields(t *testing.T) {
	h := impl.HeaderOf("some/name", 1, 2, 3, 'k')
	if len(h) != impl.Block || impl.Block != 512 {
		t.Fatalf("a header has %d bytes", len(h))
	}
	for _, c := range []struct {
		what     string
		from, to int
		want     string
	}{
		{"name", 0, 100, padded("some/name", 100)},
		{"mode", 100, 108, "0000002\x00"},
		{"owner", 108, 116, "0000000\x00"},
		{"group", 116, 124, "0000000\x00"},
		{"size", 124, 136, "00000000001\x00"},
		{"time", 136, 148, "00000000003\x00"},
		{"sum", 148, 156, fmt.Sprintf("%06o\x00 ", sumByHand(h))},
		{"kind", 156, 157, "k"},
		{"bytes 0", 157, 257, strings.Repeat("\x00", 100)},
		{"ustar", 257, 265, "ustar\x0000"},
		{"rest", 265, 512, strings.Repeat("\x00", 247)},
	} {
		if got := h[c.from:c.to]; got != c.want {
			t.Errorf("%s: got %q, want %q", c.what, got, c.want)
		}
	}
}

func TestHeaders(t *testing.T) {
	hundred := strings.Repeat("n", 100)
	for _, name := range []string{"", "a", "a/", "pax", bytesRun(50), hundred[1:], hundred, strings.Repeat("\xff", 100)} {
		for _, kind := range []int64{0, 1, 48, 53, 120, 254, 255} {
			for _, n := range []int64{0, 1, 7, 8, 4095, 1<<21 - 1} {
				got := impl.HeaderOf(name, 3*n, n, 7*n, kind)
				if got != headerByHand(name, 3*n, n, 7*n, byte(kind)) {
					t.Errorf("HeaderOf(%q, %d, %d, %d, %d): got %q", name, 3*n, n, 7*n, kind, got)
				}
				if name != "" && sharesMemory(got, name) {
					t.Error("HeaderOf hands out its argument")
				}
			}
		}
	}
	most := impl.HeaderOf(hundred, 1<<33-1, 1<<21-1, 1<<33-1, 255)
	if most != headerByHand(hundred, 1<<33-1, 1<<21-1, 1<<33-1, 255) {
		t.Errorf("the greatest header: got %q", most)
	}
}

func TestHeadersRefused(t *testing.T) {
	if impl.HeaderOf("a", 1, 1, 1, 1) == "" {
		t.Fatal("there is such a header")
	}
	for _, name := range []string{strings.Repeat("n", 101), strings.Repeat("n", 150), tooLong, tooLong[1:]} {
		if got := impl.HeaderOf(name, 1, 1, 1, 1); got != "" {
			t.Errorf("a name of %d bytes: got %d bytes", len(name), len(got))
		}
	}
	for _, n := range []int64{-1, math.MinInt64, 1 << 33, 1<<33 + 1, 1 << 60, math.MaxInt64} {
		if impl.HeaderOf("a", n, 1, 1, 1) != "" || impl.HeaderOf("a", 1, n, 1, 1) != "" || impl.HeaderOf("a", 1, 1, n, 1) != "" {
			t.Errorf("a header with the number %d is none", n)
		}
	}
	for _, mode := range []int64{1 << 21, 1<<21 + 1, 1<<33 - 1} {
		if impl.HeaderOf("a", 1, mode, 1, 1) != "" {
			t.Errorf("a header of the mode %d is none", mode)
		}
	}
	for _, kind := range []int64{-1, 256, 257, 304, math.MinInt64, math.MaxInt64} {
		if impl.HeaderOf("a", 1, 1, 1, kind) != "" {
			t.Errorf("a header of the kind %d is none", kind)
		}
	}
}

func TestHeaderSums(t *testing.T) {
	for what, c := range map[string]struct {
		block string
		want  int64
	}{
		"bytes 0":      {zeros(1), 256},
		"bytes 1":      {strings.Repeat("\x01", 512), 504 + 256},
		"bytes 255":    {strings.Repeat("\xff", 512), 504*255 + 256},
		"all blanks":   {strings.Repeat(" ", 512), 512 * 32},
		"all the ones": {bytesRun(512), sumByHand(bytesRun(512))},
		"none":         {"", -1},
		"one":          {" ", -1},
		"511 bytes":    {zeros(1)[1:], -1},
		"513 bytes":    {zeros(1) + "\x00", -1},
		"two blocks":   {zeros(2), -1},
		"MaxBytes":     {strings.Repeat("\x00", impl.MaxBytes), -1},
		"too many":     {tooLong, -1},
	} {
		if got := impl.HeaderSum(c.block); got != c.want {
			t.Errorf("HeaderSum of %s: got %d, want %d", what, got, c.want)
		}
	}
	base := impl.HeaderOf("a", 1, 2, 3, 4)
	sum := impl.HeaderSum(base)
	if base[148:156] != impl.Octal(sum, 6)+"\x00 " {
		t.Errorf("a header's sum: got %q, want that of %d", base[148:156], sum)
	}
	for i := range 512 {
		want := sum - int64(base[i]) + 255
		if i >= 148 && i < 156 {
			want = sum
		}
		if got := impl.HeaderSum(base[:i] + "\xff" + base[i+1:]); got != want {
			t.Errorf("HeaderSum with the byte %d turned: got %d, want %d", i, got, want)
		}
	}
}

// pathOfSize is a path of that many bytes, of several parts if it is long.
func pathOfSize(size int) string {
	out := []byte(strings.Repeat("p", size))
	for i := 50; i < size-1; i += 45 {
		out[i] = '/'
	}
	return string(out)
}

// packedLists: Files that have an archive, at the edges that the document names.
func packedLists() map[string][]impl.File {
	out := map[string][]impl.File{
		"none":                    nil,
		"an empty list":           {},
		"one file":                {dataAt("a", "hello")},
		"one dir":                 {dirAt("a")},
		"a tree":                  sampleTree(),
		"whatever order":          {dataAt("b", "1"), dirAt("c"), dataAt("a/x/y", "2")},
		"no parents":              {dataAt("a/b/c", "")},
		"the same path twice":     {dataAt("a", "1"), dataAt("a", "2")},
		"the same file twice":     {dataAt("a", "1"), dataAt("a", "1")},
		"a path of both kinds":    {dirAt("a"), dataAt("a", ""), dirAt("a")},
		"twenty files":            emptyFiles(20),
		"twenty, most with data":  append(manyFiles(17), emptyFiles(3)...),
		"bytes of all kinds":      {dataAt("a", bytesRun(1200)), dataAt("b", zeros(2)), dataAt("c", "\x00"), dataAt("d", "x\x00")},
		"data like an archive":    {dataAt("a", zeros(1)), dataAt("b", headerByHand("c", 0, 420, 7, '0'))},
		"a path like a record":    {dataAt("13path=", "x"), dataAt(pathOfSize(101)+"/path=x", "x"), dataAt("path=path=/"+pathOfSize(100), "")},
		"long ones of both":       {dataAt(pathOfSize(150), "f"), dirAt(pathOfSize(150)), dataAt("a", "f"), dirAt(pathOfSize(100)), dirAt("b")},
		"as many bytes as it may": fullList(),
	}
	for i, f := range edgeFiles(true) {
		out["the right file "+strconv.Itoa(i)] = []impl.File{f}
	}
	for size := 1; size <= impl.MaxPath; size++ {
		out["paths of "+strconv.Itoa(size)] = []impl.File{dataAt(pathOfSize(size), "x"), dirAt(pathOfSize(size))}
	}
	for _, size := range []int{0, 1, 511, 512, 513, 1023, 1024, 1025, 1199, 1200} {
		out["data of "+strconv.Itoa(size)] = []impl.File{dataAt("a", bytesRun(size)), dataAt("b", strings.Repeat("\x00", size))}
	}
	return out
}

// emptyFiles are that many Files whose archive has a block of each.
func emptyFiles(many int) []impl.File {
	out := manyFiles(many)
	for i := range out {
		out[i].Data = ""
	}
	return out
}

// fullList has an archive of 39 blocks, as many as MaxBytes bytes may have.
func fullList() []impl.File {
	var out []impl.File
	for i := range 12 {
		out = append(out, dataAt("f"+strconv.Itoa(i), bytesRun(513+46*i)))
	}
	return append(out, dirAt("d"))
}

// wantPacked looks at the bytes of an archive, and at what was handed in.
func wantPacked(t *testing.T, what string, l []impl.File, want string) {
	t.Helper()
	own := ownFiles(l)
	spare := own[:cap(own)]
	got := impl.Pack(own)
	if got != want {
		t.Errorf("Pack: %s: got %d bytes, want %d bytes, or others", what, len(got), len(want))
	}
	if !slices.Equal(own, l) {
		t.Errorf("Pack: %s: the list that was handed in has changed", what)
	}
	for _, f := range spare[len(own):] {
		if f != (impl.File{}) {
			t.Errorf("Pack: %s: %v was written behind the list that was handed in", what, f)
		}
	}
	for _, f := range own {
		if sharesMemory(got, f.Path) || sharesMemory(got, f.Data) {
			t.Errorf("Pack: %s: the answer shares memory with the list that was handed in", what)
		}
	}
}

// wantUnpacked looks at an answer as a whole, and at its memory.
func wantUnpacked(t *testing.T, what string, text string, want impl.PaxOut) {
	t.Helper()
	own := strings.Clone(text)
	got := impl.Unpack(own)
	if !slices.Equal(got.Files, want.Files) || got.At != want.At || got.Code != want.Code {
		t.Errorf("Unpack: %s: got at %d code %d, %s, want at %d code %d, %s",
			what, got.At, got.Code, brief(got.Files), want.At, want.Code, brief(want.Files))
	}
	if own != text {
		t.Errorf("Unpack: %s: the text that was handed in has changed", what)
	}
	for _, f := range got.Files {
		if sharesMemory(f.Path, own) || sharesMemory(f.Data, own) {
			t.Errorf("Unpack: %s: %q shares memory with the text that was handed in", what, f.Path)
		}
	}
}

func TestArchives(t *testing.T) {
	for what, l := range packedLists() {
		wantPacked(t, what, l, archiveByHand(l))
	}
	if got := impl.Pack(nil); got != zeros(2) {
		t.Errorf("the archive of no files: got %d bytes", len(got))
	}
	for path, size := range map[string]int{"a": 1, pathOfSize(99): 1, pathOfSize(100): 1, pathOfSize(101): 3, pathOfSize(150): 3} {
		if got := len(impl.Pack([]impl.File{dataAt(path, "")})); got != 512*(size+2) {
			t.Errorf("an archive of a path of %d bytes: got %d bytes", len(path), got)
		}
	}
	for path, size := range map[string]int{"a": 1, pathOfSize(98): 1, pathOfSize(99): 1, pathOfSize(100): 3, pathOfSize(150): 3} {
		if got := len(impl.Pack([]impl.File{dirAt(path)})); got != 512*(size+2) {
			t.Errorf("an archive of a dir's path of %d bytes: got %d bytes", len(path), got)
		}
	}
}

func TestRecordOfALongPath(t *testing.T) {
	for size := 101; size <= impl.MaxPath; size++ {
		path := pathOfSize(size)
		archive := impl.Pack([]impl.File{{Path: path, Mode: 7, Time: 9, Data: "d"}, {Path: path, Dir: true}})
		if len(archive) != 512*(4+3+2) {
			t.Fatalf("a path of %d bytes: the archive has %d bytes", size, len(archive))
		}
		wantRecord(t, path, archive[:1024])
		wantRecord(t, path+"/", archive[2048:3072])
		if got := archive[1024:1536]; got != headerByHand(path[:100], 1, 7, 9, '0') {
			t.Errorf("the header behind the record of %d bytes: got %q", size, got)
		}
	}
}

// wantRecord looks at a record's header, and reads its length as a number.
func wantRecord(t *testing.T, name string, entry string) {
	t.Helper()
	digits, rest, _ := strings.Cut(entry[512:], " ")
	size, err := strconv.Atoi(digits)
	if err != nil || size != len(digits)+1+len("path=")+len(name)+1 {
		t.Errorf("the record of %d bytes: its length is %q", len(name), digits)
	}
	if rest != padded("path="+name+"\n", 512-len(digits)-1) {
		t.Errorf("the record of %d bytes: got %q", len(name), rest)
	}
	if entry[:512] != headerByHand("pax", int64(size), 420, 0, 'x') {
		t.Errorf("the header of the record of %d bytes: got %q", len(name), entry[:512])
	}
}

func TestArchivesRefused(t *testing.T) {
	full := fullList()
	if got := len(impl.Pack(full)); got != 39*512 || got > impl.MaxBytes {
		t.Fatalf("the greatest archive: got %d bytes", got)
	}
	longer := slices.Clone(full)
	longer[0].Data = bytesRun(1025)
	for what, l := range map[string][]impl.File{
		"21 files":                emptyFiles(21),
		"21 with data":            manyFiles(21),
		"18 with data, and two":   append(manyFiles(18), emptyFiles(2)...),
		"21 times one file":       slices.Repeat([]impl.File{dirAt("a")}, 21),
		"MaxList files":           manyFiles(impl.MaxList),
		"more than MaxList files": manyFiles(impl.MaxList + 1),
		"a file too many":         append(fullList(), dirAt("e")),
		"a block of data more":    longer,
		"twenty great files":      slices.Repeat([]impl.File{dataAt("a", bytesRun(1200))}, 20),
		"long paths, too many":    slices.Repeat([]impl.File{dirAt(pathOfSize(150))}, 13),
		"a wrong one with others": append([]impl.File{{}}, manyFiles(20)...),
	} {
		wantPacked(t, what, l, "")
	}
	wantPacked(t, "long paths, as many as may be", slices.Repeat([]impl.File{dirAt(pathOfSize(150))}, 12), archiveByHand(slices.Repeat([]impl.File{dirAt(pathOfSize(150))}, 12)))
	for i, f := range edgeFiles(false) {
		wantPacked(t, "the wrong file "+strconv.Itoa(i), []impl.File{f}, "")
		wantPacked(t, "the wrong file first "+strconv.Itoa(i), []impl.File{f, dirAt("b")}, "")
		wantPacked(t, "the wrong file last "+strconv.Itoa(i), []impl.File{dirAt("b"), f}, "")
	}
}

// Promise 5, its first half.
func TestFilesComeBack(t *testing.T) {
	for what, l := range packedLists() {
		wantUnpacked(t, what, impl.Pack(l), impl.PaxOut{Files: l})
	}
}

// filesByTar reads an archive with the library's reader.
func filesByTar(t *testing.T, archive string) []impl.File {
	t.Helper()
	var out []impl.File
	for r := tar.NewReader(strings.NewReader(archive)); ; {
		h, err := r.Next()
		if err == io.EOF {
			return out
		}
		if err != nil {
			t.Fatal(err)
		}
		data, err := io.ReadAll(r)
		if err != nil {
			t.Fatal(err)
		}
		f := impl.File{Path: h.Name, Mode: h.Mode, Time: h.ModTime.Unix(), Data: string(data)}
		if h.Typeflag == tar.TypeDir {
			f.Path, f.Dir = strings.TrimSuffix(h.Name, "/"), true
		}
		out = append(out, f)
	}
}

func TestOthersReadArchives(t *testing.T) {
	for what, l := range packedLists() {
		if got := filesByTar(t, impl.Pack(l)); !slices.Equal(got, l) {
			t.Errorf("%s: read as %s, want %s", what, brief(got), brief(l))
		}
	}
}

// Promise 5, its second half: each byte of the first header, turned to each other one.
func TestFirstHeaderTurned(t *testing.T) {
	for what, l := range map[string][]impl.File{
		"none": nil, "a file": {dataAt("a", "hello")}, "a long path": {dirAt(pathOfSize(120))},
	} {
		archive := []byte(impl.Pack(l))
		for i := range 512 {
			for turn := 1; turn < 256; turn++ {
				archive[i] ^= byte(turn)
				got := impl.Unpack(string(archive))
				archive[i] ^= byte(turn)
				if len(got.Files) != 0 || got.At != 0 || got.Code != impl.ErrSum {
					t.Fatalf("%s: the byte %d turned by %d: got %s", what, i, turn, brief(got))
				}
			}
		}
	}
}

// cutLists are Files whose archives have headers of all kinds, with and without data.
func cutLists() [][]impl.File {
	return [][]impl.File{
		nil,
		{dataAt("a", "hello")},
		{dirAt("a"), dataAt("b", bytesRun(600)), dirAt(pathOfSize(110)), dataAt("c", ""), dataAt(pathOfSize(101), bytesRun(512))},
	}
}

func TestArchivesCut(t *testing.T) {
	for _, l := range cutLists() {
		archive := impl.Pack(l)
		wants := make([]impl.PaxOut, 0, len(archive))
		for _, entry := range entriesByHand(l) {
			at := int64(len(wants) / 512)
			wants = append(wants, slices.Repeat([]impl.PaxOut{{At: at, Code: impl.ErrShort}}, len(entry))...)
		}
		end := int64(len(wants) / 512)
		wants = append(wants, slices.Repeat([]impl.PaxOut{{At: end, Code: impl.ErrShort}}, 512)...)
		wants = append(wants, slices.Repeat([]impl.PaxOut{{Code: impl.ErrSyntax}}, 512)...)
		for cut, want := range wants {
			wantUnpacked(t, fmt.Sprintf("%d files cut at %d", len(l), cut), archive[:cut], want)
		}
		wantUnpacked(t, "not cut", archive[:len(wants)], impl.PaxOut{Files: l})
	}
}

func TestBytesAroundArchives(t *testing.T) {
	syntax := impl.PaxOut{Code: impl.ErrSyntax}
	for _, l := range cutLists() {
		archive := impl.Pack(l)
		for _, more := range []string{"\x00", "x", "\x00x", zeros(1)[1:], zeros(1), zeros(2), archive, bytesRun(700), headerByHand("a", 0, 0, 0, '0')} {
			wantUnpacked(t, "with bytes behind its end", archive+more, syntax)
		}
		for blocks := 1; blocks <= 3; blocks++ {
			wantUnpacked(t, "with blocks of bytes 0 ahead", zeros(blocks)+archive, syntax)
		}
		wantUnpacked(t, "with blocks of bytes 0 to the end", archive+strings.Repeat("\x00", impl.MaxBytes-len(archive)), syntax)
	}
	wantUnpacked(t, "one block of bytes 0", zeros(1), syntax)
	wantUnpacked(t, "three blocks of bytes 0", zeros(3), syntax)
	wantUnpacked(t, "a block of bytes 0 and others", zeros(1)+bytesRun(512), syntax)
	wantUnpacked(t, "MaxBytes bytes 0", strings.Repeat("\x00", impl.MaxBytes), syntax)
	wantUnpacked(t, "no bytes", "", impl.PaxOut{Code: impl.ErrShort})
	wantUnpacked(t, "511 bytes 0", zeros(1)[1:], impl.PaxOut{Code: impl.ErrShort})
	wantUnpacked(t, "511 other bytes", bytesRun(511), impl.PaxOut{Code: impl.ErrShort})
}

func TestTextsTooLongToUnpack(t *testing.T) {
	full := impl.Pack(fullList())
	for what, text := range map[string]string{
		"letters": tooLong, "bytes 0": strings.Repeat("\x00", impl.MaxBytes+1), "40 blocks": zeros(40),
		"an archive": full + strings.Repeat("\x00", impl.MaxBytes+1-len(full)), "too great an archive": archiveByHand(append(fullList(), dirAt("e"))),
	} {
		wantUnpacked(t, what, text, impl.PaxOut{Code: impl.ErrSize})
	}
	wantUnpacked(t, "MaxBytes letters", tooLong[1:], impl.PaxOut{Code: impl.ErrSum})
	wantUnpacked(t, "MaxBytes bytes of headers", (strings.Repeat(headerByHand("a", 0, 0, 0, '0'), 40))[:impl.MaxBytes], impl.PaxOut{At: 39, Code: impl.ErrShort})
}

// wantBehind looks at a text alone, and behind more and more entries, whose blocks its At counts.
func wantBehind(t *testing.T, what string, text string, code int64) {
	t.Helper()
	ahead := ""
	for _, data := range []string{"none", "", "x", bytesRun(513)} {
		if data != "none" {
			ahead += fileByHand(dataAt("ahead", data))[0]
		}
		wantUnpacked(t, what, ahead+text, impl.PaxOut{At: int64(len(ahead) / 512), Code: code})
	}
}

func TestSumsWrittenOtherwise(t *testing.T) {
	good := headerByHand("a", 0, 420, 7, '0')
	sum := sumByHand(good)
	for _, field := range []string{
		fmt.Sprintf("%06o \x00", sum), fmt.Sprintf("%6o\x00 ", sum), fmt.Sprintf("%07o\x00", sum), fmt.Sprintf("%08o", sum), fmt.Sprintf("%07o ", sum),
		fmt.Sprintf("%06o  ", sum), fmt.Sprintf("%06o\x00\x00", sum), fmt.Sprintf("%06d\x00 ", sum), fmt.Sprintf("%-6o\x00 ", sum),
		fmt.Sprintf("%06o\x00 ", sum+1), fmt.Sprintf("%06o\x00 ", sum-1), fmt.Sprintf("%06o\x00 ", 0), "        ", strings.Repeat("\x00", 8),
	} {
		wantBehind(t, fmt.Sprintf("the sum %q", field), good[:148]+field+good[156:]+zeros(2), impl.ErrSum)
	}
	for i := range 512 {
		turned := []byte(good)
		turned[i] ^= 1
		wantBehind(t, fmt.Sprintf("the byte %d turned", i), string(turned)+zeros(2), impl.ErrSum)
		alone := []byte(zeros(1))
		alone[i] = 1
		wantBehind(t, fmt.Sprintf("the byte %d alone", i), string(alone)+zeros(2), impl.ErrSum)
	}
}

// withField is a header with another text at a place, and the sum that it then needs.
func withField(h string, at int, field string) string {
	return resealed(h[:at] + field + h[at+len(field):])
}

func TestSizesInHeaders(t *testing.T) {
	good := headerByHand("a", 0, 420, 7, '0')
	for _, field := range []string{
		"0000000000\x00", "          0", "0000000000 ", "00000000008", "90000000000", "-0000000001", "+0000000001", "\x0000000000000"[:11],
		"           ", strings.Repeat("\x00", 11), "0x000000000", "\x80\x00\x00\x00\x00\x00\x00\x00\x00\x00\x00", "abcdefghijk",
	} {
		wantBehind(t, fmt.Sprintf("the size %q", field), withField(good, 124, field)+zeros(2), impl.ErrSyntax)
	}
	for size, blocks := range map[int64]int{1: 1, 512: 1, 513: 2, 1024: 2, 1025: 3, 1200: 3} {
		h := headerByHand("a", size, 420, 7, '0')
		wantBehind(t, fmt.Sprintf("the size %d, a byte too few", size), h+zeros(blocks)[1:], impl.ErrShort)
		wantBehind(t, fmt.Sprintf("the size %d, nothing behind it", size), h, impl.ErrShort)
		text := h + zeros(blocks) + "x"
		wantUnpacked(t, fmt.Sprintf("the size %d goes on", size), text, impl.PaxOut{At: int64(1 + blocks), Code: impl.ErrShort})
	}
	for _, size := range []int64{1025, 20000, 1 << 31, 1<<32 + 1, 1<<33 - 512, 1<<33 - 511, 1<<33 - 1} {
		wantBehind(t, fmt.Sprintf("the size %d", size), headerByHand("a", size, 420, 7, '0')+zeros(2), impl.ErrShort)
	}
	wantUnpacked(t, "no size goes on", good+"x", impl.PaxOut{At: 1, Code: impl.ErrShort})
}

// The faults are named in an order, and only a whole header has them.
func TestOrderOfFaults(t *testing.T) {
	noSize := withField(headerByHand("a", 0, 420, 7, '0'), 124, "not a size!")
	tooGreat := headerByHand("a", 5000, 420, 7, '0')
	wrongSum := func(h string) string { return h[:148] + "777777" + h[154:] }
	wantBehind(t, "short ahead of the sum", wrongSum(noSize)[:511], impl.ErrShort)
	wantBehind(t, "the sum ahead of the size", wrongSum(noSize), impl.ErrSum)
	wantBehind(t, "the sum ahead of too great a size", wrongSum(tooGreat), impl.ErrSum)
	wantBehind(t, "the size ahead of what follows", noSize, impl.ErrSyntax)
	wantBehind(t, "short behind all", tooGreat, impl.ErrShort)
	wantBehind(t, "the first header ahead of the next one", noSize+wrongSum(tooGreat), impl.ErrSyntax)
	wantUnpacked(t, "a fault ahead of what is the archive of none", headerByHand("", 0, 420, 7, 1)+wrongSum(noSize), impl.PaxOut{At: 1, Code: impl.ErrSum})
	wantUnpacked(t, "behind the end no header is looked at", zeros(1)+wrongSum(noSize), impl.PaxOut{Code: impl.ErrSyntax})
}

// strangeFields: headers of an empty File or Dir with another text at a place.
func strangeFields() map[string]string {
	file, dir := headerByHand("a", 0, 420, 7, '0'), headerByHand("a/", 0, 493, 0, '5')
	out := map[string]string{}
	put := func(what string, h string, at int, field string) {
		out[what] = withField(h, at, field)
	}
	for i := 2; i < 100; i++ {
		put("a byte behind the name's end, "+strconv.Itoa(i), file, i, "x")
	}
	put("a name that begins with 0", file, 0, "\x00a")
	put("a wrong path", file, 0, "/")
	put("a path that is .", file, 0, ".")
	put("a file with / behind", file, 0, "a/")
	put("a dir without /", dir, 0, "a\x00")
	put("a dir with / twice", dir, 0, "a//")
	put("a dir that is /", dir, 0, "/\x00")
	for what, mode := range map[string]string{"above 4095": "0010000\x00", "no number": "000064x\x00", "in blanks": "    644\x00", "with a blank behind": "0000644 ", "of more digits": "00000644"} {
		put("a mode "+what, file, 100, mode)
	}
	for what, owner := range map[string]string{"one": "0000001\x00", "bytes 0": strings.Repeat("\x00", 8), "with a blank": "0000000 "} {
		put("an owner "+what, file, 108, owner)
		put("a group "+what, file, 116, owner)
	}
	put("a size with a blank behind", file, 135, " ")
	put("a time above MaxTime", file, 136, fmt.Sprintf("%011o\x00", impl.MaxTime+1))
	put("a time that is no number", file, 136, "0000000000x\x00")
	put("a time with a blank behind", file, 136, "00000000007 ")
	for kind := range 256 {
		if kind != '0' {
			put("the file's kind is "+strconv.Itoa(kind), file, 156, string([]byte{byte(kind)}))
		}
		if kind != '5' {
			put("the dir's kind is "+strconv.Itoa(kind), dir, 156, string([]byte{byte(kind)}))
		}
	}
	for i := 157; i < 512; i++ {
		put("another byte at "+strconv.Itoa(i), file, i, "!")
	}
	return out
}

func TestStrangeFieldsInHeaders(t *testing.T) {
	syntax := impl.PaxOut{Code: impl.ErrSyntax}
	ahead := fileByHand(dataAt("ahead", "x"))[0]
	for what, h := range strangeFields() {
		wantUnpacked(t, what, h+zeros(2), syntax)
		wantUnpacked(t, what+", behind another", ahead+h+zeros(2), syntax)
	}
	most := headerByHand("a", 0, 4095, impl.MaxTime, '0')
	wantUnpacked(t, "the greatest numbers", most+zeros(2), impl.PaxOut{Files: []impl.File{{Path: "a", Mode: 4095, Time: impl.MaxTime}}})
}

func TestStrangeFilesInArchives(t *testing.T) {
	syntax := impl.PaxOut{Code: impl.ErrSyntax}
	data := headerByHand("a", 5, 420, 7, '0')
	for what, entry := range map[string]string{
		"other bytes behind the data":      data + padded("hello\x00x", 512),
		"the last byte of the block":       data + padded("hello", 511) + "x",
		"more than MaxData bytes":          entryByHand(headerByHand("a", 1201, 420, 7, '0'), bytesRun(1201)),
		"a dir with data":                  entryByHand(headerByHand("a/", 5, 493, 0, '5'), "hello"),
		"an empty name":                    headerByHand("", 0, 420, 7, '0'),
		"a file and one block in the end":  data + padded("hello", 512) + zeros(1) + "!",
		"21 files":                         strings.Join(entriesByHand(emptyFiles(21)), ""),
		"21 dirs":                          strings.Repeat(headerByHand("a/", 0, 0, 0, '5'), 21),
		"35 dirs":                          strings.Repeat(headerByHand("a/", 0, 0, 0, '5'), 35),
		"a name of 100 bytes with no path": headerByHand(strings.Repeat("n", 100), 0, 0, 0, '0'),
	} {
		wantUnpacked(t, what, entry+zeros(2), syntax)
	}
	twenty := strings.Repeat(headerByHand("a/", 0, 0, 0, '5'), 20) + zeros(2)
	wantUnpacked(t, "20 dirs", twenty, impl.PaxOut{Files: slices.Repeat([]impl.File{{Path: "a", Dir: true}}, 20)})
	for blocks := range 5 {
		want := syntax
		if blocks == 2 {
			want = impl.PaxOut{Files: []impl.File{dataAt("a", "hello")}}
		} else if blocks == 0 {
			want = impl.PaxOut{At: 2, Code: impl.ErrShort}
		}
		wantUnpacked(t, "so many blocks in the end: "+strconv.Itoa(blocks), data+padded("hello", 512)+zeros(blocks), want)
	}
}

// recordNamed is a record and its header, all written as it is told.
func recordNamed(name string, mode int64, time int64, record string) string {
	return entryByHand(headerByHand(name, int64(len(record)), mode, time, 'x'), record)
}

func TestStrangeRecords(t *testing.T) {
	path := pathOfSize(120)
	record := "130 path=" + path + "\n"
	right, file := recordNamed("pax", 420, 0, record), headerByHand(path[:100], 0, 420, 7, '0')
	wantUnpacked(t, "a right record", right+file+zeros(2), impl.PaxOut{Files: []impl.File{dataAt(path, "")}})
	wantUnpacked(t, "no record, but a shorter path", file+zeros(2), impl.PaxOut{Files: []impl.File{dataAt(path[:100], "")}})
	for what, text := range map[string]string{
		"of another name":           recordNamed("pay", 420, 0, record) + file,
		"of another mode":           recordNamed("pax", 421, 0, record) + file,
		"of another time":           recordNamed("pax", 420, 1, record) + file,
		"of another length":         recordNamed("pax", 420, 0, "131"+record[3:]) + file,
		"of a needless nought":      recordNamed("pax", 420, 0, "0131"+record[3:]) + file,
		"without a length":          recordNamed("pax", 420, 0, record[3:]) + file,
		"of another key":            recordNamed("pax", 420, 0, "130 name="+path+"\n") + file,
		"without a line feed":       recordNamed("pax", 420, 0, "129 path="+path) + file,
		"with two line feeds":       recordNamed("pax", 420, 0, record+"\n") + file,
		"with one record more":      recordNamed("pax", 420, 0, record+"12 mtime=12\n") + file,
		"with bytes behind it":      right[:1023] + "x" + file,
		"that is empty":             recordNamed("pax", 420, 0, "") + file,
		"twice":                     right + right + file,
		"of a wrong path":           recordNamed("pax", 420, 0, "130 path="+path[1:]+"/\n") + file,
		"of too long a path":        recordNamed("pax", 420, 0, "161 path="+pathOfSize(151)+"\n") + file,
		"of a path that fits in":    recordNamed("pax", 420, 0, "110 path="+pathOfSize(100)+"\n") + headerByHand(pathOfSize(100), 0, 420, 7, '0'),
		"with no header behind it":  right,
		"ahead of another name":     right + headerByHand("a", 0, 420, 7, '0'),
		"ahead of an empty name":    right + headerByHand("", 0, 420, 7, '0'),
		"ahead of 99 bytes of it":   right + headerByHand(path[:99], 0, 420, 7, '0'),
		"ahead of another kind":     right + headerByHand(path[:100], 0, 420, 7, 'x'),
		"behind its header":         file + right,
		"of a file ahead of a dir":  right + headerByHand(path[:100], 0, 420, 7, '5'),
		"of a dir ahead of a file":  recordNamed("pax", 420, 0, "131 path="+path+"/\n") + file,
		"of a dir's path that fits": recordNamed("pax", 420, 0, "110 path="+pathOfSize(99)+"/\n") + headerByHand(pathOfSize(99)+"/", 0, 420, 7, '5'),
		"of the kind g":             withField(right[:512], 156, "g") + right[512:] + file,
	} {
		wantUnpacked(t, "a record "+what, text+zeros(2), impl.PaxOut{Code: impl.ErrSyntax})
	}
}

// anyFiles makes lists of right Files from a row of numbers, always the same one.
func anyFiles(next func(int) int) []impl.File {
	var out []impl.File
	for range next(9) {
		f := impl.File{Path: pathOfSize(1 + next(impl.MaxPath)), Dir: next(3) == 0, Mode: int64(next(4096)), Time: int64(next(32768)) * 30517}
		if !f.Dir {
			f.Data = bytesRun(1200)[:next(1201)]
		}
		out = append(out, f)
	}
	return out
}

// TestArchivesWithAByteTurned turns any byte of many archives: what is no fault is the archive of other Files.
func TestArchivesWithAByteTurned(t *testing.T) {
	state := uint32(54321)
	next := func(many int) int {
		state = state*1664525 + 1013904223
		return int(state>>16) % many
	}
	refused, others := 0, 0
	for range 1500 {
		l := anyFiles(next)
		archive := impl.Pack(l)
		if want := archiveByHand(l); len(want) > impl.MaxBytes {
			wantPacked(t, "too great an archive", l, "")
			continue
		} else if archive != want || !slices.Equal(impl.Unpack(archive).Files, l) {
			t.Fatalf("these files do not come back: %s", brief(l))
		}
		turned := []byte(archive)
		turned[next(len(turned))] ^= byte(1 + next(255))
		got := impl.Unpack(string(turned))
		switch {
		case got.Code != impl.OK && len(got.Files) == 0:
			refused++
		case got.Code == impl.OK && got.At == 0 && impl.Pack(got.Files) == string(turned) && !slices.Equal(got.Files, l):
			others++
		default:
			t.Fatalf("an archive with a byte turned: %s: got %s", brief(l), brief(got))
		}
	}
	if refused < 100 || others < 100 {
		t.Errorf("of the turned archives too few are refused, or of other files: %d and %d", refused, others)
	}
}

func TestUnpackedAlone(t *testing.T) {
	archive := impl.Pack(sampleTree())
	first, second := impl.Unpack(archive), impl.Unpack(archive)
	if listsOverlap(first.Files, second.Files) {
		t.Error("two answers share memory")
	}
	first.Files[0] = impl.File{}
	if !slices.Equal(impl.Unpack(archive).Files, sampleTree()) || !slices.Equal(second.Files, sampleTree()) {
		t.Error("an answer has changed with another one")
	}
}
