package tests

import (
	"math"
	"slices"
	"strconv"
	"strings"
	"testing"
	"unsafe"

	"loop.example/g00310/impl"
)

func dirAt(path string) impl.File {
	return impl.File{Path: path, Dir: true, Mode: 493}
}

func dataAt(path string, data string) impl.File {
	return impl.File{Path: path, Mode: 420, Time: 7, Data: data}
}

// ownFiles is a copy whose texts, too, have memory of their own.
func ownFiles(l []impl.File) []impl.File {
	out := make([]impl.File, 0, len(l)+3)
	for _, f := range l {
		f.Path, f.Data = strings.Clone(f.Path), strings.Clone(f.Data)
		out = append(out, f)
	}
	return out
}

// manyFiles is a list of that many right Files, rising, none below another.
func manyFiles(many int) []impl.File {
	var out []impl.File
	for i := range many {
		out = append(out, dataAt("f"+strconv.Itoa(1000+i), "x"))
	}
	return out
}

// sampleTree has Dirs at three depths, and Paths that only begin with the same bytes.
func sampleTree() []impl.File {
	return []impl.File{
		dataAt("0", ""),
		{Path: "a", Dir: true, Mode: 448, Time: 5},
		dataAt("a-b", "minus"),
		{Path: "a/b", Dir: true, Mode: 493, Time: 9},
		dataAt("a/b-", "behind b"),
		{Path: "a/b/c", Dir: true, Mode: 0},
		dataAt("a/b/c/d", "deep"),
		dataAt("a/bb", "b twice"),
		dataAt("ab", "no /"),
		dirAt("empty"),
		dataAt("z", "last"),
	}
}

// listsOverlap asks for the spare places behind both lists, too.
func listsOverlap[T any](a []T, b []T) bool {
	var item T
	size := unsafe.Sizeof(item)
	from := uintptr(unsafe.Pointer(unsafe.SliceData(a)))
	start := uintptr(unsafe.Pointer(unsafe.SliceData(b)))
	return from < start+uintptr(cap(b))*size && start < from+uintptr(cap(a))*size
}

func filesShareMemory(a []impl.File, b []impl.File) bool {
	if listsOverlap(a, b) {
		return true
	}
	for _, f := range a {
		if fileSharesMemory(f, b) {
			return true
		}
	}
	return false
}

func fileSharesMemory(f impl.File, l []impl.File) bool {
	return slices.ContainsFunc(l, func(g impl.File) bool {
		return sharesMemory(f.Path, g.Path) || sharesMemory(f.Data, g.Data)
	})
}

// wantFiles calls with a list, and looks at the answer, at its memory, and at what was handed in.
func wantFiles(t *testing.T, what string, l []impl.File, call func([]impl.File) []impl.File, want []impl.File) {
	t.Helper()
	own := ownFiles(l)
	spare := own[:cap(own)]
	got := call(own)
	if !slices.Equal(got, want) {
		t.Errorf("%s: got %.300q, want %.300q", what, pathsOf(got), pathsOf(want))
		for i := range min(len(got), len(want)) {
			if got[i] != want[i] {
				t.Errorf("%s: got %.200v, want %.200v", what, got[i], want[i])
			}
		}
	}
	if filesShareMemory(got, own) {
		t.Errorf("%s: the answer shares memory with the list that was handed in", what)
	}
	if !slices.Equal(own, l) {
		t.Errorf("%s: the list that was handed in has changed", what)
	}
	for _, f := range spare[len(own):] {
		if f != (impl.File{}) {
			t.Errorf("%s: %v was written behind the list that was handed in", what, f)
		}
	}
}

func wantPut(t *testing.T, what string, l []impl.File, f impl.File, want []impl.File) {
	t.Helper()
	f.Path, f.Data = strings.Clone(f.Path), strings.Clone(f.Data)
	wantFiles(t, "TreePut: "+what, l, func(l []impl.File) []impl.File {
		got := impl.TreePut(l, f)
		if fileSharesMemory(f, got) {
			t.Errorf("TreePut: %s: the answer shares memory with the File that was handed in", what)
		}
		return got
	}, want)
}

func wantDropped(t *testing.T, what string, l []impl.File, path string, want []impl.File) {
	t.Helper()
	wantFiles(t, "TreeDrop: "+what, l, func(l []impl.File) []impl.File {
		return impl.TreeDrop(l, path)
	}, want)
}

func pathsOf(l []impl.File) []string {
	var out []string
	for _, f := range l {
		out = append(out, f.Path)
	}
	return out
}

// without is a tree but for the Files of those Paths.
func without(l []impl.File, paths ...string) []impl.File {
	return slices.DeleteFunc(slices.Clone(l), func(f impl.File) bool {
		return slices.Contains(paths, f.Path)
	})
}

// with is a list and some Files more, sorted by their Paths.
func with(l []impl.File, more ...impl.File) []impl.File {
	out := append(slices.Clone(l), more...)
	slices.SortFunc(out, func(a impl.File, b impl.File) int { return strings.Compare(a.Path, b.Path) })
	return out
}

func TestPaths(t *testing.T) {
	sixty := strings.Repeat("p", 60)
	longest := sixty + "/" + sixty + "/" + strings.Repeat("q", 28)
	parts := strings.TrimSuffix(strings.Repeat("a/", 75), "/")
	for _, path := range []string{
		"a", "a/b", "a/b/c/d/e", "!", "~", "A-b_9.txt", sixty, sixty + "/a", "a/" + sixty, longest,
		parts, parts + "a", "...", "....", ".a", "..a", "a.", "a..", ".a/b", "a/..b/c", "a/...", ".-", "..!", "-", "\\", "a\\b",
	} {
		if !impl.PathRight(path) {
			t.Errorf("%q is a path", path)
		}
	}
	for _, path := range []string{
		"", "/", "//", "/a", "a/", "a//b", "a/b//c", "//a", "a//", "a/b/",
		".", "..", "./a", "../a", "a/.", "a/..", "a/./b", "a/../b",
		sixty + "p", sixty + "p/a", "a/" + sixty + "p", "a/" + sixty + "p/a",
		longest + "q", parts + "/", parts + "/a", tooLong, tooLong[1:], strings.Repeat("a/", impl.MaxBytes),
		" ", "a b", " a", "a ", "\x00", "a\n", "\x7f", "a\x7f/b", "é", "a/é", "\x80", "\xff",
	} {
		if impl.PathRight(path) {
			t.Errorf("%.200q is no path", path)
		}
	}
	if len(longest) != impl.MaxPath || len(parts+"a") != impl.MaxPath {
		t.Error("the longest paths should have MaxPath bytes")
	}
}

func TestPathBytes(t *testing.T) {
	for b := range 256 {
		c := string([]byte{byte(b)})
		inside := b >= 33 && b <= 126 && b != '/'
		if got := impl.PathRight("a" + c + "a"); got != (inside || b == '/') {
			t.Errorf("the byte %d within a path: got %v", b, got)
		}
		if got := impl.PathRight("a/" + c + "a"); got != inside {
			t.Errorf("the byte %d at a part's beginning: got %v", b, got)
		}
		if got := impl.PathRight("a" + c); got != inside {
			t.Errorf("the byte %d at the end: got %v", b, got)
		}
		if got := impl.PathRight(c); got != (inside && b != '.') {
			t.Errorf("the byte %d alone: got %v", b, got)
		}
	}
}

// edgeFiles: Files of the Path "a", right and not right, each at an edge.
func edgeFiles(right bool) []impl.File {
	if right {
		return []impl.File{
			{Path: "a"}, {Path: "a", Dir: true},
			{Path: "a", Mode: 4095}, {Path: "a", Mode: 1}, {Path: "a", Dir: true, Mode: 4095},
			{Path: "a", Time: 1}, {Path: "a", Time: impl.MaxTime}, {Path: "a", Dir: true, Time: impl.MaxTime},
			{Path: "a", Data: strings.Repeat("d", 1200)}, {Path: "a", Data: "\x00\xff\n"}, {Path: "a", Data: bytesRun(1199)},
		}
	}
	return []impl.File{
		{}, {Dir: true}, {Path: "a", Mode: -1}, {Path: "a", Mode: 4096}, {Path: "a", Dir: true, Mode: -1}, {Path: "a", Dir: true, Mode: 4096},
		{Path: "a", Mode: math.MinInt64}, {Path: "a", Mode: math.MaxInt64},
		{Path: "a", Time: -1}, {Path: "a", Time: impl.MaxTime + 1}, {Path: "a", Dir: true, Time: -1}, {Path: "a", Dir: true, Time: impl.MaxTime + 1},
		{Path: "a", Time: math.MinInt64}, {Path: "a", Time: math.MaxInt64},
		{Path: "a", Data: strings.Repeat("d", 1201)}, {Path: "a", Data: tooLong},
		{Path: "a", Dir: true, Data: "d"}, {Path: "a", Dir: true, Data: strings.Repeat("d", 1201)},
		{Path: "."}, {Path: "/a"}, {Path: "a/"}, {Path: " "}, {Path: tooLong},
	}
}

// wrongTrees: lists of at most MaxList Files that are no right trees.
func wrongTrees() map[string][]impl.File {
	out := map[string][]impl.File{
		"21 files":                   manyFiles(21),
		"MaxList files":              manyFiles(impl.MaxList),
		"out of order":               {dataAt("b", ""), dataAt("a", "")},
		"the same path":              {dataAt("a", ""), dataAt("b", ""), dataAt("b", "")},
		"the same dir":               {dirAt("a"), dirAt("a")},
		"a path of both kinds":       {dirAt("a"), dataAt("a", "")},
		"the last ones out of order": {dirAt("a"), dataAt("a/c", ""), dataAt("a/b", "")},
		"no parent":                  {dataAt("a/b", "")},
		"a dir without parent":       {dirAt("a/b")},
		"no grandparent":             {dirAt("a/b"), dataAt("a/b/c", "")},
		"no parent among others":     {dirAt("a"), dataAt("a/b/c", ""), dirAt("b")},
		"a parent that is no dir":    {dataAt("a", ""), dataAt("a/b", "")},
		"a deep one that is no dir":  {dirAt("a"), dataAt("a/b", ""), dirAt("a/b/c")},
		"the parent behind":          {dataAt("a/b", ""), dirAt("a")},
		"a parent by its bytes only": {dirAt("a"), dataAt("ab/c", "")},
	}
	for i, f := range edgeFiles(false) {
		out["a wrong file "+strconv.Itoa(i)] = []impl.File{f}
		out["a wrong file behind others "+strconv.Itoa(i)] = append([]impl.File{dataAt("0", "")}, f)
	}
	return out
}

func TestRightTrees(t *testing.T) {
	twenty := manyFiles(20)
	deep := []impl.File{dirAt("a")}
	for len(deep) < 20 {
		deep = append(deep, dirAt(deep[len(deep)-1].Path+"/a"))
	}
	// - stands ahead of / among the bytes, so what is in a Dir may stand behind its other neighbours.
	between := []impl.File{dirAt("a"), dataAt("a-b", ""), dataAt("a.b", ""), dataAt("a/b", ""), dataAt("a0", "")}
	for what, l := range map[string][]impl.File{
		"none": nil, "empty": {}, "twenty": twenty, "deep": deep, "between": between, "sample": sampleTree(),
	} {
		if !impl.TreeRight(l) {
			t.Errorf("%s: the tree is right", what)
		}
	}
	for i, f := range edgeFiles(true) {
		if !impl.TreeRight([]impl.File{f}) || !impl.TreeRight([]impl.File{dataAt("0", ""), f}) {
			t.Errorf("the right file %d makes a right tree", i)
		}
	}
}

func TestTreesThatAreNotRight(t *testing.T) {
	for what, l := range wrongTrees() {
		if impl.TreeRight(l) {
			t.Errorf("%s: the tree is not right", what)
		}
	}
	if impl.TreeRight(manyFiles(impl.MaxList + 1)) {
		t.Error("a tree of more than MaxList files is not right")
	}
}

func TestTreeFind(t *testing.T) {
	l := sampleTree()
	own := ownFiles(l)
	for _, want := range l {
		got := impl.TreeFind(own, want.Path)
		if got != want {
			t.Errorf("TreeFind(%q): got %v, want %v", want.Path, got, want)
		}
		if fileSharesMemory(got, own) {
			t.Errorf("TreeFind(%q): the answer shares memory with the tree", want.Path)
		}
	}
	if !slices.Equal(own, l) {
		t.Error("TreeFind has changed the tree")
	}
	for _, path := range []string{"", "b", "a/", "/a", "a/b/c/d/e", "a/c", "A", "zz", "empt", "empty/", tooLong} {
		if got := impl.TreeFind(l, path); got != (impl.File{}) {
			t.Errorf("TreeFind(%.40q), which is not there: got %v", path, got)
		}
	}
	for what, wrong := range wrongTrees() {
		if got := impl.TreeFind(wrong, wrong[0].Path); got != (impl.File{}) {
			t.Errorf("TreeFind in a tree that is not right, %s: got %.100v", what, got)
		}
	}
	if got := impl.TreeFind(manyFiles(impl.MaxList+1), "f1000"); got != (impl.File{}) {
		t.Errorf("TreeFind in too many files: got %v", got)
	}
	if got := impl.TreeFind(nil, "a"); got != (impl.File{}) {
		t.Errorf("TreeFind in no files: got %v", got)
	}
}

func TestTreePutInPlace(t *testing.T) {
	l := sampleTree()
	for i, old := range l {
		f := old
		f.Mode, f.Time = 4095, impl.MaxTime
		if !f.Dir {
			f.Data = bytesRun(1200)
		}
		want := slices.Clone(l)
		want[i] = f
		wantPut(t, "in the place of "+f.Path, l, f, want)
		wantPut(t, "the same "+f.Path, l, old, l)
	}
	wantPut(t, "in a full tree", manyFiles(20), dataAt("f1007", "new"), append(append(manyFiles(7), dataAt("f1007", "new")), manyFiles(20)[8:]...))
}

func TestTreePutAmongOthers(t *testing.T) {
	l := sampleTree()
	for _, path := range []string{"!", "a!", "a.", "a/a", "a/b/a", "a/b/c/e", "a/b/c/-", "b", "empty/x", "empty-", "~"} {
		wantPut(t, "the file "+path, l, dataAt(path, "new"), with(l, dataAt(path, "new")))
		wantPut(t, "the dir "+path, l, impl.File{Path: path, Dir: true, Mode: 1, Time: 2}, with(l, impl.File{Path: path, Dir: true, Mode: 1, Time: 2}))
	}
	wantPut(t, "the first one", nil, dataAt("a", "x"), []impl.File{dataAt("a", "x")})
	wantPut(t, "the first one of an empty list", []impl.File{}, dirAt("a"), []impl.File{dirAt("a")})
	for i, f := range edgeFiles(true) {
		wantPut(t, "the right file "+strconv.Itoa(i), nil, f, []impl.File{f})
	}
}

func TestTreePutWithNeededDirs(t *testing.T) {
	l := sampleTree()
	wantPut(t, "two dirs", l, dataAt("n/m/f", "x"), with(l, dirAt("n"), dirAt("n/m"), dataAt("n/m/f", "x")))
	wantPut(t, "some of the dirs", l, dataAt("a/b/n/m/f", "x"), with(l, dirAt("a/b/n"), dirAt("a/b/n/m"), dataAt("a/b/n/m/f", "x")))
	wantPut(t, "a dir", l, impl.File{Path: "empty/n/m", Dir: true, Mode: 7, Time: 8},
		with(l, dirAt("empty/n"), impl.File{Path: "empty/n/m", Dir: true, Mode: 7, Time: 8}))
	wantPut(t, "in no files", nil, dataAt("a/b/c", "x"), []impl.File{dirAt("a"), dirAt("a/b"), dataAt("a/b/c", "x")})
	wantPut(t, "around others", []impl.File{dataAt("a-", "")}, dataAt("a/b", "x"), []impl.File{dirAt("a"), dataAt("a-", ""), dataAt("a/b", "x")})
}

func TestTreePutTooGreat(t *testing.T) {
	new1, new3 := dataAt("z", "x"), dataAt("n/m/f", "x")
	wantPut(t, "the twentieth", manyFiles(19), new1, with(manyFiles(19), new1))
	wantPut(t, "the twenty-first", manyFiles(20), new1, manyFiles(20))
	wantPut(t, "the twentieth with its dirs", manyFiles(17), new3, with(manyFiles(17), dirAt("n"), dirAt("n/m"), new3))
	wantPut(t, "too many with its dirs", manyFiles(18), new3, manyFiles(18))
	deep := strings.TrimSuffix(strings.Repeat("d/", 20), "/")
	if got := impl.TreePut(nil, dirAt(deep)); len(got) != 20 || !impl.TreeRight(got) {
		t.Errorf("a dir of twenty parts needs nineteen others: got %d files", len(got))
	}
	wantPut(t, "a path of too many parts", nil, dirAt(deep+"/d"), nil)
	wantPut(t, "a path of too many parts beside others", manyFiles(3), dataAt(deep[2:], ""), manyFiles(3))
}

func TestTreePutRefused(t *testing.T) {
	l := sampleTree()
	for _, old := range l {
		f := impl.File{Path: old.Path, Dir: !old.Dir, Mode: 493}
		wantPut(t, "of the other kind, "+f.Path, l, f, l)
	}
	for _, path := range []string{"0/x", "a-b/x", "a/b/c/d/x", "a/b/c/d/x/y/z", "z/x/y"} {
		wantPut(t, "a file below a file, "+path, l, dataAt(path, "x"), l)
		wantPut(t, "a dir below a file, "+path, l, dirAt(path), l)
	}
	for i, f := range edgeFiles(false) {
		wantPut(t, "the wrong file "+strconv.Itoa(i), []impl.File{dirAt("b")}, f, nil)
		wantPut(t, "the wrong file in the place of one "+strconv.Itoa(i), []impl.File{dataAt("a", "")}, f, nil)
	}
	for what, wrong := range wrongTrees() {
		wantPut(t, "in a tree that is not right, "+what, wrong, dataAt("b", ""), nil)
		wantPut(t, "a wrong file in a tree that is not right, "+what, wrong, impl.File{}, nil)
	}
	// A File that would mend a tree is not put, either.
	wantPut(t, "the parent that is missing", []impl.File{dataAt("a/b", "")}, dirAt("a"), nil)
	wantPut(t, "in the place of a wrong file", []impl.File{{Path: "a", Mode: -1}}, dataAt("a", ""), nil)
	wantPut(t, "in too many files", manyFiles(impl.MaxList+1), dataAt("b", ""), nil)
}

func TestTreeDrop(t *testing.T) {
	l := sampleTree()
	wantDropped(t, "a file", l, "ab", without(l, "ab"))
	wantDropped(t, "the first one", l, "0", l[1:])
	wantDropped(t, "the last one", l, "z", l[:len(l)-1])
	wantDropped(t, "a file in a dir", l, "a/b/c/d", without(l, "a/b/c/d"))
	wantDropped(t, "an empty dir", l, "empty", without(l, "empty"))
	wantDropped(t, "a dir with a file", l, "a/b/c", without(l, "a/b/c", "a/b/c/d"))
	wantDropped(t, "a dir beside one of the same bytes", l, "a/b", without(l, "a/b", "a/b/c", "a/b/c/d"))
	wantDropped(t, "all at every depth", l, "a", without(l, "a", "a/b", "a/b-", "a/b/c", "a/b/c/d", "a/bb"))
	wantDropped(t, "a file beside a dir of the same bytes", l, "a-b", without(l, "a-b"))
	wantDropped(t, "the only one", []impl.File{dirAt("a"), dataAt("a/b", "")}, "a", nil)
	wantDropped(t, "one of twenty", manyFiles(20), "f1000", manyFiles(20)[1:])
}

func TestTreeDropNothing(t *testing.T) {
	l := sampleTree()
	for _, path := range []string{"", "/", "a/", "/a", "b", "a/c", "a/b/c/d/e", "empt", "empty/", "A", ".", "..", "a//b", tooLong[1:]} {
		wantDropped(t, "what is not there", l, path, l)
	}
	wantDropped(t, "from no files", nil, "a", nil)
	for what, wrong := range wrongTrees() {
		for _, path := range []string{wrong[0].Path, wrong[len(wrong)-1].Path, "a", "b", ""} {
			if len(path) <= impl.MaxBytes {
				wantDropped(t, "from a tree that is not right, "+what, wrong, path, wrong)
			}
		}
	}
	wantDropped(t, "a text that is too long", l, tooLong, nil)
	wantDropped(t, "a text that is too long from a tree that is not right", []impl.File{{}}, tooLong, nil)
	wantDropped(t, "from too many files", manyFiles(impl.MaxList+1), "f1000", nil)
}

func TestTreeSame(t *testing.T) {
	l := sampleTree()
	wantSame := func(what string, a []impl.File, b []impl.File, want bool) {
		t.Helper()
		if impl.TreeSame(a, b) != want || impl.TreeSame(b, a) != want {
			t.Errorf("TreeSame: %s: should be %v", what, want)
		}
	}
	wantSame("itself", l, l, true)
	wantSame("a copy", l, ownFiles(l), true)
	wantSame("none and an empty list", nil, []impl.File{}, true)
	wantSame("none and none", nil, nil, true)
	wantSame("one and none", l[:1], nil, false)
	wantSame("a zero file and none", []impl.File{{}}, nil, false)
	wantSame("the last one missing", l, l[:len(l)-1], false)
	wantSame("the first one missing", l, l[1:], false)
	wantSame("another order", []impl.File{dirAt("a"), dirAt("b")}, []impl.File{dirAt("b"), dirAt("a")}, false)
	f := impl.File{Path: "a", Mode: 1, Time: 2, Data: "d"}
	for _, g := range []impl.File{
		{Path: "b", Mode: 1, Time: 2, Data: "d"}, {Path: "a", Dir: true, Mode: 1, Time: 2, Data: "d"},
		{Path: "a", Mode: 2, Time: 2, Data: "d"}, {Path: "a", Mode: 1, Time: 1, Data: "d"},
		{Path: "a", Mode: 1, Time: 2, Data: "D"}, {Path: "a", Mode: 1, Time: 2}, {},
	} {
		wantSame("a field differs", []impl.File{f}, []impl.File{g}, false)
		wantSame("a field of the last differs", append(sampleTree(), f), append(sampleTree(), g), false)
		wantSame("a field of the first differs", append([]impl.File{f}, l...), append([]impl.File{g}, l...), false)
	}
	for what, wrong := range wrongTrees() {
		wantSame("a tree that is not right, "+what, wrong, ownFiles(wrong), true)
	}
	wantSame("MaxList files", manyFiles(impl.MaxList), manyFiles(impl.MaxList), true)
	long := manyFiles(impl.MaxList + 1)
	wantSame("more than MaxList files", long, long, false)
	wantSame("more than MaxList files and none", long, nil, false)
}

// keptBeside: is all of one tree, but what the test tells to leave out, in another one as it was?
func keptBeside(l []impl.File, other []impl.File, out func(path string) bool) bool {
	return !slices.ContainsFunc(l, func(f impl.File) bool {
		return !out(f.Path) && !slices.Contains(other, f)
	})
}

// mayBePut counts what a right File needs in a right tree.
func mayBePut(l []impl.File, f impl.File) bool {
	parts := strings.Split(f.Path, "/")
	many := len(l)
	for i := range parts {
		path := strings.Join(parts[:i+1], "/")
		at := slices.Index(pathsOf(l), path)
		if at < 0 {
			many++
		} else if l[at].Dir != (f.Dir || path != f.Path) {
			return false
		}
	}
	return many <= impl.MaxFiles
}

// wantPutHolds looks at promise 3 of a put: it is there, or nothing has changed; what came with it are Dirs above it.
func wantPutHolds(t *testing.T, l []impl.File, f impl.File, got []impl.File) {
	t.Helper()
	if !mayBePut(l, f) {
		if !impl.TreeSame(got, l) {
			t.Errorf("%v can't be put in %q, but it has changed to %q", f, pathsOf(l), pathsOf(got))
		}
		return
	}
	self := func(path string) bool { return path == f.Path }
	if !impl.TreeRight(got) || impl.TreeFind(got, f.Path) != f || !keptBeside(l, got, self) {
		t.Errorf("%v put in %q: got %q", f, pathsOf(l), pathsOf(got))
	}
	for _, g := range without(got, pathsOf(l)...) {
		if g != f && (g != dirAt(g.Path) || !strings.HasPrefix(f.Path, g.Path+"/")) {
			t.Errorf("%v put in %q: %v has come with it", f, pathsOf(l), g)
		}
	}
}

func wantDropHolds(t *testing.T, l []impl.File, path string, got []impl.File) {
	t.Helper()
	gone := func(other string) bool { return other == path || strings.HasPrefix(other, path+"/") }
	if !impl.TreeRight(got) || !keptBeside(l, got, gone) || !keptBeside(got, l, func(string) bool { return false }) {
		t.Errorf("%q dropped from %q: got %q", path, pathsOf(l), pathsOf(got))
	}
	if slices.ContainsFunc(pathsOf(got), gone) {
		t.Errorf("%q dropped from %q: left over in %q", path, pathsOf(l), pathsOf(got))
	}
}

// TestPutsAndDrops goes a long way of puts and drops, always the same one, and looks at promise 3 at each step.
func TestPutsAndDrops(t *testing.T) {
	parts := []string{"a", "b", "a-", "c.d"}
	state := uint32(12345)
	next := func(many int) int {
		state = state*1664525 + 1013904223
		return int(state>>16) % many
	}
	var l []impl.File
	fullest := 0
	for step := range 4000 {
		path := parts[next(len(parts))]
		for range next(4) {
			path += "/" + parts[next(len(parts))]
		}
		var got []impl.File
		if next(5) == 0 {
			got = impl.TreeDrop(l, path)
			wantDropHolds(t, l, path, got)
		} else {
			f := impl.File{Path: path, Dir: next(2) == 0, Mode: int64(next(4096)), Time: int64(step)}
			if !f.Dir {
				f.Data = strconv.Itoa(step)
			}
			got = impl.TreePut(l, f)
			wantPutHolds(t, l, f, got)
		}
		l = got
		fullest = max(fullest, len(l))
	}
	if fullest != impl.MaxFiles {
		t.Errorf("the way should have come to a full tree, but only to %d files", fullest)
	}
}
