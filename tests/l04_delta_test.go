package tests

import (
	"encoding/binary"
	"math"
	"slices"
	"strconv"
	"strings"
	"testing"

	"loop.example/g00310/impl"
)

// ownDelta is a copy whose lists and texts have memory of their own, with spare places behind the lists.
func ownDelta(d impl.Delta) impl.Delta {
	return impl.Delta{Drops: ownTexts(d.Drops), Puts: ownFiles(d.Puts)}
}

func sameDelta(a impl.Delta, b impl.Delta) bool {
	return slices.Equal(a.Drops, b.Drops) && slices.Equal(a.Puts, b.Puts)
}

func textsOf(l []impl.File) []string {
	var out []string
	for _, f := range l {
		out = append(out, f.Path, f.Data)
	}
	return out
}

func textsShareMemory(a []string, b []string) bool {
	return slices.ContainsFunc(a, func(one string) bool {
		return slices.ContainsFunc(b, func(other string) bool { return sharesMemory(one, other) })
	})
}

func deltaSharesMemory(got impl.Delta, d impl.Delta) bool {
	if listsOverlap(got.Drops, d.Drops) || listsOverlap(got.Puts, d.Puts) {
		return true
	}
	return textsShareMemory(append(textsOf(got.Puts), got.Drops...), append(textsOf(d.Puts), d.Drops...))
}

// wantUntouched looks at a Delta of ownDelta behind a call: it and its spare places are as they were.
func wantUntouched(t *testing.T, what string, own impl.Delta, was impl.Delta) {
	t.Helper()
	if !sameDelta(own, was) {
		t.Errorf("%s: the delta that was handed in has changed", what)
	}
	spareDrops := own.Drops[len(own.Drops):cap(own.Drops)]
	sparePuts := own.Puts[len(own.Puts):cap(own.Puts)]
	if slices.ContainsFunc(spareDrops, func(path string) bool { return path != "" }) ||
		slices.ContainsFunc(sparePuts, func(f impl.File) bool { return f != impl.File{} }) {
		t.Errorf("%s: behind a list that was handed in something was written", what)
	}
}

func wantDelta(t *testing.T, what string, got impl.Delta, want impl.Delta) {
	t.Helper()
	if !sameDelta(got, want) {
		t.Errorf("%s: got drops %.200q and puts %s, want drops %.200q and puts %s", what, got.Drops, brief(got.Puts), want.Drops, brief(want.Puts))
	}
	if textsShareMemory(got.Drops, textsOf(got.Puts)) {
		t.Errorf("%s: the drops and the puts of the answer share memory", what)
	}
}

func wantDeltaRight(t *testing.T, what string, d impl.Delta, want bool) {
	t.Helper()
	own := ownDelta(d)
	if got := impl.DeltaRight(own); got != want {
		t.Errorf("DeltaRight: %s: got %v, want %v", what, got, want)
	}
	wantUntouched(t, "DeltaRight: "+what, own, d)
}

// wantOf calls DeltaOf, and looks at the answer, at its memory, and at what was handed in.
func wantOf(t *testing.T, what string, old []impl.File, now []impl.File, want impl.Delta) {
	t.Helper()
	what = "DeltaOf: " + what
	ownOld, ownNow := ownDelta(impl.Delta{Puts: old}), ownDelta(impl.Delta{Puts: now})
	got := impl.DeltaOf(ownOld.Puts, ownNow.Puts)
	wantDelta(t, what, got, want)
	if deltaSharesMemory(got, ownOld) || deltaSharesMemory(got, ownNow) {
		t.Errorf("%s: the answer shares memory with what was handed in", what)
	}
	wantUntouched(t, what, ownOld, impl.Delta{Puts: old})
	wantUntouched(t, what, ownNow, impl.Delta{Puts: now})
}

func wantApplied(t *testing.T, what string, l []impl.File, d impl.Delta, want []impl.File) {
	t.Helper()
	what = "DeltaApply: " + what
	own := ownDelta(d)
	wantFiles(t, what, l, func(l []impl.File) []impl.File {
		got := impl.DeltaApply(l, own)
		if deltaSharesMemory(impl.Delta{Puts: got}, own) {
			t.Errorf("%s: the answer shares memory with the delta", what)
		}
		return got
	}, want)
	wantUntouched(t, what, own, d)
}

func wantThen(t *testing.T, what string, a impl.Delta, b impl.Delta, want impl.Delta) {
	t.Helper()
	what = "DeltaThen: " + what
	ownA, ownB := ownDelta(a), ownDelta(b)
	got := impl.DeltaThen(ownA, ownB)
	wantDelta(t, what, got, want)
	if deltaSharesMemory(got, ownA) || deltaSharesMemory(got, ownB) {
		t.Errorf("%s: the answer shares memory with what was handed in", what)
	}
	wantUntouched(t, what, ownA, a)
	wantUntouched(t, what, ownB, b)
}

func wantBytes(t *testing.T, what string, d impl.Delta, want string) {
	t.Helper()
	own := ownDelta(d)
	got := impl.DeltaBytes(own)
	if got != want {
		t.Errorf("DeltaBytes: %s: got %d bytes %.40q, want %d bytes %.40q", what, len(got), got, len(want), want)
	}
	if textsShareMemory([]string{got}, append(textsOf(own.Puts), own.Drops...)) {
		t.Errorf("DeltaBytes: %s: the answer shares memory with the delta", what)
	}
	wantUntouched(t, "DeltaBytes: "+what, own, d)
}

func wantRead(t *testing.T, what string, text string, want impl.DeltaOut) {
	t.Helper()
	got := impl.DeltaRead(text)
	wantDelta(t, "DeltaRead: "+what, got.Delta, want.Delta)
	if got.Code != want.Code {
		t.Errorf("DeltaRead: %s: got the code %d, want %d", what, got.Code, want.Code)
	}
	if textsShareMemory([]string{text}, append(textsOf(got.Delta.Puts), got.Delta.Drops...)) {
		t.Errorf("DeltaRead: %s: the answer shares memory with the text", what)
	}
}

// wantNoDelta: such a text is refused, with nothing beside the code.
func wantNoDelta(t *testing.T, what string, text string) {
	t.Helper()
	wantRead(t, what, text, impl.DeltaOut{Code: impl.ErrSyntax})
}

// deltaByHand writes a Delta's bytes, right or not, with the library's numbers.
func deltaByHand(d impl.Delta) string {
	out := binary.AppendVarint(nil, int64(len(d.Drops)))
	for _, path := range d.Drops {
		out = append(binary.AppendVarint(out, int64(len(path))), path...)
	}
	return string(out) + archiveByHand(d.Puts)
}

// manyPaths are that many paths, rising, none of them in manyFiles.
func manyPaths(many int) []string {
	var out []string
	for i := range many {
		out = append(out, "d"+strconv.Itoa(1000+i))
	}
	return out
}

// rightDeltas: at the edges that the document names.
func rightDeltas() map[string]impl.Delta {
	out := map[string]impl.Delta{
		"nothing":                  {},
		"empty lists":              {Drops: []string{}, Puts: []impl.File{}},
		"drops alone":              {Drops: []string{"a", "a/b", "b"}},
		"puts alone":               {Puts: []impl.File{dirAt("a"), dataAt("a/b", "x")}},
		"both":                     {Drops: []string{"a", "c"}, Puts: []impl.File{dataAt("b", "1"), dataAt("d", "2")}},
		"40 drops":                 {Drops: manyPaths(40)},
		"40 puts":                  {Puts: manyFiles(40)},
		"40 of either":             {Drops: manyPaths(40), Puts: manyFiles(40)},
		"a put with no parent":     {Puts: []impl.File{dataAt("a/b/c", "")}},
		"a put below a file":       {Puts: []impl.File{dataAt("a", ""), dataAt("a/b", "")}},
		"a put below a drop":       {Drops: []string{"a"}, Puts: []impl.File{dataAt("a/b", "")}},
		"a drop below a put":       {Drops: []string{"a/b"}, Puts: []impl.File{dirAt("a")}},
		"paths that begin another": {Drops: []string{"a", "aa"}, Puts: []impl.File{dataAt("aaa", ""), dataAt("aaaa", "")}},
		"the longest path":         {Drops: []string{pathOfSize(impl.MaxPath)}, Puts: []impl.File{dataAt("q", "")}},
	}
	for i, f := range edgeFiles(true) {
		out["the right file "+strconv.Itoa(i)] = impl.Delta{Drops: []string{"b"}, Puts: []impl.File{f}}
	}
	return out
}

// wrongPuts: lists of Files that are no right Puts, and that right Drops of other Paths do not mend.
func wrongPuts() map[string][]impl.File {
	out := map[string][]impl.File{
		"41 puts":                  manyFiles(41),
		"puts that fall":           {dataAt("b", ""), dataAt("a", "")},
		"the last put ahead":       {dataAt("b", ""), dataAt("c", ""), dataAt("bb", "")},
		"two puts of a path":       {dataAt("a", ""), dataAt("a", "")},
		"two kinds of a path":      {dirAt("a"), dataAt("a", "")},
		"the shorter path behind":  {dataAt("aa", ""), dataAt("a", "")},
		"more than MaxList puts":   manyFiles(impl.MaxList + 1),
		"a put that is not a file": {dataAt("a", ""), {}},
	}
	for i, f := range edgeFiles(false) {
		out["the wrong file "+strconv.Itoa(i)] = []impl.File{f}
		out["the wrong file behind another "+strconv.Itoa(i)] = []impl.File{dataAt("0", ""), f}
	}
	return out
}

func wrongDrops() map[string][]string {
	out := map[string][]string{
		"41 drops":                 manyPaths(41),
		"drops that fall":          {"b", "a"},
		"the last drop ahead":      {"b", "c", "bb"},
		"two drops alike":          {"a", "a"},
		"the last two drops alike": {"a", "b", "b"},
		"the shorter drop behind":  {"aa", "a"},
		"more than MaxList drops":  manyPaths(impl.MaxList + 1),
	}
	for i, path := range []string{"", "/", "/a", "a/", "a//b", ".", "..", "a/..", " ", "a b", "\x7f", "é", "\xff", strings.Repeat("p", 61), pathOfSize(151), tooLong[1:], tooLong} {
		out["no path "+strconv.Itoa(i)] = []string{path}
		out["no path behind another "+strconv.Itoa(i)] = []string{"!", path}
	}
	return out
}

// wrongDeltas: each with one fault.
func wrongDeltas() map[string]impl.Delta {
	out := map[string]impl.Delta{
		"a path of both":            {Drops: []string{"a"}, Puts: []impl.File{dataAt("a", "")}},
		"a dir of both":             {Drops: []string{"a"}, Puts: []impl.File{dirAt("a")}},
		"the last path of both":     {Drops: []string{"a", "b", "z"}, Puts: []impl.File{dataAt("c", ""), dataAt("z", "")}},
		"the first drop, last put":  {Drops: []string{"m", "n"}, Puts: []impl.File{dataAt("a", ""), dataAt("m", "")}},
		"the first put, last drop":  {Drops: []string{"a", "m"}, Puts: []impl.File{dataAt("m", ""), dataAt("n", "")}},
		"all of both":               {Drops: pathsOf(manyFiles(40)), Puts: manyFiles(40)},
		"41 of either":              {Drops: manyPaths(41), Puts: manyFiles(41)},
		"41 drops beside 40 puts":   {Drops: manyPaths(41), Puts: manyFiles(40)},
		"41 puts beside 40 drops":   {Drops: manyPaths(40), Puts: manyFiles(41)},
		"one of both in both lists": {Drops: []string{"a", "b", "c"}, Puts: []impl.File{dataAt("a", ""), dataAt("b", ""), dataAt("c", "")}},
	}
	for what, puts := range wrongPuts() {
		out[what] = impl.Delta{Drops: []string{"x"}, Puts: puts}
	}
	for what, drops := range wrongDrops() {
		out[what] = impl.Delta{Drops: drops, Puts: []impl.File{dataAt("x", "")}}
	}
	return out
}

func TestRightDeltas(t *testing.T) {
	for what, d := range rightDeltas() {
		wantDeltaRight(t, what, d, true)
	}
	for what, d := range wrongDeltas() {
		wantDeltaRight(t, what, d, false)
	}
	for what, puts := range wrongPuts() {
		wantDeltaRight(t, what+" without drops", impl.Delta{Puts: puts}, false)
	}
	for what, drops := range wrongDrops() {
		wantDeltaRight(t, what+" without puts", impl.Delta{Drops: drops}, false)
	}
}

func TestDeltaOf(t *testing.T) {
	l := sampleTree()
	wantOf(t, "like trees", l, ownFiles(l), impl.Delta{})
	wantOf(t, "one tree twice", l, l, impl.Delta{})
	wantOf(t, "no files", nil, nil, impl.Delta{})
	wantOf(t, "none and an empty list", nil, []impl.File{}, impl.Delta{})
	wantOf(t, "all are new", nil, l, impl.Delta{Puts: l})
	wantOf(t, "all are gone", l, nil, impl.Delta{Drops: pathsOf(l)})
	wantOf(t, "twenty others", manyFiles(20), with(nil, dirAt("a"), dataAt("a/b", "")),
		impl.Delta{Drops: pathsOf(manyFiles(20)), Puts: []impl.File{dirAt("a"), dataAt("a/b", "")}})
	wantOf(t, "some of each", []impl.File{dataAt("a", "1"), dataAt("b", "2"), dataAt("c", "3"), dataAt("e", "5")},
		[]impl.File{dataAt("0", "n"), dataAt("b", "2"), dataAt("c", "other"), dataAt("d", "n")},
		impl.Delta{Drops: []string{"a", "e"}, Puts: []impl.File{dataAt("0", "n"), dataAt("c", "other"), dataAt("d", "n")}})
	leaves := []string{"0", "a-b", "a/b-", "a/b/c/d", "a/bb", "ab", "empty", "z"}
	for _, path := range leaves {
		wantOf(t, path+" in old alone", l, without(l, path), impl.Delta{Drops: []string{path}})
		wantOf(t, path+" in now alone", without(l, path), l, impl.Delta{Puts: []impl.File{impl.TreeFind(l, path)}})
	}
	wantOf(t, "a dir and all below", l, impl.TreeDrop(l, "a/b"), impl.Delta{Drops: []string{"a/b", "a/b/c", "a/b/c/d"}})
	wantOf(t, "a dir with all below", impl.TreeDrop(l, "a/b"), l, impl.Delta{Puts: []impl.File{l[3], l[5], l[6]}})
}

// A File in both trees is put just if one field, whichever, differs.
func TestDeltaOfByFields(t *testing.T) {
	base := impl.File{Path: "m", Mode: 1, Time: 2, Data: "d"}
	for what, f := range map[string]impl.File{
		"another mode": {Path: "m", Mode: 0, Time: 2, Data: "d"}, "another time": {Path: "m", Mode: 1, Time: 0, Data: "d"},
		"other data": {Path: "m", Mode: 1, Time: 2, Data: "D"}, "no data": {Path: "m", Mode: 1, Time: 2},
		"more data": {Path: "m", Mode: 1, Time: 2, Data: "dd"}, "a dir": {Path: "m", Dir: true, Mode: 1, Time: 2},
	} {
		for _, beside := range [][]impl.File{nil, {dataAt("a", "x"), dataAt("z", "y")}} {
			wantOf(t, what, with(beside, base), with(beside, f), impl.Delta{Puts: []impl.File{f}})
			wantOf(t, what+", turned round", with(beside, f), with(beside, base), impl.Delta{Puts: []impl.File{base}})
		}
	}
	empty := impl.File{Path: "m", Mode: 1, Time: 2}
	dir := impl.File{Path: "m", Dir: true, Mode: 1, Time: 2}
	wantOf(t, "an empty file that is a dir now", []impl.File{empty}, []impl.File{dir}, impl.Delta{Puts: []impl.File{dir}})
	wantOf(t, "a dir that is an empty file now", []impl.File{dir}, []impl.File{empty}, impl.Delta{Puts: []impl.File{empty}})
	wantOf(t, "a dir with a file that is a file now", []impl.File{dir, dataAt("m/x", "")}, []impl.File{base}, impl.Delta{Drops: []string{"m/x"}, Puts: []impl.File{base}})
	wantOf(t, "a new file of zero fields", nil, []impl.File{{Path: "a"}}, impl.Delta{Puts: []impl.File{{Path: "a"}}})
}

func TestDeltaOfWrongTrees(t *testing.T) {
	wrong := wrongTrees()
	wrong["more than MaxList files"] = manyFiles(impl.MaxList + 1)
	for what, l := range wrong {
		wantOf(t, "old: "+what, l, sampleTree(), impl.Delta{})
		wantOf(t, "now: "+what, sampleTree(), l, impl.Delta{})
		wantOf(t, "now, behind none: "+what, nil, l, impl.Delta{})
		wantOf(t, "old, ahead of none: "+what, l, nil, impl.Delta{})
		wantOf(t, "both: "+what, l, l, impl.Delta{})
	}
}

func TestDeltaApply(t *testing.T) {
	l := sampleTree()
	wantApplied(t, "nothing", l, impl.Delta{}, l)
	wantApplied(t, "nothing to none", nil, impl.Delta{}, nil)
	wantApplied(t, "a drop to none", nil, impl.Delta{Drops: []string{"a"}}, nil)
	wantApplied(t, "puts to none", nil, impl.Delta{Puts: l}, l)
	wantApplied(t, "all drops", l, impl.Delta{Drops: pathsOf(l)}, nil)
	wantApplied(t, "drops that are not there", l, impl.Delta{Drops: []string{"!", "A", "a/b/c/d/e", "b", "empty/x", "zz"}}, l)
	wantApplied(t, "drops that are there and that are not", l, impl.Delta{Drops: []string{"!", "0", "b", "z", "zz"}}, without(l, "0", "z"))
	wantApplied(t, "a drop does not go with what is below", l, impl.Delta{Drops: []string{"a"}}, without(l, "a"))
	for i, old := range l {
		f := impl.File{Path: old.Path, Dir: !old.Dir, Mode: 1, Time: 2}
		want := slices.Clone(l)
		want[i] = f
		wantApplied(t, "a put in the place of "+old.Path, l, impl.Delta{Puts: []impl.File{f}}, want)
		wantApplied(t, "a drop of "+old.Path, l, impl.Delta{Drops: []string{old.Path}}, without(l, old.Path))
	}
	for _, path := range []string{"!", "a!", "a.", "a/a", "a/b/a", "b", "n/o/p", "empty/x", "z/below/a/file", "~"} {
		wantApplied(t, "a put among the others, "+path, l, impl.Delta{Puts: []impl.File{dataAt(path, "x")}}, with(l, dataAt(path, "x")))
	}
	both := impl.Delta{Drops: []string{"0", "a-b", "z"}, Puts: []impl.File{dataAt("!", "1"), dataAt("ab", "2"), dataAt("b", "3"), dataAt("~", "4")}}
	wantApplied(t, "drops and puts", l, both, with(without(l, "0", "a-b", "ab", "z"), both.Puts...))
	wantApplied(t, "drops and puts once more", with(without(l, "0", "a-b", "ab", "z"), both.Puts...), both, with(without(l, "0", "a-b", "ab", "z"), both.Puts...))
}

// Files that rise need not be a tree, and may be more than a tree has.
func TestDeltaApplyToNoTrees(t *testing.T) {
	d := impl.Delta{Drops: []string{"a/b", "z"}, Puts: []impl.File{dataAt("a/b/c", "x"), dataAt("g", "y")}}
	loose := []impl.File{dataAt("a", ""), dataAt("a/b", ""), dirAt("a/b/d"), dataAt("q/r/s", "")}
	wantApplied(t, "files without parents", loose, d, with(without(loose, "a/b"), d.Puts...))
	for _, many := range []int{20, 21, 100, impl.MaxList - 1, impl.MaxList} {
		l := manyFiles(many)
		wantApplied(t, "nothing to many", l, impl.Delta{}, l)
		wantApplied(t, "two puts to many", l, d, with(l, d.Puts...))
		wantApplied(t, "a drop to many", l, impl.Delta{Drops: []string{"f1000", "f1019"}}, without(l, "f1000", "f1019"))
	}
	most := impl.Delta{Drops: manyPaths(40), Puts: with(nil, namedFiles("g", 40)...)}
	wantApplied(t, "40 puts to MaxList", manyFiles(impl.MaxList), most, append(manyFiles(impl.MaxList), most.Puts...))
	ahead := impl.Delta{Puts: namedFiles("e", 40)}
	wantApplied(t, "40 puts ahead of MaxList", manyFiles(impl.MaxList), ahead, append(namedFiles("e", 40), manyFiles(impl.MaxList)...))
}

// namedFiles are that many right Files, rising, whose Paths begin with the letter.
func namedFiles(letter string, many int) []impl.File {
	out := manyFiles(many)
	for i := range out {
		out[i].Path = letter + out[i].Path[1:]
	}
	return out
}

func TestDeltaApplyRefused(t *testing.T) {
	right := impl.Delta{Drops: []string{"b"}, Puts: []impl.File{dataAt("a", "new"), dataAt("c", "new")}}
	for what, l := range map[string][]impl.File{
		"files that fall":         {dataAt("b", ""), dataAt("a", "")},
		"files that fall at last": {dataAt("b", ""), dataAt("c", ""), dataAt("bb", "")},
		"the same path twice":     {dataAt("b", "1"), dataAt("b", "2")},
		"the same file twice":     {dataAt("b", "1"), dataAt("b", "1")},
		"MaxList that fall":       append(manyFiles(impl.MaxList - 1)[1:], manyFiles(2)...),
	} {
		wantApplied(t, what, l, right, l)
		wantApplied(t, what+", to nothing", l, impl.Delta{}, l)
	}
	for i, f := range edgeFiles(false) {
		for _, l := range [][]impl.File{{f}, {dataAt("0", ""), f}} {
			wantApplied(t, "the wrong file "+strconv.Itoa(i), l, right, l)
			wantApplied(t, "the wrong file that is dropped "+strconv.Itoa(i), l, impl.Delta{Drops: []string{"a"}}, l)
			wantApplied(t, "the wrong file that is put "+strconv.Itoa(i), l, impl.Delta{Puts: []impl.File{dataAt("a", "")}}, l)
		}
	}
	for what, d := range wrongDeltas() {
		wantApplied(t, "a wrong delta, "+what, sampleTree(), d, sampleTree())
		wantApplied(t, "a wrong delta to none, "+what, nil, d, nil)
		wantApplied(t, "a wrong delta to MaxList, "+what, manyFiles(impl.MaxList), d, manyFiles(impl.MaxList))
		wantApplied(t, "a wrong delta to wrong files, "+what, []impl.File{{}}, d, []impl.File{{}})
	}
	for _, many := range []int{impl.MaxList + 1, 3 * impl.MaxList} {
		wantApplied(t, "too many files", manyFiles(many), right, nil)
		wantApplied(t, "too many files and nothing", manyFiles(many), impl.Delta{}, nil)
		wantApplied(t, "too many files and a wrong delta", manyFiles(many), impl.Delta{Drops: []string{""}}, nil)
		wantApplied(t, "too many wrong files", make([]impl.File, many), right, nil)
	}
}

// Of one path all that either Delta may do with it, and what both do together.
func TestDeltaThenOfOnePath(t *testing.T) {
	nothing, drop := impl.Delta{}, impl.Delta{Drops: []string{"m"}}
	first, second := impl.Delta{Puts: []impl.File{dataAt("m", "1")}}, impl.Delta{Puts: []impl.File{dirAt("m")}}
	for _, c := range []struct {
		what       string
		a, b, want impl.Delta
	}{
		{"nothing and nothing", nothing, nothing, nothing},
		{"nothing and a drop", nothing, drop, drop},
		{"nothing and a put", nothing, second, second},
		{"a drop and nothing", drop, nothing, drop},
		{"a drop and a drop", drop, drop, drop},
		{"a drop and a put", drop, second, second},
		{"a put and nothing", first, nothing, first},
		{"a put and a drop", first, drop, drop},
		{"a put and a put", first, second, second},
	} {
		wantThen(t, c.what, c.a, c.b, c.want)
		for _, l := range [][]impl.File{nil, {dataAt("m", "old")}, sampleTree()} {
			wantApplied(t, c.what+", one behind the other", impl.DeltaApply(l, c.a), c.b, impl.DeltaApply(l, c.want))
		}
	}
}

func TestDeltaThen(t *testing.T) {
	a := impl.Delta{Drops: []string{"a", "d", "p", "x"}, Puts: []impl.File{dataAt("b", "a"), dataAt("e", "a"), dataAt("q", "a"), dataAt("y", "a")}}
	b := impl.Delta{Drops: []string{"0", "d", "e"}, Puts: []impl.File{dataAt("c", "b"), dataAt("p", "b"), dataAt("q", "b")}}
	wantThen(t, "some of each", a, b, impl.Delta{
		Drops: []string{"0", "a", "d", "e", "x"},
		Puts:  []impl.File{dataAt("b", "a"), dataAt("c", "b"), dataAt("p", "b"), dataAt("q", "b"), dataAt("y", "a")},
	})
	wantThen(t, "turned round", b, a, impl.Delta{
		Drops: []string{"0", "a", "d", "p", "x"},
		Puts:  []impl.File{dataAt("b", "a"), dataAt("c", "b"), dataAt("e", "a"), dataAt("q", "a"), dataAt("y", "a")},
	})
	wantThen(t, "a dir's drop leaves the puts below it", impl.Delta{Puts: []impl.File{dataAt("a/b", "")}}, impl.Delta{Drops: []string{"a"}},
		impl.Delta{Drops: []string{"a"}, Puts: []impl.File{dataAt("a/b", "")}})
	for what, d := range rightDeltas() {
		wantThen(t, "nothing behind "+what, d, impl.Delta{}, d)
		wantThen(t, "nothing ahead of "+what, impl.Delta{}, d, d)
		wantThen(t, "twice "+what, d, d, d)
	}
	full := impl.Delta{Drops: manyPaths(40), Puts: manyFiles(40)}
	turned := impl.Delta{Drops: pathsOf(manyFiles(40)), Puts: namedFiles("d", 40)}
	wantThen(t, "all puts dropped, all drops put", full, turned, turned)
	wantThen(t, "and back", turned, full, full)
}

// Just 40 of either may come of two, and no more.
func TestDeltaThenTooGreat(t *testing.T) {
	for first := range 41 {
		a := impl.Delta{Drops: manyPaths(first), Puts: manyFiles(first)}
		b := impl.Delta{Drops: manyPaths(41)[first:40], Puts: manyFiles(41)[first:40]}
		wantThen(t, "40 of either", a, b, impl.Delta{Drops: manyPaths(40), Puts: manyFiles(40)})
		wantThen(t, "40 of either, turned round", b, a, impl.Delta{Drops: manyPaths(40), Puts: manyFiles(40)})
	}
	for first := 1; first <= 40; first++ {
		a := impl.Delta{Drops: manyPaths(first), Puts: manyFiles(first)}
		drops, puts := impl.Delta{Drops: manyPaths(41)[first:]}, impl.Delta{Puts: manyFiles(41)[first:]}
		wantThen(t, "41 drops of two", a, drops, impl.Delta{})
		wantThen(t, "41 drops of two, turned round", drops, a, impl.Delta{})
		wantThen(t, "41 puts of two", a, puts, impl.Delta{})
		wantThen(t, "41 puts of two, turned round", puts, a, impl.Delta{})
	}
	wantThen(t, "41 drops beside puts", impl.Delta{Drops: manyPaths(40), Puts: manyFiles(3)}, impl.Delta{Drops: []string{"f1000"}}, impl.Delta{})
	wantThen(t, "41 puts beside drops", impl.Delta{Drops: []string{"g"}, Puts: manyFiles(40)}, impl.Delta{Drops: []string{"h"}, Puts: []impl.File{dataAt("g", "")}}, impl.Delta{})
	wantThen(t, "80 of either", impl.Delta{Drops: manyPaths(40), Puts: manyFiles(40)}, impl.Delta{Drops: pathsOf(namedFiles("x", 40)), Puts: namedFiles("y", 40)}, impl.Delta{})
	wantThen(t, "a put that makes room for a drop", impl.Delta{Drops: manyPaths(40)}, impl.Delta{Drops: []string{"e"}, Puts: []impl.File{dataAt("d1000", "")}},
		impl.Delta{Drops: append(manyPaths(40)[1:], "e"), Puts: []impl.File{dataAt("d1000", "")}})
	wantThen(t, "a drop that makes room for a put", impl.Delta{Puts: manyFiles(40)}, impl.Delta{Drops: []string{"f1000"}, Puts: []impl.File{dataAt("g", "")}},
		impl.Delta{Drops: []string{"f1000"}, Puts: append(manyFiles(40)[1:], dataAt("g", ""))})
}

func TestDeltaThenOfWrongOnes(t *testing.T) {
	right := impl.Delta{Drops: []string{"k"}, Puts: []impl.File{dataAt("l", "")}}
	for what, d := range wrongDeltas() {
		wantThen(t, "the first one is wrong: "+what, d, right, impl.Delta{})
		wantThen(t, "the second one is wrong: "+what, right, d, impl.Delta{})
		wantThen(t, "wrong behind nothing: "+what, impl.Delta{}, d, impl.Delta{})
		wantThen(t, "wrong ahead of nothing: "+what, d, impl.Delta{}, impl.Delta{})
		wantThen(t, "both are wrong: "+what, d, d, impl.Delta{})
	}
	// What would mend a wrong one does not help it.
	wantThen(t, "a wrong put that is dropped", impl.Delta{Puts: []impl.File{{Path: "a", Mode: -1}}}, impl.Delta{Drops: []string{"a"}}, impl.Delta{})
	wantThen(t, "41 puts that are dropped", impl.Delta{Puts: manyFiles(41)}, impl.Delta{Drops: pathsOf(manyFiles(40))}, impl.Delta{})
}

func TestDeltaBytesByHand(t *testing.T) {
	wantBytes(t, "nothing", impl.Delta{}, "\x00"+zeros(2))
	wantBytes(t, "a drop", impl.Delta{Drops: []string{"a"}}, "\x02\x02a"+zeros(2))
	wantBytes(t, "two drops", impl.Delta{Drops: []string{"a", "bcd"}}, "\x04\x02a\x06bcd"+zeros(2))
	put := impl.Delta{Puts: []impl.File{{Path: "p", Mode: 420, Time: 7, Data: "x"}}}
	wantBytes(t, "a put", put, "\x00"+headerByHand("p", 1, 420, 7, '0')+padded("x", 512)+zeros(2))
	put.Drops = []string{"a/" + strings.Repeat("b", 60), strings.Repeat("c", 58) + "/" + strings.Repeat("d", 5)}
	wantBytes(t, "drops and a put", put, "\x04\x7c"+put.Drops[0]+"\x80\x01"+put.Drops[1]+headerByHand("p", 1, 420, 7, '0')+padded("x", 512)+zeros(2))
}

// bytesDeltas: those that have bytes, at the edges that the document names.
func bytesDeltas() map[string]impl.Delta {
	out := map[string]impl.Delta{
		"40 drops and 20 puts":       {Drops: manyPaths(40), Puts: emptyFiles(20)},
		"40 drops of the longest":    {Drops: longPaths(40), Puts: emptyFiles(3)},
		"20 dirs":                    {Puts: dirsOf(20)},
		"a full archive":             {Puts: with(fullList())},
		"as many bytes as it may":    fullDelta(30),
		"a byte fewer than that":     fullDelta(29),
		"puts of long paths":         {Drops: []string{"a"}, Puts: []impl.File{dataAt(pathOfSize(101), "x"), dirAt(pathOfSize(150))}},
		"drops that look like bytes": {Drops: []string{"!", "0", "1", "path="}, Puts: []impl.File{dataAt("2", headerByHand("a", 0, 0, 0, '0'))}},
	}
	for what, d := range rightDeltas() {
		if len(d.Puts) <= impl.MaxFiles {
			out[what] = d
		}
	}
	return out
}

// longPaths are that many paths of MaxPath bytes, rising.
func longPaths(many int) []string {
	var out []string
	for _, path := range manyPaths(many) {
		out = append(out, path+pathOfSize(impl.MaxPath)[len(path):])
	}
	return out
}

func dirsOf(many int) []impl.File {
	out := manyFiles(many)
	for i := range out {
		out[i] = dirAt(out[i].Path)
	}
	return out
}

// fullDelta has an archive of 39 blocks, and a Drop of that many bytes ahead of it.
func fullDelta(drop int) impl.Delta {
	return impl.Delta{Drops: []string{strings.Repeat("r", drop)}, Puts: with(fullList())}
}

func TestDeltasComeBack(t *testing.T) {
	for what, d := range bytesDeltas() {
		text := deltaByHand(d)
		wantBytes(t, what, d, text)
		wantRead(t, what, text, impl.DeltaOut{Delta: d})
	}
	if got := len(deltaByHand(fullDelta(30))); got != impl.MaxBytes {
		t.Errorf("the full delta should have MaxBytes bytes, but has %d", got)
	}
}

func TestDeltasWithoutBytes(t *testing.T) {
	for what, d := range map[string]impl.Delta{
		"21 puts":                      {Puts: emptyFiles(21)},
		"21 puts beside drops":         {Drops: manyPaths(40), Puts: emptyFiles(21)},
		"40 puts":                      {Puts: emptyFiles(40)},
		"an archive that is too long":  {Puts: with(fullList(), dirAt("e"))},
		"20 puts of all data":          {Puts: greatFiles(20)},
		"a byte too many":              fullDelta(31),
		"drops of too many bytes":      {Drops: manyPaths(40), Puts: with(fullList())},
		"the longest drops and a list": {Drops: longPaths(40), Puts: with(fullList()[3:])},
	} {
		wantDeltaRight(t, what, d, true)
		wantBytes(t, what, d, "")
	}
	for what, d := range wrongDeltas() {
		wantBytes(t, what, d, "")
	}
}

// greatFiles have each as much Data as they may.
func greatFiles(many int) []impl.File {
	out := manyFiles(many)
	for i := range out {
		out[i].Data = bytesRun(impl.MaxData)
	}
	return out
}

func TestDeltaReadOfWrongDeltas(t *testing.T) {
	for what, d := range wrongDeltas() {
		text := deltaByHand(d)
		want := impl.DeltaOut{Code: impl.ErrSyntax}
		if len(text) > impl.MaxBytes {
			want.Code = impl.ErrSize
		}
		wantRead(t, what, text, want)
	}
	wantNoDelta(t, "21 puts", deltaByHand(impl.Delta{Puts: emptyFiles(21)}))
	wantNoDelta(t, "puts that fall", deltaByHand(impl.Delta{Puts: []impl.File{dataAt("b", "1"), dataAt("a", "1")}}))
	wantNoDelta(t, "drops that fall", deltaByHand(impl.Delta{Drops: []string{"b", "a"}}))
	wantNoDelta(t, "41 drops", deltaByHand(impl.Delta{Drops: manyPaths(41)}))
	wantNoDelta(t, "a path of both", deltaByHand(impl.Delta{Drops: []string{"a"}, Puts: []impl.File{dataAt("a", "1")}}))
}

func TestDeltaReadOfNumbers(t *testing.T) {
	for _, many := range []int64{-1, -2, -40, 1, 2, 39, 40, 41, 42, 64, impl.MaxBytes, math.MaxInt64, math.MinInt64} {
		wantNoDelta(t, "the number of no drops is "+strconv.FormatInt(many, 10), impl.PutNum(many)+zeros(2))
	}
	one, rest := "\x02a", zeros(2)
	for _, many := range []int64{-1, 0, 2, 3, 41} {
		wantNoDelta(t, "the number of one drop is "+strconv.FormatInt(many, 10), impl.PutNum(many)+one+rest)
	}
	for what, text := range map[string]string{
		"a number in two bytes":          "\x80\x00" + rest,
		"a number in three bytes":        "\x80\x80\x00" + rest,
		"one in two bytes":               "\x82\x00" + one + rest,
		"a number that does not end":     "\x82",
		"a number of too many bytes":     strings.Repeat("\xff", 10) + rest,
		"a length in two bytes":          "\x02\x82\x00a" + rest,
		"a length in three bytes":        "\x02\x82\x80\x00a" + rest,
		"a length below 0":               "\x02\x01a" + rest,
		"a length of no bytes":           "\x02\x00" + rest,
		"a length that is too great":     "\x02" + impl.PutNum(impl.MaxBytes+1) + "a" + rest,
		"a length beyond the end":        "\x02" + impl.PutNum(1026) + "a" + rest,
		"a length to the end":            "\x02" + impl.PutNum(1025) + "a" + rest,
		"a length that does not end":     "\x02\x82",
		"a second length in two bytes":   "\x04\x02a\x82\x00b" + rest,
		"a second drop that is none":     "\x04\x02a\x02/" + rest,
		"an archive ahead of the number": fileByHand(dirAt("b"))[0] + rest + "\x00",
		"no number":                      fileByHand(dirAt("b"))[0] + rest,
	} {
		wantNoDelta(t, what, text)
	}
	wantRead(t, "a number and a length in one byte", "\x02"+one+rest, impl.DeltaOut{Delta: impl.Delta{Drops: []string{"a"}}})
}

func TestDeltaReadOfNoArchives(t *testing.T) {
	file := fileByHand(dataAt("f", "x"))[0]
	wrongSum := file[:148] + "777777" + file[154:]
	for what, archive := range map[string]string{
		"none": "", "one block of bytes 0": zeros(1), "three blocks of bytes 0": zeros(3), "a file without an end": file, "a file and one block": file + zeros(1),
		"a byte behind": zeros(2) + "\x00", "an archive behind": zeros(4), "a wrong sum": wrongSum + zeros(2), "a dir with data": entryByHand(headerByHand("a/", 1, 0, 0, '5'), "x") + zeros(2),
		"a file twice": file + file + zeros(2), "another kind": withField(file[:512], 156, "1") + file[512:] + zeros(2), "letters": bytesRun(2048),
	} {
		wantNoDelta(t, "the archive: "+what, "\x00"+archive)
		wantNoDelta(t, "the archive behind a drop: "+what, "\x02\x02a"+archive)
	}
	wantRead(t, "an archive", "\x02\x02a"+file+zeros(2), impl.DeltaOut{Delta: impl.Delta{Drops: []string{"a"}, Puts: []impl.File{dataAt("f", "x")}}})
}

func smallDeltas() []impl.Delta {
	return []impl.Delta{
		{}, {Drops: []string{"a"}}, {Puts: []impl.File{dataAt("b", "x")}},
		{Drops: []string{"a", "c/d", pathOfSize(70)}, Puts: []impl.File{dirAt("b"), dataAt("b/x", "some data"), dataAt(pathOfSize(120), "")}},
	}
}

func TestDeltaReadOfCutTexts(t *testing.T) {
	wantNoDelta(t, "the empty text", "")
	for _, d := range smallDeltas() {
		text := deltaByHand(d)
		for cut := range len(text) {
			wantNoDelta(t, "cut at "+strconv.Itoa(cut), text[:cut])
		}
		for _, more := range []string{"\x00", "x", zeros(1), zeros(2), text, bytesRun(600)} {
			wantNoDelta(t, "with bytes behind its end", text+more)
		}
		wantNoDelta(t, "with bytes to MaxBytes", padded(text, impl.MaxBytes))
		wantRead(t, "with bytes beyond MaxBytes", padded(text, impl.MaxBytes+1), impl.DeltaOut{Code: impl.ErrSize})
	}
}

func TestDeltaReadOfTextsTooLong(t *testing.T) {
	size := impl.DeltaOut{Code: impl.ErrSize}
	wantRead(t, "letters", tooLong, size)
	wantRead(t, "bytes 0", strings.Repeat("\x00", impl.MaxBytes+1), size)
	wantRead(t, "a number that is wrong", "\x01"+tooLong, size)
	wantRead(t, "a right delta but for its length", deltaByHand(fullDelta(31)), size)
	wantNoDelta(t, "MaxBytes letters", tooLong[1:])
	wantNoDelta(t, "MaxBytes bytes 0", strings.Repeat("\x00", impl.MaxBytes))
}

// rightByHand asks what chapter 5 says of a right Delta, a File's being right told by whether it has an archive.
func rightByHand(d impl.Delta) bool {
	paths := append(slices.Clone(d.Drops), pathsOf(d.Puts)...)
	slices.Sort(paths)
	for _, l := range [][]string{d.Drops, pathsOf(d.Puts)} {
		if len(l) > 40 || !slices.IsSorted(l) || slices.ContainsFunc(l, func(path string) bool { return !impl.PathRight(path) }) {
			return false
		}
	}
	return len(slices.Compact(paths)) == len(d.Drops)+len(d.Puts) &&
		!slices.ContainsFunc(d.Puts, func(f impl.File) bool { return impl.Pack([]impl.File{f}) == "" })
}

// A text with a byte turned is refused, or it is the bytes of another right Delta.
func TestDeltaReadOfTurnedTexts(t *testing.T) {
	refused, others := 0, 0
	for _, d := range smallDeltas() {
		text := deltaByHand(d)
		for i := range text {
			for _, turn := range []byte{1, 2, 64, 128, 255} {
				turned := text[:i] + string([]byte{text[i] ^ turn}) + text[i+1:]
				got := impl.DeltaRead(turned)
				switch {
				case got.Code == impl.ErrSyntax && sameDelta(got.Delta, impl.Delta{}):
					refused++
				case got.Code == impl.OK && rightByHand(got.Delta) && deltaByHand(got.Delta) == turned:
					others++
				default:
					t.Fatalf("the byte %d turned by %d: got %s", i, turn, brief(got))
				}
			}
		}
	}
	if refused < 1000 || others < 10 {
		t.Errorf("too few texts are refused, or are those of others: %d and %d", refused, others)
	}
}

// rowOfNumbers tells numbers below many, always the same ones of one start.
func rowOfNumbers(start uint32) func(many int) int {
	state := start
	return func(many int) int {
		state = state*1664525 + 1013904223
		return int(state>>16) % many
	}
}

// anyFileAt is a right File of that Path, of few kinds, so that some are the same.
func anyFileAt(next func(int) int, path string) impl.File {
	f := impl.File{Path: path, Dir: next(3) == 0, Mode: int64(next(2)), Time: int64(next(2))}
	if !f.Dir {
		f.Data = strings.Repeat("x", next(3))
	}
	return f
}

func anyTree(next func(int) int) []impl.File {
	parts := []string{"a", "b", "a-", "c"}
	var l []impl.File
	for range next(30) {
		path := parts[next(len(parts))]
		for range next(3) {
			path += "/" + parts[next(len(parts))]
		}
		l = impl.TreePut(l, anyFileAt(next, path))
	}
	return l
}

// changedByHand goes from each File of both trees, not by their order.
func changedByHand(old []impl.File, now []impl.File) impl.Delta {
	var d impl.Delta
	for _, f := range old {
		if !slices.Contains(pathsOf(now), f.Path) {
			d.Drops = append(d.Drops, f.Path)
		}
	}
	for _, f := range now {
		if !slices.Contains(old, f) {
			d.Puts = append(d.Puts, f)
		}
	}
	return d
}

// Promise 6, and 8 of what comes of it.
func TestWhatHasChangedMakesTheSecondTree(t *testing.T) {
	next := rowOfNumbers(6)
	withBoth := 0
	for range 1500 {
		old, now := anyTree(next), anyTree(next)
		d := impl.DeltaOf(old, now)
		wantOf(t, "any trees", old, now, changedByHand(old, now))
		wantDeltaRight(t, "of any trees", d, true)
		wantApplied(t, "of any trees", old, d, now)
		if text := deltaByHand(d); len(text) <= impl.MaxBytes {
			wantBytes(t, "of any trees", d, text)
			wantRead(t, "of any trees", text, impl.DeltaOut{Delta: d})
		}
		if len(d.Drops) > 2 && len(d.Puts) > 2 {
			withBoth++
		}
	}
	if withBoth < 300 {
		t.Errorf("only %d of the pairs of trees have drops and puts", withBoth)
	}
}

// anyDelta does something with so many of a hundred paths as share says, in hundredths.
func anyDelta(next func(int) int, share int) impl.Delta {
	var d impl.Delta
	for i := range 100 {
		path := "p/" + strconv.Itoa(100+i)
		switch {
		case next(100) >= share:
		case next(2) == 0:
			d.Drops = append(d.Drops, path)
		default:
			d.Puts = append(d.Puts, anyFileAt(next, path))
		}
	}
	return d
}

// thenByHand takes the sentences of chapter 5 as they are.
func thenByHand(a impl.Delta, b impl.Delta) impl.Delta {
	both := impl.Delta{Drops: slices.Clone(b.Drops), Puts: slices.Clone(b.Puts)}
	for _, path := range a.Drops {
		if !slices.Contains(pathsOf(b.Puts), path) && !slices.Contains(b.Drops, path) {
			both.Drops = append(both.Drops, path)
		}
	}
	for _, f := range a.Puts {
		if !slices.Contains(b.Drops, f.Path) && !slices.Contains(pathsOf(b.Puts), f.Path) {
			both.Puts = append(both.Puts, f)
		}
	}
	slices.Sort(both.Drops)
	return impl.Delta{Drops: both.Drops, Puts: with(both.Puts)}
}

// Promise 7.
func TestTwoDeltasTogether(t *testing.T) {
	next := rowOfNumbers(7)
	together, tooGreat := 0, 0
	for range 1500 {
		share := 10 + next(60)
		a, b := anyDelta(next, share), anyDelta(next, share)
		if !rightByHand(a) || !rightByHand(b) {
			wantThen(t, "any two, one of them too great", a, b, impl.Delta{})
			continue
		}
		want := thenByHand(a, b)
		if len(want.Drops) > 40 || len(want.Puts) > 40 {
			wantThen(t, "any two that are too great", a, b, impl.Delta{})
			tooGreat++
			continue
		}
		wantThen(t, "any two", a, b, want)
		wantDeltaRight(t, "of any two", want, true)
		l := anyDelta(next, 60).Puts
		wantApplied(t, "any two, one behind the other", impl.DeltaApply(l, a), b, impl.DeltaApply(l, want))
		together++
	}
	if together < 300 || tooGreat < 100 {
		t.Errorf("too few deltas may be put together, or are too great: %d and %d", together, tooGreat)
	}
}

// Nothing is kept from call to call: an answer that is written over changes no other one.
func TestDeltasAlone(t *testing.T) {
	d := impl.Delta{Drops: []string{"a", "c"}, Puts: []impl.File{dataAt("b", "x"), dataAt("d", "y")}}
	text := deltaByHand(d)
	old, now := []impl.File{dataAt("a", ""), dataAt("c", "")}, d.Puts
	for what, call := range map[string]func() impl.Delta{
		"DeltaOf":    func() impl.Delta { return impl.DeltaOf(old, now) },
		"DeltaApply": func() impl.Delta { return impl.Delta{Drops: d.Drops, Puts: impl.DeltaApply(old, d)} },
		"DeltaThen":  func() impl.Delta { return impl.DeltaThen(impl.Delta{Drops: d.Drops}, impl.Delta{Puts: d.Puts}) },
		"DeltaRead":  func() impl.Delta { return impl.DeltaRead(text).Delta },
	} {
		first, second := ownDelta(call()), call()
		clear(call().Puts)
		if !sameDelta(first, d) || !sameDelta(second, d) || !sameDelta(call(), d) {
			t.Errorf("%s: an answer has changed with another one", what)
		}
	}
}
