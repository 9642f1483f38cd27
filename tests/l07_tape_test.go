package tests

import (
	"math"
	"slices"
	"strconv"
	"strings"
	"testing"
	"unsafe"

	"loop.example/g00310/impl"
)

const (
	mostRoom  = 300
	mostLabel = 1000000
)

// tapeBlocks are that many blocks, no two alike; those of another start are others.
func tapeBlocks(start int, many int) []string {
	var out []string
	for i := range many {
		number := strconv.Itoa(10000 + start + i)
		out = append(out, number+bytesRun(impl.TapeBlock-len(number)))
	}
	return out
}

// sampleTapes: some with room behind Blocks, one full, one without any room, one empty.
func sampleTapes() []impl.Tape {
	return []impl.Tape{
		{Label: 3, Blocks: tapeBlocks(0, 2), Synced: 1, Room: 4},
		{Blocks: tapeBlocks(100, 2), Room: 2},
		{Label: mostLabel},
		{Label: 7, Room: 1},
		{Label: 1, Blocks: tapeBlocks(400, 5), Synced: 5, Room: 12},
	}
}

func emptyTapes(many int, room int64) []impl.Tape {
	var out []impl.Tape
	for i := range many {
		out = append(out, impl.Tape{Label: int64(i), Room: room})
	}
	return out
}

func fullTapes(many int) []impl.Tape {
	var out []impl.Tape
	for i := range many {
		out = append(out, impl.Tape{Label: int64(i), Blocks: tapeBlocks(1000*i, mostRoom), Synced: int64(i), Room: mostRoom})
	}
	return out
}

// ownTapes is a copy whose Blocks, too, have memory of their own, with spare places behind each list.
func ownTapes(l []impl.Tape) []impl.Tape {
	out := make([]impl.Tape, 0, len(l)+3)
	for _, tape := range l {
		tape.Blocks = ownTexts(tape.Blocks)
		out = append(out, tape)
	}
	return out
}

func sameTape(a impl.Tape, b impl.Tape) bool {
	return a.Label == b.Label && slices.Equal(a.Blocks, b.Blocks) && a.Synced == b.Synced && a.Room == b.Room
}

func sameTapes(a []impl.Tape, b []impl.Tape) bool {
	return slices.EqualFunc(a, b, sameTape)
}

func sameTapeOut(a impl.TapeOut, b impl.TapeOut) bool {
	return sameTapes(a.Tapes, b.Tapes) && slices.Equal(a.Parts, b.Parts) && a.Text == b.Text && a.Code == b.Code
}

// anyShareMemory: does one of them share memory with another one?
func anyShareMemory(texts []string) bool {
	full := slices.DeleteFunc(slices.Clone(texts), func(text string) bool { return text == "" })
	start := func(text string) uintptr { return uintptr(unsafe.Pointer(unsafe.StringData(text))) }
	slices.SortFunc(full, func(a string, b string) int {
		if start(a) < start(b) {
			return -1
		}
		return 1
	})
	for i := 1; i < len(full); i++ {
		if sharesMemory(full[i-1], full[i]) {
			return true
		}
	}
	return false
}

// wantTapesApart: the tapes of an answer share no memory with those handed in, with these texts, nor with each other.
func wantTapesApart(t *testing.T, what string, got []impl.Tape, own []impl.Tape, texts ...string) {
	t.Helper()
	if listsOverlap(got, own) {
		t.Errorf("%s: the answer's list shares memory with the one that was handed in", what)
	}
	all := slices.Clone(texts)
	lists := [][]string{}
	for _, tape := range slices.Concat(got, own) {
		all = append(all, tape.Blocks...)
		lists = append(lists, tape.Blocks)
	}
	for i := range got {
		for _, other := range lists[i+1:] {
			if listsOverlap(lists[i], other) {
				t.Errorf("%s: the Blocks of tape %d share their list with others", what, i)
			}
		}
	}
	if anyShareMemory(all) {
		t.Errorf("%s: blocks share memory with others, or with what was handed in", what)
	}
}

// wantTapesAlone looks at tapes of ownTapes behind a call: they and all spare places are as they were.
func wantTapesAlone(t *testing.T, what string, own []impl.Tape, was []impl.Tape) {
	t.Helper()
	if !sameTapes(own, was) {
		t.Errorf("%s: the tapes that were handed in have changed", what)
		return
	}
	for i, tape := range own {
		wantListAlone(t, what, tape.Blocks, was[i].Blocks)
	}
	for _, tape := range own[len(own):cap(own)] {
		if !sameTape(tape, impl.Tape{}) {
			t.Errorf("%s: behind the tapes that were handed in something was written", what)
		}
	}
}

// withItem: the list with this item in the place of another.
func withItem[T any](l []T, at int, item T) []T {
	out := slices.Clone(l)
	out[at] = item
	return out
}

// rightTapes: at the edges that the document names.
func rightTapes() map[string][]impl.Tape {
	four := tapeBlocks(0, 4)
	return map[string][]impl.Tape{
		"one that has nothing":     {{}},
		"MaxTapes that have none":  make([]impl.Tape, impl.MaxTapes),
		"MaxTapes with room":       emptyTapes(impl.MaxTapes, 5),
		"MaxTapes that are full":   fullTapes(impl.MaxTapes),
		"the sample":               sampleTapes(),
		"Label 1":                  {{Label: 1}},
		"Label 999999":             {{Label: mostLabel - 1, Room: 1}},
		"Label 1000000":            {{Label: mostLabel, Room: 1}},
		"Labels alike":             {{Label: 4}, {Label: 4}},
		"Room 299":                 {{Room: mostRoom - 1}},
		"Room 300":                 {{Room: mostRoom}},
		"a Block less than Room":   {{Blocks: four, Room: 5}},
		"as many Blocks as Room":   {{Blocks: four, Room: 4}},
		"one Block":                {{Blocks: four[:1], Room: 1}},
		"299 Blocks of 300":        {{Blocks: tapeBlocks(0, mostRoom-1), Room: mostRoom}},
		"300 Blocks":               {{Blocks: tapeBlocks(0, mostRoom), Synced: mostRoom, Room: mostRoom}},
		"Blocks alike":             {{Blocks: []string{four[0], four[0]}, Room: 2}, {Blocks: four[:1], Room: 1}},
		"Blocks of bytes 0":        {{Blocks: []string{strings.Repeat("\x00", 64)}, Room: 1}},
		"one of four Synced":       {{Blocks: four, Synced: 1, Room: 9}},
		"three of four Synced":     {{Blocks: four, Synced: 3, Room: 9}},
		"four of four Synced":      {{Blocks: four, Synced: 4, Room: 9}},
		"the greatest of each":     {{Label: mostLabel, Blocks: tapeBlocks(0, mostRoom), Synced: mostRoom, Room: mostRoom}},
		"Synced differs from tape": {{Blocks: four, Synced: 4, Room: 4}, {Blocks: four, Room: 4}, {Blocks: four, Synced: 2, Room: 4}},
	}
}

// wrongOnes: tapes of which each breaks one rule.
func wrongOnes() map[string]impl.Tape {
	four := tapeBlocks(0, 4)
	out := map[string]impl.Tape{
		"Label -1":           {Label: -1},
		"Label 1000001":      {Label: mostLabel + 1},
		"the least Label":    {Label: math.MinInt64},
		"the greatest Label": {Label: math.MaxInt64},
		"Room -1":            {Room: -1},
		"Room 301":           {Room: mostRoom + 1},
		"the least Room":     {Room: math.MinInt64},
		"the greatest Room":  {Room: math.MaxInt64},
		"a Block, no Room":   {Blocks: four[:1]},
		"a Block too many":   {Blocks: four, Room: 3},
		"301 Blocks of 300":  {Blocks: tapeBlocks(0, mostRoom+1), Room: mostRoom},
		"301 Blocks of 301":  {Blocks: tapeBlocks(0, mostRoom+1), Room: mostRoom + 1},
		"Synced -1":          {Blocks: four, Synced: -1, Room: 4},
		"Synced one more":    {Blocks: four, Synced: 5, Room: 9},
		"Synced of nothing":  {Synced: 1, Room: 9},
		"the least Synced":   {Blocks: four, Synced: math.MinInt64, Room: 4},
		"the greatest":       {Blocks: four, Synced: math.MaxInt64, Room: 4},
	}
	for _, size := range []int{0, 1, 63, 65, 128} {
		for at := range four {
			what := "Block " + strconv.Itoa(at) + " of bytes " + strconv.Itoa(size)
			out[what] = impl.Tape{Blocks: withItem(four, at, bytesRun(size)), Synced: 2, Room: 4}
		}
	}
	return out
}

// wrongTapes: not right, but no more of them than a list may have.
func wrongTapes() map[string][]impl.Tape {
	out := map[string][]impl.Tape{
		"none":                  nil,
		"an empty list":         {},
		"one more than may be":  make([]impl.Tape, impl.MaxTapes+1),
		"one more, with Blocks": append(fullTapes(impl.MaxTapes), impl.Tape{Room: 3}),
		"MaxList tapes":         emptyTapes(impl.MaxList, 9),
	}
	for what, tape := range wrongOnes() {
		out[what+", alone"] = []impl.Tape{tape}
		out[what+", the first"] = withItem(sampleTapes(), 0, tape)
		out[what+", in between"] = withItem(sampleTapes(), 2, tape)
		out[what+", the last"] = withItem(sampleTapes(), 4, tape)
	}
	return out
}

// longTapes: more than a list may have.
func longTapes() map[string][]impl.Tape {
	return map[string][]impl.Tape{
		"one tape more than MaxList":   emptyTapes(impl.MaxList+1, 9),
		"many more tapes than MaxList": make([]impl.Tape, 3*impl.MaxList),
	}
}

func wantTapesRight(t *testing.T, what string, l []impl.Tape, want bool) {
	t.Helper()
	own := ownTapes(l)
	if got := impl.TapesRight(own); got != want {
		t.Errorf("TapesRight: %s: got %v, want %v", what, got, want)
	}
	wantTapesAlone(t, "TapesRight: "+what, own, l)
}

func TestTapesRight(t *testing.T) {
	for what, l := range rightTapes() {
		wantTapesRight(t, what, l, true)
	}
	for what, l := range wrongTapes() {
		wantTapesRight(t, what, l, false)
	}
	for what, l := range longTapes() {
		wantTapesRight(t, what, l, false)
	}
	for many := range 2 * impl.MaxTapes {
		wantTapesRight(t, strconv.Itoa(many)+" tapes", emptyTapes(many, 1), many >= 1 && many <= impl.MaxTapes)
	}
}

// wantWritten calls TapesWrite, and looks at the answer, at its memory, and at what was handed in.
func wantWritten(t *testing.T, what string, l []impl.Tape, use []int64, text string, want impl.TapeOut) {
	t.Helper()
	what = "TapesWrite: " + what
	own, ownUse := ownTapes(l), ownList(use)
	got := impl.TapesWrite(own, ownUse, text)
	if !sameTapeOut(got, want) {
		t.Errorf("%s: use %s, %d bytes: got %s, want %s", what, brief(use), len(text), brief(got), brief(want))
	}
	wantTapesApart(t, what, got.Tapes, own, text)
	wantTapesAlone(t, what, own, l)
	wantListAlone(t, what, ownUse, use)
}

func wantUnwritten(t *testing.T, what string, l []impl.Tape, use []int64, text string, code int64) {
	t.Helper()
	wantWritten(t, what, l, use, text, impl.TapeOut{Code: code})
}

// writtenByHand puts block by block on the first tape of use that has room.
func writtenByHand(l []impl.Tape, use []int64, text string) impl.TapeOut {
	out := impl.TapeOut{Tapes: ownTapes(l)}
	text += strings.Repeat("\x00", (impl.TapeBlock-len(text)%impl.TapeBlock)%impl.TapeBlock)
	for ; text != ""; text = text[impl.TapeBlock:] {
		first := slices.IndexFunc(use, func(n int64) bool { return int64(len(out.Tapes[n].Blocks)) < out.Tapes[n].Room })
		if first < 0 {
			return impl.TapeOut{Code: impl.ErrFull}
		}
		tape := &out.Tapes[use[first]]
		at := slices.IndexFunc(out.Parts, func(p impl.Part) bool { return p.Tape == use[first] })
		if at < 0 {
			at = len(out.Parts)
			out.Parts = append(out.Parts, impl.Part{Tape: use[first], Turn: tape.Label, At: int64(len(tape.Blocks))})
		}
		out.Parts[at].Many++
		tape.Blocks = append(tape.Blocks, text[:impl.TapeBlock])
	}
	return out
}

func TestTapesWriteOnOneTape(t *testing.T) {
	block := func(text string) string { return padded(text, impl.TapeBlock) }
	long := bytesRun(200)
	blocks := map[int][]string{
		0:   nil,
		1:   {block(long[:1])},
		2:   {block(long[:2])},
		63:  {block(long[:63])},
		64:  {long[:64]},
		65:  {long[:64], block(long[64:65])},
		127: {long[:64], block(long[64:127])},
		128: {long[:64], long[64:128]},
		129: {long[:64], long[64:128], block(long[128:129])},
		200: {long[:64], long[64:128], long[128:192], block(long[192:])},
	}
	old := tapeBlocks(0, 3)
	for size, want := range blocks {
		var parts []impl.Part
		if len(want) > 0 {
			parts = []impl.Part{{Tape: 0, Turn: 5, At: 3, Many: int64(len(want))}}
		}
		l := []impl.Tape{{Label: 5, Blocks: old, Synced: 2, Room: 7}}
		all := []impl.Tape{{Label: 5, Blocks: slices.Concat(old, want), Synced: 2, Room: 7}}
		wantWritten(t, "on one tape", l, []int64{0}, long[:size], impl.TapeOut{Tapes: all, Parts: parts})
	}
}

func TestTapesWriteOnSeveral(t *testing.T) {
	l := sampleTapes()
	cases := []struct {
		what  string
		use   []int64
		size  int
		parts []impl.Part
	}{
		{"the first has room for all", []int64{0, 4}, 128, []impl.Part{{Tape: 0, Turn: 3, At: 2, Many: 2}}},
		{"a byte more", []int64{0, 4}, 129, []impl.Part{{Tape: 0, Turn: 3, At: 2, Many: 2}, {Tape: 4, Turn: 1, At: 5, Many: 1}}},
		{"another order", []int64{4, 0}, 129, []impl.Part{{Tape: 4, Turn: 1, At: 5, Many: 3}}},
		{"a full one first", []int64{1, 0}, 64, []impl.Part{{Tape: 0, Turn: 3, At: 2, Many: 1}}},
		{"none with room in between", []int64{3, 1, 2, 0}, 190, []impl.Part{{Tape: 3, Turn: 7, At: 0, Many: 1}, {Tape: 0, Turn: 3, At: 2, Many: 2}}},
		{"all of them, falling", []int64{4, 3, 2, 1, 0}, 600, []impl.Part{
			{Tape: 4, Turn: 1, At: 5, Many: 7}, {Tape: 3, Turn: 7, At: 0, Many: 1}, {Tape: 0, Turn: 3, At: 2, Many: 2}}},
		{"all of them, rising", []int64{0, 1, 2, 3, 4}, 640, []impl.Part{
			{Tape: 0, Turn: 3, At: 2, Many: 2}, {Tape: 3, Turn: 7, At: 0, Many: 1}, {Tape: 4, Turn: 1, At: 5, Many: 7}}},
		{"one with room is passed over", []int64{3, 4}, 65, []impl.Part{{Tape: 3, Turn: 7, At: 0, Many: 1}, {Tape: 4, Turn: 1, At: 5, Many: 1}}},
		{"nothing, on full ones", []int64{1, 2}, 0, nil},
		{"nothing, on all", []int64{0, 1, 2, 3, 4}, 0, nil},
		{"nothing, on none", nil, 0, nil},
	}
	for _, c := range cases {
		want := writtenByHand(l, c.use, bytesRun(c.size))
		if !slices.Equal(want.Parts, c.parts) {
			t.Fatalf("by hand: %s: got %v, want %v", c.what, want.Parts, c.parts)
		}
		wantWritten(t, c.what, l, c.use, bytesRun(c.size), want)
	}
}

func TestTapesWriteWhatJustGoes(t *testing.T) {
	l := sampleTapes()
	for what, c := range map[string]struct {
		use  []int64
		room int
	}{
		"no tape":            {nil, 0},
		"one without room":   {[]int64{2}, 0},
		"a full one":         {[]int64{1}, 0},
		"one with one":       {[]int64{3}, 1},
		"one with some":      {[]int64{0}, 2},
		"full ones and some": {[]int64{1, 0, 2}, 2},
		"two with some":      {[]int64{4, 0}, 9},
		"all":                {[]int64{0, 1, 2, 3, 4}, 10},
	} {
		size := c.room * impl.TapeBlock
		for less := range min(size, 66) {
			text := bytesRun(size - less)
			wantWritten(t, what, l, c.use, text, writtenByHand(l, c.use, text))
		}
		for _, more := range []int{1, 2, 64, 65, 128, impl.MaxBytes - size} {
			wantUnwritten(t, what+": too much", l, c.use, bytesRun(size+more), impl.ErrFull)
		}
	}
}

func TestTapesWriteTheLongest(t *testing.T) {
	text := bytesRun(impl.MaxBytes)
	two := emptyTapes(2, mostRoom)
	want := writtenByHand(two, []int64{1, 0}, text)
	if !slices.Equal(want.Parts, []impl.Part{{Tape: 1, Turn: 1, Many: 300}, {Tape: 0, Many: 13}}) {
		t.Fatalf("by hand: got %v", want.Parts)
	}
	wantWritten(t, "MaxBytes bytes", two, []int64{1, 0}, text, want)
	wantUnwritten(t, "MaxBytes bytes on one tape", two, []int64{1}, text, impl.ErrFull)
	wantUnwritten(t, "a byte more", two, []int64{1, 0}, text+"x", impl.ErrSize)
	wantUnwritten(t, "a byte more, and no use", two, nil, text+"x", impl.ErrSize)
	eight := []int64{7, 6, 5, 4, 3, 2, 1, 0}
	many := emptyTapes(impl.MaxTapes, 40)
	wantWritten(t, "MaxBytes bytes on eight tapes", many, eight, text, writtenByHand(many, eight, text))
	wantUnwritten(t, "on eight full ones", fullTapes(impl.MaxTapes), eight, text, impl.ErrFull)
	wantWritten(t, "nothing on eight full ones", fullTapes(impl.MaxTapes), eight, "", writtenByHand(fullTapes(impl.MaxTapes), eight, ""))
}

// wrongUses: of five tapes, no more numbers than a list may have.
func wrongUses() map[string][]int64 {
	rising := make([]int64, impl.MaxList)
	for i := range rising {
		rising[i] = int64(i)
	}
	return map[string][]int64{
		"below 0":              {-1},
		"how many there are":   {5},
		"MaxTapes":             {impl.MaxTapes},
		"the least":            {math.MinInt64},
		"the greatest":         {math.MaxInt64},
		"of 32 bits, 0":        {1 << 32},
		"the last below 0":     {0, 1, -1},
		"the last too great":   {0, 1, 5},
		"the first too great":  {5, 0, 1},
		"twice":                {0, 0},
		"twice, the last ones": {4, 3, 2, 2},
		"twice, far apart":     {0, 1, 2, 3, 4, 0},
		"thrice":               {3, 3, 3},
		"too great, twice":     {9, 9},
		"MaxList noughts":      make([]int64, impl.MaxList),
		"MaxList rising":       rising,
	}
}

func TestTapesWriteRefused(t *testing.T) {
	for what, use := range wrongUses() {
		wantUnwritten(t, what+": nothing to write", sampleTapes(), use, "", impl.ErrForm)
		wantUnwritten(t, what, sampleTapes(), use, "some", impl.ErrForm)
		wantUnwritten(t, what+": too much to write", sampleTapes(), use, bytesRun(impl.MaxBytes), impl.ErrForm)
		wantUnwritten(t, what+": a byte too many", sampleTapes(), use, tooLong, impl.ErrSize)
	}
	for what, l := range wrongTapes() {
		wantUnwritten(t, what, l, nil, "", impl.ErrForm)
		wantUnwritten(t, what, l, []int64{0}, "some", impl.ErrForm)
		wantUnwritten(t, what+": too much to write", l, []int64{0}, bytesRun(impl.MaxBytes), impl.ErrForm)
		wantUnwritten(t, what+": a byte too many", l, []int64{0}, tooLong, impl.ErrSize)
		wantUnwritten(t, what+": a number too many", l, make([]int64, impl.MaxList+1), "", impl.ErrSize)
	}
	for what, l := range longTapes() {
		wantUnwritten(t, what, l, nil, "", impl.ErrSize)
		wantUnwritten(t, what, l, []int64{0}, "some", impl.ErrSize)
		wantUnwritten(t, what, l, []int64{-1}, bytesRun(impl.MaxBytes), impl.ErrSize)
	}
	for _, many := range []int{impl.MaxList + 1, 3 * impl.MaxList} {
		wantUnwritten(t, "more numbers than MaxList", sampleTapes(), make([]int64, many), "", impl.ErrSize)
	}
}

// wantTapesRead calls TapesRead, and looks at the answer, at its memory, and at what was handed in.
func wantTapesRead(t *testing.T, what string, l []impl.Tape, parts []impl.Part, many int64, want impl.TapeOut) {
	t.Helper()
	what = "TapesRead: " + what
	own, ownParts := ownTapes(l), ownList(parts)
	got := impl.TapesRead(own, ownParts, many)
	if !sameTapeOut(got, want) {
		t.Errorf("%s: parts %s, many %d: got %s, want %s", what, brief(parts), many, brief(got), brief(want))
	}
	wantTapesApart(t, what, got.Tapes, own, got.Text)
	wantTapesAlone(t, what, own, l)
	wantListAlone(t, what, ownParts, parts)
}

func wantUnread(t *testing.T, what string, l []impl.Tape, parts []impl.Part, many int64, code int64) {
	t.Helper()
	wantTapesRead(t, what, l, parts, many, impl.TapeOut{Code: code})
}

func TestTapesReadByHand(t *testing.T) {
	l := sampleTapes()
	zero, one, four := l[0].Blocks, l[1].Blocks, l[4].Blocks
	cases := []struct {
		what  string
		parts []impl.Part
		all   string
	}{
		{"no parts", nil, ""},
		{"a block", []impl.Part{{Tape: 0, Turn: 3, At: 1, Many: 1}}, zero[1]},
		{"a whole tape", []impl.Part{{Tape: 4, Turn: 1, Many: 5}}, strings.Join(four, "")},
		{"up to the end", []impl.Part{{Tape: 4, Turn: 1, At: 3, Many: 2}}, four[3] + four[4]},
		{"in between", []impl.Part{{Tape: 4, Turn: 1, At: 1, Many: 3}}, four[1] + four[2] + four[3]},
		{"of two tapes", []impl.Part{{Tape: 0, Turn: 3, Many: 2}, {Tape: 1, Many: 1}}, zero[0] + zero[1] + one[0]},
		{"falling", []impl.Part{{Tape: 1, At: 1, Many: 1}, {Tape: 0, Turn: 3, Many: 1}, {Tape: 0, Turn: 3, Many: 2}}, one[1] + zero[0] + zero[0] + zero[1]},
		{"the same twice", []impl.Part{{Tape: 1, Many: 1}, {Tape: 1, Many: 1}}, one[0] + one[0]},
		{"no blocks of one", []impl.Part{{Tape: 1, At: 1}, {Tape: 4, Turn: 1, Many: 1}}, four[0]},
		{"no blocks of a tape without any", []impl.Part{{Tape: 3, Turn: 7}, {Tape: 2, Turn: mostLabel}}, ""},
		{"no blocks at the end", []impl.Part{{Tape: 1, At: 2}}, ""},
	}
	for _, c := range cases {
		size := int64(len(c.all))
		for many := int64(0); many <= size; many++ {
			wantTapesRead(t, c.what, l, c.parts, many, impl.TapeOut{Text: c.all[:many]})
		}
		for _, many := range []int64{size + 1, size + 64, math.MaxInt64} {
			wantUnread(t, c.what+": too many", l, c.parts, many, impl.ErrShort)
		}
		for _, many := range []int64{-1, -size, math.MinInt64} {
			if many < 0 {
				wantUnread(t, c.what+": below 0", l, c.parts, many, impl.ErrForm)
			}
		}
	}
}

// missingParts: of sampleTapes, none is there.
func missingParts() map[string]impl.Part {
	return map[string]impl.Part{
		"a tape below 0":                {Tape: -1},
		"how many tapes there are":      {Tape: 5},
		"the tape of the number 2^32":   {Tape: 1 << 32},
		"the least tape":                {Tape: math.MinInt64},
		"the greatest tape":             {Tape: math.MaxInt64},
		"a Label one less":              {Tape: 0, Turn: 2, Many: 1},
		"a Label one more":              {Tape: 0, Turn: 4, Many: 1},
		"a Label of another tape":       {Tape: 0, Turn: 1, Many: 1},
		"a Label below 0":               {Tape: 1, Turn: -1, Many: 1},
		"another Label, no blocks":      {Tape: 0, Turn: 2},
		"At below 0":                    {Tape: 1, At: -1, Many: 1},
		"At below 0, no blocks":         {Tape: 1, At: -1},
		"Many below 0":                  {Tape: 1, Many: -1},
		"Many below 0 from the end on":  {Tape: 1, At: 2, Many: -1},
		"both below 0":                  {Tape: 1, At: -1, Many: -1},
		"a block behind the end":        {Tape: 1, At: 2, Many: 1},
		"one more than there are":       {Tape: 1, Many: 3},
		"one more from the second on":   {Tape: 1, At: 1, Many: 2},
		"as many as Room":               {Tape: 0, Turn: 3, Many: 4},
		"a block of an empty tape":      {Tape: 3, Turn: 7, Many: 1},
		"far behind the end":            {Tape: 1, At: 3, Many: 1},
		"behind the end, no blocks":     {Tape: 1, At: 3},
		"the greatest At":               {Tape: 1, At: math.MaxInt64, Many: 1},
		"the greatest At, no blocks":    {Tape: 1, At: math.MaxInt64},
		"the greatest Many":             {Tape: 1, Many: math.MaxInt64},
		"the greatest Many from 1 on":   {Tape: 1, At: 1, Many: math.MaxInt64},
		"the greatest of both":          {Tape: 1, At: math.MaxInt64, Many: math.MaxInt64},
		"a sum that comes round to 0":   {Tape: 1, At: math.MinInt64, Many: math.MinInt64},
		"the least At":                  {Tape: 1, At: math.MinInt64, Many: 1},
		"the least Many":                {Tape: 1, At: 1, Many: math.MinInt64},
		"Many that times 64 comes to 0": {Tape: 1, Many: 1 << 58},
	}
}

func TestTapesReadWhatIsNotThere(t *testing.T) {
	l := sampleTapes()
	there := impl.Part{Tape: 4, Turn: 1, Many: 5}
	for what, part := range missingParts() {
		for _, many := range []int64{0, 1, 64, 640, 641, math.MaxInt64} {
			wantUnread(t, what, l, []impl.Part{part}, many, impl.ErrNone)
			wantUnread(t, what+", the last", l, []impl.Part{there, there, part}, many, impl.ErrNone)
			wantUnread(t, what+", the first", l, []impl.Part{part, there}, many, impl.ErrNone)
		}
		wantUnread(t, what+", many below 0", l, []impl.Part{there, part}, -1, impl.ErrForm)
	}
}

func TestTapesReadRefused(t *testing.T) {
	one := []impl.Part{{Many: 1}}
	none := []impl.Part{{Tape: -1}}
	for what, l := range wrongTapes() {
		wantUnread(t, what, l, nil, 0, impl.ErrForm)
		wantUnread(t, what, l, one, 1, impl.ErrForm)
		wantUnread(t, what+": a part that is not there", l, none, 1, impl.ErrForm)
		wantUnread(t, what+": too many bytes", l, nil, 1, impl.ErrForm)
		wantUnread(t, what+": too many parts", l, make([]impl.Part, impl.MaxList+1), -1, impl.ErrSize)
	}
	for what, l := range longTapes() {
		wantUnread(t, what, l, nil, 0, impl.ErrSize)
		wantUnread(t, what, l, none, -1, impl.ErrSize)
	}
	for what, l := range rightTapes() {
		wantTapesRead(t, what, l, nil, 0, impl.TapeOut{})
		wantUnread(t, what, l, nil, -1, impl.ErrForm)
		wantUnread(t, what, l, nil, 1, impl.ErrShort)
		wantUnread(t, what, l, none, 1, impl.ErrNone)
	}
}

func TestTapesReadOfManyParts(t *testing.T) {
	l := fullTapes(impl.MaxTapes)
	var parts []impl.Part
	var all strings.Builder
	for i := range impl.MaxList {
		tape := i % impl.MaxTapes
		parts = append(parts, impl.Part{Tape: int64(tape), Turn: int64(tape), At: int64(i % 300), Many: 1})
		all.WriteString(l[tape].Blocks[i%300])
	}
	for _, many := range []int64{0, 1, 64, 12800, impl.MaxBytes, impl.MaxBytes + 1, int64(all.Len()) - 1, int64(all.Len())} {
		wantTapesRead(t, "MaxList parts", l, parts, many, impl.TapeOut{Text: all.String()[:many]})
	}
	wantUnread(t, "MaxList parts", l, parts, int64(all.Len())+1, impl.ErrShort)
	for _, more := range [][]impl.Part{append(ownList(parts), parts[0]), slices.Concat(parts, parts)} {
		for _, many := range []int64{0, 1, -1, math.MaxInt64} {
			wantUnread(t, "more parts than MaxList", l, more, many, impl.ErrSize)
			wantUnread(t, "more parts, and one is not there", l, withItem(more, 0, impl.Part{Tape: -1}), many, impl.ErrSize)
		}
	}
	whole := slices.Repeat([]impl.Part{{Tape: 3, Turn: 3, Many: mostRoom}}, impl.MaxList)
	text := strings.Repeat(strings.Join(l[3].Blocks, ""), impl.MaxList)
	wantTapesRead(t, "MaxList whole tapes", l, whole, int64(len(text)), impl.TapeOut{Text: text})
	wantUnread(t, "MaxList whole tapes", l, whole, int64(len(text))+1, impl.ErrShort)
}

// wantTapes calls with tapes, and looks at the answer, at its memory, and at what was handed in.
func wantTapes(t *testing.T, what string, l []impl.Tape, call func([]impl.Tape) []impl.Tape, want []impl.Tape) {
	t.Helper()
	own := ownTapes(l)
	got := call(own)
	if !sameTapes(got, want) {
		t.Errorf("%s: got %s, want %s", what, brief(got), brief(want))
	}
	wantTapesApart(t, what, got, own)
	wantTapesAlone(t, what, own, l)
}

func wantSynced(t *testing.T, what string, l []impl.Tape, want []impl.Tape) {
	t.Helper()
	wantTapes(t, "TapesSync: "+what, l, impl.TapesSync, want)
}

func wantCrashed(t *testing.T, what string, l []impl.Tape, keep []int64, want []impl.Tape) {
	t.Helper()
	what = "TapesCrash: " + what + ", keep " + brief(keep)
	ownKeep := ownList(keep)
	wantTapes(t, what, l, func(own []impl.Tape) []impl.Tape { return impl.TapesCrash(own, ownKeep) }, want)
	wantListAlone(t, what, ownKeep, keep)
}

// crashedByHand drops block by block from the end of each tape what neither is Synced nor kept.
func crashedByHand(l []impl.Tape, keep []int64) []impl.Tape {
	var out []impl.Tape
	for i, tape := range l {
		unsynced := int64(len(tape.Blocks)) - tape.Synced
		lost := unsynced
		if i < len(keep) && keep[i] > 0 {
			lost = 0
			for keep[i] < unsynced-lost {
				lost++
			}
		}
		for range lost {
			tape.Blocks = tape.Blocks[:len(tape.Blocks)-1]
		}
		tape.Synced = int64(len(tape.Blocks))
		out = append(out, tape)
	}
	return out
}

func TestTapesSync(t *testing.T) {
	for what, l := range rightTapes() {
		want := slices.Clone(l)
		for i := range want {
			want[i].Synced = int64(len(want[i].Blocks))
		}
		wantSynced(t, what, l, want)
		wantSynced(t, what+", again", want, want)
	}
	for what, l := range wrongTapes() {
		wantSynced(t, what, l, l)
	}
	for what, l := range longTapes() {
		wantSynced(t, what, l, nil)
	}
}

func TestTapesCrashByHand(t *testing.T) {
	b := tapeBlocks(0, 5)
	l := []impl.Tape{
		{Label: 1, Blocks: b, Synced: 0, Room: 9},
		{Label: 2, Blocks: b, Synced: 2, Room: 5},
		{Label: 3, Blocks: b, Synced: 5, Room: 6},
		{Label: 4, Room: 7},
	}
	cases := []struct {
		what string
		keep []int64
		left []int
	}{
		{"nothing", nil, []int{0, 2, 5, 0}},
		{"noughts", []int64{0, 0, 0, 0}, []int{0, 2, 5, 0}},
		{"below 0", []int64{-1, -1, -1, -1}, []int{0, 2, 5, 0}},
		{"far below 0", []int64{math.MinInt64, math.MinInt64, math.MinInt64, math.MinInt64}, []int{0, 2, 5, 0}},
		{"one each", []int64{1, 1, 1, 1}, []int{1, 3, 5, 0}},
		{"one less than there are", []int64{4, 2, -1, -1}, []int{4, 4, 5, 0}},
		{"as many as there are", []int64{5, 3, 0, 0}, []int{5, 5, 5, 0}},
		{"one more than there are", []int64{6, 4, 1, 1}, []int{5, 5, 5, 0}},
		{"the greatest", []int64{math.MaxInt64, math.MaxInt64, math.MaxInt64, math.MaxInt64}, []int{5, 5, 5, 0}},
		{"of the first alone", []int64{2}, []int{2, 2, 5, 0}},
		{"of the second alone", []int64{0, 2}, []int{0, 4, 5, 0}},
		{"more numbers than tapes", []int64{1, 2, 3, 4, 5, 6, 7, 8, 9, 10}, []int{1, 4, 5, 0}},
		{"MaxList numbers", slices.Repeat([]int64{3}, impl.MaxList), []int{3, 5, 5, 0}},
	}
	for _, c := range cases {
		want := slices.Clone(l)
		for i, left := range c.left {
			want[i].Blocks, want[i].Synced = b[:left], int64(left)
		}
		wantCrashed(t, c.what, l, c.keep, want)
		if !sameTapes(crashedByHand(l, c.keep), want) {
			t.Errorf("by hand: %s: got %v", c.what, crashedByHand(l, c.keep))
		}
	}
	for _, many := range []int{impl.MaxList + 1, 3 * impl.MaxList} {
		wantCrashed(t, "more numbers than MaxList", l, make([]int64, many), nil)
	}
}

func TestTapesCrash(t *testing.T) {
	keeps := [][]int64{nil, {}, {0}, {1}, {2, -2, 300, 1}, {0, 0, 0, 0, 0, 0, 0, 299}, slices.Repeat([]int64{301}, 9)}
	for _, keep := range keeps {
		for what, l := range rightTapes() {
			wantCrashed(t, what, l, keep, crashedByHand(l, keep))
		}
		for what, l := range wrongTapes() {
			wantCrashed(t, what, l, keep, l)
		}
		for what, l := range longTapes() {
			wantCrashed(t, what, l, keep, nil)
		}
	}
	for what, l := range wrongTapes() {
		wantCrashed(t, what+": more numbers than MaxList", l, make([]int64, impl.MaxList+1), nil)
	}
}

// wantCleared calls TapeClear, and looks at the answer, at its memory, and at what was handed in.
func wantCleared(t *testing.T, what string, l []impl.Tape, tape int64, want impl.TapeOut) {
	t.Helper()
	what = "TapeClear: " + what + ", tape " + strconv.FormatInt(tape, 10)
	own := ownTapes(l)
	got := impl.TapeClear(own, tape)
	if !sameTapeOut(got, want) {
		t.Errorf("%s: got %s, want %s", what, brief(got), brief(want))
	}
	wantTapesApart(t, what, got.Tapes, own)
	wantTapesAlone(t, what, own, l)
}

func clearedByHand(l []impl.Tape, tape int64) impl.TapeOut {
	if l[tape].Label == mostLabel {
		return impl.TapeOut{Code: impl.ErrRange}
	}
	return impl.TapeOut{Tapes: withItem(l, int(tape), impl.Tape{Label: l[tape].Label + 1, Room: l[tape].Room})}
}

func TestTapeClear(t *testing.T) {
	for what, l := range rightTapes() {
		many := int64(len(l))
		for tape := range many {
			want := clearedByHand(l, tape)
			wantCleared(t, what, l, tape, want)
			if want.Code == impl.OK && !impl.TapesRight(impl.TapeClear(l, tape).Tapes) {
				t.Errorf("TapeClear: %s, tape %d: the tapes are not right then", what, tape)
			}
		}
		for _, tape := range []int64{-1, many, many + 1, impl.MaxTapes, 1 << 32, math.MinInt64, math.MaxInt64} {
			wantCleared(t, what, l, tape, impl.TapeOut{Code: impl.ErrForm})
		}
	}
	for what, l := range wrongTapes() {
		for _, tape := range []int64{-1, 0, 2, 4, 5} {
			wantCleared(t, what, l, tape, impl.TapeOut{Code: impl.ErrForm})
		}
	}
	for what, l := range longTapes() {
		for _, tape := range []int64{-1, 0, impl.MaxList + 1} {
			wantCleared(t, what, l, tape, impl.TapeOut{Code: impl.ErrSize})
		}
	}
}

func TestTapeClearByLabels(t *testing.T) {
	b := tapeBlocks(0, 3)
	for _, label := range []int64{0, 1, 41, mostLabel - 2, mostLabel - 1} {
		l := []impl.Tape{{Label: mostLabel, Room: 1}, {Label: label, Blocks: b, Synced: 2, Room: 5}}
		wantCleared(t, "a Label less than the greatest", l, 1, impl.TapeOut{Tapes: []impl.Tape{l[0], {Label: label + 1, Room: 5}}})
		wantCleared(t, "the greatest Label", l, 0, impl.TapeOut{Code: impl.ErrRange})
	}
	// A Label that is too great by one is not right, whichever tape it is that is cleared.
	l := []impl.Tape{{Label: mostLabel + 1}, {}}
	wantCleared(t, "a Label above the greatest", l, 0, impl.TapeOut{Code: impl.ErrForm})
	wantCleared(t, "a Label above the greatest", l, 1, impl.TapeOut{Code: impl.ErrForm})
}

// Promise 14: what was on the tape is read no more, be it by a part of one block or of all.
func TestClearedTapesAreReadByNoPart(t *testing.T) {
	for what, l := range rightTapes() {
		for i, tape := range l {
			out := impl.TapeClear(l, int64(i))
			if out.Code != impl.OK {
				continue
			}
			many := int64(len(tape.Blocks))
			for _, part := range []impl.Part{{At: 0, Many: many}, {At: 0, Many: 1}, {At: many - 1, Many: 1}, {At: 0, Many: 0}, {At: many, Many: 0}} {
				part.Tape, part.Turn = int64(i), tape.Label
				wantUnread(t, what+", cleared", out.Tapes, []impl.Part{part}, 0, impl.ErrNone)
			}
			again := impl.TapesWrite(out.Tapes, []int64{int64(i)}, bytesRun(int(tape.Room)*impl.TapeBlock))
			wantUnread(t, what+", cleared and written", again.Tapes, []impl.Part{{Tape: int64(i), Turn: tape.Label, Many: many}}, 0, impl.ErrNone)
		}
	}
}

// Promise 13, of texts at all edges on tapes with whatever room.
func TestWhatIsWrittenIsReadBack(t *testing.T) {
	for what, l := range rightTapes() {
		var use []int64
		for i := range l {
			use = append([]int64{int64(i)}, use...)
		}
		for _, size := range []int{0, 1, 63, 64, 65, 128, 640, 641, 19199, 19200, 19201, impl.MaxBytes} {
			text := bytesRun(size)
			want := writtenByHand(l, use, text)
			wantWritten(t, what, l, use, text, want)
			if want.Code != impl.OK {
				continue
			}
			wantTapesRead(t, what+", written", want.Tapes, want.Parts, int64(size), impl.TapeOut{Text: text})
			filled := (size + impl.TapeBlock - 1) / impl.TapeBlock * impl.TapeBlock
			wantTapesRead(t, what+", all its blocks", want.Tapes, want.Parts, int64(filled), impl.TapeOut{Text: padded(text, filled)})
			wantUnread(t, what+", one byte more", want.Tapes, want.Parts, int64(filled)+1, impl.ErrShort)
			if !impl.TapesRight(want.Tapes) {
				t.Errorf("%s: with %d bytes written they are not right", what, size)
			}
		}
	}
}

// writing is a text that was written, and where it stands.
type writing struct {
	text   string
	parts  []impl.Part
	synced bool
}

// onTape: has it a part on that tape?
func (w writing) onTape(tape int64) bool {
	return slices.ContainsFunc(w.parts, func(p impl.Part) bool { return p.Tape == tape })
}

// beyond: has it blocks that these tapes have no more?
func (w writing) beyond(l []impl.Tape) bool {
	return slices.ContainsFunc(w.parts, func(p impl.Part) bool { return p.At+p.Many > int64(len(l[p.Tape].Blocks)) })
}

// tapePlay are tapes in use, with what must be read from them, and what must not.
type tapePlay struct {
	tapes []impl.Tape
	live  []writing
	gone  []writing
}

func anyTapes(next func(int) int) []impl.Tape {
	var out []impl.Tape
	for range 1 + next(impl.MaxTapes) {
		out = append(out, impl.Tape{Label: int64(next(3)) * (mostLabel - 2) / 2, Room: int64(next(12))})
	}
	return out
}

// anyUse: some of the numbers of these tapes, in whatever order.
func anyUse(next func(int) int, many int) []int64 {
	var out []int64
	for i := range many {
		if next(4) > 0 {
			out = slices.Insert(out, next(len(out)+1), int64(i))
		}
	}
	return out
}

func (p *tapePlay) write(t *testing.T, next func(int) int) {
	use := anyUse(next, len(p.tapes))
	text := bytesRun(next(400))
	want := writtenByHand(p.tapes, use, text)
	wantWritten(t, "in a play", p.tapes, use, text, want)
	if want.Code == impl.OK {
		got := impl.TapesWrite(p.tapes, use, text)
		p.tapes = got.Tapes
		p.live = append(p.live, writing{text: text, parts: got.Parts})
	}
}

func (p *tapePlay) sync() {
	p.tapes = impl.TapesSync(p.tapes)
	for i := range p.live {
		p.live[i].synced = true
	}
}

func (p *tapePlay) crash(t *testing.T, next func(int) int) {
	var keep []int64
	for range next(impl.MaxTapes + 2) {
		keep = append(keep, int64(next(8)-2))
	}
	wantCrashed(t, "in a play", p.tapes, keep, crashedByHand(p.tapes, keep))
	p.tapes = impl.TapesCrash(p.tapes, keep)
	var left []writing
	for _, w := range p.live {
		if !w.beyond(p.tapes) {
			w.synced = true
			left = append(left, w)
			continue
		}
		if w.synced {
			t.Errorf("a crash took blocks that were synced: %v", w.parts)
		}
		wantUnread(t, "lost in a crash", p.tapes, w.parts, int64(len(w.text)), impl.ErrNone)
	}
	p.live = left
}

func (p *tapePlay) clearOne(t *testing.T, next func(int) int) {
	tape := int64(next(len(p.tapes)))
	want := clearedByHand(p.tapes, tape)
	wantCleared(t, "in a play", p.tapes, tape, want)
	if want.Code != impl.OK {
		return
	}
	p.tapes = impl.TapeClear(p.tapes, tape).Tapes
	var left []writing
	for _, w := range p.live {
		if w.onTape(tape) {
			p.gone = append(p.gone, w)
		} else {
			left = append(left, w)
		}
	}
	p.live = left
}

// look: each text that must be there is read back, none that was cleared is.
func (p *tapePlay) look(t *testing.T) {
	for _, w := range p.live {
		got := impl.TapesRead(p.tapes, w.parts, int64(len(w.text)))
		if !sameTapeOut(got, impl.TapeOut{Text: w.text}) {
			t.Errorf("what was written at %v is not read back: got %s", w.parts, brief(got))
		}
	}
	for _, w := range p.gone {
		got := impl.TapesRead(p.tapes, w.parts, int64(len(w.text)))
		if !sameTapeOut(got, impl.TapeOut{Code: impl.ErrNone}) {
			t.Errorf("what was cleared at %v is read: got %s", w.parts, brief(got))
		}
	}
	if !impl.TapesRight(p.tapes) {
		t.Errorf("the tapes are not right any more: %s", brief(p.tapes))
	}
}

// Promises 13 and 14, in plays of writing, syncing, crashing and clearing in whatever order.
func TestTapesInUse(t *testing.T) {
	for seed := range uint32(150) {
		next := rowOfNumbers(seed + 1)
		p := tapePlay{tapes: anyTapes(next)}
		for range 40 {
			switch next(8) {
			case 0:
				p.sync()
			case 1:
				p.crash(t, next)
			case 2:
				p.clearOne(t, next)
			default:
				p.write(t, next)
			}
			p.look(t)
			if t.Failed() {
				t.Fatalf("in the play %d", seed)
			}
		}
	}
}

// Promise 14: whatever keep says, what was synced is read behind a crash, and what is left is synced.
func TestCrashLeavesWhatIsSynced(t *testing.T) {
	first := impl.TapesWrite(emptyTapes(3, 5), []int64{2, 0, 1}, bytesRun(450))
	synced := impl.TapesSync(first.Tapes)
	second := impl.TapesWrite(synced, []int64{0, 1, 2}, bytesRun(300))
	for _, keep := range [][]int64{nil, {0, 0, 0}, {-5, -5, -5}, {1, 2}, {9, 9, 9}, {math.MinInt64, math.MaxInt64}} {
		l := impl.TapesCrash(second.Tapes, keep)
		wantTapesRead(t, "synced ahead of a crash", l, first.Parts, 450, impl.TapeOut{Text: bytesRun(450)})
		wantCrashed(t, "a second time", l, nil, l)
	}
	all := impl.TapesCrash(second.Tapes, []int64{5, 5, 5})
	wantTapesRead(t, "all that was written is kept", all, second.Parts, 300, impl.TapeOut{Text: bytesRun(300)})
	wantUnread(t, "nothing more is kept", impl.TapesCrash(second.Tapes, nil), second.Parts, 300, impl.ErrNone)
}

// Nothing is kept from call to call: an answer that is written over changes no other one.
func TestTapesAlone(t *testing.T) {
	l := sampleTapes()
	text := bytesRun(300)
	calls := map[string]func() []impl.Tape{
		"TapesWrite": func() []impl.Tape { return impl.TapesWrite(l, []int64{0, 4}, text).Tapes },
		"TapesSync":  func() []impl.Tape { return impl.TapesSync(l) },
		"TapesCrash": func() []impl.Tape { return impl.TapesCrash(l, []int64{1, 1}) },
		"TapeClear":  func() []impl.Tape { return impl.TapeClear(l, 0).Tapes },
	}
	for what, call := range calls {
		first, second := call(), call()
		wantTapesApart(t, what, first, second)
		was := ownTapes(second)
		for _, tape := range first {
			clear(tape.Blocks[:cap(tape.Blocks)])
		}
		clear(first)
		if !sameTapes(second, was) || !sameTapes(call(), was) || !sameTapes(l, sampleTapes()) {
			t.Errorf("%s: an answer, or what was handed in, has changed with another answer", what)
		}
	}
	// Two texts behind one row of blocks: neither stands where the other one is.
	one := impl.TapesWrite(emptyTapes(1, 9), []int64{0}, "first")
	a, b := impl.TapesWrite(one.Tapes, []int64{0}, "a"), impl.TapesWrite(one.Tapes, []int64{0}, "b")
	if impl.TapesRead(a.Tapes, a.Parts, 1).Text != "a" || impl.TapesRead(b.Tapes, b.Parts, 1).Text != "b" {
		t.Error("two answers of TapesWrite share memory")
	}
}
