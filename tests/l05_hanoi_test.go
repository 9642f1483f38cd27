package tests

import (
	"math"
	"slices"
	"strconv"
	"testing"

	"loop.example/g00310/impl"
)

func wantLevel(t *testing.T, n int64, j int64, want int64) {
	t.Helper()
	if got := impl.LevelAt(n, j); got != want {
		t.Errorf("LevelAt(%d, %d): got %d, want %d", n, j, got, want)
	}
}

func TestLevelsByHand(t *testing.T) {
	for n, cycle := range [][]int64{
		{},
		{0},
		{0, 1},
		{0, 2, 1, 2},
		{0, 3, 2, 3, 1, 3, 2, 3},
		{0, 4, 3, 4, 2, 4, 3, 4, 1, 4, 3, 4, 2, 4, 3, 4},
		{0, 5, 4, 5, 3, 5, 4, 5, 2, 5, 4, 5, 3, 5, 4, 5, 1, 5, 4, 5, 3, 5, 4, 5, 2, 5, 4, 5, 3, 5, 4, 5},
	} {
		for j := range 3 * len(cycle) {
			wantLevel(t, int64(n), int64(j), cycle[j%len(cycle)])
		}
	}
}

// Promise 9, at runs of the first cycles and at the last ones that there are.
func TestLevelsGoByTheTowers(t *testing.T) {
	for n := int64(2); n <= impl.MaxLevels; n++ {
		for _, start := range []int64{0, 1000, 1 << 40, math.MaxInt64/2 - 149} {
			for j := start; j < start+150; j++ {
				wantLevel(t, n, j, impl.LevelAt(n, j+1<<(n-1)))
				if j%2 != 0 {
					wantLevel(t, n, j, n-1)
				}
				wantLevel(t, n, 2*j+1, n-1)
				wantLevel(t, n, 2*j, impl.LevelAt(n-1, j))
			}
		}
	}
}

func TestLevelsAtEdges(t *testing.T) {
	wantLevel(t, 1, math.MaxInt64, 0)
	wantLevel(t, 1, math.MaxInt64-1, 0)
	wantLevel(t, 2, math.MaxInt64, 1)
	wantLevel(t, 2, math.MaxInt64-1, 0)
	wantLevel(t, 6, math.MaxInt64, 5)
	wantLevel(t, 6, math.MaxInt64-1, 4)
	wantLevel(t, 6, math.MaxInt64-15, 1)
	wantLevel(t, 6, math.MaxInt64-31, 0)
	for _, j := range []int64{-1, -2, -32, -1 << 40, math.MinInt64, math.MinInt64 + 1} {
		for n := int64(-1); n <= impl.MaxLevels+1; n++ {
			wantLevel(t, n, j, -1)
		}
	}
	for _, n := range []int64{0, -1, -6, impl.MaxLevels + 1, 64, 65, 1 << 32, math.MaxInt64, math.MinInt64} {
		for _, j := range []int64{0, 1, 2, 64, math.MaxInt64} {
			wantLevel(t, n, j, -1)
		}
	}
}

// ownList is a copy with spare places behind it, so that what is written there is seen.
func ownList[T any](l []T) []T {
	return append(make([]T, 0, len(l)+3), l...)
}

// wantListAlone looks at a list of ownList behind a call: it and its spare places are as they were.
func wantListAlone[T comparable](t *testing.T, what string, own []T, was []T) {
	t.Helper()
	if !slices.Equal(own, was) {
		t.Errorf("%s: the list that was handed in has changed", what)
	}
	var zero T
	if slices.ContainsFunc(own[len(own):cap(own)], func(item T) bool { return item != zero }) {
		t.Errorf("%s: behind a list that was handed in something was written", what)
	}
}

func wantMarks(t *testing.T, what string, l []impl.Mark, want bool) {
	t.Helper()
	own := ownList(l)
	if got := impl.MarksRight(own); got != want {
		t.Errorf("MarksRight: %s: got %v, want %v", what, got, want)
	}
	wantListAlone(t, "MarksRight: "+what, own, l)
}

func wantBase(t *testing.T, what string, l []impl.Mark, level int64, want int64) {
	t.Helper()
	own := ownList(l)
	if got := impl.BaseFor(own, level); got != want {
		t.Errorf("BaseFor: %s, level %d: got %d, want %d", what, level, got, want)
	}
	wantListAlone(t, "BaseFor: "+what, own, l)
}

func wantChain(t *testing.T, what string, l []impl.Mark, id int64, want ...int64) {
	t.Helper()
	own := ownList(l)
	if got := impl.ChainOf(own, id); !slices.Equal(got, want) {
		t.Errorf("ChainOf: %s, id %d: got %v, want %v", what, id, got, want)
	}
	wantListAlone(t, "ChainOf: "+what, own, l)
}

func wantKept(t *testing.T, what string, l []impl.Mark, ids []int64, want ...int64) {
	t.Helper()
	ownMarks, ownIds := ownList(l), ownList(ids)
	got := impl.Kept(ownMarks, ownIds)
	if !slices.Equal(got, want) {
		t.Errorf("Kept: %s, ids %s: got %v, want %v", what, brief(ids), got, want)
	}
	if listsOverlap(got, ownIds) {
		t.Errorf("Kept: %s: the answer shares memory with the ids", what)
	}
	wantListAlone(t, "Kept: "+what, ownMarks, l)
	wantListAlone(t, "Kept: "+what, ownIds, ids)
}

// towerMarks are those of a host with four levels: a cycle, and the beginning of the next one.
func towerMarks() []impl.Mark {
	return []impl.Mark{
		{Id: 1}, {Id: 2, Level: 3, Base: 1}, {Id: 3, Level: 2, Base: 1}, {Id: 4, Level: 3, Base: 3},
		{Id: 5, Level: 1, Base: 1}, {Id: 6, Level: 3, Base: 5}, {Id: 7, Level: 2, Base: 5}, {Id: 8, Level: 3, Base: 7},
		{Id: 9}, {Id: 10, Level: 3, Base: 9},
	}
}

// stairMarks are a chain of all six Levels, with gaps between their Ids.
func stairMarks() []impl.Mark {
	return []impl.Mark{
		{Id: 10}, {Id: 20, Level: 1, Base: 10}, {Id: 30, Level: 2, Base: 20}, {Id: 40, Level: 3, Base: 30},
		{Id: 50, Level: 4, Base: 40}, {Id: 60, Level: 5, Base: 50},
	}
}

// manyMarks are right ones, if there are at most 60.
func manyMarks(many int) []impl.Mark {
	var out []impl.Mark
	for i := range int64(many) {
		out = append(out, impl.Mark{Id: i + 1})
		if i%5 != 0 {
			out[i].Level, out[i].Base = i%5, i
		}
	}
	return out
}

func rightMarks() map[string][]impl.Mark {
	return map[string][]impl.Mark{
		"none":                        nil,
		"an empty list":               {},
		"one":                         {{Id: 1}},
		"a tower":                     towerMarks(),
		"all levels":                  stairMarks(),
		"sixty":                       manyMarks(60),
		"the greatest Id":             {{Id: 1000000}},
		"the least and the greatest":  {{Id: 1}, {Id: 1000000, Level: 5, Base: 1}},
		"a Base far ahead":            {{Id: 1}, {Id: 2}, {Id: 3}, {Id: 4, Level: 1, Base: 1}},
		"a Base that is not the last": {{Id: 1}, {Id: 2, Level: 1, Base: 1}, {Id: 3, Level: 2, Base: 1}},
		"a Level left out":            {{Id: 3}, {Id: 4, Level: 4, Base: 3}, {Id: 5, Level: 5, Base: 4}},
		"all of Level 0":              {{Id: 5}, {Id: 6}, {Id: 9}},
	}
}

func wrongMarks() map[string][]impl.Mark {
	sixtyOne := manyMarks(61)
	return map[string][]impl.Mark{
		"sixty-one":                     sixtyOne,
		"as long as a list may be":      manyMarks(impl.MaxList),
		"longer than a list may be":     manyMarks(impl.MaxList + 1),
		"no Id":                         {{}},
		"an Id below 0":                 {{Id: -1}},
		"the least Id there is":         {{Id: math.MinInt64}},
		"an Id of 1000001":              {{Id: 1000001}},
		"the greatest number as Id":     {{Id: 1}, {Id: math.MaxInt64}},
		"an Id of 0 ahead of another":   {{Id: 0}, {Id: 1}},
		"the same Id twice":             {{Id: 1}, {Id: 1}},
		"Ids that fall":                 {{Id: 2}, {Id: 1}},
		"Ids that fall at the end":      {{Id: 1}, {Id: 3}, {Id: 4}, {Id: 2}},
		"the same Id as far ahead":      {{Id: 1}, {Id: 2}, {Id: 1}},
		"a Level below 0":               {{Id: 1, Level: -1}},
		"a Level below 0 with a Base":   {{Id: 1, Level: -2}, {Id: 2, Level: -1, Base: 1}},
		"the least Level there is":      {{Id: 1, Level: math.MinInt64}},
		"a Level of 6":                  {{Id: 1}, {Id: 2, Level: 6, Base: 1}},
		"the greatest Level there is":   {{Id: 1}, {Id: 2, Level: math.MaxInt64, Base: 1}},
		"a Base of Level 0":             {{Id: 1}, {Id: 2, Base: 1}},
		"a Base of the first one":       {{Id: 1, Base: 1}},
		"a Base below 0 of Level 0":     {{Id: 1, Base: -1}},
		"no Base of Level 1":            {{Id: 1}, {Id: 2, Level: 1}},
		"no Base of Level 5, alone":     {{Id: 1, Level: 5}},
		"a Base below 0":                {{Id: 1}, {Id: 2, Level: 1, Base: -1}},
		"a Base that is not there":      {{Id: 1}, {Id: 3, Level: 1, Base: 2}},
		"a Base less than all":          {{Id: 5}, {Id: 6, Level: 1, Base: 4}},
		"a Base that stands behind":     {{Id: 1}, {Id: 2, Level: 1, Base: 3}, {Id: 3}},
		"its own Id as Base":            {{Id: 1}, {Id: 2, Level: 1, Base: 2}},
		"its own Id as Base, alone":     {{Id: 1, Level: 1, Base: 1}},
		"a Base of a like Level":        {{Id: 1}, {Id: 2, Level: 2, Base: 1}, {Id: 3, Level: 2, Base: 2}},
		"a Base of a higher Level":      {{Id: 1}, {Id: 2, Level: 3, Base: 1}, {Id: 3, Level: 2, Base: 2}},
		"wrong at the end":              append(stairMarks(), impl.Mark{Id: 70, Level: 5, Base: 60}),
		"a chain without its beginning": stairMarks()[1:],
	}
}

func TestRightMarks(t *testing.T) {
	for what, l := range rightMarks() {
		wantMarks(t, what, l, true)
	}
	for what, l := range wrongMarks() {
		wantMarks(t, what, l, false)
	}
}

func TestLevelsOfMarks(t *testing.T) {
	for level := int64(-2); level <= 8; level++ {
		wantMarks(t, "level "+strconv.FormatInt(level, 10), []impl.Mark{{Id: 1}, {Id: 2, Level: level, Base: 1}}, level >= 1 && level <= 5)
		wantMarks(t, "level "+strconv.FormatInt(level, 10)+" without a Base", []impl.Mark{{Id: 1}, {Id: 2, Level: level}}, level == 0)
		for under := int64(1); under <= 5; under++ {
			l := []impl.Mark{{Id: 1}, {Id: 2, Level: under, Base: 1}, {Id: 3, Level: level, Base: 2}}
			wantMarks(t, "one upon another", l, level > under && level <= 5)
		}
	}
}

func TestBaseFor(t *testing.T) {
	tower := towerMarks()
	for level, want := range []int64{0, 9, 9, 9, 10, 10} {
		wantBase(t, "a tower", tower, int64(level), want)
	}
	for level, want := range []int64{0, 1, 5, 7, 8, 8} {
		wantBase(t, "a cycle", tower[:8], int64(level), want)
	}
	for level, want := range []int64{0, 10, 20, 30, 40, 50} {
		wantBase(t, "all levels", stairMarks(), int64(level), want)
	}
	for level := int64(1); level <= 5; level++ {
		wantBase(t, "no marks", nil, level, 0)
		wantBase(t, "one mark", []impl.Mark{{Id: 1000000}}, level, 1000000)
		wantBase(t, "several of Level 0", []impl.Mark{{Id: 5}, {Id: 6}, {Id: 9}}, level, 9)
	}
	for what, l := range rightMarks() {
		for _, level := range []int64{math.MinInt64, -1, 0, 6, 7, math.MaxInt64} {
			wantBase(t, what, l, level, 0)
		}
	}
	for what, l := range wrongMarks() {
		for level := int64(-1); level <= 6; level++ {
			wantBase(t, what, l, level, 0)
		}
	}
}

func TestChainOf(t *testing.T) {
	tower := towerMarks()
	for i, want := range [][]int64{{1}, {1, 2}, {1, 3}, {1, 3, 4}, {1, 5}, {1, 5, 6}, {1, 5, 7}, {1, 5, 7, 8}, {9}, {9, 10}} {
		wantChain(t, "a tower", tower, int64(i)+1, want...)
	}
	all := []int64{10, 20, 30, 40, 50, 60}
	for many := range all {
		wantChain(t, "all levels", stairMarks(), all[many], all[:many+1]...)
	}
	wantChain(t, "a Base far ahead", rightMarks()["a Base far ahead"], 4, 1, 4)
	wantChain(t, "the greatest Id", []impl.Mark{{Id: 1000000}}, 1000000, 1000000)
	wantChain(t, "the last of sixty", manyMarks(60), 60, 56, 57, 58, 59, 60)
	for what, l := range rightMarks() {
		for _, id := range []int64{math.MinInt64, -1, 0, 55, 61, 999999, 1000001, math.MaxInt64} {
			if !slices.ContainsFunc(l, func(m impl.Mark) bool { return m.Id == id }) {
				wantChain(t, what, l, id)
			}
		}
	}
	for what, l := range wrongMarks() {
		for _, m := range l {
			wantChain(t, what, l, m.Id)
		}
		wantChain(t, what, l, 1)
	}
}

func TestKept(t *testing.T) {
	tower := towerMarks()
	wantKept(t, "no ids", tower, nil)
	wantKept(t, "an empty list of ids", tower, []int64{})
	wantKept(t, "one", tower, []int64{8}, 1, 5, 7, 8)
	wantKept(t, "one of Level 0", tower, []int64{9}, 9)
	wantKept(t, "chains in common", tower, []int64{4, 8}, 1, 3, 4, 5, 7, 8)
	wantKept(t, "falling", tower, []int64{10, 6, 2}, 1, 2, 5, 6, 9, 10)
	wantKept(t, "in whatever order", tower, []int64{6, 10, 4, 9}, 1, 3, 4, 5, 6, 9, 10)
	wantKept(t, "the same one twice", tower, []int64{3, 3}, 1, 3)
	wantKept(t, "a base of another", tower, []int64{7, 5, 1}, 1, 5, 7)
	wantKept(t, "some that are not there", tower, []int64{0, 3, 11, -1, math.MaxInt64}, 1, 3)
	wantKept(t, "none that is there", tower, []int64{0, 11, math.MinInt64})
	wantKept(t, "all", tower, []int64{10, 8, 6, 4, 2}, 1, 2, 3, 4, 5, 6, 7, 8, 9, 10)
	wantKept(t, "no marks", nil, []int64{1, 2})
	for what, l := range wrongMarks() {
		wantKept(t, what, l, []int64{1})
		wantKept(t, what, l, []int64{1, 2, 3, 10, 60})
		wantKept(t, what, l, nil)
	}
}

func TestKeptOfLongLists(t *testing.T) {
	ids := slices.Repeat([]int64{4}, impl.MaxList)
	wantKept(t, "as many as a list may have", towerMarks(), ids, 1, 3, 4)
	wantKept(t, "too many", towerMarks(), append(ids, 4))
	wantKept(t, "too many, and no marks", nil, append(ids, 4))
	wantKept(t, "too many marks", manyMarks(impl.MaxList+1), []int64{1})
	wantKept(t, "too many of both", manyMarks(impl.MaxList+1), append(ids, 4))
}

// Sixty marks, all chains of five: the most that is told.
func TestKeptOfSixty(t *testing.T) {
	l := manyMarks(60)
	var all []int64
	for _, m := range l {
		all = append(all, m.Id)
	}
	wantKept(t, "all of sixty", l, all, all...)
	fallen := ownList(all)
	slices.Reverse(fallen)
	wantKept(t, "all of sixty, falling", l, fallen, all...)
}

// anyMarks are right ones, or, once in a while, have one field turned to something else.
func anyMarks(next func(int) int) []impl.Mark {
	var out []impl.Mark
	id := int64(0)
	for range next(20) {
		id += int64(1 + next(3))
		m := impl.Mark{Id: id}
		if len(out) > 0 && next(6) != 0 {
			base := out[next(len(out))]
			if base.Level < 5 {
				m.Level, m.Base = base.Level+1+int64(next(int(5-base.Level))), base.Id
			}
		}
		out = append(out, m)
	}
	if len(out) > 0 && next(2) == 0 {
		m := &out[next(len(out))]
		field := []*int64{&m.Id, &m.Level, &m.Base}[next(3)]
		*field = int64(next(12)) - 1
	}
	return out
}

func marksRightByHand(l []impl.Mark) bool {
	for i, m := range l {
		if m.Id < 1 || m.Id > 1000000 || m.Level < 0 || m.Level > 5 || m.Level == 0 && m.Base != 0 {
			return false
		}
		isBase := func(ahead impl.Mark) bool { return ahead.Id == m.Base && ahead.Level < m.Level }
		if m.Level > 0 && !slices.ContainsFunc(l[:i], isBase) {
			return false
		}
		if slices.ContainsFunc(l[:i], func(ahead impl.Mark) bool { return ahead.Id >= m.Id }) {
			return false
		}
	}
	return len(l) <= 60
}

// wantChainHolds looks at promise 10 for one mark.
func wantChainHolds(t *testing.T, l []impl.Mark, id int64) []int64 {
	t.Helper()
	chain := impl.ChainOf(l, id)
	if len(chain) == 0 || chain[len(chain)-1] != id {
		t.Fatalf("%v: the chain %v does not end at %d", l, chain, id)
	}
	base := int64(0)
	for i, one := range chain {
		at := slices.IndexFunc(l, func(m impl.Mark) bool { return m.Id == one })
		if at < 0 || l[at].Base != base || (l[at].Level == 0) != (i == 0) {
			t.Fatalf("%v: the chain %v of %d is none at its place %d", l, chain, id, i)
		}
		base = one
	}
	wantChain(t, "any marks", l, id, chain...)
	return chain
}

// Promise 10, and what is kept held against it.
func TestChainsOfAnyMarks(t *testing.T) {
	next := rowOfNumbers(6)
	right, wrong := 0, 0
	for range 3000 {
		l := anyMarks(next)
		isRight := marksRightByHand(l)
		wantMarks(t, brief(l), l, isRight)
		if !isRight {
			wrong++
			wantKept(t, brief(l), l, []int64{int64(next(10))})
			continue
		}
		right++
		wantAnyKept(t, next, l)
		wantAnyBase(t, l)
	}
	if right < 800 || wrong < 800 {
		t.Errorf("too few marks are right, or are not: %d and %d", right, wrong)
	}
}

func wantAnyKept(t *testing.T, next func(int) int, l []impl.Mark) {
	t.Helper()
	var ids, all []int64
	for _, m := range l {
		chain := wantChainHolds(t, l, m.Id)
		if next(3) == 0 {
			ids = append(ids, m.Id)
			all = append(all, chain...)
		}
	}
	for i := range ids {
		k := next(len(ids))
		ids[i], ids[k] = ids[k], ids[i]
	}
	slices.Sort(all)
	wantKept(t, brief(l), l, ids, slices.Compact(all)...)
}

func wantAnyBase(t *testing.T, l []impl.Mark) {
	t.Helper()
	for level := int64(1); level <= 5; level++ {
		want := int64(0)
		for _, m := range l {
			if m.Level < level {
				want = m.Id
			}
		}
		wantBase(t, brief(l), l, level, want)
	}
}

// Marks as a host gets them: the level by LevelAt, the base by BaseFor. They are right at each step.
func TestMarksOfATower(t *testing.T) {
	for n := int64(1); n <= impl.MaxLevels; n++ {
		var l []impl.Mark
		for j := range int64(60) {
			level := impl.LevelAt(n, j)
			m := impl.Mark{Id: j + 1, Level: level, Base: impl.BaseFor(l, level)}
			l = append(l, m)
			wantMarks(t, "a tower of any height", l, true)
			chain := wantChainHolds(t, l, m.Id)
			if int64(len(chain)) > n {
				t.Errorf("of %d levels the chain %v is too long", n, chain)
			}
		}
	}
}

// Nothing is kept from call to call: an answer that is written over changes no other one.
func TestChainsAlone(t *testing.T) {
	l := towerMarks()
	want := []int64{1, 5, 7, 8}
	for what, call := range map[string]func() []int64{
		"ChainOf": func() []int64 { return impl.ChainOf(l, 8) },
		"Kept":    func() []int64 { return impl.Kept(l, []int64{8}) },
	} {
		first, second := call(), call()
		if listsOverlap(first, second) {
			t.Errorf("%s: two answers share memory", what)
		}
		clear(first)
		if !slices.Equal(second, want) || !slices.Equal(call(), want) {
			t.Errorf("%s: an answer has changed with another one", what)
		}
	}
}
