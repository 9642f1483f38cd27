package tests

import (
	"hash/crc32"
	"maps"
	"math"
	"slices"
	"strconv"
	"strings"
	"testing"

	"loop.example/g00310/impl"
)

func ownHosts(l []impl.Host) []impl.Host {
	out := make([]impl.Host, 0, len(l)+3)
	for _, h := range l {
		out = append(out, impl.Host{Name: strings.Clone(h.Name), Tree: ownFiles(h.Tree)})
	}
	return out
}

// ownServer is a copy of which every list and text has memory of its own, with spare places behind each list.
func ownServer(s impl.Server) impl.Server {
	s.Hosts, s.Tapes, s.Log = ownHosts(s.Hosts), ownTapes(s.Tapes), strings.Clone(s.Log)
	return s
}

func sameHost(a impl.Host, b impl.Host) bool {
	return a.Name == b.Name && slices.Equal(a.Tree, b.Tree)
}

// serverDiff names what two servers differ in, nothing where they are the same.
func serverDiff(a impl.Server, b impl.Server) string {
	out := ""
	for what, same := range map[string]bool{
		" Hosts": slices.EqualFunc(a.Hosts, b.Hosts, sameHost), " Tapes": sameTapes(a.Tapes, b.Tapes), " Log": a.Log == b.Log,
		" Synced": a.Synced == b.Synced, " Levels": a.Levels == b.Levels, " Keep": a.Keep == b.Keep, " Day": a.Day == b.Day,
	} {
		if !same {
			out += what
		}
	}
	return out
}

// serverTexts: all texts that a server has.
func serverTexts(s impl.Server) []string {
	out := []string{s.Log}
	for _, h := range s.Hosts {
		out = append(append(out, h.Name), textsOf(h.Tree)...)
	}
	for _, tape := range s.Tapes {
		out = append(out, tape.Blocks...)
	}
	return out
}

// anyListsOverlap: does one of these lists share memory with another one?
func anyListsOverlap[T any](lists [][]T) bool {
	for i, l := range lists {
		if slices.ContainsFunc(lists[i+1:], func(other []T) bool { return listsOverlap(l, other) }) {
			return true
		}
	}
	return false
}

// wantServersApart: no list and no text of these servers, and none of these texts, shares memory with another one.
func wantServersApart(t *testing.T, what string, a impl.Server, b impl.Server, texts ...string) {
	t.Helper()
	var trees [][]impl.File
	var blocks [][]string
	for _, s := range []impl.Server{a, b} {
		for _, h := range s.Hosts {
			trees = append(trees, h.Tree)
		}
		for _, tape := range s.Tapes {
			blocks = append(blocks, tape.Blocks)
		}
	}
	if listsOverlap(a.Hosts, b.Hosts) || listsOverlap(a.Tapes, b.Tapes) || anyListsOverlap(trees) || anyListsOverlap(blocks) {
		t.Errorf("%s: a list of the answer shares memory with what was handed in, or with another list of the answer", what)
	}
	if anyShareMemory(slices.Concat(serverTexts(a), serverTexts(b), texts)) {
		t.Errorf("%s: a text of the answer shares memory with what was handed in, or with another text of the answer", what)
	}
}

// wantServerAlone looks at a server of ownServer behind a call: it and all spare places are as they were.
func wantServerAlone(t *testing.T, what string, own impl.Server, was impl.Server) {
	t.Helper()
	if diff := serverDiff(own, was); diff != "" {
		t.Errorf("%s: the server that was handed in has changed:%s", what, diff)
		return
	}
	for i, h := range own.Hosts {
		wantListAlone(t, what, h.Tree, was.Hosts[i].Tree)
	}
	if slices.ContainsFunc(own.Hosts[len(own.Hosts):cap(own.Hosts)], func(h impl.Host) bool { return !sameHost(h, impl.Host{}) }) {
		t.Errorf("%s: behind the Hosts that were handed in something was written", what)
	}
	wantTapesAlone(t, what, own.Tapes, was.Tapes)
}

// wantTold calls with a server, and looks at the answer, at its memory, and at what was handed in.
func wantTold(t *testing.T, what string, s impl.Server, call func(impl.Server) impl.ServerOut, want impl.ServerOut, texts ...string) {
	t.Helper()
	own := ownServer(s)
	got := call(own)
	if diff := serverDiff(got.Server, want.Server); diff != "" || got.Id != want.Id || got.Code != want.Code {
		t.Errorf("%s: got Id %d, Code %d, want Id %d, Code %d; what differs:%s: got %s, want %s",
			what, got.Id, got.Code, want.Id, want.Code, diff, brief(got.Server), brief(want.Server))
	}
	wantServersApart(t, what, got.Server, own, texts...)
	wantServerAlone(t, what, own, s)
}

// wantMade is wantTold of a call that tells a server alone.
func wantMade(t *testing.T, what string, s impl.Server, call func(impl.Server) impl.Server, want impl.Server) {
	t.Helper()
	wantTold(t, what, s, func(own impl.Server) impl.ServerOut { return impl.ServerOut{Server: call(own)} }, impl.ServerOut{Server: want})
}

func wantServerRight(t *testing.T, what string, s impl.Server, want bool) {
	t.Helper()
	own := ownServer(s)
	if got := impl.ServerRight(own); got != want {
		t.Errorf("ServerRight: %s: got %v, want %v", what, got, want)
	}
	wantServerAlone(t, "ServerRight: "+what, own, s)
}

func wantHostPut(t *testing.T, what string, s impl.Server, host string, f impl.File, want impl.ServerOut) {
	t.Helper()
	host, f.Path, f.Data = strings.Clone(host), strings.Clone(f.Path), strings.Clone(f.Data)
	call := func(own impl.Server) impl.ServerOut { return impl.HostPut(own, host, f) }
	wantTold(t, "HostPut: "+what, s, call, want, host, f.Path, f.Data)
}

func wantHostDrop(t *testing.T, what string, s impl.Server, host string, path string, want impl.ServerOut) {
	t.Helper()
	host, path = strings.Clone(host), strings.Clone(path)
	call := func(own impl.Server) impl.ServerOut { return impl.HostDrop(own, host, path) }
	wantTold(t, "HostDrop: "+what, s, call, want, host, path)
}

func wantDay(t *testing.T, what string, s impl.Server, n int64, want impl.Server) {
	t.Helper()
	wantMade(t, "ServerDay: "+what, s, func(own impl.Server) impl.Server { return impl.ServerDay(own, n) }, want)
}

func wantPoints(t *testing.T, what string, s impl.Server, host string, want ...int64) {
	t.Helper()
	own := ownServer(s)
	if got := impl.Points(own, host); !slices.Equal(got, want) {
		t.Errorf("Points: %s: %.30q: got %v, want %v", what, host, got, want)
	}
	wantServerAlone(t, "Points: "+what, own, s)
}

func wantRestored(t *testing.T, what string, s impl.Server, host string, id int64, want impl.RestoreOut) {
	t.Helper()
	what = "Restore: " + what + ", " + strconv.FormatInt(id, 10)
	own, host := ownServer(s), strings.Clone(host)
	got := impl.Restore(own, host, id)
	if !slices.Equal(got.Tree, want.Tree) || !slices.Equal(got.Ids, want.Ids) || got.Code != want.Code {
		t.Errorf("%s: got %s, want %s", what, brief(got), brief(want))
	}
	wantServersApart(t, what, impl.Server{Hosts: []impl.Host{{Tree: got.Tree}}}, own, host)
	wantServerAlone(t, what, own, s)
}

func wantBackupAt(t *testing.T, what string, s impl.Server, host string, steps int64, want impl.ServerOut) {
	t.Helper()
	host = strings.Clone(host)
	call := func(own impl.Server) impl.ServerOut { return impl.BackupAt(own, host, steps) }
	wantTold(t, "BackupAt: "+what+", steps "+strconv.FormatInt(steps, 10), s, call, want, host)
	if steps == 4 {
		wantTold(t, "Backup: "+what, s, func(own impl.Server) impl.ServerOut { return impl.Backup(own, host) }, want, host)
	}
}

// wantNoBackup: with each number of steps it is refused.
func wantNoBackup(t *testing.T, what string, s impl.Server, host string, code int64) {
	t.Helper()
	for steps := range int64(5) {
		wantBackupAt(t, what, s, host, steps, impl.ServerOut{Code: code})
	}
}

func wantServerCrashed(t *testing.T, what string, s impl.Server, tapes []int64, log int64, want impl.Server) {
	t.Helper()
	ownKeep := ownList(tapes)
	what = "ServerCrash: " + what + ", tapes " + brief(tapes) + ", log " + strconv.FormatInt(log, 10)
	wantMade(t, what, s, func(own impl.Server) impl.Server { return impl.ServerCrash(own, ownKeep, log) }, want)
	wantListAlone(t, what, ownKeep, tapes)
}

func wantRecovered(t *testing.T, what string, s impl.Server, want impl.Server) {
	t.Helper()
	wantMade(t, "ServerRecover: "+what, s, impl.ServerRecover, want)
}

func wantPruned(t *testing.T, what string, s impl.Server, want impl.ServerOut) {
	t.Helper()
	wantTold(t, "Prune: "+what, s, impl.Prune, want)
}

func wantRecycled(t *testing.T, what string, s impl.Server, want impl.ServerOut) {
	t.Helper()
	wantTold(t, "Recycle: "+what, s, impl.Recycle, want)
}

func withLog(s impl.Server, log string) impl.Server {
	s.Log, s.Synced = log, int64(len(log))
	return s
}

func withHosts(s impl.Server, hosts ...impl.Host) impl.Server {
	s.Hosts = hosts
	return s
}

func withTapes(s impl.Server, tapes ...impl.Tape) impl.Server {
	s.Tapes = tapes
	return s
}

func allNumbers(l []impl.Tape) []int64 {
	var out []int64
	for i := range l {
		out = append(out, int64(i))
	}
	return out
}

func syncedByHand(l []impl.Tape) []impl.Tape {
	out := slices.Clone(l)
	for i, tape := range l {
		out[i].Synced = int64(len(tape.Blocks))
	}
	return out
}

// ofText: the dump with what it tells of a text, and of where that stands.
func ofText(d impl.Dump, text string, parts []impl.Part) impl.Dump {
	d.Many, d.Crc, d.Parts = int64(len(text)), int64(crc32.ChecksumIEEE([]byte(text))), parts
	return d
}

// withText: the server with a dump more, whose bytes are that text, right or not.
func withText(s impl.Server, d impl.Dump, text string) impl.Server {
	out := writtenByHand(s.Tapes, allNumbers(s.Tapes), text)
	if out.Code != impl.OK {
		panic("a server by hand: no room for the dump " + strconv.FormatInt(d.Id, 10))
	}
	s.Tapes = syncedByHand(out.Tapes)
	return withLog(s, s.Log+addByHand(ofText(d, text, out.Parts)))
}

func withDump(s impl.Server, d impl.Dump, delta impl.Delta) impl.Server {
	return withText(s, d, deltaByHand(delta))
}

// plainServer has no Hosts, and nothing on its tapes.
func plainServer() impl.Server {
	return impl.Server{Tapes: []impl.Tape{{Room: 300}, {Room: 300}}, Levels: 3, Keep: 2}
}

func treeA() []impl.File {
	return []impl.File{dataAt("a", "one"), dirAt("d"), dataAt("d/x", "deep")}
}

func treeB() []impl.File {
	return []impl.File{dataAt("long", bytesRun(1200)), dataAt("z", "b's last")}
}

// sampleServer has dumps of two hosts, one that was dropped from the log, and one that goes on over several tapes.
func sampleServer() impl.Server {
	s := impl.Server{Levels: 3, Keep: 2, Day: 40}
	s.Tapes = []impl.Tape{{Label: 3, Room: 90}, {Room: 70}, {Label: 9}, {Label: mostLabel, Room: 100}, {Label: 1, Room: 300}}
	s.Hosts = []impl.Host{{Name: "a", Tree: with(treeA(), dataAt("new", "since"))}, {Name: "a_b"}, {Name: "b", Tree: treeB()}}
	s = withDump(s, impl.Dump{Id: 2, Host: "a", Day: 9}, impl.Delta{Puts: treeA()})
	s = withDump(s, impl.Dump{Id: 3, Host: "b", Run: 4, Day: 9}, impl.Delta{Puts: treeB()})
	s = withDump(s, impl.Dump{Id: 5, Host: "a", Run: 5, Level: 2, Base: 2, Day: 20}, impl.Delta{Drops: []string{"a"}, Puts: []impl.File{dataAt("n", "5")}})
	s = withDump(s, impl.Dump{Id: 6, Host: "a", Run: 6, Level: 1, Base: 2, Day: 30}, impl.Delta{Drops: []string{"d", "d/x"}, Puts: []impl.File{dataAt("a", "six")}})
	s = withDump(s, impl.Dump{Id: 7, Host: "b", Run: 5, Level: 2, Base: 3, Day: 30}, impl.Delta{})
	s = withDump(s, impl.Dump{Id: 9, Host: "a", Run: 7, Level: 2, Base: 6, Day: 30}, impl.Delta{Puts: []impl.File{dataAt("nine", "9")}})
	s = withDump(s, impl.Dump{Id: 12, Host: "b", Run: 6, Level: 1, Base: 3, Day: 30}, impl.Delta{Drops: []string{"long"}})
	return withLog(s, s.Log+dropByHand(12))
}

// samplePoints: what is restored of each dump of the sample, with its chain.
func samplePoints() map[string]map[int64]impl.RestoreOut {
	return map[string]map[int64]impl.RestoreOut{
		"a": {
			2: {Tree: treeA(), Ids: []int64{2}},
			5: {Tree: []impl.File{dirAt("d"), dataAt("d/x", "deep"), dataAt("n", "5")}, Ids: []int64{2, 5}},
			6: {Tree: []impl.File{dataAt("a", "six")}, Ids: []int64{2, 6}},
			9: {Tree: []impl.File{dataAt("a", "six"), dataAt("nine", "9")}, Ids: []int64{2, 6, 9}},
		},
		"b": {3: {Tree: treeB(), Ids: []int64{3}}, 7: {Tree: treeB(), Ids: []int64{3, 7}}},
	}
}

// filledLog: the log with dumps that come and go behind it, of Ids from that one on, so that it has just so many bytes.
func filledLog(log string, bytes int, id int64) string {
	pair := func(host string, parts int) string {
		return addByHand(impl.Dump{Id: id, Host: host, Parts: someParts(parts, impl.Part{})}) + dropByHand(id)
	}
	for ; bytes-len(log) >= len(pair("fill", 0))+len(pair("f", 0)); id++ {
		log += pair("fill", 0)
	}
	for size := 1; size <= 20; size++ {
		for parts := range 9 {
			if last := pair(strings.Repeat("f", size), parts); len(log)+len(last) == bytes {
				return log + last
			}
		}
	}
	panic("a log by hand: can't be filled to " + strconv.Itoa(bytes) + " bytes")
}

// crowdedServer has that many dumps, all of one host, and all of Level 0.
func crowdedServer(dumps int) impl.Server {
	s := withHosts(plainServer(), impl.Host{Name: "h", Tree: treeA()})
	s.Tapes = append(s.Tapes, s.Tapes...)
	for id := range int64(dumps) {
		s = withDump(s, impl.Dump{Id: id + 1, Host: "h", Run: id}, impl.Delta{})
	}
	return s
}

func someHosts(many int) []impl.Host {
	var out []impl.Host
	for i := range many {
		out = append(out, impl.Host{Name: "host_" + strconv.Itoa(i), Tree: manyFiles(i)})
	}
	return out
}

// withBlock: the tapes with another block in the place of one.
func withBlock(l []impl.Tape, tape int, at int, block string) []impl.Tape {
	out := slices.Clone(l)
	out[tape].Blocks = withItem(l[tape].Blocks, at, block)
	return out
}

// lastByteTurned: the block in which a dump's bytes end, with the byte turned that stands there, or the one behind it.
func lastByteTurned(s impl.Server, d impl.Dump, behind int64) impl.Server {
	at := (d.Many - 1 + behind) % impl.TapeBlock
	p := d.Parts[len(d.Parts)-1]
	block := []byte(s.Tapes[p.Tape].Blocks[p.At+p.Many-1])
	block[at] ^= 1
	s.Tapes = withBlock(s.Tapes, int(p.Tape), int(p.At+p.Many-1), string(block))
	return s
}

// sharedParts: two dumps whose bytes stand at one place.
func sharedParts() impl.Server {
	s := withDump(plainServer(), impl.Dump{Id: 1, Host: "h"}, impl.Delta{Puts: treeA()})
	d := impl.LogOf(s.Log).Dumps[0]
	d.Id, d.Run = 2, 1
	return withLog(s, s.Log+addByHand(d))
}

// splitParts: a dump with a Part of no blocks ahead, and its blocks told in two Parts.
func splitParts() impl.Server {
	s := withDump(plainServer(), impl.Dump{Id: 1, Host: "h"}, impl.Delta{Puts: treeA()})
	d := impl.LogOf(s.Log).Dumps[0]
	many := d.Parts[0].Many
	d.Parts = []impl.Part{{Tape: 1}, {Many: 5}, {At: 5, Many: many - 5}, {At: many}}
	return withLog(s, addByHand(d))
}

// eightTapes have just so much room that the least dump has a Part on each.
func eightTapes() []impl.Tape {
	return withItem(emptyTapes(8, 2), 3, impl.Tape{Label: 7, Room: 3})
}

// rightServers: at the edges that the document names.
func rightServers() map[string]impl.Server {
	plain, sample := plainServer(), sampleServer()
	out := map[string]impl.Server{
		"a new one":                    plain,
		"the sample":                   sample,
		"MaxHosts Hosts":               withHosts(plain, someHosts(6)...),
		"Names that begin another":     withHosts(plain, impl.Host{Name: "a"}, impl.Host{Name: "a0"}, impl.Host{Name: "a_"}, impl.Host{Name: "aa"}),
		"the shortest and the longest": withHosts(plain, impl.Host{Name: "a", Tree: manyFiles(20)}, impl.Host{Name: strings.Repeat("z", 20), Tree: sampleTree()}),
		"dumps, and no Hosts":          withHosts(sample),
		"a tape without room":          withTapes(plain, impl.Tape{}),
		"MaxTapes full tapes":          withTapes(plain, syncedByHand(fullTapes(8))...),
		"a Label of 1000000":           withTapes(plain, impl.Tape{Label: mostLabel, Blocks: tapeBlocks(0, 2), Synced: 2, Room: 2}),
		"MaxDumps":                     crowdedServer(40),
		"a log of MaxBytes bytes":      withLog(sample, filledLog(sample.Log, impl.MaxBytes, 1000)),
		"two dumps at one place":       sharedParts(),
		"Parts of no blocks":           splitParts(),
		"files that are no tree":       withDump(plain, impl.Dump{Id: 1, Host: "h"}, impl.Delta{Puts: []impl.File{dataAt("no/dir", "")}}),
		"a drop of what is not there":  withDump(plain, impl.Dump{Id: 1, Host: "h"}, impl.Delta{Drops: []string{"none"}}),
		"a dump of MaxBytes bytes":     withDump(plain, impl.Dump{Id: 1, Host: "h"}, fullDelta(30)),
		"a dump on eight tapes":        withDump(withTapes(plain, eightTapes()...), impl.Dump{Id: 1, Host: "h"}, impl.Delta{}),
		"the greatest Id and Run":      withDump(plain, impl.Dump{Id: mostId, Host: "h", Run: mostRun, Day: impl.MaxTime}, impl.Delta{}),
		"a byte turned behind a dump":  lastByteTurned(sample, impl.LogOf(sample.Log).Dumps[0], 1),
	}
	for n := int64(1); n <= 6; n++ {
		levels := sample
		levels.Levels = n
		out["Levels "+strconv.FormatInt(n, 10)] = levels
	}
	for n := int64(1); n <= 10; n++ {
		keep := sample
		keep.Keep = n
		out["Keep "+strconv.FormatInt(n, 10)] = keep
	}
	for _, n := range []int64{0, 1, impl.MaxTime - 1, impl.MaxTime} {
		day := sample
		day.Day = n
		out["Day "+strconv.FormatInt(n, 10)] = day
	}
	return out
}

// wrongHosts: Hosts of which one rule is broken.
func wrongHosts() map[string][]impl.Host {
	out := map[string][]impl.Host{
		"a Host more than MaxHosts":  someHosts(7),
		"many Hosts":                 someHosts(9),
		"Names alike":                {{Name: "a"}, {Name: "a"}},
		"Names alike, trees not":     {{Name: "a", Tree: treeA()}, {Name: "b"}, {Name: "b", Tree: treeB()}},
		"Names that fall":            {{Name: "b"}, {Name: "a"}},
		"Names that fall at the end": {{Name: "a"}, {Name: "c"}, {Name: "b"}},
		"the shorter Name behind":    {{Name: "ab"}, {Name: "a"}},
		"the first Name again":       {{Name: "a"}, {Name: "b"}, {Name: "a"}},
	}
	for _, name := range []string{"", "0", "A", "_a", "a b", "a/b", "\xff", strings.Repeat("a", 21), tooLong[1:], tooLong} {
		what := "the Name " + strconv.Quote(name[:min(len(name), 22)]) + " of bytes " + strconv.Itoa(len(name))
		out[what] = []impl.Host{{Name: name, Tree: treeA()}}
		hosts := []impl.Host{{Name: name}, {Name: "h", Tree: treeA()}}
		if name > "h" {
			slices.Reverse(hosts)
		}
		out[what+", beside another"] = hosts
	}
	for what, tree := range wrongTrees() {
		out["a tree: "+what] = []impl.Host{{Name: "a", Tree: tree}}
		out["the second tree: "+what] = []impl.Host{{Name: "a", Tree: treeA()}, {Name: "b", Tree: tree}, {Name: "c"}}
	}
	out["a tree of more than MaxList files"] = []impl.Host{{Name: "a", Tree: manyFiles(impl.MaxList + 1)}}
	return out
}

// unreadServers: those of which one dump can't be read.
func unreadServers() map[string]impl.Server {
	sample := sampleServer()
	dumps := impl.LogOf(sample.Log).Dumps
	out := map[string]impl.Server{}
	for i, d := range dumps {
		out["the last byte turned of dump "+strconv.Itoa(i)] = lastByteTurned(sample, d, 0)
		first := d.Parts[0]
		out["the first block of dump "+strconv.Itoa(i)] = withBoth(sample, withBlock(sample.Tapes, int(first.Tape), int(first.At), tapeBlocks(0, 1)[0]))
	}
	for i, tape := range sample.Tapes {
		if len(tape.Blocks) > 0 {
			out["another Label of tape "+strconv.Itoa(i)] = withBoth(sample, withItem(sample.Tapes, i, relabelled(tape)))
			cut := tape
			cut.Blocks = tape.Blocks[:2]
			cut.Synced = 2
			out["fewer blocks of tape "+strconv.Itoa(i)] = withBoth(sample, withItem(sample.Tapes, i, cut))
		}
	}
	out["a tape fewer"] = withBoth(sample, sample.Tapes[:3])
	swapped := slices.Clone(sample.Tapes)
	swapped[0], swapped[1] = swapped[1], swapped[0]
	out["tapes swapped"] = withBoth(sample, swapped)
	for what, d := range turnedDumps(sample, dumps[1]) {
		log := strings.Replace(sample.Log, addByHand(dumps[1]), addByHand(d), 1)
		out["a dump with "+what] = withLog(sample, log)
		out["a last dump with "+what] = withLog(sample, sample.Log+addByHand(asNext(d)))
	}
	for what, text := range noDeltas() {
		out["the bytes of no delta: "+what] = withText(plainServer(), impl.Dump{Id: 1, Host: "h"}, text)
		out["a last dump of no delta: "+what] = withText(sample, impl.Dump{Id: 20, Host: "h"}, text)
	}
	return out
}

func withBoth(s impl.Server, tapes []impl.Tape) impl.Server {
	s.Tapes = tapes
	return s
}

// relabelled: the tape with a Label that no Part has.
func relabelled(tape impl.Tape) impl.Tape {
	tape.Label = 77
	return tape
}

// asNext: the dump as one that may stand behind those of the sample.
func asNext(d impl.Dump) impl.Dump {
	d.Id, d.Run, d.Level, d.Base = 20, 20, 0, 0
	return d
}

// turnedDumps: the dump with one number turned of those that tell where it stands, and what it is.
func turnedDumps(s impl.Server, d impl.Dump) map[string]impl.Dump {
	out := map[string]impl.Dump{}
	turned := func(what string, turn func(d *impl.Dump)) {
		other := ownDump(d)
		turn(&other)
		out[what] = other
	}
	last := len(d.Parts) - 1
	turned("another Crc", func(d *impl.Dump) { d.Crc ^= 1 })
	turned("the Crc 0", func(d *impl.Dump) { d.Crc = 0 })
	turned("a byte fewer", func(d *impl.Dump) { d.Many-- })
	turned("a byte more", func(d *impl.Dump) { d.Many++ })
	turned("no bytes", func(d *impl.Dump) { d.Many = 0 })
	turned("more bytes than blocks", func(d *impl.Dump) { d.Many += impl.TapeBlock })
	turned("no Parts", func(d *impl.Dump) { d.Parts = nil })
	turned("a Part fewer", func(d *impl.Dump) { d.Parts = d.Parts[:last] })
	turned("Parts turned round", func(d *impl.Dump) { slices.Reverse(d.Parts) })
	turned("a Part of a later place", func(d *impl.Dump) { d.Parts[0].At++ })
	turned("a Part of a block fewer", func(d *impl.Dump) { d.Parts[0].Many-- })
	turned("a Part of another tape", func(d *impl.Dump) { d.Parts[0].Tape = 1 })
	turned("a Part of no tape", func(d *impl.Dump) { d.Parts[0].Tape = 7 })
	turned("a Part of another Label", func(d *impl.Dump) { d.Parts[last].Turn++ })
	turned("a Part more, of another Label", func(d *impl.Dump) { d.Parts = append(d.Parts, impl.Part{Turn: 1}) })
	turned("a Part more, behind all blocks", func(d *impl.Dump) { d.Parts = append(d.Parts, impl.Part{Turn: 3, At: 91}) })
	return out
}

// noDeltas: texts that are the bytes of no right Delta.
func noDeltas() map[string]string {
	out := map[string]string{
		"the empty text": "", "a byte 0": "\x00", "words": "no delta", "any bytes": bytesRun(300), "an archive alone": archiveByHand(treeA()),
		"a byte behind it": deltaByHand(impl.Delta{Puts: treeA()}) + "\x00", "a byte fewer": deltaByHand(impl.Delta{})[1:],
		"41 drops": deltaByHand(impl.Delta{Drops: manyPaths(41)}), "21 puts": deltaByHand(impl.Delta{Puts: emptyFiles(21)}),
		"puts that fall": deltaByHand(impl.Delta{Puts: []impl.File{dataAt("b", ""), dataAt("a", "")}}),
		"a path of both": deltaByHand(impl.Delta{Drops: []string{"a"}, Puts: []impl.File{dataAt("a", "")}}),
	}
	return out
}

// wrongLogs: logs that are not gone through to their end, behind that of the sample.
func wrongLogs() map[string]string {
	log := sampleServer().Log
	out := map[string]string{
		"a byte more": log + "\x00", "a byte fewer": log[:len(log)-1], "half of it": log[:len(log)/2], "the second half": log[len(log)/2:],
		"the dump again that was dropped": log + dropByHand(12), "a base dropped": log + dropByHand(2), "an Id that falls": log + addByHand(impl.Dump{Id: 4, Host: "x"}),
		"MaxBytes bytes, no log": tooLong[1:], "a byte more than MaxBytes": tooLong, "a log of a byte more than MaxBytes": filledLog(log, impl.MaxBytes+1, 1000),
		"a log of many bytes": filledLog(log, 3*impl.MaxBytes, 1000),
	}
	for what, record := range wrongForms() {
		out["a record: "+what] = log + record
	}
	return out
}

// wrongNumbers: the sample with one of its numbers beyond its edge.
func wrongNumbers() map[string]impl.Server {
	out := map[string]impl.Server{}
	long := int64(len(sampleServer().Log))
	for what, e := range map[string]struct {
		field func(s *impl.Server) *int64
		nums  []int64
	}{
		"Synced": {func(s *impl.Server) *int64 { return &s.Synced }, []int64{-1, 0, long - 1, long + 1, impl.MaxBytes, math.MinInt64, math.MaxInt64}},
		"Levels": {func(s *impl.Server) *int64 { return &s.Levels }, []int64{-1, 0, 7, 8, math.MinInt64, math.MaxInt64}},
		"Keep":   {func(s *impl.Server) *int64 { return &s.Keep }, []int64{-1, 0, 11, 12, math.MinInt64, math.MaxInt64}},
		"Day":    {func(s *impl.Server) *int64 { return &s.Day }, []int64{-1, impl.MaxTime + 1, math.MinInt64, math.MaxInt64}},
	} {
		for _, n := range e.nums {
			s := sampleServer()
			*e.field(&s) = n
			out[what+" "+strconv.FormatInt(n, 10)] = s
		}
	}
	return out
}

// wrongTapesOf: servers without dumps whose tapes break one rule, and the sample with a tape that is not all Synced.
func wrongTapesOf() map[string]impl.Server {
	out := map[string]impl.Server{
		"no tapes":             withTapes(plainServer()),
		"a tape too many":      withTapes(plainServer(), emptyTapes(9, 3)...),
		"MaxList tapes":        withTapes(plainServer(), emptyTapes(impl.MaxList, 3)...),
		"more than MaxList":    withTapes(plainServer(), emptyTapes(impl.MaxList+1, 3)...),
		"the sample and more":  withTapes(sampleServer(), append(sampleServer().Tapes, emptyTapes(4, 3)...)...),
		"one block not Synced": withTapes(plainServer(), impl.Tape{}, impl.Tape{Blocks: tapeBlocks(0, 1), Room: 1}),
	}
	for what, tape := range wrongOnes() {
		out["a tape: "+what] = withTapes(plainServer(), tape)
		out["a tape behind one: "+what] = withTapes(plainServer(), impl.Tape{Room: 300}, tape)
		tape.Synced = int64(len(tape.Blocks))
		if !impl.TapesRight([]impl.Tape{tape}) {
			out["a tape all Synced: "+what] = withTapes(plainServer(), tape)
		}
	}
	sample := sampleServer()
	for i, tape := range sample.Tapes {
		for _, less := range []int64{1, 2, tape.Synced} {
			other := tape
			other.Synced -= less
			if less > 0 && other.Synced >= 0 {
				out["not all Synced of tape "+strconv.Itoa(i)+", less "+strconv.FormatInt(less, 10)] = withTapes(sample, withItem(sample.Tapes, i, other)...)
			}
		}
	}
	return out
}

// wrongServers: each breaks one rule, or more.
func wrongServers() map[string]impl.Server {
	out := map[string]impl.Server{"the zero one": {}}
	for what, hosts := range wrongHosts() {
		out["Hosts: "+what] = withHosts(sampleServer(), hosts...)
		out["Hosts of a new one: "+what] = withHosts(plainServer(), hosts...)
	}
	for what, log := range wrongLogs() {
		out["a log: "+what] = withLog(sampleServer(), log)
	}
	last := dropByHand(12)
	for what, log := range map[string]string{
		"a byte":         sampleServer().Log + "\x00",
		"a record":       sampleServer().Log + dropByHand(9),
		"half a record":  sampleServer().Log + dropByHand(9)[:4],
		"a wrong record": sampleServer().Log + last,
		"a record fewer": strings.TrimSuffix(sampleServer().Log, last),
		"nothing at all": "",
	} {
		s := sampleServer()
		s.Log = log
		out["Synced of another log: "+what] = s
	}
	for _, more := range []map[string]impl.Server{unreadServers(), wrongNumbers(), wrongTapesOf()} {
		for what, s := range more {
			out[what] = s
		}
	}
	return out
}

// someWrong: a few of the wrong servers, of each kind.
func someWrong() map[string]impl.Server {
	sample := sampleServer()
	return map[string]impl.Server{
		"the zero one":      {},
		"Names that fall":   withHosts(sample, impl.Host{Name: "b"}, impl.Host{Name: "a"}),
		"a wrong tree":      withHosts(sample, impl.Host{Name: "a", Tree: []impl.File{dataAt("no/dir", "")}}),
		"no tapes":          withTapes(sample),
		"a byte of the log": withLog(sample, sample.Log+"\x00"),
		"a log too long":    withLog(sample, filledLog(sample.Log, impl.MaxBytes+1, 1000)),
		"Synced one less":   wrongNumbers()["Synced "+strconv.Itoa(len(sample.Log)-1)],
		"Levels 0":          wrongNumbers()["Levels 0"],
		"Keep 11":           wrongNumbers()["Keep 11"],
		"Day -1":            wrongNumbers()["Day -1"],
		"a byte turned":     lastByteTurned(sample, impl.LogOf(sample.Log).Dumps[2], 0),
		"a tape cleared":    withTapes(sample, withItem(sample.Tapes, 0, impl.Tape{Label: 4, Room: 90})...),
		"not all Synced":    impl.Server{Tapes: []impl.Tape{{Blocks: tapeBlocks(0, 1), Room: 4}}, Levels: 3, Keep: 2},
	}
}

func TestServerRight(t *testing.T) {
	for what, s := range rightServers() {
		wantServerRight(t, what, s, true)
	}
	for what, s := range wrongServers() {
		wantServerRight(t, what, s, false)
	}
	for what, s := range someWrong() {
		wantServerRight(t, "some: "+what, s, false)
	}
	for many := range 12 {
		wantServerRight(t, strconv.Itoa(many)+" Hosts", withHosts(sampleServer(), someHosts(many)...), many <= 6)
		wantServerRight(t, strconv.Itoa(many)+" tapes", withTapes(plainServer(), emptyTapes(many, 3)...), many >= 1 && many <= 8)
	}
}

func TestServersOfDumpsWithABlockTurned(t *testing.T) {
	sample := sampleServer()
	dropped := 0
	for i, tape := range sample.Tapes {
		for at, block := range tape.Blocks {
			needed := slices.ContainsFunc(impl.LogOf(sample.Log).Dumps, func(d impl.Dump) bool {
				return slices.ContainsFunc(d.Parts, func(p impl.Part) bool {
					return p.Tape == int64(i) && p.At <= int64(at) && int64(at) < p.At+p.Many
				})
			})
			if !needed {
				dropped++
			}
			turned := string([]byte{block[0] ^ 64}) + block[1:]
			wantServerRight(t, "a block turned", withTapes(sample, withBlock(sample.Tapes, i, at, turned)...), !needed)
		}
	}
	if dropped != 17 {
		t.Errorf("by hand: %d blocks are of no dump", dropped)
	}
}

func TestServerNew(t *testing.T) {
	far := []int64{math.MinInt64, -1 << 32, -1, 0, 1, 2, 3, 5, 6, 7, 8, 9, 10, 11, 12, 1 << 32, math.MaxInt64}
	for _, levels := range far {
		for _, keep := range far {
			for _, tapes := range far {
				for _, room := range []int64{math.MinInt64, -1, 0, 1, 299, 300, 301, 1 << 32, math.MaxInt64} {
					want := impl.Server{}
					if levels >= 1 && levels <= 6 && keep >= 1 && keep <= 10 && tapes >= 1 && tapes <= 8 && room >= 0 && room <= 300 {
						want = impl.Server{Tapes: slices.Repeat([]impl.Tape{{Room: room}}, int(tapes)), Levels: levels, Keep: keep}
					}
					got := impl.ServerNew(levels, keep, tapes, room)
					if diff := serverDiff(got, want); diff != "" || impl.ServerRight(got) != (want.Levels > 0) {
						t.Fatalf("ServerNew(%d, %d, %d, %d): differs:%s, got %s", levels, keep, tapes, room, diff, brief(got))
					}
				}
			}
		}
	}
}

// Promise 23: a new server has nothing.
func TestANewServerHasNothing(t *testing.T) {
	s := impl.ServerNew(2, 3, 8, 40)
	for _, host := range []string{"a", "", "A"} {
		wantPoints(t, "a new server", s, host)
		wantRestored(t, "a new server", s, host, 1, impl.RestoreOut{Code: impl.ErrNone})
		wantNoBackup(t, "a new server", s, host, impl.ErrNone)
	}
	wantPruned(t, "a new server", s, impl.ServerOut{Server: s})
	wantRecycled(t, "a new server", s, impl.ServerOut{Server: s})
	wantRecovered(t, "a new server", s, s)
	wantServerCrashed(t, "a new server", s, []int64{4}, 9, s)
	wantServersApart(t, "two new servers", s, impl.ServerNew(2, 3, 8, 40))
}

// hostAt: the server with that tree in the place of one of its Hosts.
func hostAt(s impl.Server, at int, tree []impl.File) impl.Server {
	s.Hosts = withItem(s.Hosts, at, impl.Host{Name: s.Hosts[at].Name, Tree: tree})
	return s
}

func TestHostPut(t *testing.T) {
	s := sampleServer()
	a, b := s.Hosts[0].Tree, s.Hosts[2].Tree
	told := func(s impl.Server) impl.ServerOut { return impl.ServerOut{Server: s} }
	wantHostPut(t, "a new File", s, "a", dataAt("q", "Q"), told(hostAt(s, 0, with(a, dataAt("q", "Q")))))
	wantHostPut(t, "a File of the last Host", s, "b", dataAt("q", "Q"), told(hostAt(s, 2, with(b, dataAt("q", "Q")))))
	wantHostPut(t, "a File of no Files", s, "a_b", dataAt("q", "Q"), told(hostAt(s, 1, []impl.File{dataAt("q", "Q")})))
	wantHostPut(t, "another File", s, "a", dataAt("a", "two"), told(hostAt(s, 0, with(without(a, "a"), dataAt("a", "two")))))
	wantHostPut(t, "the same File", s, "a", a[0], told(s))
	wantHostPut(t, "a Dir", s, "a", dirAt("e"), told(hostAt(s, 0, with(a, dirAt("e")))))
	wantHostPut(t, "the same Dir", s, "a", dirAt("d"), told(s))
	other := impl.File{Path: "d", Dir: true, Mode: 1, Time: 4}
	wantHostPut(t, "another Dir", s, "a", other, told(hostAt(s, 0, with(without(a, "d"), other))))
	deep := dataAt("q/r/s", "deep")
	wantHostPut(t, "a deep File", s, "a", deep, told(hostAt(s, 0, with(a, dirAt("q"), dirAt("q/r"), deep))))
	for i, f := range edgeFiles(true) {
		wantHostPut(t, "the right file "+strconv.Itoa(i), s, "b", f, told(hostAt(s, 2, with(b, f))))
	}
	wantHostPut(t, "the longest path", s, "b", dataAt(pathOfSize(150), ""), told(hostAt(s, 2, impl.TreePut(b, dataAt(pathOfSize(150), "")))))
}

func TestHostPutOfNewHosts(t *testing.T) {
	f, deep := dataAt("q", "Q"), dataAt("d/q", "Q")
	for many := range 7 {
		hosts := someHosts(many)
		s := withHosts(sampleServer(), hosts...)
		for at, name := range []string{"first", "host_", "host_00", "host_1_", "host_20", "host_4x", "z", "a", strings.Repeat("z", 20)} {
			what := "the Host " + name + " beside " + strconv.Itoa(many)
			if many == 6 {
				wantHostPut(t, what, s, name, f, impl.ServerOut{Code: impl.ErrFull})
				wantHostPut(t, what, s, name, overTwenty(), impl.ServerOut{Code: impl.ErrFull})
				continue
			}
			after := append(slices.Clone(hosts), impl.Host{Name: name, Tree: []impl.File{dirAt("d"), deep}})
			slices.SortFunc(after, func(a impl.Host, b impl.Host) int { return strings.Compare(a.Name, b.Name) })
			wantHostPut(t, what, s, name, deep, impl.ServerOut{Server: withHosts(s, after...)})
			if at < 3 {
				wantHostPut(t, what, s, name, overTwenty(), impl.ServerOut{Code: impl.ErrState})
			}
		}
		for i, h := range hosts {
			wantHostPut(t, "one of "+strconv.Itoa(many), s, h.Name, f, impl.ServerOut{Server: hostAt(s, i, with(h.Tree, f))})
		}
	}
}

// overTwenty needs more Dirs than a tree may have.
func overTwenty() impl.File {
	return dataAt(strings.Repeat("a/", 40)+"a", "")
}

func TestHostPutThatIsRefused(t *testing.T) {
	s := sampleServer()
	form, state := impl.ServerOut{Code: impl.ErrForm}, impl.ServerOut{Code: impl.ErrState}
	for i, f := range edgeFiles(false) {
		wantHostPut(t, "the wrong file "+strconv.Itoa(i), s, "a", f, form)
		wantHostPut(t, "the wrong file "+strconv.Itoa(i), withHosts(s, someHosts(6)...), "z", f, form)
	}
	for _, host := range []string{"", "A", "0", "_", "a b", "a/b", "ä", strings.Repeat("a", 21), tooLong[1:]} {
		wantHostPut(t, "no name", s, host, dataAt("q", ""), form)
		wantHostPut(t, "no name", withHosts(s, someHosts(6)...), host, dataAt("q", ""), form)
	}
	for what, wrong := range someWrong() {
		wantHostPut(t, what, wrong, "a", dataAt("q", ""), form)
		wantHostPut(t, what, wrong, tooLong, dataAt("q", ""), impl.ServerOut{Code: impl.ErrSize})
	}
	wantHostPut(t, "a Host of a byte too many", s, tooLong, dataAt("q", ""), impl.ServerOut{Code: impl.ErrSize})
	wantHostPut(t, "a Host of a byte too many, a wrong file", s, tooLong, impl.File{}, impl.ServerOut{Code: impl.ErrSize})
	wantHostPut(t, "a Path of MaxBytes bytes", s, "a", dataAt(tooLong[1:], ""), form)
	wantHostPut(t, "a Path of a byte more", s, "a", dataAt(tooLong, ""), form)
	wantHostPut(t, "a File in the place of a Dir", s, "a", dataAt("d", ""), state)
	wantHostPut(t, "a Dir in the place of a File", s, "a", dirAt("a"), state)
	wantHostPut(t, "below a File", s, "a", dataAt("a/b", ""), state)
	wantHostPut(t, "a Dir deep below a File", s, "a", dirAt("d/x/y/z"), state)
	wantHostPut(t, "too many Dirs", s, "a", overTwenty(), state)
	for many := range 21 {
		full := hostAt(s, 1, manyFiles(many))
		put := impl.ServerOut{Server: hostAt(s, 1, with(manyFiles(many), dataAt("q", "")))}
		deep := impl.ServerOut{Server: hostAt(s, 1, with(manyFiles(many), dirAt("p"), dataAt("p/q", "")))}
		if many > 19 {
			put = state
		}
		if many > 18 {
			deep = state
		}
		wantHostPut(t, strconv.Itoa(many)+" Files", full, "a_b", dataAt("q", ""), put)
		wantHostPut(t, strconv.Itoa(many)+" Files", full, "a_b", dataAt("p/q", ""), deep)
		if many > 0 {
			changed := hostAt(s, 1, with(manyFiles(many)[1:], dataAt("f1000", "2")))
			wantHostPut(t, strconv.Itoa(many)+" Files, one changed", full, "a_b", dataAt("f1000", "2"), impl.ServerOut{Server: changed})
		}
	}
}

func TestHostDrop(t *testing.T) {
	s := hostAt(sampleServer(), 2, sampleTree())
	a := s.Hosts[0].Tree
	told := func(s impl.Server) impl.ServerOut { return impl.ServerOut{Server: s} }
	wantHostDrop(t, "a File", s, "a", "new", told(hostAt(s, 0, treeA())))
	wantHostDrop(t, "a File below", s, "a", "d/x", told(hostAt(s, 0, without(a, "d/x"))))
	wantHostDrop(t, "a Dir with a File below", s, "a", "d", told(hostAt(s, 0, without(a, "d", "d/x"))))
	wantHostDrop(t, "a Dir with all below", s, "b", "a", told(hostAt(s, 2, without(sampleTree(), "a", "a/b", "a/b-", "a/b/c", "a/b/c/d", "a/bb"))))
	wantHostDrop(t, "a deep Dir", s, "b", "a/b", told(hostAt(s, 2, without(sampleTree(), "a/b", "a/b/c", "a/b/c/d"))))
	wantHostDrop(t, "a Dir with nothing below", s, "b", "empty", told(hostAt(s, 2, without(sampleTree(), "empty"))))
	one := hostAt(s, 1, []impl.File{dataAt("last", "x")})
	wantHostDrop(t, "the last File", one, "a_b", "last", told(hostAt(s, 1, nil)))
	none := impl.ServerOut{Code: impl.ErrNone}
	for _, path := range []string{"no", "d/", "/d", "d/y", "d/x/y", "D", "", "/", ".", "a b", "ne", "newer", pathOfSize(150), pathOfSize(151), tooLong[1:]} {
		wantHostDrop(t, "a path that is not there", s, "a", path, none)
		wantHostDrop(t, "no Files", s, "a_b", path, none)
		wantHostDrop(t, "no such Host", s, "c", path, none)
	}
	for _, host := range []string{"c", "aa", "a_", "a_bc", strings.Repeat("a", 20)} {
		wantHostDrop(t, "no such Host", s, host, "new", none)
		wantHostDrop(t, "no Hosts", plainServer(), host, "new", none)
	}
	for _, host := range []string{"", "A", "0", "_", "a b", strings.Repeat("a", 21), tooLong[1:]} {
		wantHostDrop(t, "no name", s, host, "new", impl.ServerOut{Code: impl.ErrForm})
	}
	size := impl.ServerOut{Code: impl.ErrSize}
	wantHostDrop(t, "a path of a byte too many", s, "a", tooLong, size)
	wantHostDrop(t, "a Host of a byte too many", s, tooLong, "new", size)
	wantHostDrop(t, "no name, and a path of a byte too many", s, "", tooLong, size)
	for what, wrong := range someWrong() {
		wantHostDrop(t, what, wrong, "a", "new", impl.ServerOut{Code: impl.ErrForm})
		wantHostDrop(t, what, wrong, "a", "", impl.ServerOut{Code: impl.ErrForm})
		wantHostDrop(t, what, wrong, tooLong, "new", size)
		wantHostDrop(t, what, wrong, "a", tooLong, size)
	}
}

func TestServerDay(t *testing.T) {
	for _, day := range []int64{0, 1, 40, impl.MaxTime - 1, impl.MaxTime} {
		s := sampleServer()
		s.Day = day
		for _, n := range []int64{math.MinInt64, -1, 0, 1, 2, 40, impl.MaxTime - day - 1, impl.MaxTime - day, impl.MaxTime - day + 1, impl.MaxTime, impl.MaxTime + 1, 1 << 32, math.MaxInt64 - 1, math.MaxInt64} {
			want := s
			if n >= 0 && n <= impl.MaxTime && day+n <= impl.MaxTime {
				want.Day = day + n
			}
			wantDay(t, "by "+strconv.FormatInt(n, 10), s, n, want)
		}
	}
	for what, wrong := range wrongServers() {
		wantDay(t, what, wrong, 1, wrong)
	}
	for what, s := range rightServers() {
		want := s
		want.Day = impl.MaxTime
		wantDay(t, what, s, impl.MaxTime-s.Day, want)
		wantDay(t, what, s, impl.MaxTime-s.Day+1, s)
	}
}

func TestPoints(t *testing.T) {
	s := sampleServer()
	wantPoints(t, "the sample", s, "a", 2, 5, 6, 9)
	wantPoints(t, "the sample", s, "b", 3, 7)
	wantPoints(t, "of hosts that are no Hosts", withHosts(s), "a", 2, 5, 6, 9)
	wantPoints(t, "a log of MaxBytes bytes", rightServers()["a log of MaxBytes bytes"], "b", 3, 7)
	for _, host := range []string{"a_b", "c", "", "A", "aa", "a_", tooLong[1:], tooLong} {
		wantPoints(t, "no dumps", s, host)
	}
	var forty []int64
	for id := range int64(40) {
		forty = append(forty, id+1)
	}
	wantPoints(t, "MaxDumps", crowdedServer(40), "h", forty...)
	for what, wrong := range someWrong() {
		wantPoints(t, what, wrong, "a")
		wantPoints(t, what, wrong, tooLong)
	}
}

func TestRestore(t *testing.T) {
	s := sampleServer()
	none := impl.RestoreOut{Code: impl.ErrNone}
	for host, points := range samplePoints() {
		for id := int64(-1); id <= 14; id++ {
			want, there := points[id]
			if !there {
				want = none
			}
			wantRestored(t, "the sample", s, host, id, want)
			wantRestored(t, "of hosts that are no Hosts", withHosts(s), host, id, want)
		}
		for _, id := range []int64{mostId, mostId + 1, 1<<32 + 2, math.MinInt64, math.MaxInt64} {
			wantRestored(t, "the sample", s, host, id, none)
		}
	}
	for _, host := range []string{"a_b", "c", "", "A", tooLong[1:]} {
		for _, id := range []int64{0, 2, 3, 5, 12} {
			wantRestored(t, "another host", s, host, id, none)
		}
	}
	wantRestored(t, "a byte too many", s, tooLong, 2, impl.RestoreOut{Code: impl.ErrSize})
	for what, wrong := range someWrong() {
		wantRestored(t, what, wrong, "a", 2, impl.RestoreOut{Code: impl.ErrForm})
		wantRestored(t, what, wrong, "none", 99, impl.RestoreOut{Code: impl.ErrForm})
		wantRestored(t, what, wrong, tooLong, 2, impl.RestoreOut{Code: impl.ErrSize})
	}
}

func TestRestoreOfWhateverDeltas(t *testing.T) {
	right := rightServers()
	noTree := right["files that are no tree"]
	wantRestored(t, "files that are no tree", noTree, "h", 1, impl.RestoreOut{Tree: []impl.File{dataAt("no/dir", "")}, Ids: []int64{1}})
	wantRestored(t, "a drop of what is not there", right["a drop of what is not there"], "h", 1, impl.RestoreOut{Ids: []int64{1}})
	wantRestored(t, "two dumps at one place", right["two dumps at one place"], "h", 2, impl.RestoreOut{Tree: treeA(), Ids: []int64{2}})
	wantRestored(t, "Parts of no blocks", right["Parts of no blocks"], "h", 1, impl.RestoreOut{Tree: treeA(), Ids: []int64{1}})
	wantRestored(t, "a dump of MaxBytes bytes", right["a dump of MaxBytes bytes"], "h", 1, impl.RestoreOut{Tree: with(fullList()), Ids: []int64{1}})
	// More files than a tree may have: 20 of each of six Levels.
	s, ids := plainServer(), []int64{}
	s.Tapes = append(s.Tapes, s.Tapes...)
	var all []impl.File
	for level := range int64(6) {
		files := emptyFiles(20)
		for i := range files {
			files[i].Path += "_" + strconv.FormatInt(level, 10)
		}
		all = with(all, files...)
		s = withDump(s, impl.Dump{Id: level + 1, Host: "h", Run: level, Level: level, Base: level}, impl.Delta{Puts: files})
		ids = append(ids, level+1)
		wantRestored(t, "more files than MaxFiles", s, "h", level+1, impl.RestoreOut{Tree: all, Ids: ids})
	}
}

// wantNext: a backup of the Host makes that dump, of that Delta; what the server is behind each step of it.
func wantNext(t *testing.T, what string, s impl.Server, host string, d impl.Dump, delta impl.Delta) {
	t.Helper()
	text := deltaByHand(delta)
	written := writtenByHand(s.Tapes, allNumbers(s.Tapes), text)
	d.Host, d.Day = host, s.Day
	d = ofText(d, text, written.Parts)
	behind := s
	wantBackupAt(t, what, s, host, 0, impl.ServerOut{Server: behind, Id: d.Id})
	behind.Tapes = written.Tapes
	wantBackupAt(t, what, s, host, 1, impl.ServerOut{Server: behind, Id: d.Id})
	behind.Tapes = syncedByHand(written.Tapes)
	wantBackupAt(t, what, s, host, 2, impl.ServerOut{Server: behind, Id: d.Id})
	behind.Log += addByHand(d)
	wantBackupAt(t, what, s, host, 3, impl.ServerOut{Server: behind, Id: d.Id})
	behind.Synced = int64(len(behind.Log))
	wantBackupAt(t, what, s, host, 4, impl.ServerOut{Server: behind, Id: d.Id})
	wantServerRight(t, what+", backed up", behind, true)
	for _, steps := range []int64{-1, 5, 6, 1 << 32, 1<<32 + 4, math.MinInt64, math.MaxInt64} {
		wantBackupAt(t, what, s, host, steps, impl.ServerOut{Code: impl.ErrForm})
	}
}

func TestBackup(t *testing.T) {
	s := sampleServer()
	wantNext(t, "a Host with dumps", s, "a", impl.Dump{Id: 13, Run: 8}, impl.Delta{Puts: s.Hosts[0].Tree})
	wantNext(t, "a Host without dumps", s, "a_b", impl.Dump{Id: 13}, impl.Delta{})
	wantNext(t, "nothing has changed", s, "b", impl.Dump{Id: 13, Run: 6, Level: 1, Base: 3}, impl.Delta{})
	more := hostAt(s, 2, []impl.File{dirAt("a"), dataAt("a/b", "ab"), {Path: "long", Dir: true, Mode: 3}})
	wantNext(t, "a Host that has changed", more, "b", impl.Dump{Id: 13, Run: 6, Level: 1, Base: 3}, impl.Delta{Drops: []string{"z"}, Puts: more.Hosts[2].Tree})
	more.Levels = 1
	wantNext(t, "one Level", more, "b", impl.Dump{Id: 13, Run: 6}, impl.Delta{Puts: more.Hosts[2].Tree})
	more.Levels = 6
	wantNext(t, "six Levels", more, "b", impl.Dump{Id: 13, Run: 6, Level: 4, Base: 7}, impl.Delta{Drops: []string{"z"}, Puts: more.Hosts[2].Tree})
	empty := hostAt(s, 2, nil)
	wantNext(t, "no Files left", empty, "b", impl.Dump{Id: 13, Run: 6, Level: 1, Base: 3}, impl.Delta{Drops: []string{"long", "z"}})
	for _, day := range []int64{0, 1, impl.MaxTime} {
		s.Day = day
		wantNext(t, "a Day", s, "a", impl.Dump{Id: 13, Run: 8}, impl.Delta{Puts: s.Hosts[0].Tree})
	}
	first := withHosts(plainServer(), impl.Host{Name: "h", Tree: sampleTree()})
	wantNext(t, "the first one of all", first, "h", impl.Dump{Id: 1}, impl.Delta{Puts: sampleTree()})
	for _, host := range []string{"c", "aa", "a_", "", "A", "a b", strings.Repeat("a", 20), tooLong[1:]} {
		wantNoBackup(t, "no such Host", s, host, impl.ErrNone)
		wantNoBackup(t, "no Hosts", plainServer(), host, impl.ErrNone)
	}
	wantNoBackup(t, "a host with dumps that is no Host", withHosts(s), "a", impl.ErrNone)
	wantNoBackup(t, "a Host of a byte too many", s, tooLong, impl.ErrSize)
	wantBackupAt(t, "no such Host", s, "c", 5, impl.ServerOut{Code: impl.ErrForm})
	wantBackupAt(t, "a Host of a byte too many", s, tooLong, -1, impl.ServerOut{Code: impl.ErrSize})
	for what, wrong := range someWrong() {
		wantNoBackup(t, what, wrong, "a", impl.ErrForm)
		wantNoBackup(t, what, wrong, "none", impl.ErrForm)
		wantNoBackup(t, what, wrong, tooLong, impl.ErrSize)
	}
}

// Each run of a host's own tells its Level, whatever other hosts do.
func TestBackupsGoByTheTowers(t *testing.T) {
	for levels, want := range map[int64][]impl.Mark{
		1: {{Id: 1}, {Id: 2}, {Id: 3}},
		2: {{Id: 1}, {Id: 2, Level: 1, Base: 1}, {Id: 3}, {Id: 4, Level: 1, Base: 3}},
		3: {{Id: 1}, {Id: 2, Level: 2, Base: 1}, {Id: 3, Level: 1, Base: 1}, {Id: 4, Level: 2, Base: 3}, {Id: 5}, {Id: 6, Level: 2, Base: 5}, {Id: 7, Level: 1, Base: 5}},
		6: {{Id: 1}, {Id: 2, Level: 5, Base: 1}, {Id: 3, Level: 4, Base: 1}, {Id: 4, Level: 5, Base: 3}, {Id: 5, Level: 3, Base: 1}, {Id: 6, Level: 5, Base: 5},
			{Id: 7, Level: 4, Base: 5}, {Id: 8, Level: 5, Base: 7}, {Id: 9, Level: 2, Base: 1}, {Id: 10, Level: 5, Base: 9}, {Id: 11, Level: 4, Base: 9}},
	} {
		s := withHosts(plainServer(), impl.Host{Name: "h"}, impl.Host{Name: "i", Tree: treeB()})
		s.Levels = levels
		tree := []impl.File{}
		for run, m := range want {
			f := dataAt("f", strconv.Itoa(run))
			delta := impl.Delta{Puts: []impl.File{f}}
			tree = []impl.File{f}
			s = hostAt(s, 0, tree)
			wantNext(t, strconv.FormatInt(levels, 10)+" levels", s, "h", impl.Dump{Id: m.Id, Run: int64(run), Level: m.Level, Base: m.Base}, delta)
			s = impl.Backup(s, "h").Server
			wantNext(t, "the other Host", s, "i", impl.Dump{Id: m.Id + 1}, impl.Delta{Puts: treeB()})
		}
		if got := impl.MarksOf(impl.LogOf(s.Log).Dumps, "h"); !slices.Equal(got, want) {
			t.Errorf("%d levels: got %v, want %v", levels, got, want)
		}
	}
}

// markedServer has dumps of a host of these marks, of Runs that rise up to that one, with nothing in them.
func markedServer(run int64, marks ...impl.Mark) impl.Server {
	s := withHosts(plainServer(), impl.Host{Name: "h", Tree: treeA()})
	for i, m := range marks {
		d := impl.Dump{Id: m.Id, Host: "h", Run: run - int64(len(marks)-1-i), Level: m.Level, Base: m.Base}
		s = withDump(s, d, impl.Delta{})
	}
	return s
}

func TestBackupsLookForTheLastBase(t *testing.T) {
	puts := impl.Delta{Puts: treeA()}
	stairs := []impl.Mark{{Id: 1}, {Id: 2, Level: 1, Base: 1}, {Id: 3, Level: 2, Base: 2}, {Id: 4, Level: 4, Base: 3}, {Id: 5, Level: 1, Base: 1}, {Id: 6, Level: 3, Base: 5}}
	bases := []int64{0, 1, 5, 5, 6, 6}
	for run := int64(6); run < 140; run++ {
		for levels := int64(1); levels <= 6; levels++ {
			level := impl.LevelAt(levels, run)
			if run > 40 && level > 0 {
				continue
			}
			s := markedServer(run-1, stairs...)
			s.Levels = levels
			out := impl.Backup(s, "h")
			last := impl.LogOf(out.Server.Log).Dumps[6]
			want := impl.Dump{Id: 7, Host: "h", Run: run, Level: level, Base: bases[level], Many: last.Many, Crc: last.Crc, Parts: last.Parts}
			if !sameDump(last, want) {
				t.Errorf("the run %d of %d levels: got %s, want %s", run, levels, brief(last), brief(want))
			}
		}
	}
	gone := markedServer(2, impl.Mark{Id: 1}, impl.Mark{Id: 2, Level: 1, Base: 1}, impl.Mark{Id: 3})
	gone = withLog(gone, gone.Log+dropByHand(2)+dropByHand(1))
	wantNext(t, "the earlier ones are gone", gone, "h", impl.Dump{Id: 4, Run: 3, Level: 2, Base: 3}, puts)
	gone = withLog(gone, gone.Log+dropByHand(3))
	wantNext(t, "all are gone", gone, "h", impl.Dump{Id: 4}, puts)
	last := markedServer(3, impl.Mark{Id: 1}, impl.Mark{Id: 2, Level: 2, Base: 1}, impl.Mark{Id: 3, Level: 1, Base: 1}, impl.Mark{Id: 4, Level: 2, Base: 3})
	last = withLog(last, last.Log+dropByHand(4)+dropByHand(3))
	wantNext(t, "the last base is gone", last, "h", impl.Dump{Id: 5, Run: 2, Level: 1, Base: 1}, puts)
	last.Levels = 4
	wantNext(t, "the last base is gone", last, "h", impl.Dump{Id: 5, Run: 2, Level: 2, Base: 1}, puts)
	// DeltaOf tells the zero Delta of files that are no right tree.
	noTree := withHosts(rightServers()["files that are no tree"], impl.Host{Name: "h", Tree: treeA()})
	wantNext(t, "a base of files that are no tree", noTree, "h", impl.Dump{Id: 2, Run: 1, Level: 2, Base: 1}, impl.Delta{})
}

func TestBackupsOfDeltasWithoutBytes(t *testing.T) {
	s := withHosts(plainServer(), impl.Host{Name: "h", Tree: greatFiles(20)})
	wantNoBackup(t, "20 Files of all data", s, "h", impl.ErrSize)
	wantNoBackup(t, "and tapes without room", withTapes(s, impl.Tape{}), "h", impl.ErrSize)
	wantNoBackup(t, "and MaxDumps", hostAt(crowdedServer(40), 0, greatFiles(20)), "h", impl.ErrSize)
	wantNoBackup(t, "and the greatest Id", withHosts(rightServers()["the greatest Id and Run"], s.Hosts...), "h", impl.ErrSize)
	wantBackupAt(t, "and too many steps", s, "h", 5, impl.ServerOut{Code: impl.ErrForm})
	most := hostAt(s, 0, with(fullList()))
	wantNext(t, "an archive of as many blocks as may be", most, "h", impl.Dump{Id: 1}, impl.Delta{Puts: with(fullList())})
	wantNoBackup(t, "a block more", hostAt(s, 0, with(fullList(), dirAt("e"))), "h", impl.ErrSize)
	for drop, code := range map[int]int64{29: impl.OK, 30: impl.OK, 31: impl.ErrSize} {
		path := strings.Repeat("r", drop)
		base := withDump(most, impl.Dump{Id: 1, Host: "h"}, impl.Delta{Puts: []impl.File{dataAt(path, "x")}})
		if code != impl.OK {
			wantNoBackup(t, "a byte too many", base, "h", code)
			continue
		}
		wantNext(t, "as many bytes as may be", base, "h", impl.Dump{Id: 2, Run: 1, Level: 2, Base: 1}, fullDelta(drop))
	}
	// A tree that is too great as a whole may be dumped bit by bit.
	half := with(greatFiles(7), emptyFiles(14)[7:]...)
	bits := withDump(hostAt(s, 0, greatFiles(14)), impl.Dump{Id: 1, Host: "h"}, impl.Delta{Puts: half})
	wantNext(t, "a great tree", bits, "h", impl.Dump{Id: 2, Run: 1, Level: 2, Base: 1}, impl.Delta{Puts: greatFiles(14)[7:]})
	bits.Levels = 1
	wantNoBackup(t, "a great tree, as a whole", bits, "h", impl.ErrSize)
}

func TestBackupsOnTapesThatAreFull(t *testing.T) {
	for _, files := range []int{0, 1, 3, 12} {
		delta := impl.Delta{Puts: emptyFiles(files)}
		blocks := (len(deltaByHand(delta)) + 63) / 64
		for room := range int64(blocks + 3) {
			for what, l := range map[string][]impl.Tape{
				"one tape": {{Room: room}}, "the second of two": {{}, {Label: 5, Room: room}, {}},
				"behind blocks": {{Blocks: tapeBlocks(0, 4), Synced: 4, Room: room + 4}}, "two": {{Room: room / 2}, {Room: room - room/2}},
				"four": {{Room: min(room, 1)}, {Blocks: tapeBlocks(0, 9), Synced: 9, Room: 9}, {Room: max(room-2, 0)}, {Room: min(max(room-1, 0), 1)}},
			} {
				s := withTapes(withHosts(plainServer(), impl.Host{Name: "h", Tree: emptyFiles(files)}), l...)
				if room < int64(blocks) {
					wantNoBackup(t, what, s, "h", impl.ErrFull)
				} else {
					wantNext(t, what, s, "h", impl.Dump{Id: 1}, delta)
				}
			}
		}
	}
	eight := withTapes(withHosts(plainServer(), impl.Host{Name: "h"}), eightTapes()...)
	wantNext(t, "a Part on each of eight tapes", eight, "h", impl.Dump{Id: 1}, impl.Delta{})
	if parts := impl.LogOf(impl.Backup(eight, "h").Server.Log).Dumps[0].Parts; len(parts) != impl.MaxParts {
		t.Errorf("a Part on each of eight tapes: got %v", parts)
	}
	eight.Tapes[7].Room = 1
	wantNoBackup(t, "a block too few on eight tapes", eight, "h", impl.ErrFull)
}

func TestBackupsOfMaxDumps(t *testing.T) {
	for _, many := range []int{0, 1, 38, 39} {
		s := crowdedServer(many)
		s.Levels = 1
		wantNext(t, strconv.Itoa(many)+" dumps", s, "h", impl.Dump{Id: int64(many) + 1, Run: int64(many)}, impl.Delta{Puts: treeA()})
	}
	full := crowdedServer(40)
	wantNoBackup(t, "MaxDumps", full, "h", impl.ErrFull)
	other := withHosts(full, impl.Host{Name: "g"}, impl.Host{Name: "h"})
	wantNoBackup(t, "MaxDumps of another Host", other, "g", impl.ErrFull)
	wantNext(t, "one of MaxDumps dropped", withLog(other, other.Log+dropByHand(7)), "g", impl.Dump{Id: 41}, impl.Delta{})
	wantBackupAt(t, "MaxDumps, and too many steps", full, "h", 5, impl.ServerOut{Code: impl.ErrForm})
	wantNoBackup(t, "MaxDumps, and no such Host", full, "i", impl.ErrNone)
}

func TestBackupsOfLogsThatGrowTooLong(t *testing.T) {
	s := withHosts(sampleServer(), impl.Host{Name: "a_b", Tree: treeB()}, impl.Host{Name: strings.Repeat("z", 20)})
	for _, h := range s.Hosts {
		text := deltaByHand(impl.Delta{Puts: h.Tree})
		d := impl.Dump{Host: h.Name, Day: s.Day}
		d = ofText(d, text, writtenByHand(s.Tapes, allNumbers(s.Tapes), text).Parts)
		// The Ids of the log, and so that of the dump, too, have as many bytes as this one.
		d.Id = 10000
		just := impl.MaxBytes - len(addByHand(d))
		for less := range 3 {
			full := withLog(s, filledLog(s.Log, just-less, 10000))
			wantNext(t, "a record that just fits", full, h.Name, impl.Dump{Id: greatestIdOf(full.Log) + 1}, impl.Delta{Puts: h.Tree})
			over := withLog(s, filledLog(s.Log, just+less+1, 10000))
			wantNoBackup(t, "a record that is too long", over, h.Name, impl.ErrFull)
		}
	}
	most := withLog(s, filledLog(s.Log, impl.MaxBytes, 1000))
	wantNoBackup(t, "a log of MaxBytes bytes", most, "a_b", impl.ErrFull)
	wantNoBackup(t, "a log of MaxBytes bytes, and a Host without bytes", hostAt(most, 0, greatFiles(20)), "a_b", impl.ErrSize)
	wantNoBackup(t, "a log of MaxBytes bytes, and no such Host", most, "none", impl.ErrNone)
}

// recordsOf: the bodies of a log's records, of one that is gone through to its end.
func recordsOf(log string) []string {
	var out []string
	for at := int64(0); at < int64(len(log)); {
		text := impl.GetText(log, at)
		out = append(out, impl.Unseal(text.Text).Text)
		at = text.At
	}
	return out
}

// greatestIdOf: the greatest Id of a record of a dump more.
func greatestIdOf(log string) int64 {
	var id int64
	for _, body := range recordsOf(log) {
		if body[0] == 'D' {
			id = max(id, impl.DumpRead(body[1:]).Dump.Id)
		}
	}
	return id
}

func TestBackupsWithTheGreatestNumbers(t *testing.T) {
	s := withHosts(plainServer(), impl.Host{Name: "g", Tree: treeB()}, impl.Host{Name: "h", Tree: treeA()})
	whole := impl.Delta{Puts: treeA()}
	for _, below := range []int64{3, 2, 1} {
		n := int64(mostId) - below
		great := withDump(s, impl.Dump{Id: n, Host: "g"}, impl.Delta{})
		wantNext(t, "a great Id", great, "h", impl.Dump{Id: n + 1}, whole)
		wantNext(t, "a great Id that was dropped", withLog(great, great.Log+dropByHand(n)), "h", impl.Dump{Id: n + 1}, whole)
		great = withDump(s, impl.Dump{Id: 5, Host: "h", Run: n}, impl.Delta{})
		level := impl.LevelAt(3, n+1)
		wantNext(t, "a great run", great, "h", impl.Dump{Id: 6, Run: n + 1, Level: level, Base: 5 * min(level, 1)}, whole)
	}
	great := withDump(s, impl.Dump{Id: mostId, Host: "g"}, impl.Delta{})
	for _, host := range []string{"g", "h"} {
		wantNoBackup(t, "the greatest Id", great, host, impl.ErrRange)
		wantNoBackup(t, "the greatest Id, dropped", withLog(great, great.Log+dropByHand(mostId)), host, impl.ErrRange)
	}
	wantBackupAt(t, "the greatest Id, and too many steps", great, "h", 5, impl.ServerOut{Code: impl.ErrForm})
	wantNoBackup(t, "the greatest Id, and no such Host", great, "i", impl.ErrNone)
	run := withDump(s, impl.Dump{Id: 5, Host: "h", Run: mostRun}, impl.Delta{})
	wantNoBackup(t, "the greatest run", run, "h", impl.ErrRange)
	wantNext(t, "the greatest run of another Host", run, "g", impl.Dump{Id: 6}, impl.Delta{Puts: treeB()})
	wantNext(t, "the greatest run, dropped", withLog(run, run.Log+dropByHand(5)), "h", impl.Dump{Id: 6}, whole)
	wantNoBackup(t, "the greatest of both", rightHost(rightServers()["the greatest Id and Run"]), "h", impl.ErrRange)
}

func rightHost(s impl.Server) impl.Server {
	return withHosts(s, impl.Host{Name: "h", Tree: treeA()})
}

// What is full is told ahead of a number that is too great.
func TestBackupsWithTheGreatestNumbersThatAreFull(t *testing.T) {
	great := rightHost(withDump(plainServer(), impl.Dump{Id: 5, Host: "h", Run: mostRun}, impl.Delta{}))
	full := great
	full.Tapes = syncedByHand(great.Tapes)
	for i := range full.Tapes {
		full.Tapes[i].Room = int64(len(full.Tapes[i].Blocks))
	}
	wantNoBackup(t, "tapes too full", full, "h", impl.ErrFull)
	crowd := crowdedServer(39)
	crowd = withDump(crowd, impl.Dump{Id: mostId, Host: "h", Run: mostRun}, impl.Delta{})
	wantNoBackup(t, "MaxDumps", crowd, "h", impl.ErrFull)
	text := deltaByHand(impl.Delta{Puts: treeA()})
	tail := addByHand(impl.Dump{Id: mostId, Host: "t"}) + dropByHand(mostId)
	for what, s := range map[string]impl.Server{"an Id": rightHost(plainServer()), "an Id and a run": great} {
		d := impl.Dump{Id: mostId, Host: "h"}
		if s.Log != "" {
			d.Run = mostRun
		}
		d = ofText(d, text, writtenByHand(s.Tapes, allNumbers(s.Tapes), text).Parts)
		just := impl.MaxBytes - len(addByHand(d)) - len(tail)
		wantNoBackup(t, what+": a record that just fits", withLog(s, filledLog(s.Log, just, 1000)+tail), "h", impl.ErrRange)
		wantNoBackup(t, what+": a byte too many", withLog(s, filledLog(s.Log, just+1, 1000)+tail), "h", impl.ErrFull)
	}
	// A run alone that is too great: the Id has as many bytes as 10000.
	d := ofText(impl.Dump{Id: 10000, Host: "h", Run: mostRun}, text, writtenByHand(great.Tapes, []int64{0}, text).Parts)
	just := impl.MaxBytes - len(addByHand(d))
	wantNoBackup(t, "a run: a record that just fits", withLog(great, filledLog(great.Log, just, 10000)), "h", impl.ErrRange)
	wantNoBackup(t, "a run: a byte too many", withLog(great, filledLog(great.Log, just+1, 10000)), "h", impl.ErrFull)
}

func crashedServerByHand(s impl.Server, tapes []int64, log int64) impl.Server {
	s.Tapes = crashedByHand(s.Tapes, tapes)
	for s.Synced < int64(len(s.Log)) && log > 0 {
		s.Synced++
		log--
	}
	s.Log = s.Log[:s.Synced]
	return s
}

// tornServer has blocks and bytes of the log that are not Synced.
func tornServer() impl.Server {
	s := sampleServer()
	s.Tapes = writtenByHand(s.Tapes, []int64{4, 3, 0, 1}, bytesRun(700)).Tapes
	s.Log += bytesRun(30)
	return s
}

func TestServerCrash(t *testing.T) {
	for what, s := range map[string]impl.Server{"a torn one": tornServer(), "all Synced": sampleServer(), "nothing on it": plainServer(), "not right": {Tapes: sampleTapes(), Log: bytesRun(9), Synced: 4, Day: -1}} {
		for _, log := range []int64{math.MinInt64, -1, 0, 1, 2, 29, 30, 31, 1 << 32, math.MaxInt64} {
			for _, tapes := range [][]int64{nil, {}, {0, 0, 0, 0, 0}, {1, 2, 3, 4, 5}, {-1, 9, -9, 9, 9}, {math.MinInt64, 0, 0, 2, math.MaxInt64}, {0, 0, 0, 0, 3, 9, 9}, {5}, make([]int64, impl.MaxList)} {
				wantServerCrashed(t, what, s, tapes, log, crashedServerByHand(s, tapes, log))
			}
		}
	}
	for synced := int64(0); synced <= 12; synced++ {
		s := withLog(plainServer(), bytesRun(12))
		s.Synced = synced
		for log := int64(-2); log <= 14; log++ {
			wantServerCrashed(t, "a log Synced up to a place", s, nil, log, crashedServerByHand(s, nil, log))
		}
	}
	long := tornServer()
	long.Log += tooLong
	wantServerCrashed(t, "a log of more than MaxBytes bytes", long, nil, impl.MaxBytes+10, crashedServerByHand(long, nil, impl.MaxBytes+10))
}

func TestServerCrashThatIsRefused(t *testing.T) {
	for what, s := range wrongTapesOf() {
		if impl.TapesRight(s.Tapes) {
			continue
		}
		s.Log, s.Synced = bytesRun(9), 2
		wantServerCrashed(t, what, s, []int64{1, 1}, 3, s)
		wantServerCrashed(t, what+", more numbers than MaxList", s, make([]int64, impl.MaxList+1), 3, impl.Server{})
	}
	for _, synced := range []int64{math.MinInt64, -1, 10, 11, 1 << 32, math.MaxInt64} {
		s := withLog(tornServer(), bytesRun(9))
		s.Synced = synced
		for _, log := range []int64{math.MinInt64, -1, 0, 3, 20, math.MaxInt64} {
			wantServerCrashed(t, "Synced "+strconv.FormatInt(synced, 10), s, []int64{1, 1}, log, s)
		}
	}
	wantServerCrashed(t, "more numbers than MaxList", tornServer(), make([]int64, impl.MaxList+1), 3, impl.Server{})
	wantServerCrashed(t, "the zero one", impl.Server{}, nil, 3, impl.Server{})
	// Nothing but the tapes and Synced is asked for.
	for what, s := range wrongServers() {
		if impl.TapesRight(s.Tapes) && s.Synced >= 0 && s.Synced <= int64(len(s.Log)) {
			wantServerCrashed(t, what, s, []int64{1}, 3, crashedServerByHand(s, []int64{1}, 3))
		}
	}
}

func TestServerRecover(t *testing.T) {
	sample := sampleServer()
	for cut := range len(sample.Log) + 1 {
		s := sample
		s.Log = sample.Log[:cut]
		want := withLog(s, s.Log[:impl.LogOf(s.Log).At])
		wantRecovered(t, "a log cut", s, want)
		s.Synced = 0
		wantRecovered(t, "a log cut, nothing Synced", s, want)
	}
	for what, log := range wrongLogs() {
		s := sample
		s.Log = log
		want := s
		if len(log) <= impl.MaxBytes {
			want = withLog(s, log[:impl.LogOf(log).At])
		}
		wantRecovered(t, what, s, want)
	}
	for what, s := range rightServers() {
		wantRecovered(t, what, s, s)
		torn := s
		torn.Log += "\x00"
		if len(torn.Log) <= impl.MaxBytes {
			wantRecovered(t, what+", and a byte", torn, s)
		} else {
			wantRecovered(t, what+", and a byte", torn, torn)
		}
	}
	// Nothing but the log is asked for, and nothing else changes.
	torn := tornServer()
	want := withLog(torn, sample.Log)
	wantRecovered(t, "blocks that are not Synced", torn, want)
	for what, s := range wrongServers() {
		if len(s.Log) <= impl.MaxBytes {
			wantRecovered(t, what, s, withLog(s, s.Log[:impl.LogOf(s.Log).At]))
		}
	}
}

// pointsOf: what is restored of each point of each Host.
func pointsOf(s impl.Server) map[string]map[int64]impl.RestoreOut {
	out := map[string]map[int64]impl.RestoreOut{}
	for _, h := range s.Hosts {
		out[h.Name] = map[int64]impl.RestoreOut{}
		for _, id := range impl.Points(s, h.Name) {
			out[h.Name][id] = impl.Restore(s, h.Name, id)
		}
	}
	return out
}

// wantPointsHold: all these points are there, and restored as they were.
func wantPointsHold(t *testing.T, what string, points map[string]map[int64]impl.RestoreOut, s impl.Server) {
	t.Helper()
	for host, ofHost := range points {
		left := impl.Points(s, host)
		for id, was := range ofHost {
			got := impl.Restore(s, host, id)
			if !slices.Contains(left, id) || got.Code != impl.OK || !slices.Equal(got.Tree, was.Tree) || !slices.Equal(got.Ids, was.Ids) {
				t.Errorf("%s: the point %d of %s was %s, is %s", what, id, host, brief(was), brief(got))
			}
		}
	}
}

// wantPoint: the tree of the Host is restored from that point, the last of its points.
func wantPoint(t *testing.T, what string, s impl.Server, host string, id int64) {
	t.Helper()
	at := slices.IndexFunc(s.Hosts, func(h impl.Host) bool { return h.Name == host })
	points, got := impl.Points(s, host), impl.Restore(s, host, id)
	if len(points) == 0 || points[len(points)-1] != id || got.Code != impl.OK || !slices.Equal(got.Tree, s.Hosts[at].Tree) {
		t.Errorf("%s: the point %d of %s, of points %v: got %s", what, id, host, points, brief(got))
	}
}

// powerCut: a backup of a Host, where the record of its dump has so many bytes, and the points that are there ahead of it.
type powerCut struct {
	s      impl.Server
	host   string
	record int64
	points map[string]map[int64]impl.RestoreOut
}

// look: the power goes behind that many steps, with so much left; all old points are found again, and the new one as a whole, if its record is whole, else not at all.
func (c powerCut) look(t *testing.T, steps int64, behind impl.ServerOut, tapes []int64, log int64) {
	t.Helper()
	what := "power cut behind step " + strconv.FormatInt(steps, 10) + " for " + c.host + ", tapes " + brief(tapes) + ", log " + strconv.FormatInt(log, 10)
	torn := impl.ServerCrash(behind.Server, tapes, log)
	if diff := serverDiff(torn, crashedServerByHand(behind.Server, tapes, log)); diff != "" {
		t.Errorf("%s: crashed otherwise than by hand:%s", what, diff)
	}
	got := impl.ServerRecover(torn)
	want := withLog(torn, c.s.Log)
	points := slices.Sorted(maps.Keys(c.points[c.host]))
	whole := steps == 4 || steps == 3 && log >= c.record
	if whole {
		want = withLog(torn, behind.Server.Log)
		wantPoint(t, what, got, c.host, behind.Id)
		points = append(points, behind.Id)
	}
	if diff := serverDiff(got, want); diff != "" || !impl.ServerRight(got) {
		t.Errorf("%s: found again otherwise, or not right:%s", what, diff)
	}
	wantPointsHold(t, what, c.points, got)
	if left := impl.Points(got, c.host); !slices.Equal(left, points) {
		t.Errorf("%s: got the points %v, want %v", what, left, points)
	}
}

// keepOf: so many of the blocks that were written, in the order in which they were.
func keepOf(parts []impl.Part, many int64) []int64 {
	keep := make([]int64, impl.MaxTapes)
	for _, p := range parts {
		keep[p.Tape] = min(many, p.Many)
		many -= keep[p.Tape]
	}
	return keep
}

// Promise 20.
func TestThePowerGoesWithinABackup(t *testing.T) {
	s := sampleServer()
	s.Hosts[2].Tree = with(treeB(), dataAt("since", "b"))
	points := pointsOf(s)
	for _, host := range []string{"a", "a_b", "b"} {
		done := impl.Backup(s, host)
		dumps := impl.LogOf(done.Server.Log).Dumps
		parts := dumps[len(dumps)-1].Parts
		c := powerCut{s, host, int64(len(done.Server.Log) - len(s.Log)), points}
		if len(parts) != 2 || c.record < 20 {
			t.Fatalf("by hand: the parts are %v, the record has %d bytes", parts, c.record)
		}
		c.lookBehindAll(t, parts)
		for many := range parts[0].Many + parts[1].Many {
			c.look(t, 1, impl.BackupAt(s, host, 1), keepOf(parts, many), 7)
		}
		for log := range c.record {
			c.look(t, 3, impl.BackupAt(s, host, 3), nil, log)
		}
	}
}

// lookBehindAll: behind each step, with nothing left, a little, all, and more than there is.
func (c powerCut) lookBehindAll(t *testing.T, parts []impl.Part) {
	t.Helper()
	for steps := range int64(5) {
		behind := impl.BackupAt(c.s, c.host, steps)
		for _, log := range []int64{-1, c.record - 1, c.record, c.record + 1} {
			c.look(t, steps, behind, nil, log)
			c.look(t, steps, behind, []int64{99, 99, 99, 99, 99}, log)
		}
		for _, tapes := range [][]int64{{-1, -1, -1, -1, -1}, {0, 0, 0, 2, 4}, {0, 0, 0, 5, 0}, {0, 0, 0, 0, 9}, keepOf(parts, 300)} {
			c.look(t, steps, behind, tapes, 0)
		}
	}
}

// Behind a backup that was torn the next one goes on, with the Id that was not used.
func TestBackupsGoOnBehindTornOnes(t *testing.T) {
	s := withHosts(plainServer(), impl.Host{Name: "h", Tree: treeA()})
	s.Tapes = append(s.Tapes, s.Tapes...)
	for round := range 12 {
		f := dataAt("f", strconv.Itoa(round))
		s = impl.HostPut(s, "h", f).Server
		torn := impl.ServerRecover(impl.ServerCrash(impl.BackupAt(s, "h", int64(round%4)).Server, []int64{int64(round), 1}, int64(2*round)))
		wantServerRight(t, "torn", torn, true)
		out := impl.Backup(torn, "h")
		if out.Code != impl.OK || out.Id != int64(round)+1 {
			t.Fatalf("the round %d: got Id %d, Code %d", round, out.Id, out.Code)
		}
		wantPointsHold(t, "behind a torn backup", pointsOf(s), out.Server)
		wantPoint(t, "behind a torn backup", out.Server, "h", out.Id)
		s = out.Server
	}
}

// prunedTo: the server without these dumps, in that order, and how many they are.
func prunedTo(s impl.Server, ids ...int64) impl.ServerOut {
	log := s.Log
	for _, id := range ids {
		log += dropByHand(id)
	}
	return impl.ServerOut{Server: withLog(s, log), Id: int64(len(ids))}
}

func withKeep(s impl.Server, keep int64) impl.Server {
	s.Keep = keep
	return s
}

func TestPrune(t *testing.T) {
	sample := sampleServer()
	for keep, ids := range map[int64][]int64{1: {5}, 2: {5}, 3: nil, 4: nil, 5: nil, 10: nil} {
		s := withKeep(sample, keep)
		wantPruned(t, "the sample, keep "+strconv.FormatInt(keep, 10), s, prunedTo(s, ids...))
		wantPruned(t, "dumps of no Hosts", withHosts(s), prunedTo(withHosts(s), ids...))
	}
	for _, many := range []int64{0, 1, 2, 5, 9, 10, 11, 12, 40} {
		for keep := int64(1); keep <= 10; keep++ {
			s := withKeep(crowdedServer(int(many)), keep)
			var ids []int64
			for id := many - keep; id > 0; id-- {
				ids = append(ids, id)
			}
			wantPruned(t, strconv.FormatInt(many, 10)+" dumps, keep "+strconv.FormatInt(keep, 10), s, prunedTo(s, ids...))
		}
	}
	for what, wrong := range someWrong() {
		wantPruned(t, what, wrong, impl.ServerOut{Code: impl.ErrForm})
	}
	for what, s := range rightServers() {
		if got := impl.Prune(s); got.Code == impl.OK {
			wantServerRight(t, what+", pruned", got.Server, true)
			wantPruned(t, what+", pruned again", got.Server, impl.ServerOut{Server: got.Server})
		}
	}
}

// What is needed by what is kept is kept, too, be it ever so far ahead.
func TestPruneKeepsWhatIsNeeded(t *testing.T) {
	towers := []impl.Mark{{Id: 1}, {Id: 2, Level: 2, Base: 1}, {Id: 3, Level: 1, Base: 1}, {Id: 4, Level: 2, Base: 3}, {Id: 5}, {Id: 6, Level: 2, Base: 5}, {Id: 7, Level: 1, Base: 5}, {Id: 8, Level: 2, Base: 7}}
	for keep, ids := range map[int64][]int64{1: {6, 4, 3, 2, 1}, 2: {6, 4, 3, 2, 1}, 3: {4, 3, 2, 1}, 4: {4, 3, 2, 1}, 5: {2}, 6: {2}, 7: nil, 8: nil} {
		s := withKeep(markedServer(7, towers...), keep)
		wantPruned(t, "towers, keep "+strconv.FormatInt(keep, 10), s, prunedTo(s, ids...))
	}
	stairs := []impl.Mark{{Id: 1}, {Id: 2, Level: 1, Base: 1}, {Id: 3, Level: 2, Base: 2}, {Id: 4, Level: 3, Base: 3}, {Id: 5, Level: 4, Base: 4}, {Id: 6, Level: 5, Base: 5}}
	for keep := int64(1); keep < 9; keep++ {
		s := withKeep(markedServer(7, stairs...), keep)
		wantPruned(t, "stairs", s, prunedTo(s))
		beside := s
		beside = withDump(beside, impl.Dump{Id: 20, Host: "i"}, impl.Delta{})
		beside = withDump(beside, impl.Dump{Id: 21, Host: "h", Run: 8, Level: 1, Base: 1}, impl.Delta{})
		ids := []int64{6, 5, 4, 3, 2}
		if keep > 1 {
			ids = nil
		}
		wantPruned(t, "stairs, and one beside", beside, prunedTo(beside, ids...))
	}
	// Of each Host as many are kept, however the dumps of others stand between.
	s := plainServer()
	for i, host := range []string{"a", "b", "b", "c", "a", "b", "b", "a", "b", "a"} {
		s = withDump(s, impl.Dump{Id: int64(10 * (i + 1)), Host: host, Run: int64(i)}, impl.Delta{})
	}
	s = withHosts(s, impl.Host{Name: "a"}, impl.Host{Name: "b"}, impl.Host{Name: "c"})
	for keep, ids := range map[int64][]int64{1: {80, 70, 60, 50, 30, 20, 10}, 2: {60, 50, 30, 20, 10}, 3: {30, 20, 10}, 4: {20}, 5: nil} {
		wantPruned(t, "dumps between others", withKeep(s, keep), prunedTo(withKeep(s, keep), ids...))
	}
}

func TestPruneOfLogsThatGrowTooLong(t *testing.T) {
	s := withKeep(crowdedServer(12), 3)
	ids := []int64{9, 8, 7, 6, 5, 4, 3, 2, 1}
	record := len(dropByHand(9))
	for left := range 9*record + 2 {
		full := withLog(s, filledLog(s.Log, impl.MaxBytes-left, 1000))
		want := impl.ServerOut{Code: impl.ErrFull}
		if left >= 9*record {
			want = prunedTo(full, ids...)
		}
		if left%record < 2 || left%record == record-1 {
			wantPruned(t, strconv.Itoa(left)+" bytes left in the log", full, want)
		}
	}
	most := rightServers()["a log of MaxBytes bytes"]
	wantPruned(t, "something to drop, a log of MaxBytes bytes", most, impl.ServerOut{Code: impl.ErrFull})
	wantPruned(t, "nothing to drop, a log of MaxBytes bytes", withKeep(most, 3), impl.ServerOut{Server: withKeep(most, 3)})
}

// Promise 21.
func TestWhatIsPrunedLeavesTheLastPoints(t *testing.T) {
	for what, s := range rightServers() {
		for _, keep := range []int64{1, 2, 4} {
			s.Keep = keep
			out := impl.Prune(s)
			if out.Code != impl.OK || strings.HasPrefix(what, "Day") {
				continue
			}
			for _, host := range []string{"a", "b", "h"} {
				ids := impl.Points(s, host)
				for _, id := range ids[max(0, len(ids)-int(keep)):] {
					wantRestored(t, what+", pruned", out.Server, host, id, impl.Restore(s, host, id))
				}
			}
		}
	}
}

// wiped: the server with all its dumps dropped.
func wiped(s impl.Server) impl.Server {
	dumps := impl.LogOf(s.Log).Dumps
	for _, d := range slices.Backward(dumps) {
		s = withLog(s, s.Log+dropByHand(d.Id))
	}
	return s
}

func clearedTape(tape impl.Tape) impl.Tape {
	return impl.Tape{Label: tape.Label + 1, Room: tape.Room}
}

func TestRecycle(t *testing.T) {
	sample := sampleServer()
	wantRecycled(t, "all with blocks are in use", sample, impl.ServerOut{Server: sample})
	s := wiped(sample)
	l := slices.Clone(s.Tapes)
	l[0], l[1] = clearedTape(l[0]), clearedTape(l[1])
	wantRecycled(t, "all are free, but one of the greatest Label", s, impl.ServerOut{Server: withTapes(s, l...), Id: 2})
	wantRecycled(t, "recycled again", withTapes(s, l...), impl.ServerOut{Server: withTapes(s, l...)})
	// The last of the sample's dumps is on tape 3 alone; the base that it needs stands on others.
	pruned := withLog(sample, sample.Log+dropByHand(9)+dropByHand(6)+dropByHand(5)+dropByHand(7)+dropByHand(3))
	wantRecycled(t, "tape 0 in use", pruned, impl.ServerOut{Server: withTapes(pruned, withItem(sample.Tapes, 1, clearedTape(sample.Tapes[1]))...), Id: 1})
	for what, wrong := range someWrong() {
		wantRecycled(t, what, wrong, impl.ServerOut{Code: impl.ErrForm})
	}
	for _, label := range []int64{0, 1, 77, mostLabel - 2, mostLabel - 1, mostLabel} {
		full := impl.Tape{Label: label, Blocks: tapeBlocks(0, 3), Synced: 3, Room: 5}
		want := impl.ServerOut{Server: withTapes(plainServer(), clearedTape(full)), Id: 1}
		if label == mostLabel {
			want = impl.ServerOut{Server: withTapes(plainServer(), full)}
		}
		wantRecycled(t, "a Label "+strconv.FormatInt(label, 10), withTapes(plainServer(), full), want)
		empty := withTapes(plainServer(), impl.Tape{Label: label, Room: 5}, impl.Tape{Label: label})
		wantRecycled(t, "tapes without blocks", empty, impl.ServerOut{Server: empty})
	}
	eight := withTapes(plainServer(), syncedByHand(fullTapes(8))...)
	var all []impl.Tape
	for _, tape := range eight.Tapes {
		all = append(all, clearedTape(tape))
	}
	wantRecycled(t, "eight full tapes", eight, impl.ServerOut{Server: withTapes(eight, all...), Id: 8})
}

// Each tape alone has the blocks that a dump needs.
func TestRecycleOfTapesInUse(t *testing.T) {
	for used := range 8 {
		l := emptyTapes(8, 20)
		for i := range l {
			l[i].Blocks = tapeBlocks(0, 3)
			if i != used {
				l[i].Room = 3
			}
		}
		s := withDump(withTapes(plainServer(), syncedByHand(l)...), impl.Dump{Id: 1, Host: "h"}, impl.Delta{})
		want := slices.Clone(s.Tapes)
		for i, tape := range want {
			if i != used {
				want[i] = clearedTape(tape)
			}
		}
		wantRecycled(t, "tape "+strconv.Itoa(used)+" in use", s, impl.ServerOut{Server: withTapes(s, want...), Id: 7})
		free := wiped(s)
		want[used] = clearedTape(s.Tapes[used])
		wantRecycled(t, "none in use", free, impl.ServerOut{Server: withTapes(free, want...), Id: 8})
	}
	// A Part of no blocks is one, too: with its tape cleared the dump could be read no more.
	s := splitParts()
	s.Tapes = []impl.Tape{s.Tapes[0], {Blocks: tapeBlocks(0, 2), Synced: 2, Room: 300}}
	wantServerRight(t, "a Part of no blocks", s, true)
	wantRecycled(t, "a Part of no blocks", s, impl.ServerOut{Server: s})
	two := rightServers()["two dumps at one place"]
	two = withLog(two, two.Log+dropByHand(1))
	wantRecycled(t, "one of two dumps at one place", two, impl.ServerOut{Server: two})
}

// Promise 22.
func TestTapesUsedAgainHaveNothingNeeded(t *testing.T) {
	for what, s := range rightServers() {
		pruned := impl.Prune(withKeep(s, 1))
		if pruned.Code != impl.OK {
			continue
		}
		out := impl.Recycle(pruned.Server)
		wantServerRight(t, what+", used again", out.Server, out.Code == impl.OK)
		wantPointsHold(t, what+", used again", pointsOf(pruned.Server), out.Server)
	}
}

// serverRightByHand asks rule by rule, of a server whose tapes and trees are few.
func serverRightByHand(s impl.Server) bool {
	right := len(s.Hosts) <= 6 && s.Levels >= 1 && s.Levels <= 6 && s.Keep >= 1 && s.Keep <= 10 && s.Day >= 0 && s.Day <= impl.MaxTime
	for i, h := range s.Hosts {
		right = right && impl.NameRight(h.Name) && impl.TreeRight(h.Tree)
		for _, ahead := range s.Hosts[:i] {
			right = right && ahead.Name < h.Name
		}
	}
	right = right && impl.TapesRight(s.Tapes) && sameTapes(s.Tapes, syncedByHand(s.Tapes))
	log := impl.LogOf(s.Log)
	right = right && log.Code == impl.OK && int(log.At) == len(s.Log) && int(s.Synced) == len(s.Log)
	for _, d := range log.Dumps {
		text, there := textOnTapes(s.Tapes, d)
		right = right && there && int64(crc32.ChecksumIEEE([]byte(text))) == d.Crc && impl.DeltaRead(text).Code == impl.OK
	}
	return right
}

// textOnTapes: the bytes of a dump, block by block, and are they there?
func textOnTapes(l []impl.Tape, d impl.Dump) (string, bool) {
	text := ""
	for _, p := range d.Parts {
		for at := p.At; at < p.At+p.Many; at++ {
			if int(p.Tape) >= len(l) || l[p.Tape].Label != p.Turn || int(at) >= len(l[p.Tape].Blocks) {
				return "", false
			}
			text += l[p.Tape].Blocks[at]
		}
	}
	return text[:min(len(text), int(d.Many))], len(text) >= int(d.Many)
}

// chainByHand: from that dump to its Base, and so on; the dumps of Level 0 last.
func chainByHand(dumps []impl.Dump, id int64) []impl.Dump {
	for _, d := range dumps {
		if d.Id == id {
			return append([]impl.Dump{d}, chainByHand(dumps, d.Base)...)
		}
	}
	return nil
}

// restoredByHand: the newest of a chain tells of each path that it drops or puts.
func restoredByHand(s impl.Server, id int64) []impl.File {
	told := map[string]bool{}
	var out []impl.File
	for _, d := range chainByHand(impl.LogOf(s.Log).Dumps, id) {
		text, _ := textOnTapes(s.Tapes, d)
		delta := impl.DeltaRead(text).Delta
		for _, f := range delta.Puts {
			if !told[f.Path] {
				out = append(out, f)
			}
			told[f.Path] = true
		}
		for _, path := range delta.Drops {
			told[path] = true
		}
	}
	return with(nil, out...)
}

// nextByHand: the dump that a backup of the Host makes, but for its bytes.
func nextByHand(s impl.Server, host string) impl.Dump {
	d := impl.Dump{Id: greatestIdOf(s.Log) + 1, Host: host, Day: s.Day}
	dumps := slices.DeleteFunc(impl.LogOf(s.Log).Dumps, func(other impl.Dump) bool { return other.Host != host })
	for _, other := range dumps {
		d.Run = other.Run + 1
	}
	d.Level = impl.LevelAt(s.Levels, d.Run)
	for _, other := range dumps {
		if other.Level < d.Level {
			d.Base = other.Id
		}
	}
	return d
}

// backedUpByHand is of a right server.
func backedUpByHand(s impl.Server, host string, steps int64) impl.ServerOut {
	at := slices.IndexFunc(s.Hosts, func(h impl.Host) bool { return h.Name == host })
	if at < 0 {
		return impl.ServerOut{Code: impl.ErrNone}
	}
	d := nextByHand(s, host)
	text := impl.DeltaBytes(changedByHand(restoredByHand(s, d.Base), s.Hosts[at].Tree))
	if text == "" {
		return impl.ServerOut{Code: impl.ErrSize}
	}
	written := writtenByHand(s.Tapes, allNumbers(s.Tapes), text)
	d = ofText(d, text, written.Parts)
	if written.Code != impl.OK || len(impl.LogOf(s.Log).Dumps) == 40 || len(s.Log)+len(addByHand(d)) > impl.MaxBytes {
		return impl.ServerOut{Code: impl.ErrFull}
	}
	if steps > 0 {
		s.Tapes = written.Tapes
	}
	if steps > 1 {
		s.Tapes = syncedByHand(s.Tapes)
	}
	if steps > 2 {
		s.Log += addByHand(d)
	}
	if steps > 3 {
		s.Synced = int64(len(s.Log))
	}
	return impl.ServerOut{Server: s, Id: d.Id}
}

func prunedByHand(s impl.Server) impl.ServerOut {
	dumps := impl.LogOf(s.Log).Dumps
	needed := map[int64]bool{}
	kept := map[string]int64{}
	for _, d := range slices.Backward(dumps) {
		if kept[d.Host] < s.Keep {
			kept[d.Host]++
			for _, other := range chainByHand(dumps, d.Id) {
				needed[other.Id] = true
			}
		}
	}
	out := impl.ServerOut{Server: s}
	for _, d := range slices.Backward(dumps) {
		if !needed[d.Id] {
			out = impl.ServerOut{Server: withLog(s, out.Server.Log+dropByHand(d.Id)), Id: out.Id + 1}
		}
	}
	if len(out.Server.Log) > impl.MaxBytes {
		return impl.ServerOut{Code: impl.ErrFull}
	}
	return out
}

func recycledByHand(s impl.Server) impl.ServerOut {
	used := map[int64]bool{}
	for _, d := range impl.LogOf(s.Log).Dumps {
		for _, p := range d.Parts {
			used[p.Tape] = true
		}
	}
	out := impl.ServerOut{Server: withTapes(s, slices.Clone(s.Tapes)...)}
	for i, tape := range s.Tapes {
		if len(tape.Blocks) > 0 && !used[int64(i)] && tape.Label < mostLabel {
			out.Server.Tapes[i] = clearedTape(tape)
			out.Id++
		}
	}
	return out
}

// serverPlay is a server in use, with the trees that were there at its points.
type serverPlay struct {
	s      impl.Server
	points map[string]map[int64][]impl.File
	told   map[string]int
}

func anyServer(next func(int) int) serverPlay {
	s := impl.ServerNew([]int64{1, 2, 3, 6}[next(4)], int64(1+next(2)), int64(1+next(8)), int64(60+next(120)))
	for i := range s.Tapes {
		s.Tapes[i].Label = int64(next(3)) * (mostLabel - 1) / 2
	}
	return serverPlay{s: s, points: map[string]map[int64][]impl.File{}, told: map[string]int{}}
}

func anyName(next func(int) int) string {
	return []string{"a", "b", "b_1", "c", "d", "e", "f", "g", "no name"}[next(9)%(2+next(8))]
}

func (p *serverPlay) treeOf(host string) []impl.File {
	for _, h := range p.s.Hosts {
		if h.Name == host {
			return h.Tree
		}
	}
	return nil
}

// took notes what was told, and that it is the server from now on, if it is OK.
func (p *serverPlay) took(what string, out impl.ServerOut) bool {
	p.told[what+" "+strconv.FormatInt(out.Code, 10)]++
	if out.Code == impl.OK {
		p.s = out.Server
	}
	return out.Code == impl.OK
}

func (p *serverPlay) put(t *testing.T, next func(int) int) {
	host := anyName(next)
	path := []string{"a", "b", "a/b", "c/d/e", "a/b/c", "f"}[next(6)]
	f := anyFileAt(next, path)
	tree := p.treeOf(host)
	there := slices.ContainsFunc(p.s.Hosts, func(h impl.Host) bool { return h.Name == host })
	want := impl.ServerOut{}
	switch {
	case !impl.NameRight(host):
		want.Code = impl.ErrForm
	case !there && len(p.s.Hosts) == 6:
		want.Code = impl.ErrFull
	case !mayBePut(tree, f):
		want.Code = impl.ErrState
	default:
		hosts := slices.DeleteFunc(slices.Clone(p.s.Hosts), func(h impl.Host) bool { return h.Name == host })
		hosts = append(hosts, impl.Host{Name: host, Tree: impl.TreePut(tree, f)})
		slices.SortFunc(hosts, func(a impl.Host, b impl.Host) int { return strings.Compare(a.Name, b.Name) })
		want.Server = withHosts(p.s, hosts...)
	}
	wantHostPut(t, "in a play", p.s, host, f, want)
	if p.took("put", impl.HostPut(p.s, host, f)) {
		wantPutHolds(t, tree, f, p.treeOf(host))
	}
}

func (p *serverPlay) drop(t *testing.T, next func(int) int) {
	host, path := anyName(next), []string{"a", "b", "a/b", "c", "none"}[next(5)]
	tree := p.treeOf(host)
	want := impl.ServerOut{Code: impl.ErrNone}
	if !impl.NameRight(host) {
		want.Code = impl.ErrForm
	} else if slices.Contains(pathsOf(tree), path) {
		at := slices.IndexFunc(p.s.Hosts, func(h impl.Host) bool { return h.Name == host })
		want = impl.ServerOut{Server: hostAt(p.s, at, impl.TreeDrop(tree, path))}
	}
	wantHostDrop(t, "in a play", p.s, host, path, want)
	if p.took("drop", impl.HostDrop(p.s, host, path)) {
		wantDropHolds(t, tree, path, p.treeOf(host))
	}
}

func (p *serverPlay) note(host string, id int64) {
	if p.points[host] == nil {
		p.points[host] = map[int64][]impl.File{}
	}
	p.points[host][id] = p.treeOf(host)
}

func (p *serverPlay) backup(t *testing.T, next func(int) int) {
	host := anyName(next)
	wantBackupAt(t, "in a play", p.s, host, 4, backedUpByHand(p.s, host, 4))
	out := impl.Backup(p.s, host)
	if p.took("backup", out) {
		p.note(host, out.Id)
		wantPoint(t, "in a play", p.s, host, out.Id)
	}
}

func (p *serverPlay) tear(t *testing.T, next func(int) int) {
	host, steps := anyName(next), int64(next(5))
	want := backedUpByHand(p.s, host, steps)
	wantBackupAt(t, "in a play", p.s, host, steps, want)
	out := impl.BackupAt(p.s, host, steps)
	if !p.took("torn", out) {
		return
	}
	var tapes []int64
	for range next(9) {
		tapes = append(tapes, int64(next(30)-3))
	}
	log, unsynced := int64(next(90)-3), int64(len(p.s.Log))-p.s.Synced
	wantServerCrashed(t, "in a play", p.s, tapes, log, crashedServerByHand(p.s, tapes, log))
	p.s = impl.ServerCrash(p.s, tapes, log)
	wantRecovered(t, "in a play", p.s, withLog(p.s, p.s.Log[:impl.LogOf(p.s.Log).At]))
	p.s = impl.ServerRecover(p.s)
	if steps > 3 || steps == 3 && log >= unsynced {
		p.note(host, out.Id)
		p.told["whole"]++
	}
}

func (p *serverPlay) prune(t *testing.T) {
	last := map[string][]int64{}
	for host := range p.points {
		ids := impl.Points(p.s, host)
		last[host] = ids[max(0, len(ids)-int(p.s.Keep)):]
	}
	wantPruned(t, "in a play", p.s, prunedByHand(p.s))
	if !p.took("prune", impl.Prune(p.s)) {
		return
	}
	for host, trees := range p.points {
		left := impl.Points(p.s, host)
		if len(left) < len(last[host]) || !slices.Equal(left[len(left)-len(last[host]):], last[host]) {
			t.Errorf("pruned: of %s are left the points %v, the last ones were %v", host, left, last[host])
		}
		maps.DeleteFunc(trees, func(id int64, tree []impl.File) bool { return !slices.Contains(left, id) })
	}
}

// look: just the points that must be there are, each with its tree, and of a chain of them.
func (p *serverPlay) look(t *testing.T) {
	wantServerRight(t, "in a play", p.s, true)
	for host, trees := range p.points {
		points := impl.Points(p.s, host)
		if !slices.Equal(points, slices.Sorted(maps.Keys(trees))) {
			t.Errorf("the points of %s are %v, want %v", host, points, slices.Sorted(maps.Keys(trees)))
		}
		for id, tree := range trees {
			got := impl.Restore(p.s, host, id)
			chain := impl.ChainOf(impl.MarksOf(impl.LogOf(p.s.Log).Dumps, host), id)
			if got.Code != impl.OK || !slices.Equal(got.Tree, tree) || !slices.Equal(got.Ids, chain) || !slices.Equal(got.Tree, restoredByHand(p.s, id)) {
				t.Errorf("the point %d of %s is %s, was %s", id, host, brief(got), brief(tree))
			}
		}
	}
}

// anyFault: the server with some of it turned, mostly so that it is not right any more.
func (p *serverPlay) anyFault(next func(int) int) impl.Server {
	s := ownServer(p.s)
	turned := func(n *int64) { *n += int64(next(3) - 1) }
	switch tape := next(len(s.Tapes)); next(9) {
	case 0:
		turned(&s.Synced)
	case 1:
		turned(&s.Levels)
	case 2:
		turned(&s.Keep)
	case 3:
		turned(&s.Tapes[tape].Label)
	case 4:
		turned(&s.Tapes[tape].Synced)
	case 5:
		blocks := s.Tapes[tape].Blocks
		if len(blocks) > 0 {
			at := next(len(blocks))
			blocks[at] = blocks[at][:63] + "?"
		}
	case 6:
		s = withLog(s, s.Log[:next(len(s.Log)+1)])
	case 7:
		blocks := s.Tapes[tape].Blocks
		s.Tapes[tape].Blocks = blocks[:next(len(blocks)+1)]
		s.Tapes[tape].Synced = int64(len(s.Tapes[tape].Blocks))
	default:
		if len(s.Hosts) > 1 {
			s.Hosts[0] = s.Hosts[next(2)]
		}
	}
	return s
}

// Promises 17 to 23, in plays of all that may be done with a server.
func TestServersInUse(t *testing.T) {
	told := map[string]int{}
	for seed := range uint32(30) {
		next := rowOfNumbers(1000 + seed)
		p := anyServer(next)
		p.told = told
		for range 60 {
			was := p.s
			switch next(12) {
			case 0:
				p.drop(t, next)
			case 1:
				p.s = impl.ServerDay(p.s, int64(next(9)))
			case 2, 3:
				p.tear(t, next)
			case 4:
				p.prune(t)
			case 5:
				wantRecycled(t, "in a play", p.s, recycledByHand(p.s))
				out := impl.Recycle(p.s)
				told["tapes cleared"] += int(out.Id)
				p.took("recycle", out)
			case 6, 7, 8, 9:
				p.put(t, next)
			default:
				p.backup(t, next)
			}
			// Where neither of these has changed, all points are as they were.
			if was.Log != p.s.Log || !sameTapes(was.Tapes, p.s.Tapes) {
				p.look(t)
			}
			fault := p.anyFault(next)
			wantServerRight(t, "turned in a play", fault, serverRightByHand(fault))
			if t.Failed() {
				t.Fatalf("in the play %d", seed)
			}
		}
	}
	for _, what := range []string{"put 0", "put 1", "put 9", "put 10", "drop 0", "drop 6", "backup 0", "backup 6", "backup 9", "torn 0", "prune 0", "recycle 0", "whole", "tapes cleared"} {
		if told[what] < 5 {
			t.Errorf("too few plays tell of %s: %v", what, told)
		}
	}
}

// Nothing is kept from call to call: an answer that is written over changes no other one.
func TestServersAlone(t *testing.T) {
	s := tornServer()
	right := sampleServer()
	calls := map[string]func() impl.Server{
		"ServerNew":     func() impl.Server { return impl.ServerNew(3, 2, 8, 300) },
		"HostPut":       func() impl.Server { return impl.HostPut(right, "a", dataAt("q", "data")).Server },
		"HostDrop":      func() impl.Server { return impl.HostDrop(right, "a", "d").Server },
		"ServerDay":     func() impl.Server { return impl.ServerDay(right, 4) },
		"Backup":        func() impl.Server { return impl.Backup(right, "a").Server },
		"ServerCrash":   func() impl.Server { return impl.ServerCrash(s, []int64{1, 2, 3}, 4) },
		"ServerRecover": func() impl.Server { return impl.ServerRecover(s) },
		"Prune":         func() impl.Server { return impl.Prune(right).Server },
		"Recycle":       func() impl.Server { return impl.Recycle(wiped(right)).Server },
	}
	for steps := range int64(4) {
		calls["BackupAt "+strconv.FormatInt(steps, 10)] = func() impl.Server { return impl.BackupAt(right, "a", steps).Server }
	}
	for what, call := range calls {
		first, second := call(), call()
		if diff := serverDiff(first, second); diff != "" {
			t.Errorf("%s: two calls tell two answers:%s", what, diff)
		}
		wantServersApart(t, what, first, second)
		was := ownServer(second)
		for i := range first.Hosts {
			clear(first.Hosts[i].Tree)
		}
		for i := range first.Tapes {
			clear(first.Tapes[i].Blocks)
		}
		clear(first.Hosts)
		clear(first.Tapes)
		if serverDiff(second, was) != "" || serverDiff(call(), was) != "" || serverDiff(s, tornServer()) != "" || serverDiff(right, sampleServer()) != "" {
			t.Errorf("%s: an answer, or what was handed in, has changed with another answer", what)
		}
	}
	one, two := impl.Restore(right, "a", 9), impl.Restore(right, "a", 9)
	if listsOverlap(one.Ids, two.Ids) || filesShareMemory(one.Tree, two.Tree) || listsOverlap(impl.Points(right, "a"), impl.Points(right, "a")) {
		t.Error("two answers of Restore or Points share memory")
	}
}
