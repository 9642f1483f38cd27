package tests

import (
	"math"
	"slices"
	"strconv"
	"strings"
	"testing"

	"loop.example/g00310/impl"
)

// eventRow: the events that are written so, "3x12" being twelve times a 3.
func eventRow(written string) []int64 {
	var out []int64
	for _, word := range strings.Fields(written) {
		number, times, found := strings.Cut(word, "x")
		if !found {
			times = "1"
		}
		event, err := strconv.ParseInt(number, 10, 64)
		many, errMany := strconv.Atoi(times)
		if err != nil || errMany != nil {
			panic("events by hand: " + word)
		}
		out = append(out, slices.Repeat([]int64{event}, many)...)
	}
	return out
}

// wantOver calls OverRun, and looks at the answer, at its memory, and at what was handed in.
func wantOver(t *testing.T, what string, text string, events []int64, want impl.OverOut) {
	t.Helper()
	ownText, ownEvents := strings.Clone(text), ownList(events)
	got := impl.OverRun(ownText, ownEvents)
	if got != want {
		t.Errorf("OverRun: %s: %d bytes, events %s: got %s, want %s", what, len(text), brief(events), brief(got), brief(want))
	}
	if sharesMemory(got.Text, ownText) {
		t.Errorf("OverRun: %s: the answer shares memory with the text that was handed in", what)
	}
	if ownText != text {
		t.Errorf("OverRun: %s: the text that was handed in has changed", what)
	}
	wantListAlone(t, "OverRun: "+what, ownEvents, events)
}

// The pieces that a text of so many bytes has are written by hand here.
func overSizes() map[int]int {
	return map[int]int{
		0: 1, 1: 1, 2: 1, 63: 1, 64: 1, 65: 2, 127: 2, 128: 2, 129: 3, 192: 3, 193: 4, 256: 4, 257: 5, 320: 5, 321: 6,
		18816: 294, 19135: 299, 19136: 299, 19137: 300, 19199: 300, 19200: 300,
	}
}

// overByHand: a text of so many pieces that has come, and of which the Sender knows so.
func overByHand(text string, sent int64) impl.OverOut {
	return impl.OverOut{Text: text, Done: true, Acked: true, Sent: sent}
}

func TestOverTexts(t *testing.T) {
	for size, pieces := range overSizes() {
		text := bytesRun(size)
		window := int64(min(4, pieces))
		wantOver(t, "no events", text, nil, impl.OverOut{})
		wantOver(t, "an empty list", text, []int64{}, impl.OverOut{})
		wantOver(t, "sent", text, eventRow("0"), impl.OverOut{Sent: window})
		wantOver(t, "lost", text, eventRow("0 2x4 1x4 5x4"), impl.OverOut{Sent: window})
		all := impl.OverOut{Sent: window}
		if pieces <= 4 {
			all = impl.OverOut{Text: text, Done: true, Sent: window}
		}
		wantOver(t, "the window has come", text, eventRow("0 1x4"), all)
		all.Acked = all.Done
		wantOver(t, "the acks have come", text, eventRow("0 1x4 5x4"), all)
	}
}

// Without a fault each window goes once; more windows than these don't fit in a list of MaxList events.
func TestOverWindows(t *testing.T) {
	for _, pieces := range []int{1, 2, 3, 4, 5, 6, 7, 8, 9, 12, 13, 40, 63, 64, 65, 128, 173, 175, 176} {
		for _, size := range []int{pieces*64 - 63, pieces * 64} {
			text := bytesRun(size)
			rounds := (pieces + 3) / 4
			events := slices.Repeat(eventRow("0 1x4 5x4"), rounds)
			wantOver(t, "all windows", text, events, overByHand(text, int64(pieces)))
			if rounds < 44 {
				wantOver(t, "behind them", text, append(events, 0, 1, 0, 1), overByHand(text, int64(pieces)))
			}
			// The last piece's ack is the one ahead of those for which there is nothing.
			last := 9*(rounds-1) + 1 + 4 + (pieces - 4*(rounds-1))
			wantOver(t, "all but the last ack", text, events[:last-1], impl.OverOut{Text: text, Done: true, Sent: int64(pieces)})
			wantOver(t, "all but the last acks", text, events[:9*(rounds-1)+5], impl.OverOut{Text: text, Done: true, Sent: int64(pieces)})
			last = 9*(rounds-1) + 1 + (pieces - 4*(rounds-1))
			wantOver(t, "all but the last Packet", text, events[:last-1], impl.OverOut{Sent: int64(pieces)})
		}
	}
}

func TestOverSizeFaults(t *testing.T) {
	most, beyond := eventRow("0x400"), eventRow("0x401")
	for _, size := range []int{19201, 19264, 19999, 20000} {
		text := bytesRun(size)
		for _, events := range [][]int64{nil, {}, {0}, {0, 1, 5}, {-1}, most} {
			wantOver(t, "more pieces than may be", text, events, impl.OverOut{Code: impl.ErrForm})
		}
		wantOver(t, "more pieces than may be, and more events", text, beyond, impl.OverOut{Code: impl.ErrSize})
	}
	for _, size := range []int{20001, 20002, 30000, 200000} {
		text := bytesRun(size)
		for _, events := range [][]int64{nil, {}, {0}, {0, 1, 5}, {-1}, most, beyond, eventRow("0 1 5x5000")} {
			wantOver(t, "more bytes than may be", text, events, impl.OverOut{Code: impl.ErrSize})
		}
	}
	for size := range overSizes() {
		for _, events := range [][]int64{beyond, eventRow("0 1x4 5x4 7x392"), eventRow("-1x401"), eventRow("0 1 5x1000")} {
			wantOver(t, "more events than may be", bytesRun(size), events, impl.OverOut{Code: impl.ErrSize})
		}
	}
}

// Of MaxList events the last one happens, too.
func TestOverMostEvents(t *testing.T) {
	wantOver(t, "the last one a sending", "hello", eventRow("7x399 0"), impl.OverOut{Sent: 1})
	wantOver(t, "the last one a Packet", "hello", eventRow("7x398 0 1"), impl.OverOut{Text: "hello", Done: true, Sent: 1})
	wantOver(t, "the last one an ack", "hello", eventRow("7x397 0 1 5"), overByHand("hello", 1))
	wantOver(t, "400 with nothing for them", "hello", eventRow("1x100 2x100 4x100 6x100"), impl.OverOut{})
}

// otherEvents are those that have no row in the document's table.
func otherEvents() []int64 {
	out := []int64{-1, -2, -3, -4, -5, -6, -7, 7, 8, 9, 10, 48, 49, 53, 64, 100, 255, math.MinInt64, math.MinInt64 + 1, math.MaxInt64, math.MaxInt64 - 1}
	for n := range int64(7) {
		// Numbers of which a smaller kind of integer would keep an event's.
		out = append(out, n+1<<8, n+1<<16, n+1<<32, n-1<<8, n-1<<16, n-1<<32, n+math.MinInt64)
	}
	return out
}

// playedRows: events of all kinds, with what is told of them over the 130 bytes that have three pieces.
func playedRows() map[string]impl.OverOut {
	text := bytesRun(130)
	part, come, known := impl.OverOut{}, impl.OverOut{Text: text, Done: true}, impl.OverOut{Text: text, Done: true, Acked: true}
	told := func(out impl.OverOut, sent int64) impl.OverOut {
		out.Sent = sent
		return out
	}
	return map[string]impl.OverOut{
		"":                              part,
		"0":                             told(part, 3),
		"0 1":                           told(part, 3),
		"0 1 1":                         told(part, 3),
		"0 1 1 1":                       told(come, 3),
		"0 1 1 1 5":                     told(come, 3),
		"0 1 1 1 5 5":                   told(come, 3),
		"0 1 1 1 5 5 5":                 told(known, 3),
		"0 1 5 1 5 1 5":                 told(known, 3),
		"0 1 1 1 6 6 5":                 told(known, 3),
		"0 1 1 1 6 5 6":                 told(come, 3),
		"0 1 1 1 5 5 6 0":               told(come, 4),
		"0 1 1 1 5 5 6 0 1 5":           told(known, 4),
		"0 1 1 1 6 6 6 0":               told(come, 6),
		"0 1 1 1 6 6 6 0 1 5":           told(known, 6),
		"0 1 1 1 6 6 6 0 1 5 1 5 1 5":   told(known, 6),
		"0 2 1 1":                       told(part, 3),
		"0 2 1 1 5 5":                   told(part, 3),
		"0 2 1 1 5 5 0":                 told(part, 6),
		"0 2 1 1 5 5 0 1 1 1":           told(come, 6),
		"0 2 2 2 1 1 1 0 1 1 1 5 5 5":   told(known, 6),
		"0 1 2 1 0":                     told(part, 6),
		"0 1 2 1 5 0":                   told(part, 5),
		"0 1 2 1 5 0 1 1":               told(come, 5),
		"0 1 2 1 5 0 1 1 5 5":           told(come, 5),
		"0 1 2 1 5 0 1 1 5 5 5":         told(known, 5),
		"0 4 1 1 1":                     told(part, 3),
		"0 4 1 1 1 5 5":                 told(part, 3),
		"0 4 1 1 1 5 5 0":               told(part, 6),
		"0 4 1 1 1 5 5 5 0":             told(part, 5),
		"0 4 4 1 1 1 5 5 0":             told(part, 5),
		"0 4 4 4 1 1 1":                 told(come, 3),
		"0 4x30 1 1 1 5 5 5":            told(known, 3),
		"0 4x29 1 1 1 5 5 5":            told(part, 3),
		"0 3 1 1 1":                     told(come, 3),
		"0 3 1 1 1 1 5 5 5":             told(known, 3),
		"0 3 2 1 1 1":                   told(part, 3),
		"0 3 2 1 1 1 1 5 5 5 0":         told(part, 5),
		"0 3 3 3 4 1 1 1 1 1 1":         told(part, 3),
		"0 3 4 3 4 3 4 1 1 1 1 1 1":     told(come, 3),
		"0 1 3 2 2 1 1 5 5 0":           told(part, 4),
		"0 1 3 2 2 1 1 5 5 0 1":         told(come, 4),
		"0 1 3 2 2 1 1 5 5 0 1 5":       told(known, 4),
		"1 2 3 4 5 6":                   part,
		"1 2 3 4 5 6 0 5 6 1 2 3 4 6 5": told(part, 3),
		"0 0":                           told(part, 6),
		"0 0 0":                         told(part, 6),
		"0 0 0 0":                       told(part, 9),
		"0 0 2x3 1 1 1":                 told(come, 6),
		"0 0 2x4 1 1":                   told(part, 6),
		"0 0 1x6 6x5 5":                 told(known, 6),
		"0 0 1x3 5x3 0 0 0 0 0 0":       told(known, 6),
	}
}

func TestOverPlayed(t *testing.T) {
	for written, want := range playedRows() {
		wantOver(t, written, bytesRun(130), eventRow(written), want)
	}
}

// An event of another number changes nothing, wherever it stands.
func TestOverOtherEvents(t *testing.T) {
	others := otherEvents()
	for _, n := range others {
		if n >= 0 && n <= 6 {
			t.Fatalf("%d is no other event", n)
		}
		wantOver(t, "alone", "hello", []int64{n}, impl.OverOut{})
		wantOver(t, "among others", "hello", []int64{n, 0, n, 1, n, 5, n}, overByHand("hello", 1))
	}
	wantOver(t, "all of them", "hello", others, impl.OverOut{})
	for written, want := range playedRows() {
		events := eventRow(written)
		for at := range len(events) + 1 {
			for _, n := range others {
				wantOver(t, written+", and one more at "+strconv.Itoa(at), bytesRun(130), slices.Insert(slices.Clone(events), at, n), want)
			}
		}
	}
}

// An event for which there is nothing changes nothing.
func TestOverNothingThere(t *testing.T) {
	for n := int64(1); n <= 6; n++ {
		for size := range overSizes() {
			text := bytesRun(size)
			wantOver(t, "at first", text, []int64{n}, impl.OverOut{})
			wantOver(t, "often", text, slices.Repeat([]int64{n}, 400), impl.OverOut{})
			wantOver(t, "ahead of a sending", text, []int64{n, n, 0}, impl.OverOut{Sent: int64(min(4, overSizes()[size]))})
		}
		wantOver(t, "ahead of all", "hello", []int64{n, 0, 1, 5}, overByHand("hello", 1))
		wantOver(t, "behind all", "hello", []int64{0, 1, 5, n, n, 0, n}, overByHand("hello", 1))
		if n >= 5 {
			wantOver(t, "no acks yet", "hello", []int64{0, n, n, 1, 5}, overByHand("hello", 1))
		} else {
			wantOver(t, "no Packets any more", "hello", []int64{0, 1, n, n, 5}, overByHand("hello", 1))
			wantOver(t, "none behind one that was lost", "hello", []int64{0, 2, n, n, 1, 5}, impl.OverOut{Sent: 1})
		}
	}
}

// No ack comes: the times at which a piece goes again are written by hand.
func TestOverSentAgain(t *testing.T) {
	times := []int{1, 2, 4, 8, 16, 32, 64, 128, 192, 256, 320, 384}
	for ticks := range 401 {
		var sent int64
		for _, at := range times {
			if at <= ticks {
				sent++
			}
		}
		events := slices.Repeat([]int64{0}, ticks)
		for size, pieces := range map[int]int64{0: 1, 64: 1, 65: 2, 200: 4, 321: 4, 19200: 4} {
			wantOver(t, "no ack comes", bytesRun(size), events, impl.OverOut{Sent: pieces * sent})
		}
	}
}

// An ack that tells more lets the next pieces go with the next time, and the wait begins anew.
func TestOverSentAfterAcks(t *testing.T) {
	text := bytesRun(65)
	for _, c := range []struct {
		written string
		sent    int64
	}{
		{"0x16 1", 10}, {"0x16 1 0x15", 10}, {"0x16 1 0x16", 12},
		// The first ack comes at the time 16, and the second piece goes at 17, 18, 20, 24, 32, 48, 80.
		{"0x16 1 5", 10}, {"0x16 1 5 0", 11}, {"0x16 1 5 0 0", 12}, {"0x16 1 5 0x3", 12}, {"0x16 1 5 0x4", 13},
		{"0x16 1 5 0x7", 13}, {"0x16 1 5 0x8", 14}, {"0x16 1 5 0x15", 14}, {"0x16 1 5 0x16", 15}, {"0x16 1 5 0x31", 15},
		{"0x16 1 5 0x32", 16}, {"0x16 1 5 0x63", 16}, {"0x16 1 5 0x64", 17}, {"0x16 1 5 0x127", 17}, {"0x16 1 5 0x128", 18},
		// One that comes late has been waited for all the longer.
		{"0x16 1 0x6 5", 10}, {"0x16 1 0x6 5 0", 11}, {"0x16 1 0x6 5 0 0", 12}, {"0x16 1 0x6 5 0x3", 12},
		// One that was lost changes nothing.
		{"0x16 1 6 0x15", 10}, {"0x16 1 6 0x16", 12},
	} {
		wantOver(t, c.written, text, eventRow(c.written), impl.OverOut{Sent: c.sent})
	}
}

// An ack that comes twice changes nothing, also not the time at which a piece goes again.
func TestOverAcksTwice(t *testing.T) {
	text := bytesRun(65)
	for _, c := range []struct {
		written string
		want    impl.OverOut
	}{
		// The first Packet is doubled, and its second ack comes once the other piece is waited for.
		{"0 3 1 5 0 0", impl.OverOut{Sent: 4}},
		{"0 3 1 5 0 0 2 1 5", impl.OverOut{Sent: 4}},
		{"0 3 1 5 0 0 2 1 5 0", impl.OverOut{Sent: 4}},
		{"0 3 1 5 0 0 2 1 5 0 0", impl.OverOut{Sent: 5}},
		{"0 3 1 5 0 0 2 1 5 0 0 0", impl.OverOut{Sent: 5}},
		// Both come at once.
		{"0 3 4 1 1 5 5 0", impl.OverOut{Sent: 3}},
		{"0 3 4 4 1 1 5 5 0", impl.OverOut{Sent: 3}},
		// An ack of nothing is for no more than is known from the beginning.
		{"0 2 1 5 0", impl.OverOut{Sent: 4}},
		{"0 2 1 5 0 0 0", impl.OverOut{Sent: 6}},
		{"0 0 2 1 5 0", impl.OverOut{Sent: 4}},
		{"0 0 2 1 5 0 0", impl.OverOut{Sent: 6}},
		// Acks of all come behind the one by which the Sender knows so.
		{"0 1 1 3 3 1 1 5 5 5 5", overByHand(text, 2)},
		{"0 0 1 1 5 5 1 1 5 5 0 0 0 0", overByHand(text, 4)},
	} {
		wantOver(t, c.written, text, eventRow(c.written), c.want)
	}
}

// What comes ahead of its turn, or twice, is not taken, and is answered with how many have come.
func TestOverOutOfTurn(t *testing.T) {
	text := bytesRun(65)
	for _, c := range []struct {
		written string
		want    impl.OverOut
	}{
		{"0 4 1", impl.OverOut{Sent: 2}},
		{"0 4 1 1", impl.OverOut{Sent: 2}},
		{"0 4 1 1 5 0", impl.OverOut{Sent: 4}},
		{"0 4 1 1 5 5 0", impl.OverOut{Sent: 3}},
		{"0 4 1 1 5 5 0 1", impl.OverOut{Text: text, Done: true, Sent: 3}},
		{"0 3 1 1 1", impl.OverOut{Text: text, Done: true, Sent: 2}},
		{"0 3 1 1 1 5 5", overByHand(text, 2)},
		{"0 3 1 1 1 6 6 5", overByHand(text, 2)},
		{"0 3 4 1 1 1", impl.OverOut{Sent: 2}},
		{"0 3 4 1 1 1 5 5 5 0 1", impl.OverOut{Text: text, Done: true, Sent: 3}},
		{"0 1 3 1 1 6 6 5", overByHand(text, 2)},
	} {
		wantOver(t, c.written, text, eventRow(c.written), c.want)
	}
}

// wantLeft: behind these events just so many Packets are under way, the last of which is the first piece.
func wantLeft(t *testing.T, written string, left int, text string, sent int64) {
	t.Helper()
	events := eventRow(written)
	take := func(lost int) []int64 {
		return append(append(slices.Clone(events), slices.Repeat([]int64{2}, lost)...), 1)
	}
	wantOver(t, written+": the last one comes", text, take(left-1), impl.OverOut{Text: text, Done: true, Sent: sent})
	wantOver(t, written+": there is none behind it", text, take(left), impl.OverOut{Sent: sent})
}

func TestOverFullNets(t *testing.T) {
	for _, size := range []int{0, 1, 64} {
		text := bytesRun(size)
		for doubled := range 60 {
			wantLeft(t, "0 3x"+strconv.Itoa(doubled), min(40, doubled+1), text, 1)
		}
		wantLeft(t, "0 4", 1, text, 1)
		wantLeft(t, "0 4x100", 1, text, 1)
		wantLeft(t, "0 3 4", 2, text, 1)
		wantLeft(t, "0 3x38 0", 40, text, 2)
		wantLeft(t, "0 3x39 0", 40, text, 2)
		wantLeft(t, "0 3x39 0 0 0", 40, text, 3)
		wantLeft(t, "0 3x39 4", 40, text, 1)
		wantLeft(t, "0 3x39 4x41 0 4 3 4", 40, text, 2)
		// A place that has come free is taken again.
		wantLeft(t, "0 3x39 2 0", 40, text, 2)
		wantLeft(t, "0 3x39 2 3", 40, text, 1)
		wantLeft(t, "0 3x39 2 2 0", 39, text, 2)
		wantLeft(t, "0 3x39 2x40 0", 1, text, 2)
		wantLeft(t, "0 3x39 0 2 3 3 2", 39, text, 2)
	}
}

// Of the four Packets that go at once, those go into the net for which there is room.
func TestOverFullNetsOfWindows(t *testing.T) {
	text := bytesRun(300)
	for free := range 5 {
		// The first four are under way, and doubles of the first of them.
		ahead := "0 3x" + strconv.Itoa(36-free) + " 0 2x" + strconv.Itoa(40-free)
		wantOver(t, ahead, text, eventRow(ahead), impl.OverOut{Sent: 8})
		wantOver(t, ahead+": what has room is acked", text, eventRow(ahead+" 1x5 5x5 0"), impl.OverOut{Sent: 8 + int64([]int{0, 4, 3, 2, 1}[free])})
	}
	// All four that are lost are counted, too; no Packet of the fifth piece ever went.
	wantOver(t, "four lost at once", text, eventRow("0 3x36 0 0 0"), impl.OverOut{Sent: 12})
	wantOver(t, "windows alone", text, eventRow("0x320"), impl.OverOut{Sent: 44})
	wantOver(t, "windows alone, and the last one in the net", text, eventRow("0x320 2x36 1x4 5x4 0"), impl.OverOut{Sent: 45})
	wantOver(t, "windows alone, and none behind it", text, eventRow("0x320 2x40 1x4 5x4 0"), impl.OverOut{Sent: 44})
}

// In a full net what goes to the end stays, and what is doubled does not.
func TestOverFullNetsKeepTheirOrder(t *testing.T) {
	text := bytesRun(65)
	for _, c := range []struct {
		written string
		want    impl.OverOut
	}{
		// The net: the first piece, the second one, 38 doubles of the first.
		{"0 3x38 2x39 1", impl.OverOut{Sent: 2}},
		{"0 3x38 1 1", impl.OverOut{Text: text, Done: true, Sent: 2}},
		{"0 3x38 2 2 1 1", impl.OverOut{Sent: 2}},
		// The second piece goes to the end, and is the last one there.
		{"0 3x38 1 4 2x38 1", impl.OverOut{Text: text, Done: true, Sent: 2}},
		{"0 3x38 4 4 1 2x38 1", impl.OverOut{Text: text, Done: true, Sent: 2}},
		{"0 3x38 4 4 1 2x37 1 1", impl.OverOut{Text: text, Done: true, Sent: 2}},
		{"0 3x38 4 4 1 2x39 1", impl.OverOut{Sent: 2}},
		// The second piece is doubled where there is no room, and where there is.
		{"0 3x38 4 3 2 1x39", impl.OverOut{Sent: 2}},
		{"0 3x38 1 3 2 1x39", impl.OverOut{Text: text, Done: true, Sent: 2}},
	} {
		wantOver(t, c.written, text, eventRow(c.written), c.want)
	}
}

func TestOverFullAcks(t *testing.T) {
	text := bytesRun(65)
	// 39 Packets of the first piece have come, and nothing else is under way but their acks.
	ahead := "0 3x38 1 2 1x38 "
	for _, c := range []struct {
		written string
		want    impl.OverOut
	}{
		{"", impl.OverOut{Sent: 2}},
		// One ack more, of both pieces, is the last for which there is room.
		{"0 2 1 6x39", impl.OverOut{Text: text, Done: true, Sent: 4}},
		{"0 2 1 6x39 5", overByHand(text, 4)},
		{"0 2 1 6x40 5", impl.OverOut{Text: text, Done: true, Sent: 4}},
		// Behind a fortieth ack of the first piece the one of both is lost.
		{"0 1 1 6x39 5", impl.OverOut{Text: text, Done: true, Sent: 4}},
		{"0 1 1 6x39 5 5", impl.OverOut{Text: text, Done: true, Sent: 4}},
		{"0 1 1 6x40 5", impl.OverOut{Text: text, Done: true, Sent: 4}},
		// The fortieth one is there: the Sender knows of the first piece by it, and of nothing without it.
		{"0 1 1 6x39 5 0", impl.OverOut{Text: text, Done: true, Sent: 5}},
		{"0 1 1 6x39 5 0 0", impl.OverOut{Text: text, Done: true, Sent: 6}},
		{"0 1 1 6x40 5 0", impl.OverOut{Text: text, Done: true, Sent: 4}},
		{"0 1 1 6x40 5 0 0", impl.OverOut{Text: text, Done: true, Sent: 6}},
		// One of the forty has come, or was lost: there is room for the one of both.
		{"0 1 6 1 6x39", impl.OverOut{Text: text, Done: true, Sent: 4}},
		{"0 1 6 1 6x39 5", overByHand(text, 4)},
		{"0 1 5 1 6x39 5", overByHand(text, 4)},
		{"0 1 6 1 6x40 5", impl.OverOut{Text: text, Done: true, Sent: 4}},
	} {
		wantOver(t, ahead+c.written, text, eventRow(ahead+c.written), c.want)
	}
}

// lineByHand is a line told by numbers alone: a Packet is the number of its piece.
type lineByHand struct {
	pieces, acked, got int
	now, due, wait     int
	net, acks          []int
	sent               int64
	lost               bool
}

// capped: what is under way, of which only 40 are.
func (l *lineByHand) capped(under []int) []int {
	l.lost = l.lost || len(under) > 40
	return under[:min(40, len(under))]
}

func (l *lineByHand) goesOn() {
	l.now++
	if l.acked == l.pieces || l.now < l.due {
		return
	}
	for seq := l.acked; seq < l.acked+4 && seq < l.pieces; seq++ {
		l.net = append(l.net, seq)
		l.sent++
	}
	l.net = l.capped(l.net)
	l.due, l.wait = l.now+l.wait, min(64, l.wait*2)
}

func (l *lineByHand) comes(seq int) {
	if seq == l.got {
		l.got++
	}
	l.acks = l.capped(append(l.acks, l.got))
}

func (l *lineByHand) hears(ack int) {
	if ack > l.acked {
		l.acked, l.due, l.wait = ack, l.now, 1
	}
}

func (l *lineByHand) does(event int64) {
	packet, ack := len(l.net) > 0, len(l.acks) > 0
	switch {
	case event == 0:
		l.goesOn()
	case event == 1 && packet:
		seq := l.net[0]
		l.net = slices.Clone(l.net[1:])
		l.comes(seq)
	case event == 2 && packet:
		l.net = slices.Clone(l.net[1:])
	case event == 3 && packet:
		l.net = l.capped(append(l.net, l.net[0]))
	case event == 4 && packet:
		l.net = append(slices.Clone(l.net[1:]), l.net[0])
	case event == 5 && ack:
		l.hears(l.acks[0])
		l.acks = slices.Clone(l.acks[1:])
	case event == 6 && ack:
		l.acks = slices.Clone(l.acks[1:])
	}
}

func newLineByHand(size int) *lineByHand {
	return &lineByHand{pieces: max(1, (size+63)/64), wait: 1}
}

// told: what OverRun tells of it, of that text.
func (l *lineByHand) told(text string) impl.OverOut {
	out := impl.OverOut{Sent: l.sent, Acked: l.acked == l.pieces, Done: l.got == l.pieces}
	if out.Done {
		out.Text = text
	}
	return out
}

// wantPlayed: OverRun of these tells what the line by hand does, and nothing of the text, or all of it.
func wantPlayed(t *testing.T, what string, text string, events []int64) *lineByHand {
	t.Helper()
	l := newLineByHand(len(text))
	for _, n := range events {
		l.does(n)
	}
	wantOver(t, what, text, events, l.told(text))
	got := impl.OverRun(text, events)
	if got.Done && got.Text != text || !got.Done && (got.Text != "" || got.Acked) {
		t.Errorf("OverRun: %s: of %d bytes %d came, Done %v, Acked %v", what, len(text), len(got.Text), got.Done, got.Acked)
	}
	return l
}

// Each row of so many events, from none on, and behind some that bring things under way.
func TestOverEachRow(t *testing.T) {
	for _, ahead := range []string{"", "0 1 3 0", "0 4 1 0", "0 0 3x30", "0 3x38 0 1x38"} {
		start := eventRow(ahead)
		for _, size := range []int{10, 100} {
			text := bytesRun(size)
			rows := [][]int64{start}
			for range 4 {
				var longer [][]int64
				for _, row := range rows {
					wantPlayed(t, "each row", text, row)
					for n := range int64(7) {
						longer = append(longer, append(slices.Clone(row), n))
					}
				}
				rows = longer
			}
			for _, row := range rows {
				wantPlayed(t, "each row", text, row)
			}
		}
	}
}

// anyEvents: a row of events in which some kinds are more frequent than others.
func anyEvents(next func(int) int) []int64 {
	var kinds []int64
	for n := range int64(8) {
		kinds = append(kinds, slices.Repeat([]int64{n}, next(8))...)
	}
	kinds = append(kinds, slices.Repeat([]int64{1}, next(20))...)
	kinds = append(kinds, slices.Repeat([]int64{5}, next(20))...)
	kinds = append(kinds, 0, -1)
	var out []int64
	for range next(impl.MaxList + 1) {
		out = append(out, kinds[next(len(kinds))])
	}
	return out
}

// Promise 24: what comes over the line is nothing, or all of it.
func TestOverNothingOrAll(t *testing.T) {
	next := rowOfNumbers(24)
	told := map[string]int{}
	for play := range 6000 {
		size := next(800)
		if play%3 == 0 {
			size = next(mostOnLine + 1)
		}
		l := wantPlayed(t, "play "+strconv.Itoa(play), bytesRun(size), anyEvents(next))
		switch {
		case l.acked == l.pieces:
			told["known"]++
		case l.got == l.pieces:
			told["come"]++
		case l.got > 0:
			told["part"]++
		case l.sent > 0:
			told["sent"]++
		}
		if l.lost {
			told["full"]++
		}
	}
	for _, what := range []string{"known", "come", "part", "sent", "full"} {
		if told[what] < 100 {
			t.Errorf("too few plays tell of %s: %v", what, told)
		}
	}
}

// withFaults: the events with things lost, doubled and put behind between them, within so many of the first ones.
func withFaults(next func(int) int, events []int64, faults int, within int) []int64 {
	out := slices.Clone(events)
	for range faults {
		out = slices.Insert(out, next(within), []int64{2, 3, 4, 6}[next(4)])
	}
	return out
}

func wantAllCome(t *testing.T, what string, text string, events []int64) {
	t.Helper()
	got := impl.OverRun(text, events)
	if got.Text != text || !got.Done || !got.Acked || got.Code != impl.OK {
		t.Errorf("OverRun: %s: %d bytes, events %s: not all has come: %s", what, len(text), brief(events), brief(got))
	}
}

// Promise 25: all comes, if twenty things at most are lost, doubled or put behind, and then no more.
func TestOverAllComes(t *testing.T) {
	next := rowOfNumbers(25)
	clean := slices.Repeat(eventRow("0 1x4 5x4"), 42)
	for faults := range 21 {
		for range 150 {
			size := next(16*64 + 1)
			events := withFaults(next, clean, faults, 1+next(150))
			wantAllCome(t, strconv.Itoa(faults)+" faults", bytesRun(size), events)
			wantPlayed(t, "faults", bytesRun(size), events)
		}
	}
	for _, n := range []int64{2, 3, 4, 6} {
		for at := range 60 {
			events := slices.Insert(slices.Clone(clean), at, slices.Repeat([]int64{n}, 20)...)
			wantAllCome(t, "twenty times "+strconv.FormatInt(n, 10), bytesRun(16*64), events)
		}
	}
}

// The line may also be played otherwise: whatever is under way comes, and the time goes on only where nothing is.
func TestOverAllComesInTime(t *testing.T) {
	next := rowOfNumbers(26)
	for play := range 1500 {
		text := bytesRun(next(12*64 + 1))
		l := newLineByHand(len(text))
		var events []int64
		faults := 20
		does := func(n int64) {
			l.does(n)
			events = append(events, n)
		}
		for range next(90) {
			n := int64(next(7))
			if n == 0 || n == 1 || n == 5 {
				does(n)
			} else if faults > 0 {
				does(n)
				faults--
			}
		}
		for l.acked < l.pieces && len(events) <= impl.MaxList {
			switch {
			case len(l.net) > 0:
				does(1)
			case len(l.acks) > 0:
				does(5)
			default:
				does(0)
			}
		}
		wantAllCome(t, "play "+strconv.Itoa(play), text, events)
		wantPlayed(t, "in time", text, events)
	}
}

// Nothing is kept from call to call.
func TestOverAlone(t *testing.T) {
	text := bytesRun(500)
	events := slices.Repeat(eventRow("0 3 1x4 2 5 6 5"), 20)
	first := impl.OverRun(text, events)
	impl.OverRun("other", eventRow("0 0 0 1"))
	impl.OverRun(tooLong, nil)
	second := impl.OverRun(text, events)
	if first != second || first.Text != text {
		t.Errorf("two calls tell two answers: %s and %s", brief(first), brief(second))
	}
	if sharesMemory(first.Text, second.Text) {
		t.Error("two answers share memory")
	}
}
