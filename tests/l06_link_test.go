package tests

import (
	"encoding/binary"
	"hash/crc32"
	"math"
	"slices"
	"strconv"
	"strings"
	"testing"

	"loop.example/g00310/impl"
)

const (
	mostPieces = 300
	mostOnLine = mostPieces * impl.LinkMost
)

// ownTexts is a copy whose texts, too, have memory of their own, with spare places behind the list.
func ownTexts(l []string) []string {
	out := make([]string, 0, len(l)+3)
	for _, text := range l {
		out = append(out, strings.Clone(text))
	}
	return out
}

// packetByHand is the packet of these with the library's numbers and sum, right or not.
func packetByHand(seq int64, last bool, text string) impl.Packet {
	mark := int64(0)
	if last {
		mark = 1
	}
	bytes := append(binary.AppendVarint(binary.AppendVarint(nil, seq), mark), text...)
	return impl.Packet{Seq: seq, Last: last, Text: text, Crc: int64(crc32.ChecksumIEEE(bytes))}
}

// fullPieces are that many pieces of as many bytes as may be, no two alike.
func fullPieces(many int) []string {
	var out []string
	for i := range many {
		number := strconv.Itoa(1000 + i)
		out = append(out, number+bytesRun(impl.LinkMost-len(number)))
	}
	return out
}

// endedBy: the pieces with this one in the place of the last.
func endedBy(pieces []string, last string) []string {
	return withPiece(pieces, len(pieces)-1, last)
}

// withPiece: the pieces with this one in the place of another.
func withPiece(pieces []string, at int, piece string) []string {
	out := slices.Clone(pieces)
	out[at] = piece
	return out
}

func packetTexts(l []impl.Packet) []string {
	var out []string
	for _, p := range l {
		out = append(out, p.Text)
	}
	return out
}

func sameSender(a impl.Sender, b impl.Sender) bool {
	return slices.Equal(a.Pieces, b.Pieces) && a.Acked == b.Acked && a.Due == b.Due && a.Wait == b.Wait
}

func sameReceiver(a impl.Receiver, b impl.Receiver) bool {
	return slices.Equal(a.Got, b.Got) && a.Want == b.Want
}

func sameLink(a impl.LinkOut, b impl.LinkOut) bool {
	return sameSender(a.Sender, b.Sender) && sameReceiver(a.Receiver, b.Receiver) &&
		slices.Equal(a.Packets, b.Packets) && a.Ack == b.Ack && a.Code == b.Code
}

// wantTextsApart: a list of an answer shares no memory with a list that was handed in.
func wantTextsApart(t *testing.T, what string, got []string, own []string) {
	t.Helper()
	if listsOverlap(got, own) || textsShareMemory(got, own) {
		t.Errorf("%s: the answer shares memory with what was handed in", what)
	}
}

func TestPiecesOf(t *testing.T) {
	for _, c := range []struct{ size, many, last int }{
		{0, 1, 0}, {1, 1, 1}, {2, 1, 2}, {63, 1, 63}, {64, 1, 64}, {65, 2, 1}, {127, 2, 63}, {128, 2, 64}, {129, 3, 1},
		{mostOnLine - 64, 299, 64}, {mostOnLine - 63, 300, 1}, {mostOnLine - 1, 300, 63}, {mostOnLine, 300, 64},
	} {
		text := bytesRun(c.size)
		got := impl.PiecesOf(text)
		what := "the pieces of " + strconv.Itoa(c.size) + " bytes"
		if len(got) != c.many {
			t.Errorf("%s: got %d of them, want %d", what, len(got), c.many)
			continue
		}
		for i, piece := range got {
			from := i * impl.LinkMost
			if piece != text[from:min(from+impl.LinkMost, c.size)] {
				t.Errorf("%s: got %q as number %d", what, piece, i)
			}
		}
		if len(got[c.many-1]) != c.last || strings.Join(got, "") != text {
			t.Errorf("%s: got %d bytes as the last one, want %d, and together the text", what, len(got[c.many-1]), c.last)
		}
		if c.size > 1 && textsShareMemory(got, []string{text}) {
			t.Errorf("%s: they share memory with the text", what)
		}
	}
}

func TestPiecesOfLongTexts(t *testing.T) {
	for _, size := range []int{mostOnLine + 1, mostOnLine + 64, impl.MaxBytes - 1, impl.MaxBytes, impl.MaxBytes + 1, 10 * impl.MaxBytes} {
		if got := impl.PiecesOf(strings.Repeat("a", size)); len(got) != 0 {
			t.Errorf("a text of %d bytes: got %d pieces, want none", size, len(got))
		}
	}
}

func wantPacket(t *testing.T, what string, pieces []string, seq int64, want impl.Packet) {
	t.Helper()
	own := ownTexts(pieces)
	got := impl.PacketOf(own, seq)
	if got != want {
		t.Errorf("PacketOf: %s, %d: got %s, want %s", what, seq, brief(got), brief(want))
	}
	if textsShareMemory([]string{got.Text}, own) {
		t.Errorf("PacketOf: %s, %d: the packet shares memory with the pieces", what, seq)
	}
	wantListAlone(t, "PacketOf: "+what, own, pieces)
}

// pieceLists: such as PiecesOf makes, and others that have packets all the same.
func pieceLists() map[string][]string {
	return map[string][]string{
		"one empty piece":            {""},
		"one byte":                   {"a"},
		"one full piece":             fullPieces(1),
		"two full pieces":            fullPieces(2),
		"a shorter one at the end":   endedBy(fullPieces(5), "abc"),
		"an empty one at the end":    endedBy(fullPieces(5), ""),
		"shorter ones in the middle": {"a", "", "bc", "", "d"},
		"all alike":                  {"x", "x", "x"},
		"a piece of 64 bytes":        {"a", strings.Repeat("b", 64), "c"},
		"a piece of 63 bytes":        {"a", strings.Repeat("b", 63), "c"},
		"bytes that are no letters":  {"\x00", "\x00\x02", "\xff\xfe\x80", "\n"},
		"as many as may be":          fullPieces(mostPieces),
		"as many short ones":         slices.Repeat([]string{"q"}, mostPieces),
	}
}

// wrongPieceLists: lists of which no piece has a packet.
func wrongPieceLists() map[string][]string {
	long := strings.Repeat("b", 65)
	return map[string][]string{
		"no pieces":                      nil,
		"an empty list":                  {},
		"one too many":                   fullPieces(mostPieces + 1),
		"one too many, all empty":        make([]string, mostPieces+1),
		"as many as a list may have":     make([]string, impl.MaxList),
		"more than a list may have":      make([]string, impl.MaxList+1),
		"a piece of 65 bytes alone":      {long},
		"a piece of 65 bytes at first":   {long, "a", "b"},
		"a piece of 65 bytes between":    {"a", long, "b"},
		"a piece of 65 bytes at last":    {"a", "b", long},
		"65 bytes among as many":         withPiece(fullPieces(mostPieces), 150, long),
		"65 bytes at the end of many":    endedBy(fullPieces(mostPieces), long),
		"a piece longer than any text":   {"a", tooLong, "b"},
		"too many, one of them too long": withPiece(fullPieces(mostPieces+1), 7, long),
	}
}

func TestPacketOf(t *testing.T) {
	for what, pieces := range pieceLists() {
		many := int64(len(pieces))
		for i, piece := range pieces {
			wantPacket(t, what, pieces, int64(i), packetByHand(int64(i), int64(i) == many-1, piece))
		}
		for _, seq := range []int64{-1, -many, many, many + 1, 1 << 32, math.MinInt64, math.MaxInt64} {
			wantPacket(t, what, pieces, seq, impl.Packet{})
		}
	}
	for what, pieces := range wrongPieceLists() {
		for _, seq := range []int64{-1, 0, 1, 2, 150, 299, 300, int64(len(pieces)) - 1, math.MinInt64, math.MaxInt64} {
			wantPacket(t, what, pieces, seq, impl.Packet{})
		}
	}
}

// The bytes of which a packet's sum is told are written by hand here.
func TestPacketSumsByHand(t *testing.T) {
	for _, c := range []struct {
		pieces []string
		seq    int64
		bytes  string
	}{
		{[]string{""}, 0, "\x00\x02"},
		{[]string{"", "a", ""}, 1, "\x02\x00a"},
		{slices.Repeat([]string{""}, 300), 299, "\xd6\x04\x02"},
		{slices.Repeat([]string{"zz"}, 300), 64, "\x80\x01\x00zz"},
	} {
		if got, want := impl.PacketOf(c.pieces, c.seq).Crc, int64(crc32.ChecksumIEEE([]byte(c.bytes))); got != want {
			t.Errorf("the packet %d of %d pieces: got the sum %d, want %d", c.seq, len(c.pieces), got, want)
		}
	}
}

func wantPacketRight(t *testing.T, what string, p impl.Packet, want bool) {
	t.Helper()
	if got := impl.PacketRight(p); got != want {
		t.Errorf("PacketRight: %s: %s: got %v, want %v", what, brief(p), got, want)
	}
}

func TestRightPackets(t *testing.T) {
	for _, seq := range []int64{0, 1, 63, 64, 150, 298, 299} {
		for _, size := range []int{0, 1, 63, 64} {
			wantPacketRight(t, "at an edge", packetByHand(seq, true, bytesRun(size)), true)
			wantPacketRight(t, "at an edge", packetByHand(seq, false, bytesRun(size)), true)
		}
		for _, size := range []int{65, 66, 128, impl.MaxBytes, impl.MaxBytes + 1} {
			wantPacketRight(t, "a text too long", packetByHand(seq, true, bytesRun(size)), false)
			wantPacketRight(t, "a text too long", packetByHand(seq, false, bytesRun(size)), false)
		}
	}
	for _, seq := range []int64{-1, -2, -300, 300, 301, 1 << 32, math.MinInt64, math.MaxInt64} {
		wantPacketRight(t, "no number", packetByHand(seq, true, "abc"), false)
		wantPacketRight(t, "no number", packetByHand(seq, false, bytesRun(64)), false)
	}
	wantPacketRight(t, "the zero packet", impl.Packet{}, false)
	// A text that is too long has the sum 0 where Crc is asked, but that makes no packet of it.
	wantPacketRight(t, "no sum of a long text", impl.Packet{Text: tooLong}, false)
}

func TestPacketsWithAnotherSum(t *testing.T) {
	for _, p := range []impl.Packet{packetByHand(0, true, ""), packetByHand(7, false, bytesRun(64)), packetByHand(299, true, "abc")} {
		for bit := range 64 {
			other := p
			other.Crc ^= 1 << bit
			wantPacketRight(t, "a bit of the sum turned", other, false)
		}
		for _, crc := range []int64{0, -1, p.Crc + 1, p.Crc - 1, p.Crc + 1<<32, p.Crc - 1<<32, -p.Crc, ^p.Crc, math.MinInt64, math.MaxInt64} {
			other := p
			other.Crc = crc
			wantPacketRight(t, "another sum", other, false)
		}
	}
}

// Promise 11: with Last, the number or any byte turned a packet is right no more.
func TestPacketsTurned(t *testing.T) {
	for _, p := range []impl.Packet{packetByHand(0, true, "a"), packetByHand(5, false, bytesRun(64)), packetByHand(299, true, strings.Repeat("\x00", 63))} {
		wantPacketRight(t, "as it is", p, true)
		turned := p
		turned.Last = !p.Last
		wantPacketRight(t, "Last turned", turned, false)
		for seq := range int64(mostPieces) {
			turned = p
			turned.Seq = seq
			wantPacketRight(t, "another number", turned, seq == p.Seq)
		}
		for at := range len(p.Text) {
			for turn := 1; turn < 256; turn++ {
				text := []byte(p.Text)
				text[at] ^= byte(turn)
				turned = p
				turned.Text = string(text)
				wantPacketRight(t, "a byte turned", turned, false)
			}
		}
		turned = p
		turned.Text = p.Text[:len(p.Text)-1]
		wantPacketRight(t, "a byte less", turned, false)
	}
}

func ownSender(s impl.Sender) impl.Sender {
	s.Pieces = ownTexts(s.Pieces)
	return s
}

func wantSenderAlone(t *testing.T, what string, own impl.Sender, was impl.Sender) {
	t.Helper()
	wantListAlone(t, what, own.Pieces, was.Pieces)
}

func TestSendNew(t *testing.T) {
	for _, size := range []int{0, 1, 63, 64, 65, 128, 1000, mostOnLine - 1, mostOnLine} {
		text := bytesRun(size)
		got := impl.SendNew(text)
		if want := (impl.Sender{Pieces: impl.PiecesOf(text), Wait: 1}); !sameSender(got, want) || len(want.Pieces) == 0 {
			t.Errorf("SendNew of %d bytes: got %s, want %s", size, brief(got), brief(want))
		}
		if !impl.SenderRight(got) {
			t.Errorf("SendNew of %d bytes: it is not right", size)
		}
		if size > 1 && textsShareMemory(got.Pieces, []string{text}) {
			t.Errorf("SendNew of %d bytes: it shares memory with the text", size)
		}
	}
	for _, size := range []int{mostOnLine + 1, impl.MaxBytes, impl.MaxBytes + 1} {
		if got := impl.SendNew(bytesRun(size)); !sameSender(got, impl.Sender{}) {
			t.Errorf("SendNew of %d bytes: got %s, want the zero one", size, brief(got))
		}
	}
}

// rightSenders: at the edges that the document names.
func rightSenders() map[string]impl.Sender {
	three := endedBy(fullPieces(3), "end")
	out := map[string]impl.Sender{
		"a new one":               {Pieces: three, Wait: 1},
		"some have come":          {Pieces: three, Acked: 2, Wait: 1},
		"all have come":           {Pieces: three, Acked: 3, Wait: 1},
		"one empty piece":         {Pieces: []string{""}, Wait: 1},
		"one that has come":       {Pieces: []string{""}, Acked: 1, Wait: 1},
		"as many as may be":       {Pieces: fullPieces(mostPieces), Wait: 1},
		"as many, all have come":  {Pieces: fullPieces(mostPieces), Acked: mostPieces, Wait: 64},
		"short ones in between":   {Pieces: []string{"", "a", "", "bc"}, Acked: 1, Wait: 3},
		"a Due of 1":              {Pieces: three, Due: 1, Wait: 1},
		"a Due of MaxTime":        {Pieces: three, Due: impl.MaxTime, Wait: 1},
		"a Due above MaxTime":     {Pieces: three, Due: impl.MaxTime + 1, Wait: 1},
		"the greatest Due":        {Pieces: three, Due: 2000000000, Wait: 1},
		"the greatest of all":     {Pieces: three, Acked: 3, Due: 2000000000, Wait: 64},
		"a Wait that is no power": {Pieces: three, Wait: 33},
	}
	for wait := int64(1); wait <= 64; wait++ {
		out["a Wait of "+strconv.FormatInt(wait, 10)] = impl.Sender{Pieces: fullPieces(6), Acked: 1, Due: 9, Wait: wait}
	}
	return out
}

func wrongSenders() map[string]impl.Sender {
	three := endedBy(fullPieces(3), "end")
	out := map[string]impl.Sender{
		"the zero one":            {},
		"no Pieces":               {Wait: 1},
		"an empty list":           {Pieces: []string{}, Wait: 1},
		"Acked below 0":           {Pieces: three, Acked: -1, Wait: 1},
		"Acked one more":          {Pieces: three, Acked: 4, Wait: 1},
		"the least Acked":         {Pieces: three, Acked: math.MinInt64, Wait: 1},
		"the greatest Acked":      {Pieces: three, Acked: math.MaxInt64, Wait: 1},
		"Due below 0":             {Pieces: three, Due: -1, Wait: 1},
		"Due one more":            {Pieces: three, Due: 2000000001, Wait: 1},
		"the least Due":           {Pieces: three, Due: math.MinInt64, Wait: 1},
		"the greatest number Due": {Pieces: three, Due: math.MaxInt64, Wait: 1},
		"no Wait":                 {Pieces: three},
		"Wait below 0":            {Pieces: three, Wait: -1},
		"Wait of 65":              {Pieces: three, Wait: 65},
		"the greatest Wait":       {Pieces: three, Wait: math.MaxInt64},
		"the least Wait":          {Pieces: three, Wait: math.MinInt64},
		"wrong, all have come":    {Pieces: three, Acked: 3, Wait: 65},
	}
	for what, pieces := range wrongPieceLists() {
		out[what] = impl.Sender{Pieces: pieces, Wait: 1}
	}
	return out
}

func wantSenderRight(t *testing.T, what string, s impl.Sender, want bool) {
	t.Helper()
	own := ownSender(s)
	if got := impl.SenderRight(own); got != want {
		t.Errorf("SenderRight: %s: got %v, want %v", what, got, want)
	}
	wantSenderAlone(t, "SenderRight: "+what, own, s)
}

func TestSenderRight(t *testing.T) {
	for what, s := range rightSenders() {
		wantSenderRight(t, what, s, true)
	}
	for what, s := range wrongSenders() {
		wantSenderRight(t, what, s, false)
	}
}

// wantSent calls SendAt, and looks at the answer, at its memory, and at what was handed in.
func wantSent(t *testing.T, what string, s impl.Sender, now int64, want impl.LinkOut) {
	t.Helper()
	what = "SendAt: " + what + ", at " + strconv.FormatInt(now, 10)
	own := ownSender(s)
	got := impl.SendAt(own, now)
	if !sameLink(got, want) {
		t.Errorf("%s: got %s, want %s", what, brief(got), brief(want))
	}
	texts := packetTexts(got.Packets)
	wantTextsApart(t, what, got.Sender.Pieces, own.Pieces)
	wantTextsApart(t, what, texts, own.Pieces)
	if textsShareMemory(got.Sender.Pieces, texts) {
		t.Errorf("%s: the pieces and the packets of the answer share memory", what)
	}
	wantSenderAlone(t, what, own, s)
}

// sentByHand is what a right Sender sends at a time.
func sentByHand(s impl.Sender, now int64) impl.LinkOut {
	out := impl.LinkOut{Sender: s}
	if s.Acked == int64(len(s.Pieces)) || now < s.Due {
		return out
	}
	for i, piece := range s.Pieces {
		if seq := int64(i); seq >= s.Acked && seq < s.Acked+4 {
			out.Packets = append(out.Packets, packetByHand(seq, i == len(s.Pieces)-1, piece))
		}
	}
	out.Sender.Due = now + s.Wait
	out.Sender.Wait = 2 * s.Wait
	if out.Sender.Wait > 64 {
		out.Sender.Wait = 64
	}
	return out
}

func TestSendAt(t *testing.T) {
	for what, s := range rightSenders() {
		for _, now := range []int64{0, 1, 8, 9, 10, impl.MaxTime - 1, impl.MaxTime} {
			wantSent(t, what, s, now, sentByHand(s, now))
		}
		for _, now := range []int64{-1, impl.MaxTime + 1, 2000000000, math.MinInt64, math.MaxInt64} {
			wantSent(t, what, s, now, impl.LinkOut{Code: impl.ErrForm})
		}
	}
	for what, s := range wrongSenders() {
		for _, now := range []int64{-1, 0, 5, impl.MaxTime, impl.MaxTime + 1} {
			wantSent(t, what, s, now, impl.LinkOut{Code: impl.ErrForm})
		}
	}
}

// How many packets go at once, whatever is left.
func TestSendAtWindows(t *testing.T) {
	for many := 1; many <= 12; many++ {
		for acked := 0; acked <= many; acked++ {
			s := impl.Sender{Pieces: endedBy(fullPieces(many), "end"), Acked: int64(acked), Due: 3, Wait: 5}
			want := sentByHand(s, 4)
			if len(want.Packets) != min(4, many-acked) {
				t.Fatalf("the test itself awaits %d packets of %d pieces, %d of them acked", len(want.Packets), many, acked)
			}
			wantSent(t, "a window", s, 4, want)
			wantSent(t, "ahead of Due", s, 2, impl.LinkOut{Sender: s})
		}
	}
	s := impl.Sender{Pieces: fullPieces(mostPieces), Acked: 297, Wait: 1}
	wantSent(t, "the last three of all", s, 0, sentByHand(s, 0))
}

// The numbers here are written by hand: when a packet goes again, and how long the next wait is.
func TestSendAtWaits(t *testing.T) {
	s := impl.Sender{Pieces: []string{"a"}, Due: 10, Wait: 1}
	packets := []impl.Packet{packetByHand(0, true, "a")}
	for _, c := range []struct{ now, wait, due, next int64 }{
		{10, 1, 11, 2}, {11, 1, 12, 2}, {10, 2, 12, 4}, {10, 16, 26, 32}, {10, 31, 41, 62}, {10, 32, 42, 64},
		{10, 33, 43, 64}, {10, 63, 73, 64}, {10, 64, 74, 64}, {impl.MaxTime, 64, 1000000064, 64},
	} {
		s.Wait = c.wait
		want := impl.LinkOut{Sender: impl.Sender{Pieces: s.Pieces, Due: c.due, Wait: c.next}, Packets: packets}
		wantSent(t, "a wait", s, c.now, want)
		wantSent(t, "ahead of Due", s, 9, impl.LinkOut{Sender: s})
		wantSent(t, "far ahead of Due", s, 0, impl.LinkOut{Sender: s})
	}
	s.Due, s.Wait = 2000000000, 7
	wantSent(t, "a Due that no time reaches", s, impl.MaxTime, impl.LinkOut{Sender: s})
}

func wantAcked(t *testing.T, what string, s impl.Sender, ack int64, now int64, want impl.Sender) {
	t.Helper()
	what = "SendAck: " + what + ", " + strconv.FormatInt(ack, 10) + " at " + strconv.FormatInt(now, 10)
	own := ownSender(s)
	got := impl.SendAck(own, ack, now)
	if !sameSender(got, want) {
		t.Errorf("%s: got %s, want %s", what, brief(got), brief(want))
	}
	wantTextsApart(t, what, got.Pieces, own.Pieces)
	wantSenderAlone(t, what, own, s)
}

func TestSendAck(t *testing.T) {
	for what, s := range rightSenders() {
		many := int64(len(s.Pieces))
		for _, ack := range []int64{s.Acked + 1, s.Acked + 2, many - 1, many} {
			if ack <= s.Acked || ack > many {
				continue
			}
			for _, now := range []int64{0, 1, 77, impl.MaxTime} {
				wantAcked(t, what, s, ack, now, impl.Sender{Pieces: s.Pieces, Acked: ack, Due: now, Wait: 1})
			}
			for _, now := range []int64{-1, impl.MaxTime + 1, math.MinInt64, math.MaxInt64} {
				wantAcked(t, what, s, ack, now, s)
			}
		}
		for _, ack := range []int64{s.Acked, s.Acked - 1, 0, -1, many + 1, many + 2, math.MinInt64, math.MaxInt64} {
			wantAcked(t, what, s, ack, 5, s)
		}
	}
	for what, s := range wrongSenders() {
		for _, ack := range []int64{-1, 0, 1, 2, 3, 4, math.MaxInt64} {
			wantAcked(t, what, s, ack, 5, s)
			wantAcked(t, what, s, ack, -1, s)
		}
	}
}

func ownReceiver(r impl.Receiver) impl.Receiver {
	r.Got = ownTexts(r.Got)
	return r
}

// rightReceivers: at the edges that the document names.
func rightReceivers() map[string]impl.Receiver {
	return map[string]impl.Receiver{
		"a new one":                    {},
		"an empty list":                {Got: []string{}},
		"one":                          {Got: fullPieces(1), Want: 1},
		"some":                         {Got: fullPieces(5), Want: 5},
		"299":                          {Got: fullPieces(299), Want: 299},
		"300":                          {Got: fullPieces(300), Want: 300},
		"all: one empty piece":         {Got: []string{""}, Want: -1},
		"all: one byte":                {Got: []string{"a"}, Want: -1},
		"all: one full piece":          {Got: fullPieces(1), Want: -1},
		"all: the last one full":       {Got: fullPieces(5), Want: -1},
		"all: 63 bytes at last":        {Got: endedBy(fullPieces(5), strings.Repeat("x", 63)), Want: -1},
		"all: an empty one at last":    {Got: endedBy(fullPieces(5), ""), Want: -1},
		"all: 300":                     {Got: fullPieces(300), Want: -1},
		"all: 300, the last one short": {Got: endedBy(fullPieces(300), "z"), Want: -1},
	}
}

func wrongReceivers() map[string]impl.Receiver {
	fewer, more := strings.Repeat("x", 63), strings.Repeat("x", 65)
	out := map[string]impl.Receiver{
		"all, and nothing Got":         {Want: -1},
		"all, and an empty list":       {Got: []string{}, Want: -1},
		"nothing Got, 1 wanted":        {Want: 1},
		"nothing Got, -2 wanted":       {Want: -2},
		"nothing wanted of some":       {Got: fullPieces(2)},
		"one fewer wanted":             {Got: fullPieces(5), Want: 4},
		"one more wanted":              {Got: fullPieces(5), Want: 6},
		"-2 wanted":                    {Got: fullPieces(5), Want: -2},
		"-5 wanted":                    {Got: fullPieces(5), Want: -5},
		"the least wanted":             {Got: fullPieces(5), Want: math.MinInt64},
		"the greatest wanted":          {Got: fullPieces(5), Want: math.MaxInt64},
		"301":                          {Got: fullPieces(301), Want: 301},
		"all: 301":                     {Got: fullPieces(301), Want: -1},
		"all: 301, the last one short": {Got: endedBy(fullPieces(301), ""), Want: -1},
		"401":                          {Got: fullPieces(401), Want: 401},
		"all: 401":                     {Got: fullPieces(401), Want: -1},
		"all: more than a text has":    {Got: fullPieces(320), Want: -1},
		"an empty one at last":         {Got: endedBy(fullPieces(5), ""), Want: 5},
		"one empty piece":              {Got: []string{""}, Want: 1},
		"fewer bytes at last":          {Got: endedBy(fullPieces(5), fewer), Want: 5},
		"more bytes at last":           {Got: endedBy(fullPieces(5), more), Want: 5},
		"all: more bytes at last":      {Got: endedBy(fullPieces(5), more), Want: -1},
		"all: more bytes alone":        {Got: []string{more}, Want: -1},
		"all: a text too long at last": {Got: endedBy(fullPieces(5), tooLong), Want: -1},
	}
	for _, at := range []int{0, 2, 3} {
		for _, piece := range []string{"", fewer, more} {
			got := withPiece(fullPieces(5), at, piece)
			what := strconv.Itoa(len(piece)) + " bytes at " + strconv.Itoa(at)
			out[what] = impl.Receiver{Got: got, Want: 5}
			out["all: "+what] = impl.Receiver{Got: got, Want: -1}
		}
	}
	return out
}

func TestReceiverRight(t *testing.T) {
	for want, receivers := range map[bool]map[string]impl.Receiver{true: rightReceivers(), false: wrongReceivers()} {
		for what, r := range receivers {
			own := ownReceiver(r)
			if got := impl.ReceiverRight(own); got != want {
				t.Errorf("ReceiverRight: %s: got %v, want %v", what, got, want)
			}
			wantListAlone(t, "ReceiverRight: "+what, own.Got, r.Got)
		}
	}
}

// wantReceivedAt calls ReceiveAt, and looks at the answer, at its memory, and at what was handed in.
func wantReceivedAt(t *testing.T, what string, r impl.Receiver, p impl.Packet, want impl.LinkOut) {
	t.Helper()
	what = "ReceiveAt: " + what + ", packet " + strconv.FormatInt(p.Seq, 10)
	own, ownText := ownReceiver(r), strings.Clone(p.Text)
	p.Text = ownText
	got := impl.ReceiveAt(own, p)
	if !sameLink(got, want) {
		t.Errorf("%s: got %s, want %s", what, brief(got), brief(want))
	}
	wantTextsApart(t, what, got.Receiver.Got, own.Got)
	if textsShareMemory(got.Receiver.Got, []string{ownText}) {
		t.Errorf("%s: the answer shares memory with the packet", what)
	}
	wantListAlone(t, what, own.Got, r.Got)
	if got.Code != impl.ErrForm && got.Code != impl.ErrSum && !impl.ReceiverRight(got.Receiver) {
		t.Errorf("%s: the receiver of the answer is not right", what)
	}
}

// anyRightPackets: of that number, of each size and kind that matters.
func anyRightPackets(seq int64) []impl.Packet {
	var out []impl.Packet
	for _, size := range []int{0, 1, 63, 64} {
		out = append(out, packetByHand(seq, true, bytesRun(size)), packetByHand(seq, false, bytesRun(size)))
	}
	return out
}

// brokenPackets are not right, of that number.
func brokenPackets(seq int64) []impl.Packet {
	out := []impl.Packet{packetByHand(seq, true, bytesRun(65)), packetByHand(seq, false, bytesRun(65)), {Seq: seq, Text: bytesRun(64)}}
	for _, p := range anyRightPackets(seq) {
		p.Crc ^= 1
		out = append(out, p)
	}
	return out
}

func TestReceiveWhatIsWanted(t *testing.T) {
	for what, r := range rightReceivers() {
		if r.Want < 0 || r.Want == mostPieces {
			continue
		}
		for _, p := range anyRightPackets(r.Want) {
			ack := int64(len(r.Got))
			want := impl.LinkOut{Receiver: r, Ack: ack, Code: impl.ErrSyntax}
			if p.Last || len(p.Text) == impl.LinkMost {
				more := impl.Receiver{Got: append(slices.Clone(r.Got), p.Text), Want: ack + 1}
				if p.Last {
					more.Want = -1
				}
				want = impl.LinkOut{Receiver: more, Ack: ack + 1}
			}
			wantReceivedAt(t, what, r, p, want)
		}
	}
}

func TestReceiveWhatIsNotWanted(t *testing.T) {
	for what, r := range rightReceivers() {
		for _, seq := range []int64{0, 1, 2, 4, 5, 6, 298, 299} {
			if seq == r.Want {
				continue
			}
			for _, p := range anyRightPackets(seq) {
				wantReceivedAt(t, what, r, p, impl.LinkOut{Receiver: r, Ack: int64(len(r.Got))})
			}
		}
	}
}

func TestReceiveWhatIsBroken(t *testing.T) {
	for what, r := range rightReceivers() {
		for _, seq := range []int64{-1, 0, 1, 4, 5, 299, 300} {
			for _, p := range brokenPackets(seq) {
				wantReceivedAt(t, what, r, p, impl.LinkOut{Code: impl.ErrSum})
			}
		}
		// A number that is wanted, but that no packet has.
		wantReceivedAt(t, what, r, packetByHand(-1, true, "a"), impl.LinkOut{Code: impl.ErrSum})
		wantReceivedAt(t, what, r, packetByHand(300, true, "a"), impl.LinkOut{Code: impl.ErrSum})
		wantReceivedAt(t, what, r, impl.Packet{}, impl.LinkOut{Code: impl.ErrSum})
	}
	for what, r := range wrongReceivers() {
		for _, seq := range []int64{-1, 0, 1, 5, 300, 301, r.Want} {
			for _, p := range slices.Concat(anyRightPackets(seq), brokenPackets(seq)) {
				wantReceivedAt(t, what, r, p, impl.LinkOut{Code: impl.ErrForm})
			}
		}
	}
}

// What comes again behind the last one changes nothing, and is answered with how many there are.
func TestReceiveBehindTheLast(t *testing.T) {
	pieces := impl.PiecesOf(bytesRun(300))
	r := impl.Receiver{}
	for seq := range pieces {
		r = impl.ReceiveAt(r, impl.PacketOf(pieces, int64(seq))).Receiver
	}
	for seq := range int64(mostPieces) {
		for _, p := range append(anyRightPackets(seq), impl.PacketOf(pieces, min(seq, 4))) {
			wantReceivedAt(t, "all have come", r, p, impl.LinkOut{Receiver: impl.Receiver{Got: pieces, Want: -1}, Ack: 5})
		}
	}
}

func TestReceived(t *testing.T) {
	for what, r := range rightReceivers() {
		want := ""
		if r.Want == -1 {
			want = strings.Join(r.Got, "")
		}
		own := ownReceiver(r)
		got := impl.Received(own)
		if got != want {
			t.Errorf("Received: %s: got %d bytes %.40q, want %d bytes %.40q", what, len(got), got, len(want), want)
		}
		if textsShareMemory([]string{got}, own.Got) {
			t.Errorf("Received: %s: the text shares memory with the receiver", what)
		}
		wantListAlone(t, "Received: "+what, own.Got, r.Got)
	}
	for what, r := range wrongReceivers() {
		if got := impl.Received(r); got != "" {
			t.Errorf("Received: %s: got %d bytes, want none", what, len(got))
		}
	}
	// The most that a right one may have is less than the longest text.
	if got := impl.Received(rightReceivers()["all: 300"]); len(got) != mostOnLine || len(got) > impl.MaxBytes {
		t.Errorf("Received: of 300 pieces: got %d bytes", len(got))
	}
}

// Promise 11: the packets of a text come together to it.
func TestPacketsComeTogether(t *testing.T) {
	for _, size := range []int{0, 1, 63, 64, 65, 127, 128, 129, 640, 1000, 5000, mostOnLine - 1, mostOnLine} {
		text := bytesRun(size)
		pieces := impl.PiecesOf(text)
		r := impl.Receiver{}
		for seq := range pieces {
			if impl.Received(r) != "" {
				t.Errorf("of %d bytes something is told ahead of the last packet", size)
			}
			p := impl.PacketOf(pieces, int64(seq))
			wantPacketRight(t, "of a text", p, true)
			out := impl.ReceiveAt(r, p)
			if out.Code != impl.OK || out.Ack != int64(seq)+1 {
				t.Fatalf("of %d bytes the packet %d is not taken: code %d, ack %d", size, seq, out.Code, out.Ack)
			}
			r = out.Receiver
		}
		if r.Want != -1 || impl.Received(r) != text {
			t.Errorf("of %d bytes %d came", size, len(impl.Received(r)))
		}
	}
}

// anyTurned is a packet with a bit of it turned, so that it is right no more.
func anyTurned(next func(int) int, p impl.Packet) impl.Packet {
	switch next(4) {
	case 0:
		p.Crc ^= 1 << next(32)
	case 1:
		p.Last = !p.Last
	case 2:
		p.Seq++
	case 3:
		text := []byte(p.Text + "!")
		text[next(len(text))] ^= byte(1 + next(255))
		p.Text = string(text)
	}
	return p
}

// wantFirstOnes looks at promise 12 for one receiver.
func wantFirstOnes(t *testing.T, r impl.Receiver, pieces []string) {
	t.Helper()
	many := len(r.Got)
	if many > len(pieces) || !slices.Equal(r.Got, pieces[:many]) {
		t.Fatalf("what has come is not the first of %d pieces: %s", len(pieces), brief(r))
	}
	if r.Want != int64(many) && (r.Want != -1 || many != len(pieces)) {
		t.Fatalf("of %d pieces %d have come, and wanted is %d", len(pieces), many, r.Want)
	}
}

// Promise 12: packets in whatever order, doubled, left out, and broken.
func TestReceiversHaveTheFirstPieces(t *testing.T) {
	next := rowOfNumbers(12)
	ended, open := 0, 0
	for range 400 {
		pieces := impl.PiecesOf(bytesRun(next(700)))
		r := impl.Receiver{}
		for range next(80) {
			p := impl.PacketOf(pieces, int64(next(len(pieces))))
			want := impl.LinkOut{Receiver: r, Ack: int64(len(r.Got))}
			if next(4) == 0 {
				p, want = anyTurned(next, p), impl.LinkOut{Code: impl.ErrSum}
			} else if p.Seq == r.Want {
				want.Ack++
				want.Receiver = impl.Receiver{Got: pieces[:want.Ack], Want: want.Ack}
				if p.Last {
					want.Receiver.Want = -1
				}
			}
			wantReceivedAt(t, "whatever comes", r, p, want)
			if out := impl.ReceiveAt(r, p); out.Code == impl.OK {
				r = out.Receiver
			}
			wantFirstOnes(t, r, pieces)
		}
		if r.Want == -1 {
			ended++
		} else {
			open++
		}
	}
	if ended < 50 || open < 50 {
		t.Errorf("too few receivers have all, or not: %d and %d", ended, open)
	}
}

// A line on which half of the packets and a third of the acks are lost: all comes, and the sender knows so.
func TestSenderAndReceiver(t *testing.T) {
	for _, size := range []int{0, 64, 1000, mostOnLine} {
		text := bytesRun(size)
		s, r := impl.SendNew(text), impl.Receiver{}
		next := rowOfNumbers(11)
		for now := int64(0); s.Acked < int64(len(s.Pieces)); now++ {
			if now > 50000 {
				t.Fatalf("of %d bytes only %d pieces have come", size, s.Acked)
			}
			sent := impl.SendAt(s, now)
			s = sent.Sender
			for _, p := range sent.Packets {
				if next(2) == 0 {
					continue
				}
				out := impl.ReceiveAt(r, p)
				r = out.Receiver
				if next(3) != 0 {
					s = impl.SendAck(s, out.Ack, now)
				}
				wantFirstOnes(t, r, s.Pieces)
			}
		}
		if impl.Received(r) != text {
			t.Errorf("of %d bytes %d came", size, len(impl.Received(r)))
		}
	}
}

// Nothing is kept from call to call: an answer that is written over changes no other one.
func TestLinksAlone(t *testing.T) {
	text := bytesRun(300)
	s := impl.SendNew(text)
	first, second := impl.SendAt(s, 0), impl.SendAt(s, 0)
	if listsOverlap(first.Packets, second.Packets) || listsOverlap(first.Sender.Pieces, second.Sender.Pieces) {
		t.Error("two answers of SendAt share memory")
	}
	clear(first.Packets)
	clear(first.Sender.Pieces)
	if !sameLink(second, sentByHand(s, 0)) || !sameLink(impl.SendAt(s, 0), second) {
		t.Error("an answer of SendAt has changed with another one")
	}
	one, other := impl.PiecesOf(text), impl.PiecesOf(text)
	if listsOverlap(one, other) || textsShareMemory(one, other) {
		t.Error("two answers of PiecesOf share memory")
	}
	// Two packets for one receiver: neither writes where the other one's text stands.
	r := impl.ReceiveAt(impl.Receiver{}, packetByHand(0, false, bytesRun(64))).Receiver
	a := impl.ReceiveAt(r, packetByHand(1, true, "a")).Receiver
	b := impl.ReceiveAt(r, packetByHand(1, true, "b")).Receiver
	if a.Got[1] != "a" || b.Got[1] != "b" || len(r.Got) != 1 {
		t.Error("two answers of ReceiveAt share memory")
	}
}
