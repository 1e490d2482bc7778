package tests

import (
	"fmt"
	"slices"
	"strings"
	"testing"

	"loop.example/linksandframes/impl"
)

const flag = "01111110"

// someBits are bits of all kinds: all short ones, and long ones up to the limit.
func someBits() []string {
	list := allTexts("01", 12)
	for n := 13; n <= 40; n++ {
		list = append(list, ones(n), noughts(n), noughts(n-5)+ones(5), ones(n-1)+"0", "0"+ones(n-1))
	}
	return append(list, strings.Repeat("111110", 6)+"1111", strings.Repeat("0111111", 5)+"01111")
}

// stuffed tells by the standard library what StuffBits returns of bits.
func stuffed(s string) string {
	return strings.ReplaceAll(s, "11111", "111110")
}

// someBytes are bytes of all kinds: all short lists of those that matter, and long ones up to the limit.
func someBytes() [][]int {
	lists := allLists([]int{0, 1, 2, 192, 219, 220, 221, 255}, 4)
	for b := range 256 {
		lists = append(lists, []int{b}, []int{7, b}, []int{b, 7})
	}
	for n := 5; n <= 16; n++ {
		for _, b := range []int{0, 1, 192, 219, 255} {
			lists = append(lists, repeated(b, n), joined(repeated(3, n-1), []int{b}), joined([]int{b}, repeated(3, n-1)))
		}
	}
	return lists
}

func TestFrameConstants(t *testing.T) {
	got := []int{impl.MaxBits, impl.MaxWire, impl.MaxFrames, impl.MaxLine, impl.MaxBytes, impl.EndByte, impl.EscByte, impl.EscEnd, impl.EscEsc}
	sameList(t, "constants", got, []int{40, 48, 4, 300, 16, 192, 219, 220, 221})
}

func TestPromise1BitsCanBeCut(t *testing.T) {
	for _, s := range someBits() {
		if !impl.ValidBits(s) {
			t.Errorf("ValidBits(%q) = false", s)
		}
		if s != "" && !impl.ValidBits(s[:len(s)-1]) {
			t.Errorf("ValidBits of %q without the last one = false", s)
		}
	}
}

func TestValidBitsRefuses(t *testing.T) {
	for _, s := range append(badTexts(), noughts(41), ones(41), noughts(100000), noughts(39)+"x", noughts(40)+"x") {
		if impl.ValidBits(s) {
			t.Errorf("ValidBits(%q) = true", s)
		}
	}
}

func TestPromise2StuffedBitsHaveNoSixOnes(t *testing.T) {
	for _, s := range someBits() {
		wire := impl.StuffBits(s)
		if wire != stuffed(s) {
			t.Errorf("StuffBits(%q) = %q, want %q", s, wire, stuffed(s))
		}
		if strings.Contains(wire, ones(6)) {
			t.Errorf("StuffBits(%q) = %q has six ones", s, wire)
		}
		if back, ok := impl.UnstuffBits(wire); !ok || back != s {
			t.Errorf("UnstuffBits(%q) = %q, %v, want %q", wire, back, ok, s)
		}
	}
}

func TestStuffBitsEdges(t *testing.T) {
	for _, c := range [][2]string{
		{"", ""},
		{"1111", "1111"},
		{"11111", "111110"},
		{"011111", "0111110"},
		{"111110", "1111100"},
		{"111111", "1111101"},
		{"1111111111", "111110111110"},
		{"1111011111", "11110111110"},
		{ones(40), strings.Repeat("111110", 8)},
		{noughts(35) + ones(5), noughts(35) + "111110"},
	} {
		if s := impl.StuffBits(c[0]); s != c[1] {
			t.Errorf("StuffBits(%q) = %q, want %q", c[0], s, c[1])
		}
	}
	for _, s := range append(badTexts(), noughts(41), ones(41), ones(5)+"x") {
		if wire := impl.StuffBits(s); wire != "" {
			t.Errorf("StuffBits(%q) = %q", s, wire)
		}
	}
}

func TestPromise3UnstuffedBitsAreStuffedBack(t *testing.T) {
	known := map[string]string{}
	for _, s := range allTexts("01", 14) {
		known[stuffed(s)] = s
	}
	for _, wire := range allTexts("01", 14) {
		want, there := known[wire]
		s, ok := impl.UnstuffBits(wire)
		if s != want || ok != there {
			t.Errorf("UnstuffBits(%q) = %q, %v, want %q, %v", wire, s, ok, want, there)
		}
		if ok && impl.StuffBits(s) != wire {
			t.Errorf("StuffBits(%q) is not %q", s, wire)
		}
	}
}

func TestUnstuffBitsEdges(t *testing.T) {
	full := strings.Repeat("111110", 8)
	for _, c := range [][2]string{
		{"", ""},
		{"111110", "11111"},
		{"1111101", "111111"},
		{"1111100", "111110"},
		{full, ones(40)},
		{noughts(40), noughts(40)},
		{noughts(35) + "111110", noughts(35) + ones(5)},
	} {
		if s, ok := impl.UnstuffBits(c[0]); !ok || s != c[1] {
			t.Errorf("UnstuffBits(%q) = %q, %v, want %q", c[0], s, ok, c[1])
		}
	}
	// From here on: a 0 that is missing, bits that are too many, and a wire that is too long.
	bad := []string{ones(5), ones(6), "0" + ones(5), ones(6) + "0", "111110" + ones(5), "1111101" + ones(5), flag}
	bad = append(bad, noughts(41), noughts(48), noughts(36)+"111110", full+"0", full+"1", full[:47]+"1", full+full, noughts(100000))
	for _, wire := range append(bad, badTexts()...) {
		if s, ok := impl.UnstuffBits(wire); ok || s != "" {
			t.Errorf("UnstuffBits(%q) = %q, %v", wire, s, ok)
		}
	}
}

// someFrames are lists of frames that go on a wire.
func someFrames() [][]string {
	parts := []string{"0", "1", ones(5), ones(6), "0" + ones(5), flag, "11111010", noughts(40), ones(40), noughts(35) + ones(5)}
	lists := [][]string{nil, {}}
	for _, a := range parts {
		lists = append(lists, []string{a}, []string{a, a, a, a})
		for _, b := range parts {
			lists = append(lists, []string{a, b}, []string{b, flag, a})
		}
	}
	for _, s := range allTexts("01", 9)[1:] {
		lists = append(lists, []string{s}, []string{s, "1", s})
	}
	return lists
}

func TestPromise4FramesAreFoundAgain(t *testing.T) {
	before := [][]string{nil, {"1"}, {flag, ones(5)}, {"0", ones(6), "01"}}
	for _, list := range someFrames() {
		wire := impl.FlagFrames(list)
		sameTexts(t, fmt.Sprintf("FindFrames(%q)", wire), impl.FindFrames(wire), list)
		want := flag
		for _, frame := range list {
			want += stuffed(frame) + flag
		}
		if wire != want {
			t.Errorf("FlagFrames(%q) = %q, want %q", list, wire, want)
		}
		for _, others := range before {
			both := impl.FlagFrames(others) + wire
			if len(both) <= 300 {
				sameTexts(t, fmt.Sprintf("FindFrames(%q)", both), impl.FindFrames(both), slices.Concat(others, list))
			}
		}
	}
}

func TestFlagFramesEdges(t *testing.T) {
	longest := []string{ones(40), ones(40), ones(40), ones(40)}
	if wire := impl.FlagFrames(longest); len(wire) != 232 {
		t.Errorf("FlagFrames(%q) has %d bits", longest, len(wire))
	}
	if wire := impl.FlagFrames(nil); wire != flag {
		t.Errorf("FlagFrames(nil) = %q", wire)
	}
	bad := [][]string{{""}, {"1", ""}, {"", "1"}, {"1", "", "1"}, {"1", "1", "1", "1", "1"}, {ones(41)}, {"1", noughts(41)}, make([]string, 5)}
	for _, s := range badTexts() {
		bad = append(bad, []string{s}, []string{"1", s}, []string{s, "1"})
	}
	for _, list := range bad {
		if wire := impl.FlagFrames(list); wire != "" {
			t.Errorf("FlagFrames(%q) = %q", list, wire)
		}
	}
}

// found tells what FindFrames returns of a wire, flag by flag.
func found(wire string) []string {
	var list []string
	from := strings.Index(wire, flag)
	for from >= 0 {
		from += len(flag)
		size := strings.Index(wire[from:], flag)
		if size < 0 {
			break
		}
		if size > 0 {
			s, _ := impl.UnstuffBits(wire[from : from+size])
			list = append(list, s)
		}
		from += size
	}
	return list
}

func TestPromise5WhatIsFoundIsBits(t *testing.T) {
	wires := allTexts("01", 10)
	for _, letters := range allTexts("f01i", 6) {
		wires = append(wires, strings.NewReplacer("f", flag, "i", ones(6)).Replace(letters))
	}
	for _, wire := range wires {
		list := impl.FindFrames(wire)
		sameTexts(t, fmt.Sprintf("FindFrames(%q)", wire), list, found(wire))
		for _, s := range list {
			if !impl.ValidBits(s) {
				t.Errorf("FindFrames(%q) = %q", wire, list)
			}
		}
		if more := impl.FindFrames(wire + flag); len(more) < len(list) || !slices.Equal(more[:len(list)], list) {
			t.Errorf("FindFrames(%q) = %q, and with a flag more %q", wire, list, more)
		}
	}
}

func TestFindFramesEdges(t *testing.T) {
	sameTexts(t, "FindFrames of nothing", impl.FindFrames(""), nil)
	sameTexts(t, "FindFrames of one flag", impl.FindFrames("1"+flag+"1"), nil)
	sameTexts(t, "FindFrames of a 0 that two flags share", impl.FindFrames("011111101111110"), nil)
	sameTexts(t, "FindFrames of three flags that share", impl.FindFrames("0111111011111101111110"), []string{""})
	sameTexts(t, "FindFrames of seven ones", impl.FindFrames(flag+"01111111"+flag), []string{""})
	sameTexts(t, "FindFrames of five ones at the end", impl.FindFrames(flag+ones(5)+flag), []string{""})
	sameTexts(t, "FindFrames of too many bits", impl.FindFrames(flag+noughts(41)+flag+noughts(40)+flag+noughts(49)+flag), []string{"", noughts(40), ""})
	short := flag + "1" + flag
	sameTexts(t, "FindFrames of 300", impl.FindFrames(short+noughts(300-len(short))), []string{"1"})
	sameTexts(t, "FindFrames of 301", impl.FindFrames(short+noughts(301-len(short))), nil)
	many := strings.Repeat(flag+"1", 32) + flag
	if list := impl.FindFrames(many); len(many) != 296 || len(list) != 32 || slices.Contains(list, "") {
		t.Errorf("FindFrames(%q) = %q", many, list)
	}
	for _, s := range badTexts() {
		sameTexts(t, fmt.Sprintf("FindFrames(%q)", s), impl.FindFrames(s), nil)
		sameTexts(t, fmt.Sprintf("FindFrames with %q", s), impl.FindFrames(short+s), nil)
	}
}

func TestPromise6BytesEndOnce(t *testing.T) {
	for _, list := range someBytes() {
		var want []int
		for _, b := range list {
			switch b {
			case 192:
				want = append(want, 219, 220)
			case 219:
				want = append(want, 219, 221)
			default:
				want = append(want, b)
			}
		}
		wire := impl.EscapeBytes(list)
		sameList(t, fmt.Sprintf("EscapeBytes(%v)", list), wire, append(want, 192))
		if slices.Index(wire, 192) != len(wire)-1 {
			t.Errorf("EscapeBytes(%v) = %v has its end elsewhere", list, wire)
		}
		tellsBack(t, "UnescapeBytes", impl.UnescapeBytes, wire, list)
	}
}

func TestEscapeBytesRefuses(t *testing.T) {
	for _, list := range append(badBytes(), repeated(1, 17), repeated(192, 17), repeated(0, 1000), joined(repeated(1, 15), []int{256})) {
		sameList(t, fmt.Sprintf("EscapeBytes(%v)", list), impl.EscapeBytes(list), nil)
	}
}

func TestPromise7BytesForWhichOthersStandAreToldBack(t *testing.T) {
	alphabet := []int{0, 1, 192, 219, 220, 221, 256}
	known := map[string][]int{}
	for _, list := range allLists(alphabet[:6], 4) {
		known[fmt.Sprint(impl.EscapeBytes(list))] = list
	}
	for _, wire := range allLists(alphabet, 5) {
		want, there := known[fmt.Sprint(wire)]
		list, ok := impl.UnescapeBytes(wire)
		if !slices.Equal(list, want) || ok != there {
			t.Errorf("UnescapeBytes(%v) = %v, %v, want %v, %v", wire, list, ok, want, there)
		}
		if ok {
			sameList(t, fmt.Sprintf("EscapeBytes(%v)", list), impl.EscapeBytes(list), wire)
		}
	}
}

func TestUnescapeBytesEdges(t *testing.T) {
	end := []int{192}
	for _, list := range [][]int{repeated(1, 16), repeated(192, 16), repeated(219, 16), repeated(220, 16)} {
		tellsBack(t, "UnescapeBytes", impl.UnescapeBytes, impl.EscapeBytes(list), list)
	}
	bad := [][]int{nil, {}, {1}, {219}, {219, 192}, {219, 219, 192}, {219, 1, 192}, {219, 220}, {192, 192}, {1, 192, 192}, {192, 1, 192}, {192, 1}}
	bad = append(bad, joined(repeated(1, 17), end), joined(slices.Repeat([]int{219, 220}, 17), end), joined(slices.Repeat([]int{219, 221}, 16), []int{1}, end), repeated(1, 1000), joined(repeated(1, 1000), end))
	for _, list := range badBytes() {
		bad = append(bad, list, joined(list, end), joined([]int{219}, list, end), joined(end, list))
	}
	refuses(t, "UnescapeBytes", impl.UnescapeBytes, bad)
}

// pointed tells what PointBytes returns, group by group.
func pointed(list []int) []int {
	end := slices.Index(list, 0)
	if end < 0 {
		return joined([]int{len(list) + 1}, list)
	}
	return joined([]int{end + 1}, list[:end], pointed(list[end+1:]))
}

func TestPromise8PointedBytesHaveNoNoughts(t *testing.T) {
	for _, list := range someBytes() {
		wire := impl.PointBytes(list)
		sameList(t, fmt.Sprintf("PointBytes(%v)", list), wire, pointed(list))
		if len(wire) != len(list)+1 || slices.Contains(wire, 0) {
			t.Errorf("PointBytes(%v) = %v", list, wire)
		}
		tellsBack(t, "UnpointBytes", impl.UnpointBytes, wire, list)
	}
}

func TestPointBytesEdges(t *testing.T) {
	sameList(t, "PointBytes of nothing", impl.PointBytes(nil), []int{1})
	sameList(t, "PointBytes of 16", impl.PointBytes(repeated(9, 16)), joined([]int{17}, repeated(9, 16)))
	sameList(t, "PointBytes of 16 noughts", impl.PointBytes(repeated(0, 16)), repeated(1, 17))
	sameList(t, "PointBytes of a nought at the end", impl.PointBytes([]int{5, 0}), []int{2, 5, 1})
	for _, list := range append(badBytes(), repeated(1, 17), repeated(0, 17), repeated(0, 1000), joined(repeated(1, 15), []int{-1})) {
		sameList(t, fmt.Sprintf("PointBytes(%v)", list), impl.PointBytes(list), nil)
	}
}

func TestPromise9NoughtsAreToldBack(t *testing.T) {
	alphabet := []int{0, 1, 2, 3, 4, 255, 256}
	known := map[string][]int{}
	for _, list := range allLists(alphabet[:6], 4) {
		known[fmt.Sprint(pointed(list))] = list
	}
	for _, wire := range allLists(alphabet, 5) {
		want, there := known[fmt.Sprint(wire)]
		list, ok := impl.UnpointBytes(wire)
		if !slices.Equal(list, want) || ok != there {
			t.Errorf("UnpointBytes(%v) = %v, %v, want %v, %v", wire, list, ok, want, there)
		}
		if ok {
			sameList(t, fmt.Sprintf("PointBytes(%v)", list), impl.PointBytes(list), wire)
		}
	}
}

func TestUnpointBytesEdges(t *testing.T) {
	for _, list := range [][]int{repeated(9, 16), repeated(0, 16), joined(repeated(9, 15), []int{0})} {
		tellsBack(t, "UnpointBytes", impl.UnpointBytes, impl.PointBytes(list), list)
	}
	bad := [][]int{nil, {}, {0}, {2}, {3, 1}, {2, 0}, {1, 0}, {0, 1}, {1, 2}, {2, 1, 2}, {17, 1}, {255}, {256}}
	bad = append(bad, repeated(1, 18), joined([]int{18}, repeated(9, 17)), joined([]int{257}, repeated(9, 256)), repeated(1, 1000))
	for _, list := range badBytes() {
		bad = append(bad, list, joined([]int{1}, list), joined([]int{len(list) + 1}, list))
	}
	refuses(t, "UnpointBytes", impl.UnpointBytes, bad)
}

func TestFramesLeaveArgumentsAlone(t *testing.T) {
	lists := [][]int{nil, {1}, {1}, {3, 0, 7}, {192, 219}, repeated(1, 16), {219, 220, 7, 192}, {2, 11, 1}}
	for _, list := range lists {
		leavesAlone(t, "EscapeBytes", impl.EscapeBytes, list)
		leavesAlone(t, "PointBytes", impl.PointBytes, list)
		leavesAlone(t, "UnescapeBytes", func(list []int) []int {
			bytes, _ := impl.UnescapeBytes(list)
			return bytes
		}, list)
		leavesAlone(t, "UnpointBytes", func(list []int) []int {
			bytes, _ := impl.UnpointBytes(list)
			return bytes
		}, list)
	}
	frames := []string{"1", ones(6), "spare"}
	impl.FlagFrames(frames[:2])
	sameTexts(t, "the frames of FlagFrames", frames, []string{"1", ones(6), "spare"})
}
