package tests

import (
	"cmp"
	"math"
	"slices"
	"strings"
	"testing"

	"loop.example/linksandframes/impl"
)

// beyond are numbers that are in none of the limits.
func beyond() []int {
	return []int{math.MinInt, math.MinInt + 1, -200, -30, -1, 201, 1 << 32, math.MaxInt - 1, math.MaxInt}
}

// mixedLoads returns at most MaxTicks loads, which are others for each seed.
func mixedLoads(seed int) []int {
	next := mixer(seed)
	most := 1 + next(impl.MaxLoad+1)
	loads := make([]int, next(impl.MaxTicks+1))
	for i := range loads {
		loads[i] = next(most)
	}
	return loads
}

// loadLists returns lists of loads: all of a few, and mixed ones up to the limits.
func loadLists() [][]int {
	lists := append(allLists([]int{0, 1, 2, 3, 5}, 4), allLists([]int{0, 7, 29, 30}, 3)...)
	for n := range impl.MaxTicks + 1 {
		lists = append(lists, repeated(0, n), repeated(1, n), repeated(30, n))
	}
	for seed := range 500 {
		lists = append(lists, mixedLoads(seed))
	}
	return lists
}

// badLoads are lists in which a number is no load, or which are too long.
func badLoads() [][]int {
	lists := [][]int{repeated(0, 17), repeated(30, 17), repeated(1, 1000), {31}, {-1}, {0, 31}, {31, 0}, {0, -1, 0}, joined(repeated(1, 15), []int{31}), joined(repeated(1, 15), []int{-1})}
	for _, x := range beyond() {
		lists = append(lists, []int{x}, []int{1, x}, []int{x, 1})
	}
	return lists
}

// sum returns the sum of numbers.
func sum(list []int) int {
	all := 0
	for _, x := range list {
		all += x
	}
	return all
}

func TestFlowConstants(t *testing.T) {
	got := []int{impl.MaxLoad, impl.MaxTicks, impl.MaxDepth, impl.MaxPackets, impl.MaxFlows}
	sameList(t, "constants", got, []int{30, 16, 200, 6, 4})
}

// hasBy returns how much a bucket has in a tick, by what passed in all ticks ahead of it: it was full in one of them, and has less by what passed, and more by the rate, since.
func hasBy(rate int, depth int, passed []int) int {
	has := depth
	for from := range passed {
		since := passed[from:]
		has = min(has, depth+rate*len(since)-sum(since))
	}
	return has
}

// passesBy returns which loads pass a bucket, and what is left behind the last one.
func passesBy(rate int, depth int, list []int) ([]bool, int) {
	var passes []bool
	var passed []int
	left := depth
	for _, load := range list {
		left = hasBy(rate, depth, passed)
		pass := load <= left
		if !pass {
			load = 0
		}
		left -= load
		passes, passed = append(passes, pass), append(passed, load)
	}
	return passes, left
}

// passes reports a fault if other loads pass a bucket, or if anything else is left.
func passes(t *testing.T, rate int, depth int, list []int, want []bool, wantLeft int) {
	t.Helper()
	if got, left := impl.PassesOf(rate, depth, list); !slices.Equal(got, want) || left != wantLeft {
		t.Errorf("PassesOf(%d, %d, %v) = %v, %d, want %v, %d", rate, depth, list, got, left, want, wantLeft)
	}
}

func TestPromise35BucketsLetThroughWhatTheyHave(t *testing.T) {
	for _, list := range loadLists() {
		for _, rate := range []int{0, 1, 2, 5, 29, 30} {
			for _, depth := range []int{0, 1, 2, 3, 5, 8, 29, 30, 31, 60, 199, 200} {
				want, wantLeft := passesBy(rate, depth, list)
				passes(t, rate, depth, list, want, wantLeft)
				keepsToBucket(t, rate, depth, list)
			}
		}
	}
}

// keepsToBucket reports a fault if more passes a bucket than its depth and what the rate brings, or if more is left than its depth.
func keepsToBucket(t *testing.T, rate int, depth int, list []int) {
	t.Helper()
	got, left := impl.PassesOf(rate, depth, list)
	passed := 0
	for i, pass := range got {
		if pass {
			passed += list[i]
		}
	}
	ticks := max(len(list)-1, 0)
	if len(got) != len(list) || left < 0 || left > depth || passed+left > depth+rate*ticks {
		t.Errorf("PassesOf(%d, %d, %v) = %v, %d", rate, depth, list, got, left)
	}
}

func TestPassesOfEdges(t *testing.T) {
	passes(t, 0, 0, nil, nil, 0)
	passes(t, 30, 200, []int{}, nil, 200)
	passes(t, 30, 0, []int{0, 1, 0}, []bool{true, false, true}, 0)
	// In the first tick a bucket has its depth, and not the rate, too.
	passes(t, 3, 5, []int{6}, []bool{false}, 5)
	passes(t, 3, 5, []int{5}, []bool{true}, 0)
	passes(t, 3, 5, []int{5, 3}, []bool{true, true}, 0)
	passes(t, 3, 5, []int{5, 4, 5}, []bool{true, false, true}, 0)
	// What comes behind the last tick is not there yet, and no more is in it than the depth.
	passes(t, 3, 5, []int{5, 0}, []bool{true, true}, 3)
	passes(t, 3, 5, []int{5, 0, 0, 0}, []bool{true, true, true, true}, 5)
	passes(t, 30, 29, []int{30, 29, 30, 29}, []bool{false, true, false, true}, 0)
	// Without a rate there is just the depth.
	passes(t, 0, 5, []int{3, 3, 2, 1, 0}, []bool{true, false, true, false, true}, 0)
	passes(t, 0, 200, repeated(30, 16), append(slices.Repeat([]bool{true}, 6), slices.Repeat([]bool{false}, 10)...), 20)
	passes(t, 30, 30, repeated(30, 16), slices.Repeat([]bool{true}, 16), 0)
}

func TestPassesOfRefuses(t *testing.T) {
	for _, list := range badLoads() {
		passes(t, 2, 5, list, nil, -1)
		passes(t, 0, 200, list, nil, -1)
	}
	for _, list := range [][]int{nil, {0}, {5, 3, 2}, repeated(30, 16)} {
		for _, x := range append(beyond(), 31) {
			passes(t, x, 5, list, nil, -1)
		}
		for _, x := range beyond() {
			passes(t, 5, x, list, nil, -1)
		}
	}
}

// greatestRow returns the greatest sum of loads behind each other less what the rate brings between them, 0 for no loads.
func greatestRow(rate int, list []int) int {
	most := 0
	for from := range list {
		for to := from + 1; to <= len(list); to++ {
			most = max(most, sum(list[from:to])-rate*(to-from-1))
		}
	}
	return most
}

// hasDepth reports a fault if the depth for loads is another one, or is told where none is wanted, of -1.
func hasDepth(t *testing.T, rate int, list []int, want int) {
	t.Helper()
	if depth, ok := impl.DepthFor(rate, list); depth != max(want, 0) || ok != (want >= 0) {
		t.Errorf("DepthFor(%d, %v) = %d, %v, want %d", rate, list, depth, ok, want)
	}
}

func TestPromise36DepthsAreTheGreatestRowsOfLoads(t *testing.T) {
	for _, list := range loadLists() {
		for _, rate := range []int{0, 1, 2, 5, 12, 29, 30} {
			want := greatestRow(rate, list)
			if want > impl.MaxDepth {
				hasDepth(t, rate, list, -1)
				continue
			}
			hasDepth(t, rate, list, want)
			passes, _ := impl.PassesOf(rate, want, list)
			if slices.Contains(passes, false) {
				t.Errorf("PassesOf(%d, %d, %v) = %v, with the depth for them", rate, want, list, passes)
			}
			if want == 0 {
				continue
			}
			if passes, _ := impl.PassesOf(rate, want-1, list); !slices.Contains(passes, false) {
				t.Errorf("all of %v pass by the rate %d and less than the depth %d for them", list, rate, want)
			}
		}
	}
}

func TestDepthForEdges(t *testing.T) {
	for rate := range 31 {
		hasDepth(t, rate, nil, 0)
		hasDepth(t, rate, []int{}, 0)
		hasDepth(t, rate, repeated(0, 16), 0)
		hasDepth(t, rate, []int{0, 30, 0}, 30)
	}
	hasDepth(t, 0, joined(repeated(30, 6), []int{20}), 200)
	hasDepth(t, 0, joined(repeated(30, 6), []int{21}), -1)
	hasDepth(t, 0, repeated(12, 16), 192)
	hasDepth(t, 0, repeated(13, 16), -1)
	hasDepth(t, 30, repeated(30, 16), 30)
	hasDepth(t, 19, repeated(30, 16), 195)
	hasDepth(t, 18, repeated(30, 16), -1)
	hasDepth(t, 5, []int{9, 0, 0, 9}, 9)
	hasDepth(t, 5, []int{9, 4, 7}, 10)
}

func TestDepthForRefuses(t *testing.T) {
	for _, list := range badLoads() {
		hasDepth(t, 0, list, -1)
		hasDepth(t, 30, list, -1)
	}
	for _, x := range append(beyond(), 31) {
		for _, list := range [][]int{nil, {0}, {5, 3}} {
			hasDepth(t, x, list, -1)
		}
	}
}

// leftBy returns how much of the loads has left in all of the first ticks: all that came ahead of one of them, and at most the rate in each one since.
func leftBy(rate int, list []int, ticks int) int {
	all := rate * ticks
	for from := range ticks {
		came := sum(list[:min(from+1, len(list))])
		all = min(all, came+rate*(ticks-from-1))
	}
	return all
}

// smoothBy returns how much leaves in each tick, and the most that is left behind one.
func smoothBy(rate int, list []int) ([]int, int) {
	var leaves []int
	most := 0
	for ticks := 1; ticks <= len(list) || sum(leaves) < sum(list); ticks++ {
		leaves = append(leaves, leftBy(rate, list, ticks)-leftBy(rate, list, ticks-1))
		most = max(most, sum(list[:min(ticks, len(list))])-sum(leaves))
	}
	return leaves, most
}

// smooths reports a fault if anything else leaves, or if more or less waits.
func smooths(t *testing.T, rate int, list []int, want []int, wantMost int) {
	t.Helper()
	if leaves, most := impl.SmoothOf(rate, list); !slices.Equal(leaves, want) || most != wantMost {
		t.Errorf("SmoothOf(%d, %v) = %v, %d, want %v, %d", rate, list, leaves, most, want, wantMost)
	}
}

func TestPromise37WhatWaitsIsTheDepthLessTheRate(t *testing.T) {
	for _, list := range loadLists() {
		for _, rate := range []int{1, 2, 3, 5, 12, 29, 30} {
			want, wantMost := smoothBy(rate, list)
			smooths(t, rate, list, want, wantMost)
			leaves, most := impl.SmoothOf(rate, list)
			if sum(leaves) != sum(list) || slices.Max(append(leaves, 0)) > rate || len(leaves) < len(list) {
				t.Errorf("SmoothOf(%d, %v) = %v, %d", rate, list, leaves, most)
			}
			if depth, ok := impl.DepthFor(rate, list); ok && most != max(depth-rate, 0) {
				t.Errorf("SmoothOf(%d, %v) = %v, %d, and DepthFor is %d", rate, list, leaves, most, depth)
			}
		}
	}
}

func TestSmoothOfEdges(t *testing.T) {
	for rate := 1; rate <= 30; rate++ {
		smooths(t, rate, nil, nil, 0)
		smooths(t, rate, []int{}, nil, 0)
		smooths(t, rate, []int{0}, []int{0}, 0)
		smooths(t, rate, repeated(0, 16), repeated(0, 16), 0)
		smooths(t, rate, []int{0, rate, 0}, []int{0, rate, 0}, 0)
	}
	// Behind the last load it goes on as long as something is left, and not longer.
	smooths(t, 4, []int{8}, []int{4, 4}, 4)
	smooths(t, 4, []int{9}, []int{4, 4, 1}, 5)
	smooths(t, 4, []int{0, 5}, []int{0, 4, 1}, 1)
	smooths(t, 4, []int{5, 0, 5}, []int{4, 1, 4, 1}, 1)
	smooths(t, 30, repeated(30, 16), repeated(30, 16), 0)
	smooths(t, 29, repeated(30, 16), joined(repeated(29, 16), []int{16}), 16)
	smooths(t, 1, repeated(30, 16), repeated(1, 480), 464)
}

func TestSmoothOfRefuses(t *testing.T) {
	for _, list := range badLoads() {
		smooths(t, 1, list, nil, -1)
		smooths(t, 30, list, nil, -1)
	}
	for _, x := range append(beyond(), 0, 31) {
		for _, list := range [][]int{nil, {0}, {5, 0, 1}} {
			smooths(t, x, list, nil, -1)
		}
	}
}

// edgeBy returns the edge behind signs: half of the window ahead of the last one of them that is no o, or the limit.
func edgeBy(limit int, signs string, widths []int) int {
	last := strings.LastIndexAny(signs, "xt")
	if last < 0 {
		return limit
	}
	return max(1, widths[last]/2)
}

// widthBy returns how wide a window is behind the last one of the signs.
func widthBy(limit int, signs string, widths []int) int {
	last := len(signs) - 1
	edge, width := edgeBy(limit, signs, widths), widths[last]
	switch {
	case signs[last] == 't':
		return 1
	case signs[last] == 'x' || width < edge && 2*width > edge:
		return edge
	case width < edge:
		return 2 * width
	case width == limit:
		return limit
	}
	return width + 1
}

func TestPromise38WindowsStayInTheirLimit(t *testing.T) {
	texts := append(allTexts("oxt", 6), allTexts("ox", 9)...)
	for seed := range 300 {
		next := mixer(seed)
		var signs []byte
		for range next(impl.MaxTicks + 1) {
			signs = append(signs, "oooooooxt"[next(9)])
		}
		texts = append(texts, string(signs), strings.Repeat("o", seed%17))
	}
	for _, signs := range texts {
		for _, limit := range []int{1, 2, 3, 4, 5, 6, 7, 8, 13, 16, 17, 29, 30} {
			keepsToLimit(t, limit, signs)
		}
	}
}

// keepsToLimit reports a fault if a window is wider or narrower than it is behind the signs.
func keepsToLimit(t *testing.T, limit int, signs string) {
	t.Helper()
	widths := impl.WidthsOf(limit, signs)
	if len(widths) != len(signs)+1 || widths[0] != 1 {
		t.Fatalf("WidthsOf(%d, %q) = %v", limit, signs, widths)
	}
	for i, sign := range signs {
		was, width := widths[i], widths[i+1]
		kept := 1 <= width && width <= limit
		if sign == 'o' {
			kept = kept && width >= was
		} else {
			kept = kept && (width == 1 || width <= was/2)
		}
		if want := widthBy(limit, signs[:i+1], widths); width != want || !kept {
			t.Errorf("WidthsOf(%d, %q) = %v, want %d behind %d", limit, signs, widths, want, i)
		}
	}
}

// hasWidths reports a fault if a window is anything else wide behind signs.
func hasWidths(t *testing.T, limit int, signs string, want []int) {
	t.Helper()
	if widths := impl.WidthsOf(limit, signs); !slices.Equal(widths, want) {
		t.Errorf("WidthsOf(%d, %q) = %v, want %v", limit, signs, widths, want)
	}
}

func TestWidthsOfEdges(t *testing.T) {
	for _, c := range []struct {
		limit int
		signs string
		want  []int
	}{
		{1, "", []int{1}},
		{30, "", []int{1}},
		{1, "ooxoto", []int{1, 1, 1, 1, 1, 1, 1}},
		{2, "oo", []int{1, 2, 2}},
		{3, "ooo", []int{1, 2, 3, 3}},
		{30, "oooooo", []int{1, 2, 4, 8, 16, 30, 30}},
		// A half has no rest, and is at least 1; behind it the window is wider by 1 only.
		{30, "oooxoooo", []int{1, 2, 4, 8, 4, 5, 6, 7, 8}},
		{7, "oooxoxxx", []int{1, 2, 4, 7, 3, 4, 2, 1, 1}},
		{30, "xo", []int{1, 1, 2}},
		{30, "xooo", []int{1, 1, 2, 3, 4}},
		// Behind a t it is twice as wide again, up to the edge.
		{30, "ooootooooo", []int{1, 2, 4, 8, 16, 1, 2, 4, 8, 9, 10}},
		{6, "oootooo", []int{1, 2, 4, 6, 1, 2, 3, 4}},
		{30, "toto", []int{1, 1, 2, 1, 2}},
		{30, "oootto", []int{1, 2, 4, 8, 1, 1, 2}},
		{30, strings.Repeat("t", 16), repeated(1, 17)},
		// An edge is never wider than the limit, and the window never, too.
		{4, "oooxoooo", []int{1, 2, 4, 4, 2, 3, 4, 4, 4}},
	} {
		hasWidths(t, c.limit, c.signs, c.want)
	}
}

func TestWidthsOfRefuses(t *testing.T) {
	for _, limit := range append(beyond(), 0, 31) {
		for _, signs := range []string{"", "o", "oxt"} {
			hasWidths(t, limit, signs, nil)
		}
	}
	texts := []string{strings.Repeat("o", 17), strings.Repeat("x", 17), strings.Repeat("t", 1000), "z", "O", "X", "T", " ", "o o", "0", "-", "\x00", "\xff", "o\xffo", "oxz", "zox", "xt\n", "ůů", "oﾏ", "ŴŸ", "ó"}
	for b := range 256 {
		if b != 'o' && b != 'x' && b != 't' {
			texts = append(texts, string([]byte{byte(b)}), string([]byte{'o', byte(b)}), strings.Repeat("o", 15)+string([]byte{byte(b)}))
		}
	}
	for _, signs := range texts {
		for _, limit := range []int{1, 8, 30} {
			hasWidths(t, limit, signs, nil)
		}
	}
}

// sharesBy returns how much each of the loads gets, by taking out again and again all that are at most the share.
func sharesBy(room int, list []int) []int {
	shares := repeated(-1, len(list))
	for slices.Contains(shares, -1) {
		open := 0
		for _, share := range shares {
			if share < 0 {
				open++
			}
		}
		most, taken := room/open, false
		for i, load := range list {
			if shares[i] < 0 && load <= most {
				shares[i], taken = load, true
				room -= load
			}
		}
		for i := range shares {
			if shares[i] < 0 && !taken {
				shares[i] = most
			}
		}
	}
	return shares
}

// hasShares reports a fault if the loads get anything else of a room.
func hasShares(t *testing.T, room int, list []int, want []int) {
	t.Helper()
	if shares := impl.SharesOf(room, list); !slices.Equal(shares, want) {
		t.Errorf("SharesOf(%d, %v) = %v, want %v", room, list, shares, want)
	}
}

func TestPromise39SharesAreFair(t *testing.T) {
	for _, list := range loadLists() {
		for _, room := range []int{0, 1, 2, 3, 4, 5, 6, 7, 9, 10, 12, 13, 20, 59, 60, 61, 100, 150, 199, 200} {
			hasShares(t, room, list, sharesBy(room, list))
			isFair(t, room, list)
		}
	}
}

// isFair reports a fault if one gets more than asked, less than another one without need, or if too much of the room is left or given.
func isFair(t *testing.T, room int, list []int) {
	t.Helper()
	shares := impl.SharesOf(room, list)
	left := room - sum(shares)
	fair := len(shares) == len(list) && left >= 0
	short := 0
	for i := range min(len(shares), len(list)) {
		fair = fair && 0 <= shares[i] && shares[i] <= list[i]
		if shares[i] < list[i] {
			short++
			fair = fair && shares[i] == slices.Max(shares)
		}
	}
	if !fair || short > 0 && left >= short {
		t.Errorf("SharesOf(%d, %v) = %v", room, list, shares)
	}
}

func TestSharesOfEdges(t *testing.T) {
	for _, c := range []struct {
		room int
		list []int
		want []int
	}{
		{0, nil, nil},
		{200, []int{}, nil},
		{0, []int{0}, []int{0}},
		{0, []int{30, 0, 1}, []int{0, 0, 0}},
		{1, []int{1, 1}, []int{0, 0}},
		{1, []int{1, 0}, []int{1, 0}},
		{200, repeated(0, 16), repeated(0, 16)},
		{200, repeated(30, 16), repeated(12, 16)},
		{15, repeated(30, 16), repeated(0, 16)},
		{16, repeated(30, 16), repeated(1, 16)},
		{180, repeated(30, 6), repeated(30, 6)},
		{179, repeated(30, 6), repeated(29, 6)},
		{200, []int{30}, []int{30}},
		{29, []int{30}, []int{29}},
		// What one that is taken out does not need lets others be taken out, too.
		{12, []int{6, 4, 2}, []int{6, 4, 2}},
		{11, []int{6, 4, 2}, []int{5, 4, 2}},
		{10, []int{6, 4, 2}, []int{4, 4, 2}},
		{9, []int{6, 4, 2}, []int{3, 3, 2}},
		{20, []int{1, 8, 6, 5}, []int{1, 8, 6, 5}},
	} {
		hasShares(t, c.room, c.list, c.want)
	}
}

func TestSharesOfRefuses(t *testing.T) {
	for _, list := range badLoads() {
		for _, room := range []int{0, 5, 200} {
			hasShares(t, room, list, nil)
		}
	}
	for _, x := range beyond() {
		for _, list := range [][]int{nil, {0}, {1, 30}} {
			hasShares(t, x, list, nil)
		}
	}
}

// packet is when a packet leaves: its turn, counted from 1, and its flow.
type packet struct {
	turn int
	flow int
}

// turnsBy returns the flows whose packets leave, by the turn in which each flow has been given as much as its packets up to that one need.
func turnsBy(quantum int, flows [][]int) []int {
	var packets []packet
	for flow, list := range flows {
		for i := range list {
			need := sum(list[:i+1])
			packets = append(packets, packet{max(1, (need+quantum-1)/quantum), flow})
		}
	}
	slices.SortFunc(packets, func(p packet, q packet) int {
		return cmp.Or(p.turn-q.turn, p.flow-q.flow)
	})
	var turns []int
	for _, p := range packets {
		turns = append(turns, p.flow)
	}
	return turns
}

// flowLists returns lists of flows: all of a few short ones, and mixed ones up to the limits.
func flowLists() [][][]int {
	lists := append(allLists(allLists([]int{0, 1, 5}, 2), 2), allLists([][]int{nil, {3}, {0, 7}, {30, 1}}, 4)...)
	for seed := range 1000 {
		next := mixer(seed)
		flows := make([][]int, next(impl.MaxFlows+1))
		for i := range flows {
			for range next(impl.MaxPackets + 1) {
				flows[i] = append(flows[i], next(1+min(30, seed%40)))
			}
		}
		lists = append(lists, flows)
	}
	return lists
}

// hasTurns reports a fault if the packets of flows leave in any other order.
func hasTurns(t *testing.T, quantum int, flows [][]int, want []int) {
	t.Helper()
	if turns := impl.TurnsOf(quantum, flows); !slices.Equal(turns, want) {
		t.Errorf("TurnsOf(%d, %v) = %v, want %v", quantum, flows, turns, want)
	}
}

func TestPromise40AllPacketsLeave(t *testing.T) {
	for _, flows := range flowLists() {
		for _, quantum := range []int{1, 2, 3, 4, 5, 7, 11, 29, 30} {
			hasTurns(t, quantum, flows, turnsBy(quantum, flows))
			turns := impl.TurnsOf(quantum, flows)
			often := make([]int, len(flows))
			for _, flow := range turns {
				often[flow]++
			}
			for i, packets := range flows {
				if often[i] != len(packets) {
					t.Errorf("TurnsOf(%d, %v) = %v", quantum, flows, turns)
				}
			}
		}
	}
}

func TestTurnsOfEdges(t *testing.T) {
	for _, c := range []struct {
		quantum int
		flows   [][]int
		want    []int
	}{
		{1, nil, nil},
		{30, [][]int{}, nil},
		{1, [][]int{nil}, nil},
		{30, [][]int{{}, nil, {}, {}}, nil},
		{1, [][]int{nil, {1}, nil, {1}}, []int{1, 3}},
		{1, [][]int{{0}}, []int{0}},
		{1, [][]int{{30}}, []int{0}},
		// Packets of 0 leave in the turn of their flow, all of them.
		{1, [][]int{{0, 0, 0}, {0, 0}}, []int{0, 0, 0, 1, 1}},
		{1, [][]int{{1, 0}, {0, 1, 0}}, []int{0, 0, 1, 1, 1}},
		{1, [][]int{{2, 0}, {1, 0}}, []int{1, 1, 0, 0}},
		// A packet may be as long as the credit, and what is left of this is there in the next turn.
		{5, [][]int{{5, 5}, {5}}, []int{0, 1, 0}},
		{5, [][]int{{6}, {5}}, []int{1, 0}},
		{5, [][]int{{3, 7}, {3, 8}, {10}}, []int{0, 1, 0, 2, 1}},
		{5, [][]int{{11}, {10}, {1, 1, 1, 1, 1, 1}}, []int{2, 2, 2, 2, 2, 1, 2, 0}},
		// The next packet stands ahead of shorter ones.
		{4, [][]int{{5, 1}, {4}}, []int{1, 0, 0}},
		{30, [][]int{repeated(30, 6), repeated(30, 6), repeated(30, 6), repeated(30, 6)}, joined([]int{0, 1, 2, 3}, []int{0, 1, 2, 3}, []int{0, 1, 2, 3}, []int{0, 1, 2, 3}, []int{0, 1, 2, 3}, []int{0, 1, 2, 3})},
		{30, [][]int{repeated(5, 6), repeated(6, 6)}, joined(repeated(0, 6), repeated(1, 6))},
		{29, [][]int{repeated(5, 6), repeated(6, 6)}, []int{0, 0, 0, 0, 0, 1, 1, 1, 1, 0, 1, 1}},
	} {
		hasTurns(t, c.quantum, c.flows, c.want)
	}
}

func TestTurnsOfRefuses(t *testing.T) {
	for _, x := range append(beyond(), 0, 31) {
		for _, flows := range [][][]int{nil, {nil}, {{0}}, {{1}, {2, 3}}} {
			hasTurns(t, x, flows, nil)
		}
	}
	lists := [][][]int{{nil, nil, nil, nil, nil}, {{1}, {1}, {1}, {1}, {1}}, {{1}, {1}, {1}, {1}, nil}, {repeated(1, 7)}, {{1}, repeated(0, 7)}, {{31}}, {{-1}}, {{1}, {1, 31}}, {{1}, {0, -1, 0}}, {{1}, nil, {1}, {1, 1, 1, 1, 1, 31}}}
	for _, x := range beyond() {
		lists = append(lists, [][]int{{x}}, [][]int{{1}, {1, x}}, [][]int{{x, 1}, {1}})
	}
	for _, flows := range lists {
		for _, quantum := range []int{1, 5, 30} {
			hasTurns(t, quantum, flows, nil)
		}
	}
}

func TestFlowsLeaveArgumentsAlone(t *testing.T) {
	for _, list := range [][]int{nil, {0}, {5, 3, 2, 0, 4}, {30, 2, 30, 5}, repeated(30, 16), {31}, repeated(1, 17)} {
		leavesAlone(t, "PassesOf and DepthFor", func(list []int) []int {
			passes, left := impl.PassesOf(2, 5, list)
			depth, _ := impl.DepthFor(2, list)
			return []int{len(passes), left, depth}
		}, list)
		leavesAlone(t, "SmoothOf", func(list []int) []int {
			leaves, _ := impl.SmoothOf(2, list)
			return leaves
		}, list)
		leavesAlone(t, "SharesOf", func(list []int) []int {
			return impl.SharesOf(200, list)
		}, list)
		leavesAlone(t, "TurnsOf", func(list []int) []int {
			half := len(list) / 2
			return impl.TurnsOf(5, [][]int{list[:half], list[half:]})
		}, list)
	}
	flows := [][]int{{5, 5}, {3, 2, 4}, {11}, {}}
	impl.TurnsOf(5, flows)
	for i, want := range [][]int{{5, 5}, {3, 2, 4}, {11}, {}} {
		sameList(t, "TurnsOf changes a flow, which", flows[i], want)
	}
}

func TestFlowsKeepNoState(t *testing.T) {
	for range 2 {
		passes(t, 2, 5, []int{5, 3, 2, 0, 4}, []bool{true, false, true, true, true}, 1)
		hasDepth(t, 2, []int{5, 3, 2, 0, 4}, 6)
		smooths(t, 2, []int{5, 0, 1}, []int{2, 2, 2}, 3)
		hasWidths(t, 8, "oooooxoto", []int{1, 2, 4, 8, 8, 8, 4, 5, 1, 2})
		hasShares(t, 20, []int{2, 30, 5, 30}, []int{2, 6, 5, 6})
		hasTurns(t, 5, [][]int{{5, 5}, {3, 2, 4}, {11}}, []int{0, 1, 1, 0, 1, 2})
	}
}
