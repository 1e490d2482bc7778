package tests

import (
	"math"
	"slices"
	"testing"

	"loop.example/linksandframes/impl"
)

// part returns a piece.
func part(at int, size int, more bool) impl.Piece {
	return impl.Piece{At: at, Size: size, More: more}
}

// isPart reports whether a piece is within the greatest length.
func isPart(p impl.Piece) bool {
	for at := range 60 {
		for size := 1; size <= 60-at; size++ {
			if p.At == at && p.Size == size {
				return true
			}
		}
	}
	return false
}

// partsWithin returns all pieces within a length, with More and without.
func partsWithin(length int) []impl.Piece {
	var list []impl.Piece
	for at := range length {
		for size := 1; size <= length-at; size++ {
			list = append(list, part(at, size, true), part(at, size, false))
		}
	}
	return list
}

// mixedParts returns pieces that are others for each seed; most go together, and many are a whole.
func mixedParts(seed int) []impl.Piece {
	next := mixer(seed)
	length := 1 + next(impl.MaxLength)
	var list []impl.Piece
	for at := 0; at < length && len(list) < impl.MaxPieces; {
		size := 1 + next(length-at)
		list = append(list, part(at, size, at+size < length))
		at += 1 + next(size)
	}
	for len(list) < impl.MaxPieces && next(4) > 0 {
		list = append(list, list[next(len(list))])
	}
	for i := range list {
		j := next(i + 1)
		list[i], list[j] = list[j], list[i]
	}
	if next(8) == 0 {
		list[0].More = !list[0].More
	}
	if next(2) == 0 {
		list = list[next(len(list)):]
	}
	return list
}

// partLists returns lists of valid pieces: all of a few short ones, and some of more and longer ones.
func partLists() [][]impl.Piece {
	lists := append(allLists(partsWithin(3), 4), allLists(partsWithin(4), 3)...)
	for seed := range 3000 {
		lists = append(lists, mixedParts(seed))
	}
	return lists
}

// badParts are lists in which a piece is none, or which are too long.
func badParts() [][]impl.Piece {
	lists := [][]impl.Piece{slices.Repeat([]impl.Piece{part(0, 1, false)}, 21), slices.Repeat([]impl.Piece{part(0, 1, true)}, 21)}
	for _, more := range []bool{true, false} {
		for _, x := range []int{math.MinInt, math.MinInt + 1, -60, -1, 60, 61, math.MaxInt - 1, math.MaxInt} {
			lists = append(lists, []impl.Piece{part(x, 1, more)}, []impl.Piece{part(x, 60, more)}, []impl.Piece{part(x, -x, more)})
		}
		for _, x := range []int{math.MinInt, -60, -1, 0, 61, math.MaxInt - 58, math.MaxInt} {
			lists = append(lists, []impl.Piece{part(0, x, more)}, []impl.Piece{part(59, x, more)})
		}
		for _, p := range []impl.Piece{part(59, 2, more), part(1, 60, more), part(30, 31, more), part(0, 0, more)} {
			good := part(0, 1, false)
			lists = append(lists, []impl.Piece{p}, []impl.Piece{p, good}, []impl.Piece{good, p}, []impl.Piece{good, p, good})
		}
	}
	return lists
}

// has reports whether one of the pieces has a number.
func has(list []impl.Piece, number int) bool {
	return slices.ContainsFunc(list, func(p impl.Piece) bool {
		return p.At <= number && number < p.At+p.Size
	})
}

// rowsBy returns the rows of numbers up to a length that the pieces have, or those that they have not, with More of all that do not end at an end.
func rowsBy(list []impl.Piece, length int, had bool, end int) []impl.Piece {
	var rows []impl.Piece
	size := 0
	for number := range length {
		if has(list, number) != had {
			continue
		}
		size++
		if number+1 == length || has(list, number+1) != had {
			rows = append(rows, part(number+1-size, size, number+1 != end))
			size = 0
		}
	}
	return rows
}

// endBy returns where pieces end, by trying all ends.
func endBy(list []impl.Piece) (int, bool) {
	if !slices.ContainsFunc(list, func(p impl.Piece) bool { return !p.More }) {
		return -1, true
	}
	for end := range 61 {
		differs := func(p impl.Piece) bool {
			return p.More && p.At+p.Size >= end || !p.More && p.At+p.Size != end
		}
		if !slices.ContainsFunc(list, differs) {
			return end, true
		}
	}
	return -1, false
}

// isWholeBy reports whether pieces have an end and all numbers ahead of it.
func isWholeBy(list []impl.Piece) bool {
	end, ok := endBy(list)
	return ok && end > 0 && len(rowsBy(list, end, false, end)) == 0
}

// sameParts reports a fault if pieces are others than those wanted.
func sameParts(t *testing.T, call string, list []impl.Piece, got []impl.Piece, want []impl.Piece) {
	t.Helper()
	if !slices.Equal(got, want) {
		t.Errorf("%s of %v = %v, want %v", call, list, got, want)
	}
}

// endsAt reports a fault if pieces end anywhere else.
func endsAt(t *testing.T, list []impl.Piece, want int, together bool) {
	t.Helper()
	if end, ok := impl.EndOf(list); end != want || ok != together {
		t.Errorf("EndOf(%v) = %d, %v, want %d, %v", list, end, ok, want, together)
	}
}

// isWhole reports a fault if pieces are not a whole from so many on, or are one where none is wanted, of 0.
func isWhole(t *testing.T, list []impl.Piece, whole bool, want int) {
	t.Helper()
	if impl.IsWhole(list) != whole {
		t.Errorf("IsWhole(%v) = %v", list, !whole)
	}
	if n, ok := impl.WholeAt(list); n != want || ok != (want > 0) {
		t.Errorf("WholeAt(%v) = %d, %v, want %d", list, n, ok, want)
	}
}

func TestPieceConstants(t *testing.T) {
	if impl.MaxLength != 60 || impl.MaxPieces != 20 || impl.MaxUnit != 8 || impl.MaxHops != 8 {
		t.Errorf("MaxLength, MaxPieces, MaxUnit, MaxHops = %d, %d, %d, %d", impl.MaxLength, impl.MaxPieces, impl.MaxUnit, impl.MaxHops)
	}
}

func TestPromise27PiecesCanBeLeftOut(t *testing.T) {
	for _, list := range append(partLists(), badParts()...) {
		valid := len(list) <= 20 && !slices.ContainsFunc(list, func(p impl.Piece) bool { return !isPart(p) })
		if impl.ValidPieces(list) != valid {
			t.Errorf("ValidPieces(%v) = %v", list, !valid)
		}
		if valid && len(list) > 0 && !impl.ValidPieces(list[:len(list)-1]) {
			t.Errorf("ValidPieces(%v) without the last one is false", list)
		}
	}
}

func TestValidPiecesEdges(t *testing.T) {
	for _, list := range [][]impl.Piece{nil, {}, {part(0, 1, true)}, {part(0, 60, false)}, {part(59, 1, true)}, {part(30, 30, true)}, {part(0, 4, false), part(0, 5, false)}} {
		if !impl.ValidPieces(list) {
			t.Errorf("ValidPieces(%v) = false", list)
		}
	}
	for at := -2; at <= 62; at++ {
		for size := -2; size <= 62; size++ {
			p := part(at, size, at%2 == 0)
			if impl.ValidPieces([]impl.Piece{p}) != isPart(p) {
				t.Errorf("ValidPieces of %v = %v", p, !isPart(p))
			}
		}
	}
	for n := range 30 {
		if impl.ValidPieces(slices.Repeat([]impl.Piece{part(59, 1, false)}, n)) != (n <= 20) {
			t.Errorf("ValidPieces of %d pieces = %v", n, n > 20)
		}
	}
}

func TestValidPiecesRefuses(t *testing.T) {
	for _, list := range badParts() {
		if impl.ValidPieces(list) {
			t.Errorf("ValidPieces(%v)", list)
		}
	}
}

// cutBy returns the pieces of a length, cut off one by one.
func cutBy(length int, most int, unit int) []impl.Piece {
	var list []impl.Piece
	for at := 0; at < length; {
		size := 0
		for size+unit <= most {
			size += unit
		}
		if length-at <= most {
			size = length - at
		}
		list = append(list, part(at, size, at+size < length))
		at += size
	}
	return list
}

func TestPromise28CutPiecesAreAWhole(t *testing.T) {
	for length := 1; length <= 60; length++ {
		for most := 1; most <= 60; most++ {
			for unit := 1; unit <= min(most, 8); unit++ {
				list, ok := impl.CutLength(length, most, unit)
				want := cutBy(length, most, unit)
				if len(want) > 20 {
					want = nil
				}
				if ok != (want != nil) || !slices.Equal(list, want) {
					t.Fatalf("CutLength(%d, %d, %d) = %v, %v, want %v", length, most, unit, list, ok, want)
				}
				if ok {
					isCut(t, list, length, unit)
				}
			}
		}
	}
}

// isCut reports a fault if pieces are not those of a length.
func isCut(t *testing.T, list []impl.Piece, length int, unit int) {
	t.Helper()
	endsAt(t, list, length, true)
	isWhole(t, list, true, len(list))
	sameParts(t, "HolesOf", list, impl.HolesOf(list, length), nil)
	sameParts(t, "JoinPieces", list, impl.JoinPieces(list), []impl.Piece{part(0, length, false)})
	for i, p := range list {
		if last := i == len(list)-1; p.More == last || !last && p.Size%unit != 0 {
			t.Errorf("CutLength has %v among %v, for the unit %d", p, list, unit)
		}
	}
}

func TestCutLengthEdges(t *testing.T) {
	for _, c := range []struct {
		length, most, unit int
		want               []impl.Piece
	}{
		{1, 1, 1, []impl.Piece{part(0, 1, false)}},
		{60, 60, 8, []impl.Piece{part(0, 60, false)}},
		{60, 59, 8, []impl.Piece{part(0, 56, true), part(56, 4, false)}},
		{60, 31, 8, []impl.Piece{part(0, 24, true), part(24, 24, true), part(48, 12, false)}},
		{9, 8, 8, []impl.Piece{part(0, 8, true), part(8, 1, false)}},
		{8, 8, 8, []impl.Piece{part(0, 8, false)}},
		{23, 15, 8, []impl.Piece{part(0, 8, true), part(8, 15, false)}},
		{24, 15, 8, []impl.Piece{part(0, 8, true), part(8, 8, true), part(16, 8, false)}},
	} {
		if list, ok := impl.CutLength(c.length, c.most, c.unit); !ok || !slices.Equal(list, c.want) {
			t.Errorf("CutLength(%d, %d, %d) = %v, %v, want %v", c.length, c.most, c.unit, list, ok, c.want)
		}
	}
	// Twenty pieces are as many as there may be.
	for _, c := range [][3]int{{20, 1, 1}, {60, 3, 1}, {60, 3, 3}, {40, 2, 2}, {41, 3, 2}} {
		if list, ok := impl.CutLength(c[0], c[1], c[2]); !ok || len(list) != 20 {
			t.Errorf("CutLength%v = %v, %v", c, list, ok)
		}
	}
}

func TestCutLengthRefuses(t *testing.T) {
	cuts := [][3]int{{21, 1, 1}, {60, 2, 1}, {60, 2, 2}, {41, 2, 2}, {60, 3, 2}, {42, 3, 2}, {60, 1, 1}, {10, 1, 2}, {10, 7, 8}, {10, 0, 0}, {1, 0, 1}}
	for _, x := range []int{math.MinInt, -1, 0, 61, math.MaxInt} {
		cuts = append(cuts, [3]int{x, 60, 1}, [3]int{x, 8, 8}, [3]int{10, x, 1}, [3]int{60, x, 8}, [3]int{1, x, 1}, [3]int{10, 60, x}, [3]int{x, x, x})
	}
	cuts = append(cuts, [3]int{10, 60, 9}, [3]int{60, 9, 9}, [3]int{1, 9, 9}, [3]int{10, 60, -8}, [3]int{61, 60, 8}, [3]int{1, 61, 8})
	for _, c := range cuts {
		if list, ok := impl.CutLength(c[0], c[1], c[2]); ok || len(list) != 0 {
			t.Errorf("CutLength%v = %v, %v", c, list, ok)
		}
	}
}

func TestPromise29EndsAreToldByOnePiece(t *testing.T) {
	for _, list := range partLists() {
		end, ok := endBy(list)
		endsAt(t, list, end, ok)
		if !ok || end < 0 {
			continue
		}
		i := slices.IndexFunc(list, func(p impl.Piece) bool { return !p.More && p.At+p.Size == end })
		if i < 0 {
			t.Fatalf("EndOf(%v) = %d, and no piece ends there", list, end)
		}
		if len(list) < impl.MaxPieces {
			endsAt(t, append(slices.Clone(list), list[i]), end, true)
		}
	}
}

func TestEndOfEdges(t *testing.T) {
	endsAt(t, nil, -1, true)
	endsAt(t, []impl.Piece{}, -1, true)
	for _, p := range partsWithin(60) {
		want := -1
		if !p.More {
			want = p.At + p.Size
		}
		endsAt(t, []impl.Piece{p}, want, true)
		endsAt(t, []impl.Piece{p, p}, want, true)
	}
	endsAt(t, []impl.Piece{part(0, 60, true), part(59, 1, true)}, -1, true)
	endsAt(t, []impl.Piece{part(8, 2, false), part(0, 10, false), part(0, 9, true)}, 10, true)
	endsAt(t, slices.Repeat([]impl.Piece{part(59, 1, false)}, 20), 60, true)
	// Pieces without More that end at different places, and others that do not end ahead of them, do not go together.
	endsAt(t, []impl.Piece{part(0, 4, false), part(0, 5, false)}, -1, false)
	endsAt(t, []impl.Piece{part(0, 5, false), part(0, 4, false)}, -1, false)
	endsAt(t, []impl.Piece{part(0, 4, false), part(2, 2, true)}, -1, false)
	endsAt(t, []impl.Piece{part(2, 2, true), part(0, 4, false)}, -1, false)
	endsAt(t, []impl.Piece{part(0, 5, true), part(0, 4, false)}, -1, false)
	endsAt(t, []impl.Piece{part(0, 4, false), part(7, 1, true)}, -1, false)
}

func TestEndOfRefuses(t *testing.T) {
	for _, list := range badParts() {
		endsAt(t, list, -1, false)
	}
}

func TestPromise30HolesFillUp(t *testing.T) {
	for _, list := range partLists() {
		for _, length := range []int{1, 2, 3, 4, 5, 30, 59, 60} {
			holes := impl.HolesOf(list, length)
			sameParts(t, "HolesOf", list, holes, rowsBy(list, length, false, length))
			for i := 1; i < len(holes); i++ {
				if holes[i].At <= holes[i-1].At+holes[i-1].Size {
					t.Errorf("HolesOf(%v, %d) = %v", list, length, holes)
				}
			}
			if both := slices.Concat(list, holes); len(both) <= impl.MaxPieces {
				sameParts(t, "HolesOf", both, impl.HolesOf(both, length), nil)
			}
		}
	}
}

func TestHolesOfEdges(t *testing.T) {
	for length := 1; length <= 60; length++ {
		sameParts(t, "HolesOf", nil, impl.HolesOf(nil, length), []impl.Piece{part(0, length, false)})
		full := []impl.Piece{part(0, length, length%2 == 0)}
		sameParts(t, "HolesOf", full, impl.HolesOf(full, length), nil)
	}
	last := []impl.Piece{part(59, 1, true)}
	sameParts(t, "HolesOf", last, impl.HolesOf(last, 60), []impl.Piece{part(0, 59, true)})
	sameParts(t, "HolesOf", last, impl.HolesOf(last, 59), []impl.Piece{part(0, 59, false)})
	first := []impl.Piece{part(0, 1, false), part(0, 1, false)}
	sameParts(t, "HolesOf", first, impl.HolesOf(first, 60), []impl.Piece{part(1, 59, false)})
	// Pieces that do not go together have holes, too.
	apart := []impl.Piece{part(0, 4, false), part(5, 1, false), part(8, 1, true)}
	sameParts(t, "HolesOf", apart, impl.HolesOf(apart, 9), []impl.Piece{part(4, 1, true), part(6, 2, true)})
	// There may be one hole more than there are pieces.
	many, holes := []impl.Piece{part(1, 1, true)}, []impl.Piece{part(0, 1, true)}
	for at := 2; at < 59; at += 3 {
		many = append(many, part(at+2, 1, true))
		holes = append(holes, part(at, 2, true))
	}
	holes = append(holes, part(59, 1, false))
	sameParts(t, "HolesOf", many, impl.HolesOf(many, 60), holes)
}

func TestHolesOfRefuses(t *testing.T) {
	for _, length := range []int{math.MinInt, -1, 0, 61, math.MaxInt} {
		for _, list := range [][]impl.Piece{nil, {part(0, 4, true)}, {part(59, 1, false)}} {
			sameParts(t, "HolesOf", list, impl.HolesOf(list, length), nil)
		}
	}
	for _, list := range badParts() {
		sameParts(t, "HolesOf", list, impl.HolesOf(list, 60), nil)
	}
}

func TestPromise31WholesComeInAnyOrder(t *testing.T) {
	wholes := 0
	for _, list := range partLists() {
		whole := isWholeBy(list)
		turned := slices.Clone(list)
		slices.Reverse(turned)
		if impl.IsWhole(list) != whole || impl.IsWhole(turned) != whole {
			t.Errorf("IsWhole(%v) = %v, and %v the other way round, want %v", list, impl.IsWhole(list), impl.IsWhole(turned), whole)
		}
		if !whole {
			continue
		}
		wholes++
		if n, ok := impl.WholeAt(list); !ok || n < 1 || n > len(list) {
			t.Errorf("WholeAt(%v) = %d, %v", list, n, ok)
		}
	}
	if wholes < 1000 {
		t.Errorf("only %d of the lists are a whole", wholes)
	}
}

func TestPromise32WholesAreThereWithTheLastPieceNeeded(t *testing.T) {
	for _, list := range partLists() {
		want := 0
		for n := len(list); n > 0; n-- {
			if isWholeBy(list[:n]) {
				want = n
			}
		}
		n, ok := impl.WholeAt(list)
		if n != want || ok != (want > 0) {
			t.Errorf("WholeAt(%v) = %d, %v, want %d", list, n, ok, want)
		}
		for fewer := range n + 1 {
			if impl.IsWhole(list[:fewer]) != (ok && fewer == n) {
				t.Errorf("IsWhole(%v) = %v, and WholeAt(%v) = %d", list[:fewer], fewer < n, list, n)
			}
		}
	}
}

func TestIsWholeAndWholeAtEdges(t *testing.T) {
	for _, p := range partsWithin(60) {
		whole, want := p.At == 0 && !p.More, 0
		if whole {
			want = 1
		}
		isWhole(t, []impl.Piece{p}, whole, want)
		isWhole(t, []impl.Piece{p, p}, whole, want)
	}
	isWhole(t, nil, false, 0)
	isWhole(t, []impl.Piece{}, false, 0)
	isWhole(t, []impl.Piece{part(0, 4, true), part(4, 4, true)}, false, 0)
	isWhole(t, []impl.Piece{part(4, 4, false), part(0, 3, true)}, false, 0)
	isWhole(t, []impl.Piece{part(1, 4, false)}, false, 0)
	isWhole(t, []impl.Piece{part(4, 4, false), part(4, 4, false), part(0, 4, true), part(0, 4, true)}, true, 3)
	// A whole is there even if what comes behind it does not go together with it.
	isWhole(t, []impl.Piece{part(0, 4, false), part(0, 5, false)}, false, 1)
	isWhole(t, []impl.Piece{part(0, 2, true), part(2, 2, false), part(3, 1, true)}, false, 2)
	isWhole(t, []impl.Piece{part(0, 2, true), part(3, 1, true), part(2, 2, false)}, false, 0)
	var twenty []impl.Piece
	for at := 57; at >= 0; at -= 3 {
		twenty = append(twenty, part(at, 3, at < 57))
	}
	isWhole(t, twenty, true, 20)
	isWhole(t, twenty[:19], false, 0)
}

func TestIsWholeAndWholeAtRefuse(t *testing.T) {
	for _, list := range badParts() {
		isWhole(t, list, false, 0)
		// The pieces ahead of what is none would be a whole.
		isWhole(t, append([]impl.Piece{part(0, 1, false)}, list...), false, 0)
	}
}

func TestPromise33JoinedPiecesHaveTheSameNumbers(t *testing.T) {
	for _, list := range partLists() {
		joined := impl.JoinPieces(list)
		end, ok := endBy(list)
		if !ok {
			sameParts(t, "JoinPieces", list, joined, nil)
			continue
		}
		sameParts(t, "JoinPieces", list, joined, rowsBy(list, 60, true, end))
		sameParts(t, "JoinPieces", joined, impl.JoinPieces(joined), joined)
		endsAt(t, joined, end, true)
		for _, length := range []int{1, 3, 4, 30, 59, 60} {
			sameParts(t, "HolesOf joined", list, impl.HolesOf(joined, length), impl.HolesOf(list, length))
		}
	}
}

func TestJoinPiecesEdges(t *testing.T) {
	for _, p := range partsWithin(60) {
		for n := 1; n <= 3; n++ {
			list := slices.Repeat([]impl.Piece{p}, n)
			sameParts(t, "JoinPieces", list, impl.JoinPieces(list), []impl.Piece{p})
		}
	}
	sameParts(t, "JoinPieces", nil, impl.JoinPieces(nil), nil)
	for _, c := range [][2][]impl.Piece{
		{{part(4, 4, true), part(0, 4, true)}, {part(0, 8, true)}},
		{{part(5, 4, true), part(0, 4, true)}, {part(0, 4, true), part(5, 4, true)}},
		{{part(0, 9, true), part(2, 3, true), part(4, 1, true)}, {part(0, 9, true)}},
		{{part(30, 30, true), part(0, 30, true)}, {part(0, 60, true)}},
		{{part(30, 30, false), part(0, 30, true)}, {part(0, 60, false)}},
		{{part(50, 10, false), part(1, 3, true), part(55, 5, false), part(3, 3, true)}, {part(1, 5, true), part(50, 10, false)}},
		{{part(2, 8, false), part(2, 3, true), part(5, 5, false)}, {part(2, 8, false)}},
		{{part(0, 4, false), part(0, 5, false)}, nil},
		{{part(0, 4, false), part(4, 1, true)}, nil},
		{{part(0, 4, true), part(0, 4, false)}, nil},
	} {
		sameParts(t, "JoinPieces", c[0], impl.JoinPieces(c[0]), c[1])
	}
	var apart []impl.Piece
	for at := 57; at >= 0; at -= 3 {
		apart = append(apart, part(at, 2, true))
	}
	want := slices.Clone(apart)
	slices.Reverse(want)
	sameParts(t, "JoinPieces", apart, impl.JoinPieces(apart), want)
}

func TestJoinPiecesRefuses(t *testing.T) {
	for _, list := range badParts() {
		sameParts(t, "JoinPieces", list, impl.JoinPieces(list), nil)
	}
}

// wayBy returns how much a way lets through, and after how many tries, by trying it.
func wayBy(way []int) (int, int) {
	tried := way[0]
	for tries := 1; ; tries++ {
		stops := slices.IndexFunc(way, func(part int) bool { return part < tried })
		if stops < 0 {
			return tried, tries
		}
		tried = way[stops]
	}
}

// letsThrough reports a fault if a way lets anything else through, or after other tries.
func letsThrough(t *testing.T, way []int, least int, tries int) {
	t.Helper()
	if got, n := impl.LeastWay(way); got != least || n != tries {
		t.Errorf("LeastWay(%v) = %d, %d, want %d, %d", way, got, n, least, tries)
	}
}

func TestPromise34WaysLetThroughWhatTheirLeastPartDoes(t *testing.T) {
	ways := allLists([]int{1, 2, 30, 59, 60}, 6)[1:]
	for seed := range 3000 {
		next := mixer(seed)
		way := make([]int, 1+next(impl.MaxHops))
		for i := range way {
			way[i] = 1 + next(impl.MaxLength)
		}
		ways = append(ways, way)
	}
	for _, way := range ways {
		least, tries := wayBy(way)
		letsThrough(t, way, least, tries)
		if got, n := impl.LeastWay(way); got != slices.Min(way) || n < 1 || n > len(way) {
			t.Errorf("LeastWay(%v) = %d, %d", way, got, n)
		}
	}
}

func TestLeastWayEdges(t *testing.T) {
	letsThrough(t, []int{1}, 1, 1)
	letsThrough(t, []int{60}, 60, 1)
	letsThrough(t, []int{60, 60}, 60, 1)
	letsThrough(t, []int{60, 59}, 59, 2)
	letsThrough(t, []int{59, 60}, 59, 1)
	letsThrough(t, []int{9, 3, 5}, 3, 2)
	letsThrough(t, []int{9, 5, 3, 5, 3}, 3, 3)
	letsThrough(t, []int{60, 50, 40, 30, 20, 10, 5, 1}, 1, 8)
	letsThrough(t, repeated(7, 8), 7, 1)
}

func TestLeastWayRefuses(t *testing.T) {
	ways := [][]int{nil, {}, repeated(7, 9), repeated(7, 300), {0}, {60, 0}, {61, 1}, {1, 61, 1}, {5, -1, 5}, {math.MinInt}, {math.MaxInt}, joined(repeated(60, 7), repeated(61, 1))}
	for _, way := range ways {
		letsThrough(t, way, 0, 0)
	}
}

func TestPiecesLeaveArgumentsAlone(t *testing.T) {
	mark := part(-77, -77, true)
	lists := [][]impl.Piece{nil, {part(0, 4, false)}, {part(4, 4, false), part(0, 5, true), part(2, 1, true)}, {part(9, 2, true), part(0, 1, true)}, {part(0, 4, false), part(0, 5, false)}, slices.Repeat([]impl.Piece{part(3, 3, true)}, 20)}
	for _, list := range append(lists, badParts()[0]) {
		leavesAloneBut(t, "JoinPieces", impl.JoinPieces, list, mark)
		leavesAloneBut(t, "HolesOf", func(list []impl.Piece) []impl.Piece {
			return impl.HolesOf(list, 60)
		}, list, mark)
		leavesAloneBut(t, "ValidPieces, EndOf, IsWhole and WholeAt", func(list []impl.Piece) []impl.Piece {
			end, together := impl.EndOf(list)
			n, ok := impl.WholeAt(list)
			return []impl.Piece{part(end, n, together), part(0, 0, ok), part(0, 0, impl.ValidPieces(list)), part(0, 0, impl.IsWhole(list))}
		}, list, mark)
	}
	for _, way := range [][]int{nil, {50, 40, 45, 30}, {5}, {0}} {
		leavesAlone(t, "LeastWay", func(way []int) []int {
			least, tries := impl.LeastWay(way)
			return []int{least, tries}
		}, way)
	}
	leavesAlone(t, "CutLength", func(numbers []int) []int {
		list, _ := impl.CutLength(numbers[0], numbers[1], numbers[2])
		for i := range list {
			list[i].At++
		}
		return []int{len(list), list[0].At}
	}, []int{10, 5, 2})
}
