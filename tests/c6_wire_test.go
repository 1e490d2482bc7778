package tests

import (
	"encoding/binary"
	"math"
	"slices"
	"strconv"
	"strings"
	"testing"

	"loop.example/linksandframes/impl"
)

func TestFormConstants(t *testing.T) {
	got := []int{impl.MaxNumber, impl.MaxGroups, impl.MaxTag, impl.MaxFields, impl.MaxPacked, impl.MaxVersion, impl.MaxSkills, impl.MaxDesk}
	sameList(t, "constants", got, []int{1000000, 4, 300, 5, 120, 20, 5, 20})
}

// groupsBy tells by the standard library what GroupsOf returns of a number.
func groupsBy(x int) []int {
	var groups []int
	for _, b := range binary.AppendUvarint(nil, uint64(x)) {
		groups = append(groups, int(b))
	}
	return groups
}

// numberBy tells by the standard library what NumberAt returns of bytes.
func numberBy(list []int) (int, int) {
	var bytes []byte
	for _, b := range list {
		bytes = append(bytes, byte(b))
	}
	x, n := binary.Uvarint(bytes)
	if n <= 0 || x > impl.MaxNumber || len(groupsBy(int(x))) != n {
		return 0, 0
	}
	return int(x), n
}

// hasNumber reports a fault if another number stands at the beginning of bytes, or in more or fewer of them.
func hasNumber(t *testing.T, list []int, want int, wantCount int) {
	t.Helper()
	if x, n := impl.NumberAt(list); x != want || n != wantCount {
		t.Errorf("NumberAt(%v) = %d, %d, want %d, %d", list, x, n, want, wantCount)
	}
}

// notNumbers are numbers below 0 and beyond MaxNumber.
func notNumbers() []int {
	return []int{-1, -2, -128, -1000000, 1000001, 1000002, 1 << 21, 1 << 28, 1 << 35, 1 << 62, math.MinInt, math.MinInt + 1, math.MaxInt - 1, math.MaxInt}
}

func TestPromise41GroupsAreReadBack(t *testing.T) {
	for x := range impl.MaxNumber + 1 {
		groups := impl.GroupsOf(x)
		if !slices.Equal(groups, groupsBy(x)) {
			t.Fatalf("GroupsOf(%d) = %v, want %v", x, groups, groupsBy(x))
		}
		if y, n := impl.NumberAt(groups); y != x || n != len(groups) {
			t.Fatalf("NumberAt(%v) = %d, %d, want %d", groups, y, n, x)
		}
	}
	for _, x := range []int{0, 1, 127, 128, 300, 16383, 16384, 999999, 1000000} {
		groups := groupsBy(x)
		for _, behind := range [][]int{{0}, {255}, {128, 128}, repeated(255, 16-len(groups)), repeated(0, 16-len(groups))} {
			hasNumber(t, joined(groups, behind), x, len(groups))
		}
	}
}

func TestGroupsOfEdges(t *testing.T) {
	for _, c := range []struct {
		x    int
		want []int
	}{
		{0, []int{0}},
		{1, []int{1}},
		{127, []int{127}},
		{128, []int{128, 1}},
		{255, []int{255, 1}},
		{16383, []int{255, 127}},
		{16384, []int{128, 128, 1}},
		{impl.MaxNumber - 1, []int{191, 132, 61}},
		{impl.MaxNumber, []int{192, 132, 61}},
	} {
		sameList(t, "GroupsOf", impl.GroupsOf(c.x), c.want)
	}
	for _, x := range notNumbers() {
		sameList(t, "GroupsOf no number", impl.GroupsOf(x), nil)
	}
}

func TestPromise42NumbersAreWrittenBack(t *testing.T) {
	lists := append(allLists([]int{0, 1, 2, 61, 127, 128, 129, 132, 192, 193, 255}, 4), allLists([]int{0, 1, 128, 255}, 6)...)
	for first := range 256 {
		for second := range 256 {
			lists = append(lists, []int{first, second}, []int{first, second, 61}, []int{first, second, 128, 3}, []int{192, first, second})
		}
	}
	for _, list := range lists {
		want, wantCount := numberBy(list)
		hasNumber(t, list, want, wantCount)
		if x, n := impl.NumberAt(list); n > 0 {
			sameList(t, "GroupsOf NumberAt", impl.GroupsOf(x), list[:n])
		}
	}
}

func TestNumberAtEdges(t *testing.T) {
	hasNumber(t, nil, 0, 0)
	hasNumber(t, []int{}, 0, 0)
	hasNumber(t, []int{0}, 0, 1)
	hasNumber(t, []int{0, 0}, 0, 1)
	hasNumber(t, []int{192, 132, 61}, impl.MaxNumber, 3)
	hasNumber(t, joined([]int{172, 2}, repeated(9, 14)), 300, 2)
	// From here on: a number that is too great, ...
	hasNumber(t, []int{193, 132, 61}, 0, 0)
	hasNumber(t, []int{255, 255, 127}, 0, 0)
	hasNumber(t, []int{128, 128, 128, 1}, 0, 0)
	hasNumber(t, []int{255, 255, 255, 127}, 0, 0)
	hasNumber(t, []int{128, 128, 128, 128, 1}, 0, 0)
	hasNumber(t, joined(repeated(255, 9), []int{127}), 0, 0)
	hasNumber(t, joined(repeated(128, 15), []int{1}), 0, 0)
	// ... groups that are not as few as there may be, also with a number that turns over an int, ...
	for _, first := range []int{128, 129, 172, 255} {
		for n := range 15 {
			hasNumber(t, joined([]int{first}, repeated(128, n), []int{0}), 0, 0)
		}
		hasNumber(t, joined([]int{first}, repeated(128, 9), []int{1}), 0, 0)
	}
	// ... groups that are cut short, ...
	for n := range 17 {
		hasNumber(t, repeated(128, n), 0, 0)
		hasNumber(t, repeated(255, n), 0, 0)
	}
	// ... and bytes that are too many.
	for n := 17; n < 20; n++ {
		hasNumber(t, repeated(0, n), 0, 0)
		hasNumber(t, joined([]int{172, 2}, repeated(9, n-2)), 0, 0)
	}
}

func TestNumberAtRefuses(t *testing.T) {
	for _, list := range badBytes() {
		hasNumber(t, list, 0, 0)
		hasNumber(t, joined([]int{5}, list), 0, 0)
		hasNumber(t, joined([]int{172, 2}, list), 0, 0)
		hasNumber(t, joined([]int{172}, list), 0, 0)
		hasNumber(t, joined(list, []int{1}), 0, 0)
	}
}

func TestPromise43SignsAreUnfolded(t *testing.T) {
	for x := -impl.MaxNumber; x <= impl.MaxNumber; x++ {
		folded := impl.FoldSign(x)
		if y, ok := impl.UnfoldSign(folded); !ok || y != x {
			t.Fatalf("UnfoldSign(FoldSign(%d)) = %d, %v", x, y, ok)
		}
	}
}

func TestPromise44SignsAreFoldedBack(t *testing.T) {
	// The numbers go from 0 on to and fro, each time one further.
	want := 0
	for folded := range 2*impl.MaxNumber + 1 {
		if folded%2 == 1 {
			want = -want - 1
		} else {
			want = -want
		}
		x, ok := impl.UnfoldSign(folded)
		if !ok || x != want || impl.FoldSign(x) != folded {
			t.Fatalf("UnfoldSign(%d) = %d, %v, want %d; FoldSign of it = %d", folded, x, ok, want, impl.FoldSign(x))
		}
	}
}

func TestSignsEdges(t *testing.T) {
	for _, c := range [][2]int{{0, 0}, {-1, 1}, {1, 2}, {-2, 3}, {2, 4}, {-impl.MaxNumber, 1999999}, {impl.MaxNumber, 2000000}} {
		if folded := impl.FoldSign(c[0]); folded != c[1] {
			t.Errorf("FoldSign(%d) = %d, want %d", c[0], folded, c[1])
		}
		if x, ok := impl.UnfoldSign(c[1]); !ok || x != c[0] {
			t.Errorf("UnfoldSign(%d) = %d, %v, want %d", c[1], x, ok, c[0])
		}
	}
	for _, x := range []int{impl.MaxNumber + 1, -impl.MaxNumber - 1, 2000000, -2000000, 1 << 62, -1 << 62, 1<<63 - 1, -1 << 63, -1<<63 + 1} {
		if folded := impl.FoldSign(x); folded != -1 {
			t.Errorf("FoldSign(%d) = %d", x, folded)
		}
	}
	for _, folded := range []int{-1, -2, -3, 2000001, 2000002, 1 << 62, 1<<63 - 1, -1 << 63, -1<<63 + 1} {
		if x, ok := impl.UnfoldSign(folded); ok || x != 0 {
			t.Errorf("UnfoldSign(%d) = %d, %v", folded, x, ok)
		}
	}
}

// field returns a field of a tag and bytes.
func field(tag int, bytes ...int) impl.Field {
	return impl.Field{Tag: tag, Bytes: bytes}
}

// sameFields reports whether two lists have the same fields.
func sameFields(one []impl.Field, other []impl.Field) bool {
	return slices.EqualFunc(one, other, func(f impl.Field, g impl.Field) bool {
		return f.Tag == g.Tag && slices.Equal(f.Bytes, g.Bytes)
	})
}

// packedBy tells by the standard library what PackFields returns of fields.
func packedBy(list []impl.Field) []int {
	var packed []int
	for _, f := range list {
		packed = joined(packed, groupsBy(f.Tag), groupsBy(len(f.Bytes)), f.Bytes)
	}
	return packed
}

// mixedFields returns fields up to the limits, which are others for each seed.
func mixedFields(seed int) []impl.Field {
	next := mixer(seed)
	var list []impl.Field
	for range next(impl.MaxFields + 1) {
		f := field(next(impl.MaxTag + 1))
		for range next(impl.MaxBytes + 1) {
			f.Bytes = append(f.Bytes, next(256))
		}
		list = append(list, f)
	}
	return list
}

// longestFields are as many fields as there may be, each with as many bytes as it may have.
func longestFields() []impl.Field {
	return slices.Repeat([]impl.Field{field(300, repeated(255, 16)...)}, 5)
}

// fieldLists returns lists of fields: all of a few, and mixed ones up to the limits.
func fieldLists() [][]impl.Field {
	some := []impl.Field{field(0), field(0, 0), field(1, 7, 8), field(127, 1), field(128), field(300), field(2, 255), field(1, 1, 0)}
	lists := append(allLists(some, 3), longestFields())
	for tag := range impl.MaxTag + 1 {
		lists = append(lists, []impl.Field{field(tag)}, []impl.Field{field(tag, repeated(tag%256, tag%17)...), field(tag)})
	}
	for n := range impl.MaxBytes + 1 {
		for _, b := range []int{0, 1, 127, 128, 255} {
			lists = append(lists, []impl.Field{field(n, repeated(b, n)...)})
		}
	}
	for seed := range 1000 {
		lists = append(lists, mixedFields(seed))
	}
	return lists
}

// badFields are lists of which a field is none, or that are too long.
func badFields() [][]impl.Field {
	lists := [][]impl.Field{make([]impl.Field, 6), append(longestFields(), field(1)), make([]impl.Field, 1000)}
	for _, tag := range []int{-1, 301, 302, -300, math.MinInt, math.MaxInt} {
		lists = append(lists, []impl.Field{field(tag)}, []impl.Field{field(1), field(tag, 1), field(1)}, []impl.Field{field(1, 2), field(tag)})
	}
	for _, bytes := range append(badBytes(), repeated(0, 17), repeated(255, 18), repeated(1, 1000)) {
		lists = append(lists, []impl.Field{field(1, bytes...)}, []impl.Field{field(1), field(1, bytes...)}, []impl.Field{field(1, bytes...), field(1)})
	}
	return lists
}

// unpacks reports a fault if bytes are other fields.
func unpacks(t *testing.T, list []int, want []impl.Field) {
	t.Helper()
	if got, ok := impl.UnpackFields(list); !ok || !sameFields(got, want) {
		t.Errorf("UnpackFields(%v) = %v, %v, want %v", list, got, ok, want)
	}
}

// unpacksNot reports a fault if bytes are fields.
func unpacksNot(t *testing.T, list []int) {
	t.Helper()
	if got, ok := impl.UnpackFields(list); ok || len(got) != 0 {
		t.Errorf("UnpackFields(%v) = %v, %v", list, got, ok)
	}
}

func TestPromise45FieldsAreReadBack(t *testing.T) {
	for _, list := range fieldLists() {
		packed := impl.PackFields(list)
		sameList(t, "PackFields", packed, packedBy(list))
		unpacks(t, packed, list)
		if len(packed) > impl.MaxPacked {
			t.Errorf("PackFields(%v) are %d bytes", list, len(packed))
		}
	}
}

func TestPackFieldsEdges(t *testing.T) {
	for _, c := range []struct {
		list []impl.Field
		want []int
	}{
		{nil, nil},
		{[]impl.Field{}, nil},
		{[]impl.Field{{}}, []int{0, 0}},
		{[]impl.Field{{Tag: 3, Bytes: []int{}}}, []int{3, 0}},
		{[]impl.Field{field(300)}, []int{172, 2, 0}},
		{[]impl.Field{field(0, 0, 0)}, []int{0, 2, 0, 0}},
		{[]impl.Field{field(1), field(1), field(0, 128)}, []int{1, 0, 1, 0, 0, 1, 128}},
		{make([]impl.Field, 5), repeated(0, 10)},
		{[]impl.Field{field(127, repeated(255, 16)...)}, joined([]int{127, 16}, repeated(255, 16))},
	} {
		sameList(t, "PackFields", impl.PackFields(c.list), c.want)
	}
	for _, list := range badFields() {
		sameList(t, "PackFields of no fields", impl.PackFields(list), nil)
	}
}

// fieldsUpTo returns all lists of fields on a wire whose bytes are of an alphabet, and at most most.
func fieldsUpTo(alphabet []int, most int) [][]impl.Field {
	lists := [][]impl.Field{nil}
	for _, tag := range []int{0, 1, 2, 3, 128, 129, 256, 257} {
		for _, bytes := range allLists(alphabet, 3) {
			first := []impl.Field{field(tag, bytes...)}
			size := len(packedBy(first))
			if size > most {
				continue
			}
			for _, others := range fieldsUpTo(alphabet, most-size) {
				lists = append(lists, append(slices.Clone(first), others...))
			}
		}
	}
	return lists
}

func TestPromise46FieldsAreWrittenBack(t *testing.T) {
	// As the alphabet has no greater number, no tag is told by other groups, and no field that is short enough has more bytes.
	alphabet := []int{0, 1, 2, 3, 128, 129}
	known := map[string][]impl.Field{}
	for _, list := range fieldsUpTo(alphabet, 5) {
		known[string(bytesOf(packedBy(list)))] = list
	}
	for _, list := range allLists(alphabet, 5) {
		want, there := known[string(bytesOf(list))]
		if !there {
			unpacksNot(t, list)
			continue
		}
		unpacks(t, list, want)
		fields, _ := impl.UnpackFields(list)
		sameList(t, "PackFields of UnpackFields", impl.PackFields(fields), list)
	}
}

// bytesOf returns numbers as bytes.
func bytesOf(list []int) []byte {
	var bytes []byte
	for _, b := range list {
		bytes = append(bytes, byte(b))
	}
	return bytes
}

func TestUnpackFieldsEdges(t *testing.T) {
	unpacks(t, nil, nil)
	unpacks(t, []int{}, nil)
	unpacks(t, []int{0, 0}, []impl.Field{field(0)})
	unpacks(t, repeated(0, 10), make([]impl.Field, 5))
	unpacks(t, []int{172, 2, 0}, []impl.Field{field(300)})
	unpacks(t, packedBy(longestFields()), longestFields())
	for _, list := range [][]int{
		{0}, {128}, {1}, {128, 1}, {172, 2}, // a field of which its size is missing
		{1, 1}, {1, 2, 7}, {1, 16}, {0, 0, 1}, {0, 0, 1, 1}, {1, 0, 128}, {1, 128}, // and its bytes, or a part of its groups
		{173, 2, 0}, {255, 255, 3, 0}, {192, 132, 61, 0}, // a tag that is too great
		{128, 0, 0}, {1, 128, 0}, {1, 129, 0, 5}, {129, 128, 0, 0}, {172, 130, 0, 0}, // groups that are not as few as there may be
		{192, 132, 61}, {193, 132, 61, 0}, {128, 128, 128, 128, 1, 0}, // no number
		joined([]int{1, 17}, repeated(0, 17)), joined([]int{1, 128, 1}, repeated(0, 117)), // a field with too many bytes
		joined([]int{1, 17}, repeated(0, 16)), joined([]int{1, 16}, repeated(0, 15)), {1, 192, 132, 61},
		repeated(0, 12), joined(packedBy(longestFields()), []int{0, 0}), joined(packedBy(longestFields()), []int{0}), // too many fields
		repeated(0, 119), repeated(0, 120), repeated(0, 121), repeated(1, 120), repeated(128, 120), repeated(255, 1000), repeated(0, 100000),
	} {
		unpacksNot(t, list)
	}
}

func TestUnpackFieldsRefusesCutAndLongerOnes(t *testing.T) {
	for seed := range 300 {
		list := mixedFields(seed)
		packed := packedBy(list)
		ends := map[int]int{} // how many fields end at a place
		for n := range len(list) + 1 {
			ends[len(packedBy(list[:n]))] = n
		}
		for end := range len(packed) + 1 {
			if n, whole := ends[end]; whole {
				unpacks(t, packed[:end], list[:n])
			} else {
				unpacksNot(t, packed[:end])
			}
		}
	}
}

func TestUnpackFieldsRefuses(t *testing.T) {
	for _, bad := range badBytes() {
		unpacksNot(t, bad)
		for _, good := range [][]int{{1, 0}, {1, len(bad)}, {1, 1 + len(bad), 3}, {1}, {172}, {172, 2}, {1, 128}, {1, 1}} {
			unpacksNot(t, joined(good, bad))
			unpacksNot(t, joined(good, bad, good))
		}
	}
	// These would be bytes if they were cut to their last eight bits, or had no sign.
	for _, list := range [][]int{{256, 0}, {257, 1, 5}, {1, 256}, {1, 257, 5}, {1, 1, 256}, {172 - 256, 2, 0}, {172, 2 - 256, 0}, {172 + 256, 2, 0}, {-1, 0}, {1, -1}, {1, 1, -5}, {428, 2, 0}} {
		unpacksNot(t, list)
	}
}

// hasLast reports a fault if the last field with a tag has other bytes.
func hasLast(t *testing.T, list []impl.Field, tag int, want []int) {
	t.Helper()
	if got, ok := impl.LastOf(list, tag); !ok || !slices.Equal(got, want) {
		t.Errorf("LastOf(%v, %d) = %v, %v, want %v", list, tag, got, ok, want)
	}
}

// hasNoLast reports a fault if there is a last field with a tag.
func hasNoLast(t *testing.T, list []impl.Field, tag int) {
	t.Helper()
	if got, ok := impl.LastOf(list, tag); ok || len(got) != 0 {
		t.Errorf("LastOf(%v, %d) = %v, %v", list, tag, got, ok)
	}
}

func TestPromise47TheLastFieldCounts(t *testing.T) {
	for _, list := range fieldLists() {
		last := map[int][]int{} // of each tag
		for _, f := range list {
			last[f.Tag] = f.Bytes
		}
		for _, tag := range []int{-1, 0, 1, 2, 3, 127, 128, 299, 300, 301} {
			if want, there := last[tag]; there {
				hasLast(t, list, tag, want)
			} else {
				hasNoLast(t, list, tag)
			}
		}
		for tag, want := range last {
			hasLast(t, list, tag, want)
		}
		if len(list) < impl.MaxFields {
			countsBehind(t, list, last)
		}
	}
}

// countsBehind reports a fault if one field more behind others is not the last one with its tag, or changes that of another one.
func countsBehind(t *testing.T, list []impl.Field, last map[int][]int) {
	t.Helper()
	for _, f := range []impl.Field{field(0, 9), field(1), field(300, 1, 2, 3)} {
		more := append(slices.Clone(list), f)
		hasLast(t, more, f.Tag, f.Bytes)
		for tag, want := range last {
			if tag != f.Tag {
				hasLast(t, more, tag, want)
			}
		}
	}
}

func TestLastOfEdges(t *testing.T) {
	for _, tag := range []int{0, 1, 300, 301, -1, math.MinInt, math.MaxInt} {
		hasNoLast(t, nil, tag)
		hasNoLast(t, []impl.Field{}, tag)
		hasNoLast(t, []impl.Field{field(7, 1), field(8)}, tag)
	}
	hasLast(t, []impl.Field{{}}, 0, nil)
	hasLast(t, []impl.Field{field(1, 5), field(1)}, 1, nil)
	hasLast(t, []impl.Field{field(1, 5), field(1), field(1, 6), field(2)}, 1, []int{6})
	hasLast(t, longestFields(), 300, repeated(255, 16))
	for _, list := range badFields() {
		for _, tag := range []int{0, 1, 301, -1} {
			hasNoLast(t, list, tag)
		}
	}
}

// noNeeds are skills that need nothing.
func noNeeds() []int {
	return repeated(0, impl.MaxSkills)
}

// mixedOffer returns a valid offer, which is another one for each state of the mixer.
func mixedOffer(next func(below int) int) impl.Offer {
	o := impl.Offer{Low: next(impl.MaxVersion + 1), Can: next(32) | next(32)}
	o.High = o.Low + next(impl.MaxVersion+1-o.Low)
	for range impl.MaxSkills {
		o.Needs = append(o.Needs, next(32)&next(32)&next(32))
	}
	return o
}

// someOffers are valid offers: those at the limits, and mixed ones.
func someOffers(count int) []impl.Offer {
	offers := []impl.Offer{
		{Needs: noNeeds()},
		{High: 20, Can: 31, Needs: noNeeds()},
		{Low: 20, High: 20, Can: 31, Needs: repeated(31, 5)},
		{Low: 0, High: 20, Can: 30, Needs: repeated(31, 5)},
		{Low: 3, High: 9, Can: 31, Needs: []int{2, 4, 8, 16, 1}},
		{Low: 3, High: 9, Can: 15, Needs: []int{2, 4, 8, 16, 1}},
		{Low: 9, High: 12, Can: 31, Needs: []int{0, 1, 2, 4, 8}},
		{Low: 10, High: 10, Can: 30, Needs: []int{1, 2, 4, 8, 16}},
		{Low: 0, High: 10, Needs: repeated(31, 5)},
	}
	next := mixer(count)
	for range count {
		offers = append(offers, mixedOffer(next))
	}
	return offers
}

// agrees reports a fault if two offers agree on anything else.
func agrees(t *testing.T, a impl.Offer, b impl.Offer, want int, wantSkills int) {
	t.Helper()
	if version, skills, ok := impl.Agree(a, b); !ok || version != want || skills != wantSkills {
		t.Errorf("Agree(%v, %v) = %d, %d, %v, want %d, %d", a, b, version, skills, ok, want, wantSkills)
	}
}

// agreesNot reports a fault if two offers agree on something.
func agreesNot(t *testing.T, a impl.Offer, b impl.Offer) {
	t.Helper()
	if version, skills, ok := impl.Agree(a, b); ok || version != -1 || skills != 0 {
		t.Errorf("Agree(%v, %v) = %d, %d, %v", a, b, version, skills, ok)
	}
}

func TestPromise48OffersAgreeWithThemselves(t *testing.T) {
	for low := range impl.MaxVersion + 1 {
		for high := low; high <= impl.MaxVersion; high++ {
			o := impl.Offer{Low: low, High: high, Can: (low + 3*high) % 32, Needs: noNeeds()}
			agrees(t, o, o, high, o.Can)
		}
	}
	for _, o := range someOffers(500) {
		agrees(t, o, o, o.High, greatestSet(o, o))
	}
}

// isClosed reports whether both offers can all skills of a set, and each of them has in it all that it needs.
func isClosed(set int, a impl.Offer, b impl.Offer) bool {
	for skill := range impl.MaxSkills {
		if set>>skill%2 == 0 {
			continue
		}
		if a.Can>>skill%2 == 0 || b.Can>>skill%2 == 0 || a.Needs[skill]&^set != 0 || b.Needs[skill]&^set != 0 {
			return false
		}
	}
	return true
}

// greatestSet returns the skills of all sets that are closed.
func greatestSet(a impl.Offer, b impl.Offer) int {
	all := 0
	for set := range 32 {
		if isClosed(set, a, b) {
			all |= set
		}
	}
	return all
}

// greatestVersion returns the greatest version of both offers, -1 if there is none.
func greatestVersion(a impl.Offer, b impl.Offer) int {
	for version := 20; version >= 0; version-- {
		if a.Low <= version && version <= a.High && b.Low <= version && version <= b.High {
			return version
		}
	}
	return -1
}

func TestPromise49BothSidesAgreeOnTheSame(t *testing.T) {
	offers := someOffers(120)
	for _, a := range offers {
		for _, b := range offers {
			version, set := greatestVersion(a, b), greatestSet(a, b)
			if version < 0 {
				agreesNot(t, a, b)
				agreesNot(t, b, a)
				continue
			}
			agrees(t, a, b, version, set)
			agrees(t, b, a, version, set)
			if !isClosed(set, a, b) {
				t.Errorf("the greatest set %d of %v and %v has not all that it needs", set, a, b)
			}
		}
	}
}

func TestAgreeEdges(t *testing.T) {
	able := func(can int, needs ...int) impl.Offer {
		return impl.Offer{High: 20, Can: can, Needs: needs}
	}
	all := able(31, 0, 0, 0, 0, 0)
	agrees(t, all, all, 20, 31)
	// A skill that is left out takes all with it that need it, one after the other, whichever side says so.
	agrees(t, able(30, 0, 1, 2, 4, 8), all, 20, 0)
	agrees(t, able(15, 2, 4, 8, 16, 0), all, 20, 0)
	agrees(t, able(31, 2, 4, 8, 16, 0), able(15, 0, 0, 0, 0, 0), 20, 0)
	agrees(t, able(31, 0, 1, 0, 0, 0), able(30, 0, 0, 2, 0, 0), 20, 24)
	// Skills may need themselves, and each other, and stay.
	agrees(t, able(31, 1, 2, 4, 8, 16), all, 20, 31)
	agrees(t, able(31, 31, 31, 31, 31, 31), all, 20, 31)
	agrees(t, able(31, 2, 1, 8, 4, 0), able(27, 0, 0, 0, 0, 0), 20, 19)
	agrees(t, able(6, 0, 4, 2, 0, 0), all, 20, 6)
	// What a skill needs that none of both can is of no use.
	agrees(t, able(1, 0, 31, 31, 31, 31), all, 20, 1)
	agrees(t, able(0, 0, 0, 0, 0, 0), all, 20, 0)
	// Versions may have one in common, or just none.
	versions := func(low int, high int) impl.Offer {
		return impl.Offer{Low: low, High: high, Can: 5, Needs: noNeeds()}
	}
	agrees(t, versions(0, 0), versions(0, 20), 0, 5)
	agrees(t, versions(20, 20), versions(0, 20), 20, 5)
	agrees(t, versions(0, 7), versions(7, 9), 7, 5)
	agrees(t, versions(3, 9), versions(4, 5), 5, 5)
	agreesNot(t, versions(0, 6), versions(7, 9))
	agreesNot(t, versions(20, 20), versions(0, 19))
}

// badOffers are offers that are not valid.
func badOffers() []impl.Offer {
	offers := []impl.Offer{{}, {Low: 1, Needs: noNeeds()}, {Low: 20, High: 19, Needs: noNeeds()}, {High: 21, Needs: noNeeds()}, {Low: 21, High: 21, Needs: noNeeds()}, {Low: -1, Needs: noNeeds()}, {Low: -2, High: -1, Needs: noNeeds()}, {Can: 32, Needs: noNeeds()}, {Can: -1, Needs: noNeeds()}}
	for _, n := range []int{0, 1, 4, 6, 100} {
		offers = append(offers, impl.Offer{High: 20, Can: 31, Needs: repeated(0, n)})
	}
	for _, x := range []int{math.MinInt, math.MinInt + 1, -1, 32, 33, 64, 1 << 32, math.MaxInt} {
		offers = append(offers, impl.Offer{Low: x, High: 20, Needs: noNeeds()}, impl.Offer{High: x, Needs: noNeeds()}, impl.Offer{Low: x, High: x, Needs: noNeeds()}, impl.Offer{Can: x, Needs: noNeeds()})
		for skill := range impl.MaxSkills {
			needs := noNeeds()
			needs[skill] = x
			offers = append(offers, impl.Offer{High: 20, Can: 31, Needs: needs})
		}
	}
	return offers
}

func TestValidOffer(t *testing.T) {
	for _, o := range someOffers(300) {
		if !impl.ValidOffer(o) {
			t.Errorf("ValidOffer(%v) = false", o)
		}
	}
	good := impl.Offer{High: 20, Can: 31, Needs: noNeeds()}
	for _, o := range badOffers() {
		if impl.ValidOffer(o) {
			t.Errorf("ValidOffer(%v) = true", o)
		}
		agreesNot(t, o, o)
		agreesNot(t, o, good)
		agreesNot(t, good, o)
	}
}

// deskLine is a line and its answer.
type deskLine struct {
	line   string
	answer string
}

// answeredLines are lines whose texts go with their words.
func answeredLines() []deskLine {
	return []deskLine{
		{"stuff 11111", "111110"},
		{"stuff ", ""},
		{"stuff 0", "0"},
		{"stuff " + ones(40), strings.Repeat("111110", 8)},
		{"mend 0110010", "1011"},
		{"mend 0110011", "1011"},
		{"mend 0000000", "0000"},
		{"mend 1111110", "1111"},
		{"point 0", "1,1"},
		{"point 11,0", "2,11,1"},
		{"point 255", "2,255"},
		{"point 0,0,0", "1,1,1,1"},
		{"point 1" + strings.Repeat(",1", 15), "17" + strings.Repeat(",1", 16)},
		{"groups 0", "0"},
		{"groups 127", "127"},
		{"groups 128", "128,1"},
		{"groups 300", "172,2"},
		{"groups 1000000", "192,132,61"},
		{"seal 1011 1101", "1101001"},
		{"seal 11 1", "11"},
		{"seal 11 0", "00"},
		{"seal 11 " + noughts(39), noughts(40)},
		{"seal 100000001 1", "100000001"},
		{"seal 100000001 " + noughts(32), noughts(40)},
		{"check 1011 1101001", "yes"},
		{"check 1011 1101000", "no"},
		{"check 1011 000", "yes"},
		{"check 1011 001", "no"},
		{"check 11 0", "yes"},
		{"check 11 1", "no"},
		{"check 11 " + ones(40), "yes"},
		{"check 11 " + ones(39), "no"},
		{"check 100000001 00000000", "yes"},
		{"check 100000001 100000001", "yes"},
	}
}

// wrongLines are lines of a word with texts that do not go with it.
func wrongLines() []string {
	lines := []string{
		"stuff 2", "stuff " + ones(41), "stuff x", "stuff 01\n", "stuff \n", "stuff \t", "stuff 0,1", "stuff \xff",
		"mend ", "mend 101", "mend 01100100", "mend 011001x", "mend 011001", "mend 011001\n", "mend 1011",
		"point ", "point ,", "point 1,", "point ,1", "point 1,,2", "point 256", "point -1", "point -0", "point 00", "point 01", "point 1,02", "point +1", "point 1.0", "point 0x1", "point 1_0", "point x", "point 1;2", "point 1,\t2", "point 1\n", "point ١", "point 1,256,1", "point 18446744073709551617", "point 1e1",
		"point 1" + strings.Repeat(",1", 16), "point " + strings.Repeat("1", 1000),
		"groups ", "groups 1000001", "groups -1", "groups -0", "groups 00", "groups 0300", "groups +300", "groups 3e2", "groups 1_000", "groups 0x1", "groups 1,2", "groups 300,", "groups x", "groups 300\n", "groups 9223372036854775807", "groups -9223372036854775808", "groups 9223372036854775808", "groups 18446744073709551616", "groups 18446744073709551916", "groups " + strings.Repeat("9", 1000),
		"seal  ", "seal 11 ", "seal  1", "seal 10 1", "seal 01 1", "seal 1 1", "seal 1x1 1", "seal 11 x", "seal 11 2", "seal 11 1\n", "seal 11\n 1", "seal 1011 1,1", "seal 11 " + noughts(40), "seal 100000001 " + noughts(33), "seal 1000000001 1", "seal 11 " + noughts(1000),
		"check  ", "check 11 ", "check  1", "check 10 1", "check 01 1", "check 1 1", "check 1 ", "check 11 x", "check 11 1x", "check 1011 00", "check 1011 10", "check 100000001 0000000", "check 1000000001 1000000001", "check 11 " + noughts(41), "check 1x1 00", "check 11 1\n",
	}
	for _, s := range badTexts() {
		if !strings.Contains(s, " ") {
			lines = append(lines, "stuff "+s, "mend "+s, "seal 11 "+s, "seal "+s+" 1", "check 11 "+s, "check "+s+" 1", "mend 011001"+s)
		}
	}
	return lines
}

// whatLines are lines that are not known.
func whatLines() []string {
	lines := []string{
		"", " ", "  ", "   ", "\n", "\t", "help", "walk 1", "walk 11 1", "walk", "yes", "wrong", "what", "1", "11 1", "11 1 1", "\xff", "\x00 1", "-1 1", "1000001",
		"stuff\t1", "stuff\n1", "stuff1", "stuf 1", "stuffs 1", "Stuff 1", "STUFF 1", "ſtuff 1", "unstuff 1", "stuff\x00 1",
		"Seal 11 1", "seals 11 1", "seal\t11 1", "seal\t11\t1", "checked 11 1", "mended 0110010", "points 1", "group 1", "groups\t300", "number 1", "agree", "seal\n 11 1",
	}
	for _, word := range []string{"stuff", "mend", "point", "groups", "seal", "check"} {
		lines = append(lines, word, " "+word, word+"   ", word+" 1 1 1", " "+word+" 1", " "+word+" 11 1", "1 "+word, word+"\n", word+" 11 1 ", word+"  11 1", word+" 1 1 1 1")
	}
	for _, word := range []string{"stuff", "mend", "point", "groups"} {
		lines = append(lines, word+"  ", word+" 1 ", word+"  1", word+" 11 1", word+" 0110010 0110010", word+" 1, 2")
	}
	for _, word := range []string{"seal", "check"} {
		lines = append(lines, word+" ", word+" 11", word+" 1011")
	}
	return lines
}

// deskLines are lines of all kinds with their answers.
func deskLines() []deskLine {
	list := answeredLines()
	for _, line := range wrongLines() {
		list = append(list, deskLine{line, "wrong"})
	}
	for _, line := range whatLines() {
		list = append(list, deskLine{line, "what"})
	}
	return list
}

// answers reports a fault if lines are answered by anything else.
func answers(t *testing.T, lines []string, want string) {
	t.Helper()
	if got := impl.RunDesk(lines); got != want {
		t.Errorf("RunDesk(%q) = %q, want %q", lines, got, want)
	}
}

func TestDeskAnswers(t *testing.T) {
	for _, c := range deskLines() {
		answers(t, []string{c.line}, c.answer+"\n")
	}
}

func TestPromise50EachLineHasAnAnswer(t *testing.T) {
	all := deskLines()
	for seed := range 300 {
		next := mixer(seed)
		var lines []string
		want := ""
		for n := range impl.MaxDesk + 1 {
			got := impl.RunDesk(lines)
			answers(t, lines, want)
			if strings.Count(got, "\n") != n {
				t.Errorf("RunDesk(%q) = %q", lines, got)
			}
			c := all[next(len(all))]
			lines = append(lines, c.line)
			if n < impl.MaxDesk && !strings.HasPrefix(impl.RunDesk(lines), got) {
				t.Errorf("RunDesk(%q) = %q does not begin with %q", lines, impl.RunDesk(lines), got)
			}
			want += c.answer + "\n"
		}
		answers(t, lines, "")
	}
}

func TestDeskAnswersAsTheFunctionsDo(t *testing.T) {
	for _, bits := range append(allTexts("01", 9), "x", "0x") {
		if impl.ValidBits(bits) {
			answers(t, []string{"stuff " + bits}, impl.StuffBits(bits)+"\n")
		}
		if four, place := impl.MendBits(bits); place >= 0 {
			answers(t, []string{"mend " + bits}, four+"\n")
		}
		for _, divisor := range []string{"11", "101", "1011", "10011", "100000001", "10", "1", ""} {
			answers(t, []string{"seal " + divisor + " " + bits, "check " + divisor + " " + bits}, sealAnswer(divisor, bits)+"\n"+checkAnswer(divisor, bits)+"\n")
		}
	}
	for x := range 20000 {
		answers(t, []string{"groups " + strconv.Itoa(x), "point " + strconv.Itoa(x)}, numbers(impl.GroupsOf(x))+"\n"+numbers(impl.PointBytes([]int{x}))+"\n")
	}
}

// sealAnswer returns the answer to seal.
func sealAnswer(divisor string, bits string) string {
	if bits == "" || impl.SealBits(divisor, bits) == "" {
		return "wrong"
	}
	return impl.SealBits(divisor, bits)
}

// checkAnswer returns the answer to check.
func checkAnswer(divisor string, bits string) string {
	switch {
	case !impl.ValidPoly(divisor) || !impl.ValidBits(bits) || bits == "" || len(bits) < len(divisor)-1:
		return "wrong"
	case impl.IsSealed(divisor, bits):
		return "yes"
	}
	return "no"
}

// numbers returns numbers with a comma between two of them, or wrong for none.
func numbers(list []int) string {
	if len(list) == 0 {
		return "wrong"
	}
	text := ""
	for _, x := range list {
		text += "," + strconv.Itoa(x)
	}
	return text[1:]
}

func TestRunDeskEdges(t *testing.T) {
	answers(t, nil, "")
	answers(t, []string{}, "")
	answers(t, []string{""}, "what\n")
	answers(t, []string{"stuff "}, "\n")
	answers(t, make([]string, 20), strings.Repeat("what\n", 20))
	answers(t, slices.Repeat([]string{"stuff "}, 20), strings.Repeat("\n", 20))
	answers(t, make([]string, 21), "")
	answers(t, slices.Repeat([]string{"stuff 1"}, 21), "")
	answers(t, make([]string, 1000), "")
	// A line does not matter for those behind it.
	answers(t, []string{"seal 11 1", "1", "seal", "11 1", "stuff 1"}, "11\nwhat\nwhat\nwhat\n1\n")
}

func TestFormsLeaveArgumentsAlone(t *testing.T) {
	for _, list := range [][]int{nil, {0}, {172, 2, 9}, {1, 2, 7, 8, 172, 2, 0}, {1, 2, 7}, repeated(0, 10), {256}, repeated(1, 121)} {
		leavesAlone(t, "NumberAt", func(list []int) []int {
			x, n := impl.NumberAt(list)
			return []int{x, n}
		}, list)
		leavesAlone(t, "UnpackFields", func(list []int) []int {
			fields, _ := impl.UnpackFields(list)
			if len(fields) == 0 {
				return nil
			}
			return fields[0].Bytes
		}, list)
		leavesAlone(t, "PackFields", func(list []int) []int {
			return impl.PackFields([]impl.Field{{Tag: 300, Bytes: list}, {Tag: 1, Bytes: list}})
		}, list)
		leavesAlone(t, "LastOf", func(list []int) []int {
			last, _ := impl.LastOf([]impl.Field{{Tag: 1, Bytes: list}, {Tag: 2, Bytes: list}}, 1)
			return last
		}, list)
	}
	for _, needs := range [][]int{nil, {2, 4, 8, 16, 1}, {0, 1, 2, 4, 8}, {32, 0, 0, 0, 0}} {
		leavesAlone(t, "Agree", func(needs []int) []int {
			version, skills, _ := impl.Agree(impl.Offer{High: 9, Can: 31, Needs: needs}, impl.Offer{High: 5, Can: 30, Needs: needs})
			return []int{version, skills}
		}, needs)
	}
	for _, x := range []int{0, 300, 1000000} {
		leavesAlone(t, "GroupsOf", func([]int) []int { return impl.GroupsOf(x) }, nil)
	}
	lines := []string{"stuff 1", "point 1,2", "", "walk"}
	impl.RunDesk(lines)
	sameTexts(t, "RunDesk changes its lines, which", lines, []string{"stuff 1", "point 1,2", "", "walk"})
}

func TestUnpackedFieldsShareNoMemory(t *testing.T) {
	want := []impl.Field{field(1, 7, 8), field(300), field(1, 9), field(2), field(3, 1, 2, 3)}
	packed := packedBy(want)
	for i := range want {
		fields, _ := impl.UnpackFields(packed)
		bytes := fields[i].Bytes
		bytes = bytes[:cap(bytes)]
		for at := range bytes {
			bytes[at] = -77
		}
		_ = append(fields[i].Bytes, -77, -77)
		for j := range fields {
			if j != i {
				sameList(t, "a field beside one that is changed", fields[j].Bytes, want[j].Bytes)
			}
		}
		sameList(t, "the bytes of fields that are changed", packed, packedBy(want))
	}
}

func TestFormsKeepNoState(t *testing.T) {
	for range 2 {
		sameList(t, "GroupsOf(300)", impl.GroupsOf(300), []int{172, 2})
		hasNumber(t, []int{172, 2, 9}, 300, 2)
		sameList(t, "PackFields", impl.PackFields([]impl.Field{field(300, 1)}), []int{172, 2, 1, 1})
		unpacks(t, []int{172, 2, 1, 1}, []impl.Field{field(300, 1)})
		unpacksNot(t, []int{172, 2, 1})
		hasLast(t, []impl.Field{field(1, 2), field(1, 3)}, 1, []int{3})
		a := impl.Offer{High: 9, Can: 31, Needs: []int{0, 1, 2, 4, 8}}
		agrees(t, a, impl.Offer{Low: 2, High: 7, Can: 27, Needs: noNeeds()}, 7, 3)
		answers(t, []string{"groups 300", "groups"}, "172,2\nwhat\n")
	}
}
