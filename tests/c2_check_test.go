package tests

import (
	"fmt"
	"slices"
	"strconv"
	"strings"
	"testing"

	"loop.example/linksandframes/impl"
)

// divisors are all divisors.
func divisors() []string {
	var list []string
	for _, s := range allTexts("01", 7) {
		list = append(list, "1"+s+"1")
	}
	return list
}

// badDivisors are texts that are no divisors.
func badDivisors() []string {
	list := []string{"", "0", "1", "00", "10", "01", "0110", "1010", "0101", "1" + noughts(8) + "1", ones(10), ones(1000), "121", "1x1", "x11", "11x", "1 1", "11\n"}
	return append(list, "1\x001", "1\x011", "1\xb01", "1٠1", "١1", "1١")
}

// valueOf returns the number of which the text has the binary digits.
func valueOf(s string) uint64 {
	x, _ := strconv.ParseUint("0"+s, 2, 64)
	return x
}

// restByNumbers tells by numbers what RestOf returns: the rest of one by the other without carries.
func restByNumbers(p string, s string) string {
	divisor, rest := valueOf(p), valueOf(s)
	for shift := 40; shift >= 0; shift-- {
		if rest>>(shift+len(p)-1)&1 == 1 {
			rest ^= divisor << shift
		}
	}
	return fmt.Sprintf("%0*b", len(p)-1, rest)
}

// cycleByNumbers tells by numbers what CycleOf returns: how many times a 1 is doubled until it is the rest again.
func cycleByNumbers(p string) int {
	rest := uint64(1)
	for k := 1; ; k++ {
		rest <<= 1
		if rest>>(len(p)-1) == 1 {
			rest ^= valueOf(p)
		}
		if rest == 1 {
			return k
		}
	}
}

// turnedAt returns the bits with those at the places, counted from 0, turned.
func turnedAt(s string, places ...int) string {
	bits := []byte(s)
	for _, at := range places {
		bits[at] ^= 1
	}
	return string(bits)
}

// turnedBy returns the bits with the last ones turned where the other ones are 1.
func turnedBy(s string, last string) string {
	bits := []byte(s)
	for i, bit := range last {
		if bit == '1' {
			bits[len(s)-len(last)+i] ^= 1
		}
	}
	return string(bits)
}

// restBits are bits for rests: all short ones, and some long ones up to the limit.
func restBits() []string {
	list := allTexts("01", 7)
	for _, n := range []int{8, 9, 16, 17, 39, 40} {
		list = append(list, ones(n), noughts(n), "1"+noughts(n-1), noughts(n-1)+"1", strings.Repeat("1011001110001", 4)[:n], strings.Repeat("0100110", 6)[:n])
	}
	return list
}

func TestCheckConstants(t *testing.T) {
	sameList(t, "constants", []int{impl.MaxPoly, impl.MaxTurned}, []int{9, 20})
}

func TestPromise10DivisorsGoBothWays(t *testing.T) {
	for _, s := range allTexts("01", 11) {
		want := len(s) >= 2 && len(s) <= 9 && s[0] == '1' && s[len(s)-1] == '1'
		if impl.ValidPoly(s) != want {
			t.Errorf("ValidPoly(%q) = %v", s, !want)
		}
		bits := []byte(s)
		slices.Reverse(bits)
		if impl.ValidPoly(string(bits)) != want {
			t.Errorf("ValidPoly(%q) = %v", bits, !want)
		}
	}
	if n := len(divisors()); n != 255 {
		t.Errorf("the tests have %d divisors", n)
	}
}

func TestValidPolyRefuses(t *testing.T) {
	for _, p := range badDivisors() {
		if impl.ValidPoly(p) {
			t.Errorf("ValidPoly(%q) = true", p)
		}
	}
}

func TestPromise11RestsAreShortAndTheirOwn(t *testing.T) {
	for _, p := range divisors() {
		for _, s := range restBits() {
			rest := impl.RestOf(p, s)
			if len(s) < len(p)-1 {
				if rest != "" {
					t.Errorf("RestOf(%q, %q) = %q", p, s, rest)
				}
				continue
			}
			if rest != restByNumbers(p, s) || len(rest) != len(p)-1 {
				t.Errorf("RestOf(%q, %q) = %q, want %q", p, s, rest, restByNumbers(p, s))
			}
			if own := impl.RestOf(p, rest); own != rest {
				t.Errorf("RestOf(%q, %q) = %q", p, rest, own)
			}
			if none := impl.RestOf(p, turnedBy(s, rest)); none != noughts(len(p)-1) {
				t.Errorf("RestOf(%q, %q) = %q", p, turnedBy(s, rest), none)
			}
		}
	}
}

func TestRestOfEdges(t *testing.T) {
	for _, c := range [][3]string{
		{"11", "0", "0"},
		{"11", "1", "1"},
		{"11", "", ""},
		{"11", "11", "0"},
		{"11", "10", "1"},
		{"11", ones(39), "1"},
		{"11", ones(40), "0"},
		{"11", ones(41), ""},
		{"1011", "111", "111"},
		{"1011", "11", ""},
		{"1011", "1011", "000"},
		{"10011", "11010110110000", "1110"},
		{"10011", "11010110111110", "0000"},
		{"100000111", "0000000100000000", "00000111"},
		{"100000001", "10110101", "10110101"},
		{"100000001", "1011010", ""},
		{"100000001", "1" + noughts(39), "10000000"},
		{"100000001", "1" + noughts(40), ""},
	} {
		if rest := impl.RestOf(c[0], c[1]); rest != c[2] {
			t.Errorf("RestOf(%q, %q) = %q, want %q", c[0], c[1], rest, c[2])
		}
	}
}

func TestPromise12SealedBitsAreSealed(t *testing.T) {
	for _, p := range divisors() {
		lists := [][]string{allTexts("01", 5), {ones(41 - len(p)), noughts(41 - len(p)), strings.Repeat("1101001110001", 4)[:41-len(p)]}}
		for _, s := range slices.Concat(lists...) {
			sealed := impl.SealBits(p, s)
			if want := s + restByNumbers(p, s+noughts(len(p)-1)); sealed != want {
				t.Errorf("SealBits(%q, %q) = %q, want %q", p, s, sealed, want)
				continue
			}
			if !impl.IsSealed(p, sealed) {
				t.Errorf("IsSealed(%q, %q) = false", p, sealed)
			}
			for at := range sealed {
				if impl.IsSealed(p, turnedAt(sealed, at)) {
					t.Errorf("IsSealed(%q, %q) = true", p, turnedAt(sealed, at))
				}
			}
		}
	}
}

func TestSealBitsEdges(t *testing.T) {
	for _, c := range [][3]string{
		{"11", "", "0"},
		{"11", "1", "11"},
		{"11", ones(39), ones(40)},
		{"11", ones(40), ""},
		{"11", ones(41), ""},
		{"1011", "", "000"},
		{"10011", "1101011011", "11010110111110"},
		{"100000001", "", "00000000"},
		{"100000001", "10110101", "1011010110110101"},
		{"100000001", noughts(32), noughts(40)},
		{"100000001", noughts(33), ""},
		{"1000000001", "1", ""},
	} {
		if s := impl.SealBits(c[0], c[1]); s != c[2] {
			t.Errorf("SealBits(%q, %q) = %q, want %q", c[0], c[1], s, c[2])
		}
	}
}

func TestPromise13SealsFindAllShortFaults(t *testing.T) {
	for _, p := range divisors() {
		for _, s := range []string{"", "1", "0110", "1011001", ones(41 - len(p)), strings.Repeat("0100110", 6)[:41-len(p)]} {
			sealed := impl.SealBits(p, s)
			for at := range len(sealed) - 1 {
				fault := turnedAt(sealed, at, at+1)
				// A divisor of two bits does not see two of them.
				if impl.IsSealed(p, fault) != (p == "11") {
					t.Errorf("IsSealed(%q, %q) = %v", p, fault, p != "11")
				}
			}
		}
	}
}

func TestIsSealedEdges(t *testing.T) {
	for _, c := range [][2]string{{"11", "0"}, {"11", "11"}, {"11", ones(40)}, {"1011", "000"}, {"1011", "1011"}, {"1011", noughts(40)}, {"100000001", noughts(8)}} {
		if !impl.IsSealed(c[0], c[1]) {
			t.Errorf("IsSealed(%q, %q) = false", c[0], c[1])
		}
	}
	for _, c := range [][2]string{{"11", ""}, {"11", "1"}, {"11", ones(39)}, {"11", noughts(41)}, {"1011", "00"}, {"1011", "001"}, {"1011", noughts(41)}, {"100000001", noughts(7)}, {"1000000001", noughts(20)}} {
		if impl.IsSealed(c[0], c[1]) {
			t.Errorf("IsSealed(%q, %q) = true", c[0], c[1])
		}
	}
}

func TestChecksRefuse(t *testing.T) {
	for _, p := range badDivisors() {
		for _, s := range []string{"", "0", noughts(20), "1011001"} {
			if impl.RestOf(p, s) != "" || impl.SealBits(p, s) != "" || impl.IsSealed(p, s) {
				t.Errorf("RestOf, SealBits, IsSealed(%q, %q) = %q, %q, %v", p, s, impl.RestOf(p, s), impl.SealBits(p, s), impl.IsSealed(p, s))
			}
		}
		for n := range 21 {
			if l := impl.BlindOf(p, n); len(l) != 0 {
				t.Errorf("BlindOf(%q, %d) = %v", p, n, l)
			}
		}
		if k := impl.CycleOf(p); k != -1 {
			t.Errorf("CycleOf(%q) = %d", p, k)
		}
	}
	for _, s := range append(badTexts(), "0000x", noughts(100000)) {
		for _, p := range []string{"11", "1011", "100000001"} {
			if impl.RestOf(p, s) != "" || impl.SealBits(p, s) != "" || impl.IsSealed(p, s) {
				t.Errorf("RestOf, SealBits, IsSealed(%q, %q) = %q, %q, %v", p, s, impl.RestOf(p, s), impl.SealBits(p, s), impl.IsSealed(p, s))
			}
		}
	}
}

// blindPairs tells what BlindOf returns, by the numbers of the cycle.
func blindPairs(p string, n int) [][]int {
	var pairs [][]int
	for first := range n {
		for second := first + cycleByNumbers(p); second < n; second += cycleByNumbers(p) {
			pairs = append(pairs, []int{first, second})
		}
	}
	return pairs
}

func TestPromise14TwoBitsAreNotSeenACycleApart(t *testing.T) {
	for _, p := range divisors() {
		for n := len(p) - 1; n <= 20; n++ {
			pairs, want := impl.BlindOf(p, n), blindPairs(p, n)
			if !slices.EqualFunc(pairs, want, slices.Equal) {
				t.Errorf("BlindOf(%q, %d) = %v, want %v", p, n, pairs, want)
			}
			for _, pair := range pairs {
				if (pair[1]-pair[0])%impl.CycleOf(p) != 0 {
					t.Errorf("BlindOf(%q, %d) has %v", p, n, pair)
				}
			}
		}
	}
}

func TestBlindOfTurnsBits(t *testing.T) {
	s := "01101110010111010001"
	for _, p := range []string{"11", "101", "111", "1011", "11111", "100000001"} {
		for n := len(p) - 1; n <= 20; n++ {
			rest := impl.RestOf(p, s[:n])
			var want [][]int
			for first := range n {
				for second := first + 1; second < n; second++ {
					if impl.RestOf(p, turnedAt(s[:n], first, second)) == rest {
						want = append(want, []int{first, second})
					}
				}
			}
			if pairs := impl.BlindOf(p, n); !slices.EqualFunc(pairs, want, slices.Equal) {
				t.Errorf("BlindOf(%q, %d) = %v, want %v", p, n, pairs, want)
			}
		}
	}
}

func TestBlindOfEdges(t *testing.T) {
	least := -1 << 63
	for _, c := range []struct {
		p     string
		n     int
		pairs int
	}{
		{"11", 0, 0}, {"11", 1, 0}, {"11", 2, 1}, {"11", 20, 190}, {"11", 21, 0},
		{"101", 1, 0}, {"101", 2, 0}, {"101", 3, 1}, {"101", 20, 90}, {"101", 21, 0},
		{"100000001", 7, 0}, {"100000001", 8, 0}, {"100000001", 9, 1}, {"100000001", 20, 16}, {"100000001", 21, 0},
		{"11", -1, 0}, {"11", least, 0}, {"11", ^least, 0}, {"11", 40, 0},
	} {
		if pairs := impl.BlindOf(c.p, c.n); len(pairs) != c.pairs {
			t.Errorf("BlindOf(%q, %d) = %v", c.p, c.n, pairs)
		}
	}
	pairs := impl.BlindOf("11", 4)
	for i := range pairs {
		_ = append(pairs[i], -77)
		pairs[i][0] = -77
	}
	if again := impl.BlindOf("11", 4); !slices.EqualFunc(again, blindPairs("11", 4), slices.Equal) {
		t.Errorf("BlindOf(\"11\", 4) = %v behind changes of %v", again, pairs)
	}
	for _, pair := range pairs {
		if pair[0] != -77 || pair[1] == -77 {
			t.Errorf("BlindOf(\"11\", 4) shares its pairs: %v", pairs)
		}
	}
}

func TestPromise15CyclesAreTheLeast(t *testing.T) {
	for _, p := range divisors() {
		cycle := impl.CycleOf(p)
		if cycle != cycleByNumbers(p) {
			t.Errorf("CycleOf(%q) = %d, want %d", p, cycle, cycleByNumbers(p))
		}
		// One bit behind the two ones for each of the divisor lets those near each other have a rest, too.
		for k := 1; k <= cycle && k < 39-len(p); k++ {
			s := "1" + noughts(k-1) + "1" + noughts(len(p))
			if impl.IsSealed(p, s) != (k == cycle) {
				t.Errorf("IsSealed(%q, %q) = %v, CycleOf = %d", p, s, k != cycle, cycle)
			}
		}
	}
}

func TestCycleOfEdges(t *testing.T) {
	for _, c := range []struct {
		p    string
		want int
	}{{"11", 1}, {"101", 2}, {"111", 3}, {"1001", 3}, {"1111", 4}, {"11111", 5}, {"10001", 4}, {"100000001", 8}, {"111111111", 9}, {"100011011", 51}, {"100000111", 127}, {"100011101", 255}} {
		if k := impl.CycleOf(c.p); k != c.want {
			t.Errorf("CycleOf(%q) = %d, want %d", c.p, k, c.want)
		}
	}
}

// sumLists are lists of an even number of bytes, with room for two more.
func sumLists() [][]int {
	lists := [][]int{nil}
	for _, list := range allLists([]int{0, 1, 128, 254, 255}, 4) {
		if len(list)%2 == 0 {
			lists = append(lists, list)
		}
	}
	for n := 6; n <= 14; n += 2 {
		lists = append(lists, repeated(255, n), repeated(0, n), repeated(200, n), joined(repeated(255, n-2), []int{0, 1}), joined(repeated(255, n-2), []int{0, n}))
	}
	return lists
}

// sumByWords tells what SumBytes returns, carry by carry.
func sumByWords(list []int) int {
	sum := 0
	for i := 0; i < len(list); i += 2 {
		word := 256 * list[i]
		if i+1 < len(list) {
			word += list[i+1]
		}
		sum += word
		if sum > 65535 {
			sum += 1 - 65536
		}
	}
	return 65535 - sum
}

func TestPromise16SumsClose(t *testing.T) {
	for _, list := range sumLists() {
		sum := impl.SumBytes(list)
		if sum != sumByWords(list) {
			t.Errorf("SumBytes(%v) = %d, want %d", list, sum, sumByWords(list))
		}
		closed := joined(list, []int{sum / 256, sum % 256})
		if rest := impl.SumBytes(closed); rest != 0 {
			t.Errorf("SumBytes(%v) = %d", closed, rest)
		}
		for i := 2; i < len(list); i += 2 {
			other := joined(list[i:i+2], list[2:i], list[:2], list[i+2:])
			if impl.SumBytes(other) != sum {
				t.Errorf("SumBytes(%v) is not that of %v", other, list)
			}
		}
	}
}

func TestSumBytesEdges(t *testing.T) {
	for _, c := range []struct {
		list []int
		want int
	}{
		{nil, 65535},
		{[]int{}, 65535},
		{[]int{0}, 65535},
		{[]int{1}, 65535 - 256},
		{[]int{255}, 255},
		{[]int{0, 1}, 65534},
		{[]int{255, 255}, 0},
		{[]int{255, 255, 0, 1}, 65534},
		{[]int{255, 255, 255, 255}, 0},
		{[]int{255, 255, 255, 255, 0, 1}, 65534},
		{[]int{255, 255, 1}, 65535 - 256},
		{[]int{0x00, 0x01, 0xf2, 0x03, 0xf4, 0xf5, 0xf6, 0xf7}, 0x220d},
		{repeated(255, 16), 0},
		{repeated(255, 15), 255},
		{repeated(0, 16), 65535},
		{repeated(0, 17), -1},
		{repeated(255, 17), -1},
	} {
		if sum := impl.SumBytes(c.list); sum != c.want {
			t.Errorf("SumBytes(%v) = %d, want %d", c.list, sum, c.want)
		}
	}
	for _, list := range allLists([]int{0, 7, 255}, 5) {
		if sum := impl.SumBytes(list); sum != sumByWords(list) {
			t.Errorf("SumBytes(%v) = %d, want %d", list, sum, sumByWords(list))
		}
	}
	for _, list := range append(badBytes(), joined(repeated(1, 15), []int{256}), repeated(1, 1000)) {
		if sum := impl.SumBytes(list); sum != -1 {
			t.Errorf("SumBytes(%v) = %d", list, sum)
		}
	}
}

// twoSums tells what TwoSums returns, byte by byte.
func twoSums(list []int) (int, int) {
	first, second := 0, 0
	for _, b := range list {
		first = (first + b) % 255
		second = (second + first) % 255
	}
	return first, second
}

func TestPromise17TwoSumsSeeWhatIsExchanged(t *testing.T) {
	lists := allLists([]int{0, 1, 127, 254, 255}, 4)
	for n := 5; n <= 16; n++ {
		lists = append(lists, joined(repeated(255, n-1), []int{0}), joined([]int{9}, repeated(8, n-1)), joined(repeated(254, n-2), []int{3, 250}), repeated(255, n), repeated(254, n))
	}
	for _, list := range lists {
		first, second := impl.TwoSums(list)
		if a, b := twoSums(list); first != a || second != b {
			t.Errorf("TwoSums(%v) = %d, %d, want %d, %d", list, first, second, a, b)
		}
		for i := 1; i < len(list); i++ {
			other := slices.Clone(list)
			other[i-1], other[i] = other[i], other[i-1]
			a, b := impl.TwoSums(other)
			same := list[i-1]%255 == list[i]%255
			if a != first || (b == second) != same {
				t.Errorf("TwoSums(%v) = %d, %d, and TwoSums(%v) = %d, %d", list, first, second, other, a, b)
			}
		}
	}
}

func TestTwoSumsEdges(t *testing.T) {
	for _, c := range []struct {
		list          []int
		first, second int
	}{
		{nil, 0, 0},
		{[]int{0}, 0, 0},
		{[]int{254}, 254, 254},
		{[]int{255}, 0, 0},
		{[]int{1, 255}, 1, 2},
		{[]int{97, 98, 99, 100, 101}, 240, 200},
		{[]int{97, 98, 99, 100, 101, 102}, 87, 32},
		{[]int{97, 98, 99, 100, 101, 102, 103, 104}, 39, 6},
		{repeated(1, 16), 16, 136},
		{repeated(255, 16), 0, 0},
		{repeated(254, 16), 239, 119},
		{repeated(1, 17), -1, -1},
	} {
		if a, b := impl.TwoSums(c.list); a != c.first || b != c.second {
			t.Errorf("TwoSums(%v) = %d, %d, want %d, %d", c.list, a, b, c.first, c.second)
		}
	}
	for _, list := range append(badBytes(), joined(repeated(1, 15), []int{256}), repeated(1, 1000)) {
		if a, b := impl.TwoSums(list); a != -1 || b != -1 {
			t.Errorf("TwoSums(%v) = %d, %d", list, a, b)
		}
	}
}

// guardedFour tells what GuardBits returns of four bits: the only seven with these, and an even number of ones for each digit.
func guardedFour(s string) string {
	for _, seven := range allTexts("01", 7)[127:] {
		even := true
		for _, digit := range []int{1, 2, 4} {
			count := 0
			for place := 1; place <= 7; place++ {
				if place&digit != 0 && seven[place-1] == '1' {
					count++
				}
			}
			even = even && count%2 == 0
		}
		if even && seven[2:3]+seven[4:] == s {
			return seven
		}
	}
	return "none"
}

func TestPromise18GuardedBitsAreMended(t *testing.T) {
	for _, s := range allTexts("01", 4)[15:] {
		seven := impl.GuardBits(s)
		if seven != guardedFour(s) {
			t.Errorf("GuardBits(%q) = %q, want %q", s, seven, guardedFour(s))
			continue
		}
		if bits, place := impl.MendBits(seven); bits != s || place != 0 {
			t.Errorf("MendBits(%q) = %q, %d, want %q, 0", seven, bits, place, s)
		}
		for at := range 7 {
			fault := turnedAt(seven, at)
			if bits, place := impl.MendBits(fault); bits != s || place != at+1 {
				t.Errorf("MendBits(%q) = %q, %d, want %q, %d", fault, bits, place, s, at+1)
			}
		}
		// With all bits turned they are those of the other four.
		others := turnedAt(seven, 0, 1, 2, 3, 4, 5, 6)
		if bits, place := impl.MendBits(others); bits != turnedAt(s, 0, 1, 2, 3) || place != 0 {
			t.Errorf("MendBits(%q) = %q, %d", others, bits, place)
		}
	}
}

func TestGuardBitsEdges(t *testing.T) {
	for _, c := range [][2]string{{"0000", "0000000"}, {"1111", "1111111"}, {"1000", "1110000"}, {"0100", "1001100"}, {"0010", "0101010"}, {"0001", "1101001"}, {"1011", "0110011"}} {
		if seven := impl.GuardBits(c[0]); seven != c[1] {
			t.Errorf("GuardBits(%q) = %q, want %q", c[0], seven, c[1])
		}
	}
	bad := append(badTexts(), "", "0", "000", "00000", "0000000", noughts(41), "00x0", "0002", "1011\n", "01١", "1\xb011", "\x00\x00\x00\x00")
	for _, s := range bad {
		if seven := impl.GuardBits(s); seven != "" {
			t.Errorf("GuardBits(%q) = %q", s, seven)
		}
	}
}

func TestPromise19AllBitsAreNearGuardedOnes(t *testing.T) {
	for _, seven := range allTexts("01", 7)[127:] {
		bits, place := impl.MendBits(seven)
		mended := seven
		if place > 0 {
			mended = turnedAt(seven, place-1)
		}
		if impl.GuardBits(bits) != mended {
			t.Errorf("MendBits(%q) = %q, %d, and GuardBits(%q) = %q", seven, bits, place, bits, impl.GuardBits(bits))
		}
	}
}

func TestMendBitsEdges(t *testing.T) {
	for _, c := range []struct {
		s, want string
		place   int
	}{{"0000000", "0000", 0}, {"1111111", "1111", 0}, {"1000000", "0000", 1}, {"0000001", "0000", 7}, {"0111111", "1111", 1}, {"1111110", "1111", 7}, {"1100000", "1000", 3}} {
		if bits, place := impl.MendBits(c.s); bits != c.want || place != c.place {
			t.Errorf("MendBits(%q) = %q, %d, want %q, %d", c.s, bits, place, c.want, c.place)
		}
	}
	bad := append(badTexts(), "", "0", "0000", "000000", "00000000", noughts(41), "00x0000", "0000002", "01100١", "0110\xb011", "\x00\x00\x00\x00\x00\x00\x00")
	for _, s := range bad {
		if bits, place := impl.MendBits(s); bits != "" || place != -1 {
			t.Errorf("MendBits(%q) = %q, %d", s, bits, place)
		}
	}
}

func TestSumsLeaveArgumentsAlone(t *testing.T) {
	for _, list := range [][]int{nil, {1}, {1, 2, 255}, {256}, repeated(9, 16), repeated(9, 17)} {
		leavesAlone(t, "SumBytes", func(list []int) []int {
			return []int{impl.SumBytes(list)}
		}, list)
		leavesAlone(t, "TwoSums", func(list []int) []int {
			a, b := impl.TwoSums(list)
			return []int{a, b}
		}, list)
	}
}
