package tests

import (
	"slices"
	"strings"
	"testing"
)

// allTexts returns all texts of at most most letters of an alphabet, "" among them.
func allTexts(alphabet string, most int) []string {
	list := []string{""}
	for from := 0; most > 0; most-- {
		to := len(list)
		for _, s := range list[from:to] {
			for _, letter := range alphabet {
				list = append(list, s+string(letter))
			}
		}
		from = to
	}
	return list
}

// allLists returns all lists of at most most members of an alphabet, the empty one among them.
func allLists[T any](alphabet []T, most int) [][]T {
	lists := [][]T{nil}
	for from := 0; most > 0; most-- {
		to := len(lists)
		for _, list := range lists[from:to] {
			for _, x := range alphabet {
				lists = append(lists, append(slices.Clone(list), x))
			}
		}
		from = to
	}
	return lists
}

// mixer returns a function that tells numbers below another one, which are others for each seed.
func mixer(seed int) func(below int) int {
	return func(below int) int {
		seed = (seed*1103515245 + 12345) % (1 << 31)
		return (seed >> 16) % below
	}
}

// repeated returns a list of n times the number x.
func repeated(x int, n int) []int {
	return slices.Repeat([]int{x}, n)
}

// joined returns the numbers of all lists, one list behind the other.
func joined(lists ...[]int) []int {
	return slices.Concat(lists...)
}

// badTexts are texts of other bytes than 0 and 1.
func badTexts() []string {
	return []string{"2", "01x", " 01", "01\n", "0-1", "\x00", "\x01", "\xff", "1\xb0", "٠١", "01١"}
}

// badBytes are lists in which a number is no byte.
func badBytes() [][]int {
	least := -1 << 63
	return [][]int{{-1}, {256}, {1, 2, -1}, {256, 0}, {0, 192 + 256}, {192 - 256}, {least}, {^least}, {1, ^least, 1}}
}

// sameList reports a fault if a list has other numbers than those wanted.
func sameList(t *testing.T, call string, got []int, want []int) {
	t.Helper()
	if !slices.Equal(got, want) {
		t.Errorf("%s = %v, want %v", call, got, want)
	}
}

// sameTexts reports a fault if a list has other texts than those wanted.
func sameTexts(t *testing.T, call string, got []string, want []string) {
	t.Helper()
	if !slices.Equal(got, want) {
		t.Errorf("%s = %q, want %q", call, got, want)
	}
}

// tellsBack reports a fault if a function does not tell those numbers of a list.
func tellsBack(t *testing.T, name string, f func([]int) ([]int, bool), list []int, want []int) {
	t.Helper()
	if got, ok := f(list); !ok || !slices.Equal(got, want) {
		t.Errorf("%s(%v) = %v, %v, want %v", name, list, got, ok, want)
	}
}

// refuses reports a fault if a function tells something of one of the lists.
func refuses(t *testing.T, name string, f func([]int) ([]int, bool), lists [][]int) {
	t.Helper()
	for _, list := range lists {
		if got, ok := f(list); ok || len(got) != 0 {
			t.Errorf("%s(%v) = %v, %v", name, list, got, ok)
		}
	}
}

// ones returns n ones.
func ones(n int) string {
	return strings.Repeat("1", n)
}

// noughts returns n noughts.
func noughts(n int) string {
	return strings.Repeat("0", n)
}

// leavesAlone reports a fault if a function changes its list, or the memory behind it, or if its result shares memory with it or with an earlier result.
func leavesAlone(t *testing.T, name string, f func([]int) []int, list []int) {
	t.Helper()
	leavesAloneBut(t, name, f, list, -77)
}

// leavesAloneBut does so for a list of any kind; mark is what no list and no result has.
func leavesAloneBut[T comparable](t *testing.T, name string, f func([]T) []T, list []T, mark T) {
	t.Helper()
	behind := slices.Repeat([]T{mark}, 40)
	memory := slices.Concat(list, behind)
	given := memory[:len(list)]
	first := f(given)
	kept := slices.Clone(first)
	second := f(given)
	second = second[:cap(second)]
	for i := range second {
		second[i] = mark
	}
	if !slices.Equal(memory, slices.Concat(list, behind)) {
		t.Errorf("%s changes its list %v, or shares it", name, list)
	}
	for i := range memory {
		memory[i] = mark
	}
	if !slices.Equal(first, kept) {
		t.Errorf("%s(%v) shares its result", name, list)
	}
}
