package tests

import (
	"math"
	"slices"
	"sort"
	"testing"

	"loop.example/growingpictures/impl"
)

type spots = []impl.Spot

func at(x, y int) impl.Spot {
	return impl.Spot{X: x, Y: y}
}

// pic makes spots of numbers: X and Y of each by turns.
func pic(numbers ...int) spots {
	var p spots
	for i := 0; i+1 < len(numbers); i += 2 {
		p = append(p, at(numbers[i], numbers[i+1]))
	}
	return p
}

// block is the first n spots, row by row, of rows that begin at the spot x, y and are wide spots long.
func block(x, y, wide, n int) spots {
	var p spots
	for i := range n {
		p = append(p, at(x+i%wide, y+i/wide))
	}
	return p
}

// pictureOf puts the spots of a set in order, by a rule of its own, apart from the program's.
func pictureOf(set map[impl.Spot]bool) spots {
	var p spots
	for a, in := range set {
		if in {
			p = append(p, a)
		}
	}
	sort.Slice(p, func(i, j int) bool {
		return p[i].Y*1000+p[i].X < p[j].Y*1000+p[j].X
	})
	return p
}

func setOf(p spots) map[impl.Spot]bool {
	set := map[impl.Spot]bool{}
	for _, a := range p {
		set[a] = true
	}
	return set
}

// subsets is all pictures of spots of a block of 3 by 2, of which the first spot is x, y.
func subsets(x, y int) []spots {
	return subsetsOf(block(x, y, 3, 6))
}

func subsetsOf(full spots) []spots {
	var list []spots
	for bits := range 1 << len(full) {
		var p spots
		for i, a := range full {
			if bits>>i&1 == 1 {
				p = append(p, a)
			}
		}
		list = append(list, p)
	}
	return list
}

// scattered is n pictures, the same ones in each run: of up to 60 spots, within far of 0.
func scattered(n, far int) []spots {
	seed := uint32(20261118)
	next := func(below int) int {
		seed = seed*1664525 + 1013904223
		return int(seed>>8) % below
	}
	var list []spots
	for range n {
		set := map[impl.Spot]bool{}
		for range next(impl.MaxSpots + 1) {
			set[at(next(2*far+1)-far, next(2*far+1)-far)] = true
		}
		list = append(list, pictureOf(set))
	}
	return list
}

// extremes is numbers that are too far for any spot: up to the ends of int, where an abs or a sum goes wrong, and those of which the lowest bits alone are a number that is near.
func extremes() []int {
	return []int{
		math.MinInt, math.MinInt + 1, math.MinInt + 30, math.MinInt32, -1 << 32, -1 << 16, -1000, -256, -61,
		61, 256, 1000, 1 << 16, 1<<32 + 1, 1 << 32, 1 << 58, math.MaxInt32, math.MaxInt - 30, math.MaxInt,
	}
}

// invalid is spots that are no pictures, each by what is wrong with it.
func invalid() map[string]spots {
	bad := map[string]spots{
		"row from right to left":        pic(1, 0, 0, 0),
		"rows from above":               pic(0, 1, 0, 0),
		"higher row first, further":     pic(0, 1, 5, 0),
		"same spot twice":               pic(0, 0, 0, 0),
		"same spot twice, last":         pic(0, 0, 1, 0, 1, 0),
		"same spot again later":         pic(0, 0, 1, 0, 0, 0),
		"out of order at the end":       pic(0, 0, 1, 0, 2, 1, 1, 1),
		"out of order at the start":     pic(1, 0, 0, 0, 0, 1, 1, 1),
		"too far right":                 pic(0, 0, 31, 0),
		"too far left":                  pic(-31, 0, 0, 0),
		"too far up":                    pic(0, 0, 0, 31),
		"too far down":                  pic(0, -31, 0, 0),
		"too far right, in the middle":  pic(0, 0, 31, 0, 0, 1),
		"too many":                      block(0, 0, 10, impl.MaxSpots+1),
		"too many in a row":             block(-30, 0, 61, impl.MaxSpots+1),
		"far too many":                  block(-30, -30, 61, 61*61),
		"too many of the same":          make(spots, impl.MaxSpots+1),
		"columns in order, rows not so": pic(0, 0, 0, 1, 1, 0, 1, 1),
	}
	for _, n := range extremes() {
		name := "extreme " + decimal(n)
		bad[name+" in X"] = pic(n, 0)
		bad[name+" in Y"] = pic(0, n)
		bad[name+" both ways"] = pic(n, n)
	}
	return bad
}

func decimal(n int) string {
	if n < 0 {
		if n/10 == 0 {
			return "-" + decimal(-n)
		}
		return decimal(n/10) + decimal(-(n % 10))
	}
	if n < 10 {
		return string(rune('0' + n))
	}
	return decimal(n/10) + decimal(n%10)
}

// same holds a nil slice and an empty one for the same picture.
func same(p, q spots) bool {
	return slices.Equal(p, q)
}

func wantPicture(t *testing.T, what string, got, want spots) {
	t.Helper()
	if !same(got, want) {
		t.Fatalf("%s: got %v, want %v", what, got, want)
	}
}

func wantTold(t *testing.T, what string, got spots, ok bool, want spots) {
	t.Helper()
	if !ok || !same(got, want) {
		t.Fatalf("%s: got %v %v, want %v true", what, got, ok, want)
	}
}

func wantNone(t *testing.T, what string, got spots, ok bool) {
	t.Helper()
	if ok || len(got) != 0 {
		t.Fatalf("%s: got %v %v, want none and false", what, got, ok)
	}
}

// scribble writes to all of a picture, its spare capacity included.
func scribble(p spots) {
	overwrite(p, at(9999, -9999))
}

func overwrite[T any](list []T, mark T) {
	list = list[:cap(list)]
	for i := range list {
		list[i] = mark
	}
}

// roomy is a slice in the middle of a longer one, with spare capacity behind it, so that whatever is written around it is seen.
func roomy[T any](list []T, mark T) (whole, part []T) {
	const pad = 70
	whole = make([]T, pad+len(list)+pad)
	overwrite(whole, mark)
	copy(whole[pad:], list)
	return whole, whole[pad : pad+len(list)]
}

// checkMemory is checkNew for pictures that lead to pictures.
func checkMemory(t *testing.T, what string, call func(args []spots) spots, args ...spots) {
	t.Helper()
	checkNew(t, what, call, at(-7777, 7777), at(9999, -9999), args...)
}

// checkNew calls a function twice with roomy copies of arguments: the arguments and what lies around them must stay,
// and what is written to a result, up to its capacity, must be seen neither in an argument nor in a later result.
// The marks are two different values, which are in no argument and in no result.
func checkNew[A, R comparable](t *testing.T, what string, call func(args [][]A) []R, argMark A, mark R, args ...[]A) {
	t.Helper()
	var wholes, parts, before [][]A
	for _, list := range args {
		whole, part := roomy(list, argMark)
		wholes, parts, before = append(wholes, whole), append(parts, part), append(before, slices.Clone(whole))
	}
	stays := func(when string) {
		t.Helper()
		for i := range wholes {
			if !slices.Equal(wholes[i], before[i]) {
				t.Fatalf("%s of %v: argument %d changes %s", what, args, i, when)
			}
		}
	}
	first := call(parts)
	want := slices.Clone(first)
	wantList := func(when string, got []R) {
		t.Helper()
		if !slices.Equal(got, want) {
			t.Fatalf("%s %s: got %v, want %v", what, when, got, want)
		}
	}
	stays("by the call")
	overwrite(first, mark)
	stays("with the result")
	second := call(parts)
	wantList("once more", second)
	overwrite(first, mark)
	wantList("beside the result of before", second)
	for i := range wholes {
		overwrite(wholes[i], argMark)
	}
	wantList("after a change of the arguments", second)
}
