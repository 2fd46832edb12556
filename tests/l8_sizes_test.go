package tests

import (
	"slices"
	"testing"

	"loop.example/growingpictures/impl"
)

// squareAt is the square of a side with the spot x, y as its first one.
func squareAt(x, y, side int) spots {
	return block(x, y, side, side*side)
}

// sievedSet is all spots of squares of a side of which each spot is one of the picture.
func sievedSet(p spots, side int) spots {
	in, left := setOf(p), map[impl.Spot]bool{}
	for _, a := range p {
		if squareIn(in, a.X, a.Y, side) {
			for _, b := range squareAt(a.X, a.Y, side) {
				left[b] = true
			}
		}
	}
	return pictureOf(left)
}

func squareIn(in map[impl.Spot]bool, x, y, side int) bool {
	for i := range side * side {
		if !in[at(x+i%side, y+i/side)] {
			return false
		}
	}
	return true
}

// sideSet tries all squares that have a spot, from the greatest side down, and is the side of the first one of which each spot is in the set.
func sideSet(in map[impl.Spot]bool, a impl.Spot) int {
	for side := 5; side >= 1; side-- {
		for _, first := range squareAt(a.X-side+1, a.Y-side+1, side) {
			if squareIn(in, first.X, first.Y, side) {
				return side
			}
		}
	}
	return 0
}

// sizesBySides tells of the greatest side at each spot how many spots are left by each side, and how many go there.
func sizesBySides(p spots) (sizes, gone []int) {
	in := setOf(p)
	sizes, gone = make([]int, 5), make([]int, 5)
	for _, a := range p {
		greatest := sideSet(in, a)
		gone[greatest-1]++
		for side := 1; side <= greatest; side++ {
			sizes[side-1]++
		}
	}
	return sizes, gone
}

// leftIn is what is left by a side of rows in which each spot is drawn as the greatest side by which it is left.
func leftIn(rows string, side int) spots {
	return shown(rows, func(sign rune) bool { return sign >= '0'+rune(side) })
}

func eachSide(visit func(side int)) {
	for side := 1; side <= 5; side++ {
		visit(side)
	}
}

// noSides is numbers that are no side of a square.
func noSides() []int {
	return append(extremes(), 0, -1, -2, -3, -4, -5, -6, 6, 7, 8, 9, 10, 25, 30, 31, 60)
}

// atEnds is a picture moved so that its box ends where spots do: in each of four corners, and in the middle of one side.
func atEnds(p spots) []spots {
	if len(p) == 0 {
		return []spots{nil}
	}
	least, greatest := cornersOf(p)
	left, down, right, up := -30-least.X, -30-least.Y, 30-greatest.X, 30-greatest.Y
	return []spots{movedTo(p, left, down), movedTo(p, right, down), movedTo(p, left, up), movedTo(p, right, up), movedTo(p, right, 0)}
}

// squaresOfAllSides is the squares of the sides 1 up to 5, each one moved from the one before by how wide it is, and by gaps.
func squaresOfAllSides(along, across bool, gap int) spots {
	var all []spots
	x, y := 0, 0
	eachSide(func(side int) {
		all = append(all, squareAt(x, y, side))
		if along {
			x += side + gap
		}
		if across {
			y += side + gap
		}
	})
	return together(all...)
}

// touchingSquares is two squares, of which the second one touches the first one at a corner, or along a side, or overlaps it, or stands apart.
func touchingSquares() []spots {
	var list []spots
	for side := 1; side <= 5; side++ {
		for other := 1; other <= 5; other++ {
			first := squareAt(-2, 3, side)
			for _, a := range pic(side, side, -other, side, side, -other, side, 0, side, 1-other, 0, side, 1, side, side-1, side-1, side, side-1, side+1, 0, 1-other, -other) {
				list = append(list, together(first, squareAt(-2+a.X, 3+a.Y, other)))
			}
		}
	}
	return list
}

// piledPictures is rows of one length on each other, and on these a part of a row: so many spots together.
func piledPictures() []spots {
	var list []spots
	for wide := 4; wide <= 7; wide++ {
		for n := 3 * wide; n <= min(60, 7*wide); n++ {
			list = append(list, block(-3, -2, wide, n))
		}
	}
	for _, wide := range []int{8, 9, 10, 11, 12, 13, 15, 20, 29, 30, 31, 60, 61} {
		for n := 53; n <= 60; n++ {
			list = append(list, block(-30, 1, wide, n))
		}
	}
	return list
}

// lackingPictures is squares without one spot, or without some.
func lackingPictures() []spots {
	var list []spots
	for side := 2; side <= 7; side++ {
		full := squareAt(-3, -3, side)
		for _, a := range full {
			list = append(list, without(full, spots{a}, 1))
		}
	}
	for _, others := range scattered(30, 4) {
		list = append(list, without(block(-4, -3, 10, 60), others, 11), without(block(-6, -2, 12, 60), others, 6))
	}
	return list
}

// sizePictures is pictures of squares of all sides, beside each other and apart, at the ends, and of others.
func sizePictures() []spots {
	list := slices.Concat(greatestPictures(), touchingSquares(), piledPictures(), lackingPictures(), ringPictures()[:40], gridPictures(), samplePictures())
	for gap := range 3 {
		list = append(list, squaresOfAllSides(true, false, gap), squaresOfAllSides(false, true, gap), squaresOfAllSides(true, true, gap))
	}
	for side := range 8 {
		list = append(list, atEnds(squareAt(0, 0, side))...)
		list = append(list, atEnds(together(squareAt(0, 0, side), pic(side, 0)))...)
	}
	list = append(list, atEnds(squaresOfAllSides(true, false, 0))...)
	return append(list, atEnds(block(0, 0, 10, 60))...)
}

func wantCounts(t *testing.T, what string, got, want []int) {
	t.Helper()
	if !slices.Equal(got, want) {
		t.Fatalf("%s: got %v, want %v", what, got, want)
	}
}

// Promise 35.

func TestSquaresAreAllSpotsOfASide(t *testing.T) {
	for side, want := range map[int]spots{
		1: pic(0, 0),
		2: pic(0, 0, 1, 0, 0, 1, 1, 1),
		3: pic(0, 0, 1, 0, 2, 0, 0, 1, 1, 1, 2, 1, 0, 2, 1, 2, 2, 2),
		4: pic(0, 0, 1, 0, 2, 0, 3, 0, 0, 1, 1, 1, 2, 1, 3, 1, 0, 2, 1, 2, 2, 2, 3, 2, 0, 3, 1, 3, 2, 3, 3, 3),
		5: squareAt(0, 0, 5),
	} {
		got := impl.SquareOf(side)
		wantPicture(t, "the square of "+decimal(side), got, want)
		least, greatest, ok := impl.BoxOf(got)
		if !impl.PictureOk(got) || len(got) != side*side || !ok || least != at(0, 0) || greatest != at(side-1, side-1) {
			t.Fatalf("the square of %d: %v", side, got)
		}
	}
}

func TestSquaresAreSummedFromLesserOnes(t *testing.T) {
	for side := 1; side < 5; side++ {
		got, ok := impl.SumOf(impl.SquareOf(side), impl.SquareOf(2))
		wantTold(t, "one side more", got, ok, impl.SquareOf(side+1))
	}
	for side := 1; side <= 5; side++ {
		for other := 1; side+other <= 6; other++ {
			got, ok := impl.SumOf(impl.SquareOf(side), impl.SquareOf(other))
			wantTold(t, "the sum of two", got, ok, impl.SquareOf(side+other-1))
		}
	}
	got, ok := impl.SumOf(impl.SquareOf(5), impl.SquareOf(2))
	wantTold(t, "one side more than there may be", got, ok, squareAt(0, 0, 6))
}

func TestInvalidSquares(t *testing.T) {
	for _, side := range noSides() {
		wantPicture(t, "the square of "+decimal(side), impl.SquareOf(side), nil)
	}
}

func TestBoundOfSquares(t *testing.T) {
	if impl.MaxSize != 5 {
		t.Fatal("MaxSize")
	}
}

// Promise 36.

// checkSieved holds what is left by each side against sets, and against the promise 36.
func checkSieved(t *testing.T, p spots) {
	t.Helper()
	before := p
	eachSide(func(side int) {
		left, ok := impl.SievedBy(p, side)
		wantTold(t, "sieved by "+decimal(side), left, ok, sievedSet(p, side))
		if !impl.PictureOk(left) || !impl.WithinOk(left, p) || !impl.WithinOk(left, before) || side == 1 && !same(left, p) {
			t.Fatalf("%v sieved by %d is %v, by one less %v", p, side, left, before)
		}
		before = left
		eachSide(func(other int) {
			want, _ := impl.SievedBy(p, max(side, other))
			again, ok := impl.SievedBy(left, other)
			wantTold(t, "sieved by "+decimal(side)+" and then by "+decimal(other), again, ok, want)
		})
	})
}

func TestTwoSievesAreTheGreaterOne(t *testing.T) {
	for _, p := range sizePictures() {
		checkSieved(t, p)
	}
}

func TestSievesOfAllSmallPictures(t *testing.T) {
	for _, corner := range pic(-1, -1, -30, -30, 28, 28, -30, 28, 28, -30) {
		for _, p := range subsetsOf(block(corner.X, corner.Y, 3, 9)) {
			checkSieved(t, p)
			checkSizes(t, p)
		}
	}
	for i, p := range subsetsOf(squareAt(-2, -1, 4)) {
		if i%29 == 0 || len(p) > 13 {
			checkSieved(t, p)
			checkSizes(t, p)
		}
	}
}

// fewSieved is rows in which each spot is drawn as the greatest side by which it is left.
func fewSieved() map[string]string {
	return map[string]string{
		"no spots":                                "... ... ...",
		"one spot":                                "1",
		"two spots":                               "11",
		"two spots, one above":                    "1 1",
		"two spots that touch at a corner":        "1. .1",
		"three in a corner":                       "11 1.",
		"a row":                                   "1111111",
		"a column":                                "1 1 1 1 1 1",
		"a slope":                                 "1... .1.. ..1. ...1",
		"a chessboard":                            "1.1.1 .1.1. 1.1.1 .1.1.",
		"lone spots":                              "1.1.1 ..... 1.1.1",
		"a ring":                                  "111 1.1 111",
		"a ring closed at corners alone":          ".1. 1.1 .1.",
		"a cross":                                 ".1. 111 .1.",
		"two by two":                              "22 22",
		"two by two, and a spot on the right":     "221 22.",
		"two by two, and a spot on the left":      "122 .22",
		"two by two, and a spot above":            "22 22 1.",
		"two by two, and a spot below":            "1. 22 22",
		"two by two, and a spot at a corner":      "22. 22. ..1",
		"two by two, and a spot apart":            "22.. 22.1",
		"three by two":                            "222 222",
		"two by three":                            "22 22 22",
		"seven by two":                            "2222222 2222222",
		"squares that touch at a corner":          "22.. 22.. ..22 ..22",
		"squares that touch at another corner":    "..22 ..22 22.. 22..",
		"squares that touch along half a side":    "22. 22. .22 .22",
		"squares that touch along a side":         "2222 2222",
		"squares with a spot of both":             "22. 222 .22",
		"squares apart":                           "22.22 22.22",
		"a ring of two spots":                     "222222 222222 22..22 22..22 222222 222222",
		"three by three":                          "333 333 333",
		"three by three without a corner":         "222 222 22.",
		"three by three without one beside":       "222 222 1.1",
		"three by three and two by two":           "333.. 333.. 333.. ...22 ...22",
		"three by three and two by two beside it": "333.. 33322 33322",
		"three by three and a hook":               "333.. 333.1 33311 ....1",
		"four by three":                           "3333 3333 3333",
		"three by three, twice, one higher":       "333... 333333 333333 ...333",
		"four by four":                            "4444 4444 4444 4444",
		"four by four without a corner":           "3333 3333 3333 333.",
		"four by four without the middle":         "1111 1..1 1..1 1111",
		"five by four":                            "44444 44444 44444 44444",
		"five by five":                            "55555 55555 55555 55555 55555",
		"five by five without the middle":         "22222 22222 22.22 22222 22222",
		"five by five without a corner":           "44444 44444 44444 44444 4444.",
		"five by five without one at a side":      "44444 44444 44444 44444 22.22",
		"five by five and a spot":                 "55555. 55555. 555551 55555. 55555.",
		"five by five and two":                    "55555. 55555. 555552 555552 55555.",
		"five by five and three":                  "55555. 555553 555553 555553 55555.",
		"five by five and four":                   "55555. 555554 555554 555554 555554",
		"six by five":                             "555555 555555 555555 555555 555555",
		"six by six":                              "555555 555555 555555 555555 555555 555555",
		"six by six without a corner":             "555555 555555 555555 555555 555555 55555.",
		"seven by seven":                          "5555555 5555555 5555555 5555555 5555555 5555555 5555555",
		"seven by seven without the middle":       "3333333 3333333 3333333 333.333 3333333 3333333 3333333",
		"all sides, apart":                        "1.22.333.4444.55555 ..22.333.4444.55555 .....333.4444.55555 .........4444.55555 ..............55555",
		"all sides, beside each other":            "122333444455555 .22333444455555 ...333444455555 ......444455555 ..........55555",
		"all sides, on each other":                "55555 55555 55555 55555 55555 4444. 4444. 4444. 4444. 333.. 333.. 333.. 22... 22... 1....",
		"all sides, in another order":             "333122.4444.55555 333.22.4444.55555 333....4444.55555 .......4444.55555 ............55555",
	}
}

func TestAFewAreSieved(t *testing.T) {
	for what, rows := range fewSieved() {
		p := leftIn(rows, 1)
		eachSide(func(side int) {
			got, ok := impl.SievedBy(p, side)
			wantTold(t, what+", by "+decimal(side), got, ok, leftIn(rows, side))
		})
		checkFewSizes(t, what, rows)
		for _, moved := range append(atEnds(p), p) {
			checkSieved(t, moved)
			checkSizes(t, moved)
			checkSides(t, moved)
		}
	}
}

// checkFewSizes holds numbers and sides against those that are drawn.
func checkFewSizes(t *testing.T, what, rows string) {
	t.Helper()
	p := leftIn(rows, 1)
	var sizes, gone []int
	eachSide(func(side int) {
		sizes = append(sizes, len(leftIn(rows, side)))
		gone = append(gone, len(leftIn(rows, side))-len(leftIn(rows, side+1)))
		for _, a := range leftIn(rows, side) {
			if got := impl.SideAt(p, a); got < side || got > side && !slices.Contains(leftIn(rows, side+1), a) {
				t.Fatalf("%s at %v: %d", what, a, got)
			}
		}
	})
	wantCounts(t, what, impl.SizesOf(p), sizes)
	wantCounts(t, what+", gone", impl.GoneOf(p), gone)
}

func TestSquaresAreLeftByTheirSideAndNotByTheNext(t *testing.T) {
	eachSide(func(side int) {
		for _, p := range append(atEnds(squareAt(0, 0, side)), squareAt(0, 0, side), squareAt(-2, -2, side)) {
			eachSide(func(other int) {
				var want spots
				if other <= side {
					want = p
				}
				got, ok := impl.SievedBy(p, other)
				wantTold(t, "a square of "+decimal(side)+" by "+decimal(other), got, ok, want)
			})
			for _, a := range p {
				if got := impl.SideAt(p, a); got != side {
					t.Fatalf("the side at %v in %v: %d", a, p, got)
				}
			}
		}
	})
}

func TestTheSideOneLeavesAll(t *testing.T) {
	for _, p := range append(sizePictures(), scattered(60, 30)...) {
		got, ok := impl.SievedBy(p, 1)
		wantTold(t, "by the side 1", got, ok, p)
	}
}

func TestLoneSpotsGoAtTheSideOne(t *testing.T) {
	for _, p := range []spots{pic(0, 0), pic(30, 30), pic(-30, -30), pic(-30, 30, 30, 30), spread(), row(-30, -30, 60), column(30, -29, 60), cornerRing(15), squareRing(7)} {
		for side := 2; side <= 5; side++ {
			got, ok := impl.SievedBy(p, side)
			wantTold(t, "lone spots by "+decimal(side), got, ok, nil)
		}
		wantCounts(t, "lone spots", impl.SizesOf(p), []int{len(p), 0, 0, 0, 0})
		wantCounts(t, "lone spots, gone", impl.GoneOf(p), []int{len(p), 0, 0, 0, 0})
		for _, a := range p {
			if got := impl.SideAt(p, a); got != 1 {
				t.Fatalf("the side at %v in %v: %d", a, p, got)
			}
		}
	}
}

func TestSievesOfTheEmptyPicture(t *testing.T) {
	for _, none := range []spots{nil, {}, make(spots, 0, 9)} {
		eachSide(func(side int) {
			got, ok := impl.SievedBy(none, side)
			wantTold(t, "none, by "+decimal(side), got, ok, nil)
		})
		for _, side := range noSides() {
			got, ok := impl.SievedBy(none, side)
			wantNone(t, "none, by "+decimal(side), got, ok)
		}
		wantCounts(t, "sizes of none", impl.SizesOf(none), []int{0, 0, 0, 0, 0})
		wantCounts(t, "gone of none", impl.GoneOf(none), []int{0, 0, 0, 0, 0})
		for _, a := range slices.Concat(endSpots(), farSpots()) {
			if got := impl.SideAt(none, a); got != 0 {
				t.Fatalf("the side at %v in none: %d", a, got)
			}
		}
	}
}

func TestSievesMoveWithThePicture(t *testing.T) {
	for _, p := range append(lackingPictures(), squaresOfAllSides(true, false, 0), squaresOfAllSides(true, true, 0)) {
		eachSide(func(side int) {
			left, _ := impl.SievedBy(p, side)
			for _, a := range pic(1, 0, 0, 1, -7, 3, 11, -9, -20, -20) {
				moved, isTold := impl.MovedBy(p, a)
				if !isTold {
					continue
				}
				want, _ := impl.MovedBy(left, a)
				got, ok := impl.SievedBy(moved, side)
				wantTold(t, "moved and sieved", got, ok, want)
			}
			got, ok := impl.SievedBy(impl.TurnedOf(p), side)
			wantTold(t, "turned and sieved", got, ok, impl.TurnedOf(left))
		})
	}
}

func TestInvalidSieves(t *testing.T) {
	for what, bad := range invalid() {
		eachSide(func(side int) {
			got, ok := impl.SievedBy(bad, side)
			wantNone(t, what, got, ok)
		})
		for _, side := range noSides() {
			got, ok := impl.SievedBy(bad, side)
			wantNone(t, what+", and no side", got, ok)
		}
	}
	for _, p := range []spots{pic(0, 0), squareAt(0, 0, 5), squareAt(-3, -3, 7), block(0, 0, 10, 60), row(-30, 30, 60), squareAt(25, 25, 6), pic(-30, -30, 30, 30)} {
		for _, side := range noSides() {
			got, ok := impl.SievedBy(p, side)
			wantNone(t, "by "+decimal(side), got, ok)
		}
	}
}

// Promises 37 and 38.

// checkSizes holds how many are left and how many go against the sides at all spots, and against the promises 37 and 38.
func checkSizes(t *testing.T, p spots) {
	t.Helper()
	wantSizes, wantGone := sizesBySides(p)
	sizes, gone := impl.SizesOf(p), impl.GoneOf(p)
	wantCounts(t, "sizes", sizes, wantSizes)
	wantCounts(t, "gone", gone, wantGone)
	all := 0
	for i, n := range sizes {
		left, ok := impl.SievedBy(p, i+1)
		if !ok || len(left) != n || n != 0 && n < (i+1)*(i+1) || i > 0 && n > sizes[i-1] || gone[i] < 0 {
			t.Fatalf("%v: the sizes %v, gone %v", p, sizes, gone)
		}
		all += gone[i]
	}
	if sizes[0] != len(p) || all != len(p) {
		t.Fatalf("%v, of %d spots: the sizes %v, gone %v", p, len(p), sizes, gone)
	}
}

func TestLessAndLessIsLeft(t *testing.T) {
	seen := map[int]bool{}
	for _, p := range sizePictures() {
		checkSizes(t, p)
		for i, n := range impl.GoneOf(p) {
			seen[10*i+min(n, 1)] = true
		}
	}
	if len(seen) != 10 {
		t.Fatalf("not at each side do some go, or none: %v", seen)
	}
}

func TestAFewSizes(t *testing.T) {
	for _, c := range []struct {
		what        string
		p           spots
		sizes, gone []int
	}{
		{"one spot", pic(3, -4), []int{1, 0, 0, 0, 0}, []int{1, 0, 0, 0, 0}},
		{"60 in a row", row(-30, 30, 60), []int{60, 0, 0, 0, 0}, []int{60, 0, 0, 0, 0}},
		{"60 in two rows", block(0, 0, 30, 60), []int{60, 60, 0, 0, 0}, []int{0, 60, 0, 0, 0}},
		{"60 in three rows", block(0, 0, 20, 60), []int{60, 60, 60, 0, 0}, []int{0, 0, 60, 0, 0}},
		{"60 in four rows", block(0, 0, 15, 60), []int{60, 60, 60, 60, 0}, []int{0, 0, 0, 60, 0}},
		{"60 in five rows", block(0, 0, 12, 60), []int{60, 60, 60, 60, 60}, []int{0, 0, 0, 0, 60}},
		{"60 in six rows", block(0, 0, 10, 60), []int{60, 60, 60, 60, 60}, []int{0, 0, 0, 0, 60}},
		{"60 in four columns", block(0, 0, 4, 60), []int{60, 60, 60, 60, 0}, []int{0, 0, 0, 60, 0}},
		{"five rows and 1", block(0, 0, 11, 56), []int{56, 55, 55, 55, 55}, []int{1, 0, 0, 0, 55}},
		{"five rows and 2", block(0, 0, 11, 57), []int{57, 57, 55, 55, 55}, []int{0, 2, 0, 0, 55}},
		{"five rows and 3", block(0, 0, 11, 58), []int{58, 58, 58, 55, 55}, []int{0, 0, 3, 0, 55}},
		{"five rows and 4", block(0, 0, 11, 59), []int{59, 59, 59, 59, 55}, []int{0, 0, 0, 4, 55}},
		{"five rows and 5", block(0, 0, 11, 60), []int{60, 60, 60, 60, 60}, []int{0, 0, 0, 0, 60}},
		{"all sides, apart", squaresOfAllSides(true, false, 1), []int{55, 54, 50, 41, 25}, []int{1, 4, 9, 16, 25}},
		{"all sides, beside each other", squaresOfAllSides(true, false, 0), []int{55, 54, 50, 41, 25}, []int{1, 4, 9, 16, 25}},
		{"all sides, at corners", squaresOfAllSides(true, true, 0), []int{55, 54, 50, 41, 25}, []int{1, 4, 9, 16, 25}},
		{"two squares of five", together(squareAt(-30, -30, 5), squareAt(26, 26, 5)), []int{50, 50, 50, 50, 50}, []int{0, 0, 0, 0, 50}},
		{"squares in four corners", together(squareAt(-30, -30, 3), squareAt(28, 28, 3), squareAt(-30, 29, 2), squareAt(27, -30, 4)), []int{38, 38, 34, 16, 0}, []int{0, 4, 18, 16, 0}},
		{"seven by seven, and 11 apart", together(squareAt(-3, -3, 7), row(-30, -30, 11)), []int{60, 49, 49, 49, 49}, []int{11, 0, 0, 0, 49}},
	} {
		wantCounts(t, c.what, impl.SizesOf(c.p), c.sizes)
		wantCounts(t, c.what+", gone", impl.GoneOf(c.p), c.gone)
		for _, moved := range atEnds(c.p) {
			wantCounts(t, c.what+", moved", impl.SizesOf(moved), c.sizes)
			wantCounts(t, c.what+", moved, gone", impl.GoneOf(moved), c.gone)
		}
	}
}

func TestNoPicturesHaveNoSizes(t *testing.T) {
	for what, bad := range invalid() {
		wantCounts(t, what, impl.SizesOf(bad), nil)
		wantCounts(t, "gone: "+what, impl.GoneOf(bad), nil)
	}
	wantCounts(t, "eight by eight", impl.SizesOf(squareAt(0, 0, 8)), nil)
	wantCounts(t, "eight by eight, gone", impl.GoneOf(squareAt(0, 0, 8)), nil)
}

// Promise 39.

// checkSides holds the side at each spot, and at some that are none, against squares, and against the promise 39.
func checkSides(t *testing.T, p spots) {
	t.Helper()
	tried, in := slices.Concat(p, pic(0, 0, 30, 30, -30, 0)), setOf(p)
	for i := 0; i < len(p); i += 9 {
		tried = append(tried, movedTo(aroundSpots(), p[i].X, p[i].Y)...)
	}
	var left [6]spots
	eachSide(func(side int) { left[side], _ = impl.SievedBy(p, side) })
	for _, a := range tried {
		got := impl.SideAt(p, a)
		if want := sideSet(in, a); got != want || (got == 0) == impl.HasSpot(p, a) {
			t.Fatalf("the side at %v in %v: %d, want %d", a, p, got, want)
		}
		eachSide(func(side int) {
			if impl.HasSpot(left[side], a) != (side <= got) {
				t.Fatalf("the side at %v in %v: %d, but by %d are left %v", a, p, got, side, left[side])
			}
		})
	}
}

func TestEachSpotGoesAtItsOwnSide(t *testing.T) {
	seen := map[int]bool{}
	for _, p := range sizePictures() {
		checkSides(t, p)
		seen[impl.SideAt(p, at(0, 0))] = true
	}
	if len(seen) != 6 {
		t.Fatalf("not all sides are seen at 0, 0: %v", seen)
	}
}

func TestSidesAtSpotsThatAreNone(t *testing.T) {
	for _, p := range []spots{pic(0, 0), pic(-30, -30, 30, 30), squareAt(26, 26, 5), squareAt(-30, -30, 7), block(0, 0, 10, 60), squareRing(2), squareRing(7), spread()} {
		in := setOf(p)
		for _, a := range append(block(-32, -32, 65, 65*65), farSpots()...) {
			if got := impl.SideAt(p, a); got != 0 && !in[a] {
				t.Fatalf("the side at %v in %v: %d", a, p, got)
			}
		}
	}
}

func TestNoPicturesHaveNoSides(t *testing.T) {
	for what, bad := range invalid() {
		for _, a := range slices.Concat(bad[:min(5, len(bad))], bad[len(bad)-1:], pic(0, 0, 1, 0, 7, 7, 30, 30, 31, 0), farSpots()) {
			if got := impl.SideAt(bad, a); got != -1 {
				t.Fatalf("%s: the side at %v is %d", what, a, got)
			}
		}
	}
}

// The general rules: arguments are not written to, results are new, and nothing is kept from call to call.

func TestSizesShareNoMemory(t *testing.T) {
	pictures := append(touchingSquares()[:60], nil, spots{}, pic(0, 0), pic(30, 30), squareAt(0, 0, 5), squareAt(-3, -3, 7), block(0, 0, 10, 60), spread(), squaresOfAllSides(true, false, 0), squareRing(7))
	pictures = append(pictures, lackingPictures()[100:130]...)
	for _, bad := range invalid() {
		pictures = append(pictures, bad)
	}
	for _, p := range pictures {
		for _, side := range []int{1, 2, 3, 4, 5, 0, 6, -1} {
			checkMemory(t, "SievedBy", func(args []spots) spots {
				left, _ := impl.SievedBy(args[0], side)
				return left
			}, p)
		}
		for what, call := range map[string]func(p []impl.Spot) []int{"SizesOf": impl.SizesOf, "GoneOf": impl.GoneOf} {
			checkNew(t, what, func(args []spots) []int { return call(args[0]) }, at(-7777, 7777), -9999, p)
		}
		for _, a := range append(pic(0, 0, 1, 1, 31, 0), p[:min(len(p), 3)]...) {
			checkMemory(t, "SideAt", func(args []spots) spots { return pic(impl.SideAt(args[0], a), 0) }, p)
		}
	}
}

func TestAChangedSquareChangesNothing(t *testing.T) {
	for side := -1; side <= 7; side++ {
		checkMemory(t, "SquareOf", func([]spots) spots { return impl.SquareOf(side) })
	}
	p := squaresOfAllSides(true, false, 1)
	eachSide(func(side int) {
		scribble(impl.SquareOf(side))
		left, _ := impl.SievedBy(p, side)
		scribble(left)
		overwrite(impl.SizesOf(p), -9999)
		overwrite(impl.GoneOf(p), -9999)
	})
	eachSide(func(side int) {
		wantPicture(t, "the square after changes", impl.SquareOf(side), squareAt(0, 0, side))
	})
	checkSieved(t, p)
	checkSizes(t, p)
	checkSides(t, p)
}

func TestSizesOfPartsOfOneSlice(t *testing.T) {
	backing := block(-4, -2, 10, 60)
	for from := 0; from < 60; from += 7 {
		for to := from; to <= 60; to += 5 {
			for _, p := range []spots{backing[from:to], slices.Clip(backing[from:to])} {
				checkSieved(t, p)
				checkSizes(t, p)
			}
		}
	}
	if !same(backing, block(-4, -2, 10, 60)) {
		t.Fatalf("the slice changes: %v", backing)
	}
}
