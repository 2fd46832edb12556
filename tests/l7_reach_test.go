package tests

import (
	"math"
	"slices"
	"strings"
	"testing"

	"loop.example/growingpictures/impl"
)

// reachedSet grows a mark round by round, by neighbours that are in a set.
func reachedSet(in map[impl.Spot]bool, mark spots, eight bool) map[impl.Spot]bool {
	steps, reached := besideSpots(), map[impl.Spot]bool{}
	if eight {
		steps = aroundSpots()
	}
	for len(mark) > 0 {
		var next spots
		for _, a := range mark {
			if !in[a] || reached[a] {
				continue
			}
			reached[a] = true
			for _, d := range steps {
				next = append(next, at(a.X+d.X, a.Y+d.Y))
			}
		}
		mark = next
	}
	return reached
}

// piecesSet takes spots in order, of any number.
func piecesSet(list spots, eight bool) []spots {
	var pieces []spots
	in, done := setOf(list), map[impl.Spot]bool{}
	for _, a := range list {
		if done[a] {
			continue
		}
		piece := reachedSet(in, spots{a}, eight)
		pieces = append(pieces, pictureOf(piece))
		for b := range piece {
			done[b] = true
		}
	}
	return pieces
}

// holesSet is what cannot be reached by steps from beyond the box.
func holesSet(p spots) []spots {
	if len(p) == 0 {
		return nil
	}
	least, greatest := cornersOf(p)
	wide, high := greatest.X-least.X+3, greatest.Y-least.Y+3
	missing := setOf(block(least.X-1, least.Y-1, wide, wide*high))
	for _, a := range p {
		missing[a] = false
	}
	for a := range reachedSet(missing, pic(least.X-1, least.Y-1), false) {
		missing[a] = false
	}
	return piecesSet(pictureOf(missing), false)
}

func samePieces(a, b []spots) bool {
	return slices.EqualFunc(a, b, same)
}

func wantPieces(t *testing.T, what string, got, want []spots) {
	t.Helper()
	if !samePieces(got, want) {
		t.Fatalf("%s: got %v, want %v", what, got, want)
	}
}

// shown is the picture of those signs of rows for which a rule holds, the lowest row first, of which the middle one is 0, 0.
func shown(rows string, rule func(sign rune) bool) spots {
	return drawn(strings.Map(func(sign rune) rune {
		switch {
		case sign == ' ':
			return ' '
		case rule(sign):
			return '#'
		}
		return '.'
	}, rows))
}

// lettered is the pieces that rows show by letters: all of a, all of b, and so on.
func lettered(rows string) []spots {
	var list []spots
	for letter := 'a'; strings.ContainsRune(rows, letter); letter++ {
		list = append(list, shown(rows, func(sign rune) bool { return sign == letter }))
	}
	return list
}

// squareRing is all spots at so many steps of a king from 0, 0; cornerRing at so many along rows and columns, which touch at corners alone.
func squareRing(radius int) spots {
	return ringIn(radius, 1)
}

func cornerRing(radius int) spots {
	return ringIn(radius, 0)
}

func ringIn(radius, way int) spots {
	set := map[impl.Spot]bool{}
	for _, a := range block(-radius, -radius, 2*radius+1, (2*radius+1)*(2*radius+1)) {
		set[a] = stepsBetween(a, at(0, 0), way) == radius
	}
	return pictureOf(set)
}

// together is the picture of all spots of some.
func together(list ...spots) spots {
	return pictureOf(setOf(slices.Concat(list...)))
}

// ringPictures is rings of both kinds, within each other, beside each other, at the ends, and with a gap.
func ringPictures() []spots {
	list := []spots{
		together(squareRing(1), squareRing(3)), together(squareRing(2), squareRing(4)), together(squareRing(2), squareRing(5)),
		together(cornerRing(1), cornerRing(3), cornerRing(5)), together(cornerRing(1), cornerRing(4), cornerRing(8)), together(cornerRing(1), squareRing(3)),
		together(cornerRing(2), squareRing(1)), together(pic(0, 0), squareRing(2)), together(pic(0, 0), cornerRing(15)[:59]),
		together(squareRing(1), movedTo(squareRing(1), 3, 0)), together(squareRing(1), movedTo(squareRing(1), 2, 2)), together(squareRing(1), movedTo(squareRing(1), 2, 0)),
		together(cornerRing(1), movedTo(cornerRing(1), 2, 0), movedTo(cornerRing(1), 1, 1)), together(cornerRing(2), movedTo(cornerRing(2), 1, 1)),
		together(movedTo(squareRing(1), -29, -29), movedTo(squareRing(1), 29, 29)), together(movedTo(squareRing(3), -27, 27), movedTo(squareRing(3), 27, -27)),
		together(movedTo(cornerRing(5), -25, 0), movedTo(cornerRing(5), 25, 1)), pic(0, -30, -30, 0, 30, 0, 0, 30),
	}
	for radius := 1; radius <= 15; radius++ {
		far := 30 - radius
		for _, centre := range pic(0, 0, far, far, -far, -far, far, -far) {
			ring := movedTo(cornerRing(radius), centre.X, centre.Y)
			list = append(list, ring, without(ring, ring, len(ring)), without(ring, ring[len(ring)/2:], len(ring)))
			if radius <= 7 {
				ring = movedTo(squareRing(radius), centre.X, centre.Y)
				list = append(list, ring, without(ring, ring, len(ring)), without(ring, ring[len(ring)/2:], len(ring)))
			}
		}
	}
	return list
}

// gridPictures is pictures of lone spots, of spots that touch at corners alone, and full ones.
func gridPictures() []spots {
	list := []spots{spread(), block(0, 0, 10, 60), row(-30, 30, 60), column(-30, -29, 60), row(0, 0, 1)}
	for _, step := range []int{2, 3} {
		var lone, aslant, both spots
		for i := range 60 {
			lone = append(lone, at(step*(i%10)-30, step*(i/10)-30))
			aslant = append(aslant, at(i%10*2+i/10%2, i/10))
			both = append(both, at(step*(i%10)-i/10%2, i/10*(step-1)))
		}
		list = append(list, lone, aslant, pictureOf(setOf(both)))
	}
	for side := range 8 {
		var slope, other spots
		for i := range side * 7 {
			slope = append(slope, at(i-30, i-30))
			other = append(other, at(30-i, i-30))
		}
		list = append(list, slope, other, together(slope[:len(slope)/2], other[:len(other)/2]))
	}
	return list
}

// reachPictures is pictures of pieces and holes of all sorts, at the ends and far apart as well.
func reachPictures() []spots {
	list := slices.Concat(ringPictures(), gridPictures(), patternPictures(), samplePictures(), scattered(60, 3), scattered(60, 4), scattered(12, 6))
	for _, p := range scattered(40, 4) {
		list = append(list, without(block(-4, -3, 8, 56), p, 5), without(block(-30, 24, 8, 56), movedTo(p, -26, 27), 4), without(block(21, -30, 10, 60), movedTo(p, 25, -26), 6))
	}
	return list
}

// marksOf is some pictures within a picture: none, each spot alone, all, and parts of all sorts.
func marksOf(p spots) []spots {
	marks := []spots{nil, {}, p, p[:len(p)/2], p[len(p)/2:], p[len(p)/3 : (len(p)+1)/2]}
	for i := range p {
		marks = append(marks, p[i:i+1])
	}
	for _, each := range []int{2, 3, 5} {
		marks = append(marks, without(p, p, each), without(p, without(p, p, each), 1))
	}
	return append(marks, firstOnes(p, false), firstOnes(p, true))
}

// firstOnes is a mark with one spot of each piece.
func firstOnes(p spots, eight bool) spots {
	var mark spots
	for _, piece := range piecesSet(p, eight) {
		mark = append(mark, piece[0])
	}
	return mark
}

// Promise 30.

// checkReached holds what is reached against sets, and against the promise 30.
func checkReached(t *testing.T, p, mark spots) {
	t.Helper()
	var both [2]spots
	for i, eight := range []bool{false, true} {
		got, ok := impl.ReachedOf(p, mark, eight)
		wantTold(t, "reached", got, ok, pictureOf(reachedSet(setOf(p), mark, eight)))
		if !impl.PictureOk(got) || !impl.WithinOk(mark, got) || !impl.WithinOk(got, p) {
			t.Fatalf("%v from %v is %v", p, mark, got)
		}
		again, ok := impl.ReachedOf(p, got, eight)
		wantTold(t, "reached again", again, ok, got)
		both[i] = got
	}
	if !impl.WithinOk(both[0], both[1]) {
		t.Fatalf("%v from %v is %v with four neighbours, and %v with eight", p, mark, both[0], both[1])
	}
}

func TestWhatIsReachedIsReachedAgain(t *testing.T) {
	for _, p := range reachPictures() {
		for _, mark := range marksOf(p) {
			checkReached(t, p, mark)
		}
	}
}

func TestMarksInAllPicturesOfSixSpots(t *testing.T) {
	for _, corner := range pic(0, 0, -2, -1, -30, -30, 28, 29, -30, 29, 28, -30) {
		for _, p := range subsets(corner.X, corner.Y) {
			for _, mark := range subsetsOf(p) {
				checkReached(t, p, mark)
			}
		}
	}
}

func TestAFewAreReached(t *testing.T) {
	for _, c := range []struct {
		what, rows, mark, four, eight string
	}{
		{"one spot", "#", "#", "#", "#"},
		{"a spot on the right", "##.", "#..", "##.", "##."},
		{"a spot on the left", ".##", "..#", ".##", ".##"},
		{"a spot above", "# # .", "# . .", "# # .", "# # ."},
		{"a spot below", ". # #", ". . #", ". # #", ". # #"},
		{"a corner above, on the right", "#. .#", "#. ..", "#. ..", "#. .#"},
		{"a corner above, on the left", ".# #.", ".# ..", ".# ..", ".# #."},
		{"a corner below, on the right", ".# #.", ".. #.", ".. #.", ".# #."},
		{"a corner below, on the left", "#. .#", ".. .#", ".. .#", "#. .#"},
		{"two apart", "#.#", "#..", "#..", "#.."},
		{"two rows apart", "# . #", "# . .", "# . .", "# . ."},
		{"as a knight goes", "#.. ..#", "#.. ...", "#.. ...", "#.. ..."},
		{"around a corner", "### ..# ..#", "#.. ... ...", "### ..# ..#", "### ..# ..#"},
		{"there and back", "##### ....# ##### #.... #####", "#.... ..... ..... ..... .....", "##### ....# ##### #.... #####", "##### ....# ##### #.... #####"},
		{"a spiral from within", "##### #...# #.### #.... #####", "..... ..... ..#.. ..... .....", "##### #...# #.### #.... #####", "##### #...# #.### #.... #####"},
		{"a row and a corner of it", "##.. ..## ....", "#... .... ....", "##.. .... ....", "##.. ..## ...."},
		{"a chessboard", "#.#.# .#.#. #.#.#", "#.... ..... .....", "#.... ..... .....", "#.#.# .#.#. #.#.#"},
		{"two pieces, one mark", "##.## ##.##", "#.... .....", "##... ##...", "##... ##..."},
		{"two pieces, a mark in each", "##.## ##.##", "#.... ....#", "##.## ##.##", "##.## ##.##"},
		{"three pieces, marks in two", "#.#.# #.#.#", "....# #....", "#...# #...#", "#...# #...#"},
		{"two marks in one piece", "####. ....#", "#..#. .....", "####. .....", "####. ....#"},
		{"the whole picture", "#.#.# ..... .#.#.", "#.#.# ..... .#.#.", "#.#.# ..... .#.#.", "#.#.# ..... .#.#."},
		{"no mark", "###.# #.#.. ###..", "..... ..... .....", "..... ..... .....", "..... ..... ....."},
		{"within a ring", "##### #...# #.#.# #...# #####", "..... ..... ..#.. ..... .....", "..... ..... ..#.. ..... .....", "..... ..... ..#.. ..... ....."},
		{"a ring closed at corners alone", "..#.. .#.#. #...# .#.#. ..#..", "..#.. ..... ..... ..... .....", "..#.. ..... ..... ..... .....", "..#.. .#.#. #...# .#.#. ..#.."},
	} {
		got, ok := impl.ReachedOf(drawn(c.rows), drawn(c.mark), false)
		wantTold(t, c.what+", with four", got, ok, drawn(c.four))
		got, ok = impl.ReachedOf(drawn(c.rows), drawn(c.mark), true)
		wantTold(t, c.what+", with eight", got, ok, drawn(c.eight))
	}
}

func TestNothingIsReachedFromEmptyMarks(t *testing.T) {
	for _, p := range reachPictures() {
		for _, none := range []spots{nil, {}, make(spots, 0, 9), p[:0]} {
			for _, eight := range []bool{false, true} {
				got, ok := impl.ReachedOf(p, none, eight)
				wantTold(t, "from an empty mark", got, ok, nil)
			}
		}
	}
}

func TestAllIsReachedFromAMarkInEachPiece(t *testing.T) {
	for _, p := range reachPictures() {
		for _, eight := range []bool{false, true} {
			got, ok := impl.ReachedOf(p, p, eight)
			wantTold(t, "from all", got, ok, p)
			mark := firstOnes(p, eight)
			got, ok = impl.ReachedOf(p, mark, eight)
			wantTold(t, "from the first ones", got, ok, p)
			for i := range mark {
				part := slices.Delete(slices.Clone(mark), i, i+1)
				got, ok = impl.ReachedOf(p, part, eight)
				if !ok || len(got) >= len(p) {
					t.Fatalf("%v from %v is %v %v", p, part, got, ok)
				}
			}
		}
	}
}

func TestInvalidMarks(t *testing.T) {
	refused := func(what string, p, mark spots) {
		t.Helper()
		for _, eight := range []bool{false, true} {
			got, ok := impl.ReachedOf(p, mark, eight)
			wantNone(t, what, got, ok)
		}
	}
	pictures := []spots{nil, {}, pic(0, 0), pic(0, 0, 1, 0), pic(30, 30), pic(-30, -30, 30, 30), block(-1, -1, 3, 9), block(0, 0, 10, 60), row(-30, 0, 60), spread()}
	for what, bad := range invalid() {
		for _, good := range pictures {
			refused("the picture: "+what, bad, good)
			refused("the mark: "+what, good, bad)
		}
		refused("both: "+what, bad, bad)
		refused("no picture with its first spot: "+what, bad, bad[:1])
	}
	for _, p := range pictures {
		for _, far := range farSpots() {
			refused("a mark that is too far", p, spots{far})
		}
		for _, a := range block(-31, -31, 63, 63*63) {
			if slices.Contains(p, a) {
				continue
			}
			refused("a mark that is none of it", p, spots{a})
			if mark := pictureOf(setOf(append(slices.Clone(p), a))); a.X%7 == 0 {
				refused("a mark with one spot more", p, mark)
			}
		}
	}
	refused("the empty picture", nil, pic(0, 0))
	refused("a mark beside it", block(0, 0, 3, 9), pic(3, 1))
	refused("a mark in a hole", squareRing(1), pic(0, 0))
	refused("only the last one is none of it", block(0, 0, 3, 9), pic(0, 0, 1, 1, 3, 2))
	refused("only the first one is none of it", block(0, 0, 3, 9), pic(-1, 0, 1, 1, 2, 2))
	refused("spots of it, from right to left", block(0, 0, 3, 9), pic(1, 0, 0, 0))
	refused("spots of it, from above", block(0, 0, 3, 9), pic(0, 1, 0, 0))
	refused("spots of it, one twice", block(0, 0, 3, 9), pic(0, 0, 0, 0))
	refused("all spots of it twice", pic(0, 0, 1, 0), pic(0, 0, 0, 0, 1, 0, 1, 0))
	refused("the greatest and the least int", pic(0, 0), pic(math.MaxInt, math.MinInt))
}

// Promise 31.

// checkPieces holds the pieces and how many there are against sets, and against the promises 31 and 32.
func checkPieces(t *testing.T, p spots) {
	t.Helper()
	turned := impl.TurnedOf(p)
	for _, eight := range []bool{false, true} {
		pieces := impl.PiecesOf(p, eight)
		wantPieces(t, "pieces", pieces, piecesSet(p, eight))
		checkParts(t, p, pieces, eight)
		if got := impl.CountPieces(p, eight); got != len(pieces) || got != impl.CountPieces(turned, eight) || (got == 0) != (len(p) == 0) {
			t.Fatalf("%v with eight %v: %d pieces, want %d, and turned %d", p, eight, got, len(pieces), impl.CountPieces(turned, eight))
		}
	}
	if four, eight := impl.CountPieces(p, false), impl.CountPieces(p, true); eight > four {
		t.Fatalf("%v: %d pieces with four neighbours, and %d with eight", p, four, eight)
	}
}

func checkParts(t *testing.T, p spots, pieces []spots, eight bool) {
	t.Helper()
	if all := slices.Concat(pieces...); len(all) != len(p) || !same(pictureOf(setOf(all)), p) {
		t.Fatalf("%v with eight %v: the pieces are %v", p, eight, pieces)
	}
	for i, piece := range pieces {
		if !impl.PictureOk(piece) || len(piece) == 0 || i > 0 && !inOrder(pieces[i-1][0], piece[0]) {
			t.Fatalf("%v with eight %v: the piece %d of %v", p, eight, i, pieces)
		}
		got, ok := impl.ReachedOf(p, piece, eight)
		wantTold(t, "reached from a piece", got, ok, piece)
		for _, a := range piece {
			got, ok = impl.ReachedOf(p, spots{a}, eight)
			wantTold(t, "reached from a spot of a piece", got, ok, piece)
		}
		wantPieces(t, "pieces of a piece", impl.PiecesOf(piece, eight), []spots{piece})
	}
}

func TestAPictureFallsIntoPieces(t *testing.T) {
	for _, p := range reachPictures() {
		checkPieces(t, p)
	}
}

func TestPiecesOfAllPicturesOfNineSpots(t *testing.T) {
	for _, corner := range pic(-1, -1, -30, -30, 28, 28) {
		for _, p := range subsetsOf(block(corner.X, corner.Y, 3, 9)) {
			checkPieces(t, p)
		}
	}
}

func TestAFewPieces(t *testing.T) {
	for _, c := range []struct {
		what, four, eight string
	}{
		{"one spot", "a", "a"},
		{"a row", "aaaaa", "aaaaa"},
		{"a row with gaps", "aa.b.cc", "aa.b.cc"},
		{"a corner", "a. .b", "a. .a"},
		{"another corner", ".a b.", ".a a."},
		{"three by three, touching at corners", "a.b .c. d.e", "a.a .a. a.a"},
		{"two squares", "aa.. aa.. ..bb ..bb", "aa.. aa.. ..aa ..aa"},
		{"two squares, the upper one on the left", "..aa ..aa bb.. bb..", "..aa ..aa aa.. aa.."},
		{"ends that meet at last", "a.a.a a.a.a aaaaa", "a.a.a a.a.a aaaaa"},
		{"ends that meet at first", "aaaaa a.a.a a.a.a", "aaaaa a.a.a a.a.a"},
		{"ends that meet at corners", "a.b.c .d.e.", "a.a.a .a.a."},
		{"a first spot on the right of another piece", "..a.. b.a.. b.aaa", "..a.. b.a.. b.aaa"},
		{"a slope", "..a .b. c..", "..a .a. a.."},
		{"a hook around a spot", "aaa a.. a.b a.. aaa", "aaa a.. a.b a.. aaa"},
		{"two hooks", "aaaa. a..a. a.b.. a.bbb", "aaaa. a..a. a.a.. a.aaa"},
		{"a ring with a spot within", "aaaaa a...a a.b.a a...a aaaaa", "aaaaa a...a a.b.a a...a aaaaa"},
		{"a ring closed at corners alone", ".a. b.c .d.", ".a. a.a .a."},
		{"a ring closed at corners alone, and its middle", "..a.. .b.c. d.e.f .g.h. ..i..", "..a.. .a.a. a.a.a .a.a. ..a.."},
		{"lone spots", "a.b.c ..... d.e.f", "a.b.c ..... d.e.f"},
		{"rows that are apart", "aaa ... bbb", "aaa ... bbb"},
		{"columns that are apart", "a.b a.b a.b", "a.b a.b a.b"},
	} {
		p := shown(c.four, func(sign rune) bool { return sign != '.' })
		wantPieces(t, c.what+", with four", impl.PiecesOf(p, false), lettered(c.four))
		wantPieces(t, c.what+", with eight", impl.PiecesOf(p, true), lettered(c.eight))
		checkPieces(t, p)
	}
}

func TestAMarkReachesJustItsPieces(t *testing.T) {
	for _, p := range append(ringPictures(), scattered(30, 4)...) {
		for _, eight := range []bool{false, true} {
			pieces := impl.PiecesOf(p, eight)
			for _, mark := range marksOf(p) {
				var want spots
				for _, piece := range pieces {
					if len(impl.CommonOf(piece, mark)) > 0 {
						want = append(want, piece...)
					}
				}
				got, ok := impl.ReachedOf(p, mark, eight)
				wantTold(t, "pieces of a mark", got, ok, pictureOf(setOf(want)))
			}
		}
	}
}

// Promise 32.

func TestLoneSpotsAreAPieceEach(t *testing.T) {
	var lone, aslant spots
	for i := range 60 {
		lone = append(lone, at(2*(i%10)-30, 2*(i/10)-30))
		aslant = append(aslant, at(i/2%30, i%2+i/60))
	}
	for _, p := range []spots{lone, lone[:1], lone[:30], lone[59:], spread(), pic(-30, -30, 30, -30, -30, 30, 30, 30), pic(30, -30, -30, -29), pic(30, 0, -30, 1), pic(-30, -30, 30, 30)} {
		for _, eight := range []bool{false, true} {
			if got := impl.CountPieces(p, eight); got != len(p) {
				t.Fatalf("%v with eight %v: %d pieces", p, eight, got)
			}
		}
		checkPieces(t, p)
	}
	checkPieces(t, pictureOf(setOf(aslant)))
}

func TestCountedPieces(t *testing.T) {
	slope := make(spots, 0, 60)
	for i := range 60 {
		slope = append(slope, at(i-30, i-30))
	}
	for _, c := range []struct {
		what        string
		p           spots
		four, eight int
	}{
		{"no spots", nil, 0, 0},
		{"an empty slice", spots{}, 0, 0},
		{"one spot", pic(7, -7), 1, 1},
		{"60 in a row", row(-30, 0, 60), 1, 1},
		{"60 in a column", column(30, -30, 60), 1, 1},
		{"60 in a block", block(0, 0, 10, 60), 1, 1},
		{"60 on a slope", slope, 60, 1},
		{"60 on another slope", impl.TurnedOf(movedTo(slope, 1, 1)), 60, 1},
		{"59 on a slope with a gap", without(slope, slope[20:21], 1), 59, 2},
		{"a ring at corners alone", cornerRing(15), 60, 1},
		{"a square ring", squareRing(7), 1, 1},
		{"rings within rings", together(squareRing(1), squareRing(3)), 2, 2},
		{"rings at corners alone, that touch", together(cornerRing(1), cornerRing(3), cornerRing(5)), 36, 1},
		{"rings at corners alone, within rings", together(cornerRing(1), cornerRing(4), cornerRing(7)), 48, 3},
		{"corner to corner", pic(-30, -30, 30, -30, -30, 30, 30, 30), 4, 4},
		{"60 on and off, far apart", spread(), 60, 60},
	} {
		if four, eight := impl.CountPieces(c.p, false), impl.CountPieces(c.p, true); four != c.four || eight != c.eight {
			t.Fatalf("%s: %d and %d, want %d and %d", c.what, four, eight, c.four, c.eight)
		}
		checkPieces(t, c.p)
	}
}

func TestNoPicturesHaveNoPieces(t *testing.T) {
	for what, bad := range invalid() {
		for _, eight := range []bool{false, true} {
			wantPieces(t, what, impl.PiecesOf(bad, eight), nil)
			if got := impl.CountPieces(bad, eight); got != -1 {
				t.Errorf("%s: %d pieces", what, got)
			}
		}
		wantPieces(t, "holes: "+what, impl.HolesOf(bad), nil)
		got, ok := impl.FilledOf(bad)
		wantNone(t, "filled: "+what, got, ok)
	}
	for _, none := range []spots{nil, {}, make(spots, 0, 9)} {
		for _, eight := range []bool{false, true} {
			wantPieces(t, "the empty picture", impl.PiecesOf(none, eight), nil)
		}
		wantPieces(t, "holes of the empty picture", impl.HolesOf(none), nil)
		got, ok := impl.FilledOf(none)
		wantTold(t, "the empty picture, filled", got, ok, nil)
	}
}

// Promise 33.

// checkHoles holds the holes against sets, and against the promise 33.
func checkHoles(t *testing.T, p spots) {
	t.Helper()
	holes, in := impl.HolesOf(p), setOf(p)
	wantPieces(t, "holes", holes, holesSet(p))
	for i, hole := range holes {
		if len(hole) == 0 || i > 0 && !inOrder(holes[i-1][0], hole[0]) {
			t.Fatalf("%v: the hole %d of %v", p, i, holes)
		}
		if len(hole) <= impl.MaxSpots {
			wantPieces(t, "pieces of a hole", impl.PiecesOf(hole, false), []spots{hole})
			wantPicture(t, "common with a hole", impl.CommonOf(hole, p), nil)
		}
		inHole := setOf(hole)
		for j, a := range hole {
			if in[a] || j > 0 && !inOrder(hole[j-1], a) {
				t.Fatalf("%v has the hole %v, with %v", p, hole, a)
			}
			for _, d := range besideSpots() {
				if b := at(a.X+d.X, a.Y+d.Y); !inHole[b] && !impl.HasSpot(p, b) {
					t.Fatalf("%v has the hole %v, without %v beside %v", p, hole, b, a)
				}
			}
		}
	}
}

func TestHolesAreApartFromThePicture(t *testing.T) {
	some, many, great := 0, 0, 0
	for _, p := range reachPictures() {
		checkHoles(t, p)
		checkFilled(t, p)
		holes := impl.HolesOf(p)
		some += min(1, len(holes))
		many += min(1, len(holes)/2)
		for _, hole := range holes {
			great += min(1, len(hole)/(impl.MaxSpots+1))
		}
	}
	if some < 200 || many < 100 || great < 20 {
		t.Fatalf("only %d pictures have a hole, %d more than one, and %d holes are great", some, many, great)
	}
}

func TestHolesOfAllPicturesOfSixteenSpots(t *testing.T) {
	for i, p := range subsetsOf(block(-2, -2, 4, 16)) {
		if i%3 == 0 || len(p) > 10 {
			checkHoles(t, p)
			checkFilled(t, p)
		}
	}
}

func TestAFewHoles(t *testing.T) {
	for _, c := range []struct {
		what, rows string
	}{
		{"a ring", "### #a# ###"},
		{"a ring closed at corners alone", ".#. #a# .#."},
		{"a ring without a corner", "### #a# ##."},
		{"a ring without two corners", ".## #a# ##."},
		{"a ring open on the right", "### #.. ###"},
		{"a ring open on the left", "### ..# ###"},
		{"a ring open above", "### #.# #.#"},
		{"a ring open below", "#.# #.# ###"},
		{"three by three", "### ### ###"},
		{"two holes in a row", "##### #a#b# #####"},
		{"two holes, one above", "### #a# ### #b# ###"},
		{"a hole of two spots", "#### #aa# ####"},
		{"holes that touch at a corner", "#### #a## ##b# ####"},
		{"holes that touch at another corner", "#### ##a# #b## ####"},
		{"holes that touch at corners", "##### #a#b# ##c## #d#e# #####"},
		{"a hole on the right, first", "..###.. ###a### #b##### ###...."},
		{"a hook", "##### #aa## #a### #aaa# #####"},
		{"a hole that goes around a spot", "##### #aaa# #a#a# #aaa# #####"},
		{"rings within rings", "####### #aaaaa# #a###a# #a#b#a# #a###a# #aaaaa# #######"},
		{"rings at corners alone, that touch", "...#... ..#a#.. .#b#c#. #d#e#f# .#g#h#. ..#i#.. ...#..."},
		{"rings at corners alone, within rings", "....#.... ...#a#... ..#aaa#.. .#aa#aa#. #aa#b#aa# .#aa#aa#. ..#aaa#.. ...#a#... ....#...."},
		{"a corner ring", "..#.. .#a#. #aaa# .#a#. ..#.."},
		{"a corner ring with a gap", "..#.. .#.#. #...# .#.#. ....."},
		{"a spot in a corner ring, that touches it at corners", "..#.. .#a#. #b#c# .#d#. ..#.."},
		{"spots at the border of the box", "#.#.# ##### #aaa# ##### #.#.#"},
		{"bays", "##.## #...# ..#.. #...# ##.##"},
		{"bays that touch a hole at a corner", "##.## ##.## ###a# #####"},
		{"a bay and a hole beside it", "##### #a#.. #####"},
		{"a long way out", "##### #...# #.#.# #.#.# ###.#"},
		{"a long way that is closed", "##### #aaa# #a#a# #a#a# #####"},
		{"two pieces and a hole between", ".##.. #a##. #aa## ##a#. .##.."},
		{"lone spots around no hole", "#.#.# ..... #.#.#"},
		{"a ring and a lone spot", "###.. #a#.# ###.."},
		{"a ring in a row of spots", "#.###.# #.#a#.# #.###.#"},
	} {
		p, want := drawn(c.rows), lettered(c.rows)
		wantPieces(t, c.what, impl.HolesOf(p), want)
		for _, far := range pic(-20, 11, 26, 26, -26, -26) {
			var moved []spots
			for _, hole := range want {
				moved = append(moved, movedTo(hole, far.X, far.Y))
			}
			wantPieces(t, c.what+", moved", impl.HolesOf(movedTo(p, far.X, far.Y)), moved)
		}
		got, ok := impl.FilledOf(p)
		wantTold(t, c.what+", filled", got, ok, together(append(want, p)...))
		checkHoles(t, p)
		checkFilled(t, p)
	}
}

func TestHolesOfRings(t *testing.T) {
	for radius := 1; radius <= 15; radius++ {
		far := 30 - radius
		for _, centre := range pic(0, 0, far, far, -far, far, -far, -far, far, -far, 0, far) {
			hole := movedTo(insideRing(radius, 0), centre.X, centre.Y)
			ring := movedTo(cornerRing(radius), centre.X, centre.Y)
			wantPieces(t, "a ring closed at corners alone", impl.HolesOf(ring), []spots{hole})
			for _, a := range ring {
				wantPieces(t, "without a spot", impl.HolesOf(without(ring, spots{a}, 1)), nil)
			}
			if radius <= 7 {
				hole, ring = movedTo(insideRing(radius, 1), centre.X, centre.Y), movedTo(squareRing(radius), centre.X, centre.Y)
				wantPieces(t, "a square ring", impl.HolesOf(ring), []spots{hole})
			}
		}
	}
	if hole := impl.HolesOf(cornerRing(15))[0]; len(hole) != 14*14+15*15 {
		t.Fatalf("the greatest hole has %d spots", len(hole))
	}
}

// insideRing is all spots within a ring.
func insideRing(radius, way int) spots {
	set := map[impl.Spot]bool{}
	for _, a := range block(-radius, -radius, 2*radius+1, (2*radius+1)*(2*radius+1)) {
		set[a] = stepsBetween(a, at(0, 0), way) < radius
	}
	return pictureOf(set)
}

func TestHolesOfPicturesThatAreFarApart(t *testing.T) {
	for _, p := range []spots{
		pic(-30, -30, 30, 30), pic(30, -30, -30, 30), pic(-30, -30, 30, -30, -30, 30, 30, 30), spread(), row(-30, 30, 60), column(-30, -30, 60), pic(-30, 0, 30, 0), pic(0, -30, 0, 30),
		row(-30, -30, 1), together(row(-30, -30, 20), row(-30, 30, 20), column(30, -30, 20)), pic(0, -30, -30, 0, 30, 0, 0, 30),
	} {
		wantPieces(t, "without holes", impl.HolesOf(p), nil)
		got, ok := impl.FilledOf(p)
		wantTold(t, "filled, without holes", got, ok, p)
	}
	a, b := movedTo(squareRing(1), -29, -29), movedTo(squareRing(1), 29, 29)
	wantPieces(t, "two rings, far apart", impl.HolesOf(together(a, b)), []spots{pic(-29, -29), pic(29, 29)})
	wantPieces(t, "two rings, far apart, and one in the middle", impl.HolesOf(together(a, b, cornerRing(2))), []spots{pic(-29, -29), insideRing(2, 0), pic(29, 29)})
	wantPieces(t, "a ring beside the end", impl.HolesOf(together(a, pic(30, 30))), []spots{pic(-29, -29)})
}

// Promise 34.

// checkFilled holds a filled picture against sets, and against the promise 34.
func checkFilled(t *testing.T, p spots) {
	t.Helper()
	want := together(append(holesSet(p), p)...)
	got, ok := impl.FilledOf(p)
	wantIfTold(t, "filled", got, ok, want, len(want) <= 60)
	if !ok {
		return
	}
	least, greatest, isBox := impl.BoxOf(p)
	low, high, stays := impl.BoxOf(got)
	if !impl.WithinOk(p, got) || low != least || high != greatest || stays != isBox {
		t.Fatalf("%v filled is %v", p, got)
	}
	if holes := impl.HolesOf(got); len(holes) != 0 {
		t.Fatalf("%v filled is %v, with the holes %v", p, got, holes)
	}
	if before, after := impl.CountPieces(p, true), impl.CountPieces(got, true); after > before {
		t.Fatalf("%v, of %d pieces, filled is %v, of %d", p, before, got, after)
	}
	again, ok := impl.FilledOf(got)
	wantTold(t, "filled again", again, ok, got)
}

func TestFilledPicturesHaveAtMostSixtySpots(t *testing.T) {
	full, more := block(-5, -3, 10, 60), block(-5, -3, 10, 61)
	for _, c := range []struct {
		what string
		p    spots
		want int
	}{
		{"60 spots, without a hole", full, 60},
		{"59 spots and a hole of 1", without(full, pic(0, 0), 1), 60},
		{"58 spots and a hole of 2", without(full, pic(0, 0, 1, 0), 1), 60},
		{"58 spots and two holes", without(full, pic(0, 0, 2, 0), 1), 60},
		{"56 spots and four holes", without(full, pic(-3, -1, 2, -1, -3, 1, 2, 1), 1), 60},
		{"60 spots and a hole of 1", without(more, pic(0, 0), 1), -1},
		{"59 spots and two holes of 1", without(more, pic(0, 0, 2, 0), 1), -1},
		{"59 spots and a hole of 2", without(more, pic(0, 0, 1, 0), 1), -1},
		{"59 spots and a bay", without(full, pic(0, -3), 1), 59},
		{"16 spots and 25", cornerRing(4), 41},
		{"20 spots and 41", cornerRing(5), -1},
		{"19 spots and a gap", cornerRing(5)[1:], 19},
		{"24 spots and 25", squareRing(3), 49},
		{"32 spots and 49", squareRing(4), -1},
		{"60 spots and a hole of 421", cornerRing(15), -1},
		{"59 spots of the greatest ring", cornerRing(15)[:59], 59},
		{"24 and 8 spots, 16 and 1", together(squareRing(1), squareRing(3)), 49},
		{"two rings of 24", together(movedTo(squareRing(3), -27, 27), movedTo(squareRing(3), 27, -27)), -1},
		{"a ring of 24, and 11 alone", together(movedTo(squareRing(3), 0, 10), row(-30, -30, 11)), 60},
		{"a ring of 24, and 12 alone", together(movedTo(squareRing(3), 0, 10), row(-30, -30, 12)), -1},
	} {
		checkHoles(t, c.p)
		checkFilled(t, c.p)
		got, ok := impl.FilledOf(c.p)
		if c.want < 0 {
			wantNone(t, c.what, got, ok)
		} else if !ok || len(got) != c.want {
			t.Fatalf("%s: %d spots, %v", c.what, len(got), ok)
		}
	}
}

func TestFilledRingsAreBalls(t *testing.T) {
	for way := range 2 {
		for radius := 1; radius <= impl.MaxRadius; radius++ {
			for _, centre := range pic(0, 0, 30-radius, radius-30, radius-30, 30-radius) {
				want, _ := impl.MovedBy(impl.BallOf(radius, way), centre)
				got, ok := impl.FilledOf(movedTo(ringIn(radius, way), centre.X, centre.Y))
				wantTold(t, "a filled ring", got, ok, want)
			}
		}
	}
}

// The general rules: arguments are not written to, results are new, and nothing is kept from call to call.

// checkLists is checkMemory for calls that lead to several pictures, which must not share memory with one another either.
func checkLists(t *testing.T, what string, call func(p spots) []spots, p spots) {
	t.Helper()
	want := call(p)
	for i := range want {
		want[i] = slices.Clone(want[i])
	}
	for i := range len(want) + 1 {
		checkMemory(t, what, func(args []spots) spots {
			// The last call is for the argument alone, where there is nothing to return.
			return slices.Concat(call(args[0]), []spots{nil})[i]
		}, p)
	}
	for i := range want {
		list := call(p)
		scribble(list[i])
		for j := range list {
			if j != i && !same(list[j], want[j]) {
				t.Fatalf("%s of %v: what is written to %d changes %d: %v", what, p, i, j, list)
			}
		}
		list = list[:cap(list)]
		clear(list)
		wantPieces(t, what+", once more", call(p), want)
	}
}

func TestReachedPicturesShareNoMemory(t *testing.T) {
	pictures := append(ringPictures()[:24], nil, spots{}, pic(0, 0), pic(0, 0, 5, 5), block(0, 0, 10, 60), spread(), cornerRing(15), block(-1, -1, 3, 9))
	pictures = append(pictures, scattered(6, 3)...)
	for _, bad := range invalid() {
		pictures = append(pictures, bad)
	}
	for _, p := range pictures {
		for _, eight := range []bool{false, true} {
			reached := func(args []spots) spots {
				got, _ := impl.ReachedOf(args[0], args[1], eight)
				return got
			}
			for _, mark := range []spots{nil, {}, p, p[:len(p)/2], p[len(p)/2:], pic(0, 0), pic(0, 0, 0, 0), pic(31, 0)} {
				checkMemory(t, "ReachedOf", reached, p, mark)
			}
			checkMemory(t, "CountPieces", func(args []spots) spots { return pic(impl.CountPieces(args[0], eight), 0) }, p)
			checkLists(t, "PiecesOf", func(p spots) []spots { return impl.PiecesOf(p, eight) }, p)
		}
		checkLists(t, "HolesOf", impl.HolesOf, p)
		checkMemory(t, "FilledOf", func(args []spots) spots {
			got, _ := impl.FilledOf(args[0])
			return got
		}, p)
	}
}

func TestMarksThatArePartsOfThePicture(t *testing.T) {
	for _, p := range append(scattered(12, 3), ringPictures()[:12]...) {
		backing := append(slices.Clone(p), p...)
		for from := range p {
			for _, mark := range []spots{backing[from:len(p)], slices.Clip(backing[from:len(p)]), backing[:from], backing[len(p) : len(p)+from]} {
				checkReached(t, backing[:len(p)], mark)
				if !same(backing[:len(p)], p) || !same(backing[len(p):], p) {
					t.Fatalf("%v from %v changes: %v", p, mark, backing)
				}
			}
		}
		got, ok := impl.ReachedOf(backing[:len(p)], backing[:len(p)], true)
		wantTold(t, "from itself", got, ok, p)
		scribble(got)
		wantPicture(t, "from itself", backing[:len(p)], p)
	}
}
