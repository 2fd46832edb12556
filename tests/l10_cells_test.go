package tests

import (
	"slices"
	"testing"

	"loop.example/growingpictures/impl"
)

// cellCounts is what is counted of the cells of a picture.
type cellCounts struct {
	corners, border, sides, euler, one, touching, three int
}

// grid is which cells are there, n in the place 32 + n, with room for others around them.
type grid [65][65]bool

func (g *grid) has(x, y int) bool {
	return g[32+y][32+x]
}

// cellsIn counts how many of some cells are there.
func cellsIn(list ...bool) int {
	n := 0
	for _, in := range list {
		if in {
			n++
		}
	}
	return n
}

// scanned goes over all corners and sides of the box, apart from the program's way, which goes over the cells. Nothing is said of euler.
func scanned(p spots) cellCounts {
	var n cellCounts
	if len(p) == 0 {
		return n
	}
	var g grid
	for _, a := range p {
		g[32+a.Y][32+a.X] = true
	}
	least, greatest := cornersOf(p)
	for y := least.Y; y <= greatest.Y+1; y++ {
		for x := least.X; x <= greatest.X+1; x++ {
			n.scanSides(cellsIn(g.has(x, y), g.has(x-1, y)))
			n.scanSides(cellsIn(g.has(x, y), g.has(x, y-1)))
			n.scanCorner(g.has(x-1, y-1), g.has(x, y-1), g.has(x-1, y), g.has(x, y))
		}
	}
	return n
}

func (n *cellCounts) scanSides(cells int) {
	n.sides += min(1, cells)
	if cells == 1 {
		n.border++
	}
}

func (n *cellCounts) scanCorner(downLeft, downRight, upLeft, upRight bool) {
	cells := cellsIn(downLeft, downRight, upLeft, upRight)
	n.corners += min(1, cells)
	switch {
	case cells == 1:
		n.one++
	case cells == 2 && downLeft == upRight:
		n.touching++
	case cells == 3:
		n.three++
	}
}

// told is all counts that the program tells of a picture.
func told(t *testing.T, p spots) cellCounts {
	t.Helper()
	n := cellCounts{corners: impl.CornersOf(p), border: impl.BorderSides(p), sides: impl.SidesOf(p)}
	var eulerOk, quadsOk bool
	n.euler, eulerOk = impl.EulerOf(p)
	n.one, n.touching, n.three, quadsOk = impl.QuadsOf(p)
	if !eulerOk || !quadsOk {
		t.Fatalf("%v is refused: %v %v", p, eulerOk, quadsOk)
	}
	return n
}

// mirrored is the picture seen from behind: right is left.
func mirrored(p spots) spots {
	set := map[impl.Spot]bool{}
	for _, a := range p {
		set[at(-a.X, a.Y)] = true
	}
	return pictureOf(set)
}

// allTurns is a picture in all eight ways in which it may be turned and mirrored.
func allTurns(p spots) []spots {
	var list []spots
	for _, q := range []spots{p, overSet(p)} {
		list = append(list, q, mirrored(q), turnedSet(q), turnedSet(mirrored(q)))
	}
	return list
}

func wantCells(t *testing.T, what string, p spots, want cellCounts) {
	t.Helper()
	if got := told(t, p); got != want {
		t.Fatalf("%s, %v: got %+v, want %+v", what, p, got, want)
	}
}

// wantAllTurns holds the counts in all eight ways, where the picture is and at the ends.
func wantAllTurns(t *testing.T, what string, p spots, want cellCounts) {
	t.Helper()
	for _, q := range allTurns(p) {
		wantCells(t, what, q, want)
		for _, moved := range atEnds(q) {
			wantCells(t, what+", moved", moved, want)
		}
	}
}

// cellPictures is pictures of all kinds: pieces that touch and do not, with and without holes, at the ends, with many spots and with few.
func cellPictures() []spots {
	list := slices.Concat(reachPictures(), rowPictures(), touchingSquares(), slopePictures())
	for _, p := range slices.Concat(ringPictures()[:18], gridPictures(), scattered(20, 4), lackingPictures()[:60]) {
		list = append(list, atEnds(p)...)
	}
	return list
}

// eachSmallPicture visits all pictures of twelve spots, in the middle and at the ends, and all of sixteen.
func eachSmallPicture(visit func(p spots)) {
	for _, corner := range pic(-1, -1, -30, -30, 28, 27, -30, 27, 28, -30) {
		for _, p := range subsetsOf(block(corner.X, corner.Y, 3, 12)) {
			visit(p)
		}
	}
	for _, p := range subsetsOf(block(-2, -2, 4, 16)) {
		visit(p)
	}
}

// fewCells is rows, the lowest one first, and their counts: corners, border, sides, euler, and the corners of one cell, of two that touch only there, and of three.
func fewCells() map[string]cellCounts {
	return map[string]cellCounts{
		"":                    {0, 0, 0, 0, 0, 0, 0},
		"#":                   {4, 4, 4, 1, 4, 0, 0},
		"##":                  {6, 6, 7, 1, 4, 0, 0},
		"###":                 {8, 8, 10, 1, 4, 0, 0},
		"#.#":                 {8, 8, 8, 2, 8, 0, 0},
		"#. .#":               {7, 8, 8, 1, 6, 1, 0},
		".# #.":               {7, 8, 8, 1, 6, 1, 0},
		"## #.":               {8, 8, 10, 1, 5, 0, 1},
		"## ##":               {9, 8, 12, 1, 4, 0, 0},
		"#.. ..#":             {8, 8, 8, 2, 8, 0, 0},
		"##. ..#":             {9, 10, 11, 1, 6, 1, 0},
		"##. .##":             {10, 10, 13, 1, 6, 0, 2},
		"### ###":             {12, 10, 17, 1, 4, 0, 0},
		"### .#.":             {10, 10, 13, 1, 6, 0, 2},
		".#. ### .#.":         {12, 12, 16, 1, 8, 0, 4},
		"#.# .#. #.#":         {16, 20, 20, 1, 12, 4, 0},
		"#.. .#. ..#":         {10, 12, 12, 1, 8, 2, 0},
		"##.. ##.. ..## ..##": {17, 16, 24, 1, 6, 1, 0},
		"### ### ###":         {16, 12, 24, 1, 4, 0, 0},
		"### #.# ###":         {16, 16, 24, 0, 4, 0, 4},
		"### #.. ###":         {16, 16, 22, 1, 6, 0, 2},
		".## #.# ###":         {15, 16, 22, 0, 5, 1, 3},
		".## #.# ##.":         {14, 16, 20, 0, 6, 2, 2},
		".#. #.# ###":         {14, 16, 20, 0, 6, 2, 2},
		".#. #.# .#.":         {12, 16, 16, 0, 8, 4, 0},
		".#. #.# ...":         {10, 12, 12, 1, 8, 2, 0},
		"#### #..# ####":      {20, 20, 30, 0, 4, 0, 4},
		"##### #.#.# #####":   {24, 24, 38, -1, 4, 0, 8},
		// Holes touch at a corner: there, two cells do so too.
		"#### #.## ##.# ####": {25, 24, 40, -1, 4, 1, 6},
		// A hole touches what is outside at a corner alone: open there, but not for four neighbours.
		".#### #...# #...# #...# #####":                           {31, 32, 46, 0, 5, 1, 3},
		"..### #...# #...# #...# #####":                           {30, 30, 43, 1, 7, 0, 3},
		"##### #...# #.#.# #...# #####":                           {36, 36, 52, 1, 8, 0, 4},
		"##### #..## #.### #...# #####":                           {36, 34, 55, 0, 6, 0, 6},
		"..#.. .#.#. #...# .#.#. ..#..":                           {24, 32, 32, 0, 16, 8, 0},
		"..#.. .#.#. #.#.# .#.#. ..#..":                           {24, 36, 36, -3, 12, 12, 0},
		"####### #.....# #.###.# #.#.#.# #.###.# #.....# #######": {64, 64, 96, 0, 8, 0, 8},
		"####### #.....# #.###.# #.###.# #.###.# #.....# #######": {64, 60, 96, 1, 8, 0, 4},
		"###.### #.#.#.# ###.###":                                 {32, 32, 48, 0, 8, 0, 8},
		"###.. #.#.. ##### ..#.# ..###":                           {28, 28, 44, -1, 6, 0, 10},
		"###... #.#... ###... ...### ...#.# ...###":               {31, 32, 48, -1, 6, 1, 8},
	}
}

func TestAFewPicturesOfCells(t *testing.T) {
	for rows, want := range fewCells() {
		wantAllTurns(t, rows, drawn(rows), want)
		// Two far apart have all counts twice.
		p := drawn(rows)
		twice := together(movedTo(p, -20, -17), movedTo(p, 19, 3))
		n := cellCounts{2 * want.corners, 2 * want.border, 2 * want.sides, 2 * want.euler, 2 * want.one, 2 * want.touching, 2 * want.three}
		if len(twice) <= impl.MaxSpots {
			wantAllTurns(t, rows+", twice", twice, n)
		}
	}
}

func TestCellsOfManySpots(t *testing.T) {
	var slope, board, lone spots
	for i := range 60 {
		slope = append(slope, at(i-30, i-30))
		board = append(board, at(i%10*2+i/10%2, i/10))
		lone = append(lone, at(2*(i%10)-30, 2*(i/10)-30))
	}
	for _, c := range []struct {
		what string
		p    spots
		want cellCounts
	}{
		{"60 in a block", block(0, 0, 10, 60), cellCounts{77, 32, 136, 1, 4, 0, 0}},
		{"59 in a block", block(0, 0, 10, 59), cellCounts{76, 32, 134, 1, 5, 0, 1}},
		{"60 in a row", row(-30, 0, 60), cellCounts{122, 122, 181, 1, 4, 0, 0}},
		{"60 in two rows", block(-15, 0, 30, 60), cellCounts{93, 64, 152, 1, 4, 0, 0}},
		{"60 alone", lone, cellCounts{240, 240, 240, 60, 240, 0, 0}},
		{"60 far apart", spread(), cellCounts{240, 240, 240, 60, 240, 0, 0}},
		{"60 on a slope", slope, cellCounts{181, 240, 240, 1, 122, 59, 0}},
		{"59 on a slope, with a gap", without(slope, slope[20:21], 1), cellCounts{179, 236, 236, 2, 122, 57, 0}},
		{"60 of a board", board, cellCounts{145, 240, 240, -35, 50, 95, 0}},
		{"a ring at corners alone", cornerRing(15), cellCounts{180, 240, 240, 0, 120, 60, 0}},
		{"a ring at corners alone, with a gap", cornerRing(15)[1:], cellCounts{178, 236, 236, 1, 120, 58, 0}},
		{"a square ring", squareRing(7), cellCounts{112, 112, 168, 0, 4, 0, 4}},
		{"a square ring without a corner", squareRing(7)[1:], cellCounts{111, 112, 166, 0, 5, 1, 3}},
		{"rings within rings", together(squareRing(1), squareRing(3), pic(-10, 0)), cellCounts{68, 68, 100, 1, 12, 0, 8}},
		{"rings at corners alone, within rings", together(cornerRing(1), cornerRing(4), cornerRing(8)), cellCounts{156, 208, 208, 0, 104, 52, 0}},
		{"rings at corners alone, that touch", together(cornerRing(1), cornerRing(3), cornerRing(5)), cellCounts{84, 144, 144, -24, 24, 60, 0}},
	} {
		if len(c.p) > impl.MaxSpots {
			t.Fatalf("%s: %d spots", c.what, len(c.p))
		}
		wantAllTurns(t, c.what, c.p, c.want)
	}
}

func TestCellsOfRings(t *testing.T) {
	for radius := 1; radius <= 15; radius++ {
		wantAllTurns(t, "a ring at corners alone", cornerRing(radius), cellCounts{12 * radius, 16 * radius, 16 * radius, 0, 8 * radius, 4 * radius, 0})
		if radius <= 7 {
			wantAllTurns(t, "a square ring", squareRing(radius), cellCounts{16 * radius, 16 * radius, 24 * radius, 0, 4, 0, 4})
		}
	}
}

func TestCellsOfBlocks(t *testing.T) {
	for wide := 1; wide <= 61; wide++ {
		for high := 1; wide*high <= 60 && high <= 61; high++ {
			p := block(-30, -30, wide, wide*high)
			want := cellCounts{(wide + 1) * (high + 1), 2 * (wide + high), wide*(high+1) + high*(wide+1), 1, 4, 0, 0}
			wantCells(t, "a block", p, want)
			for _, moved := range atEnds(p) {
				wantCells(t, "a block, moved", moved, want)
			}
		}
	}
}

func TestCellsOfTheEmptyPicture(t *testing.T) {
	for _, none := range []spots{nil, {}, make(spots, 0, 9), pic(0, 0)[:0], pic(99, 99)[:0]} {
		wantCells(t, "none", none, cellCounts{})
	}
}

func TestCellsOfOneSpot(t *testing.T) {
	for _, a := range block(-30, -30, 61, 61*61) {
		wantCells(t, "one spot", spots{a}, cellCounts{4, 4, 4, 1, 4, 0, 0})
	}
}

func TestCellsOfTwoSpots(t *testing.T) {
	apart := cellCounts{8, 8, 8, 2, 8, 0, 0}
	for _, a := range endSpots() {
		for _, b := range block(-30, -30, 61, 61*61) {
			want := apart
			switch stepsBetween(a, b, 0) {
			case 0:
				continue
			case 1:
				want = cellCounts{6, 6, 7, 1, 4, 0, 0}
			case 2:
				if stepsBetween(a, b, 1) == 1 {
					want = cellCounts{7, 8, 8, 1, 6, 1, 0}
				}
			}
			wantCells(t, "two spots", pictureOf(setOf(spots{a, b})), want)
		}
	}
}

func TestInvalidPicturesHaveNoCells(t *testing.T) {
	bad := invalid()
	for _, far := range farSpots() {
		name := decimal(far.X) + " and " + decimal(far.Y)
		bad[name] = spots{far}
		bad[name+" behind others"] = append(block(0, 0, 3, 9), far)
		bad[name+" before others"] = append(spots{far}, block(0, 0, 3, 9)...)
	}
	for what, p := range bad {
		if corners, border, sides := impl.CornersOf(p), impl.BorderSides(p), impl.SidesOf(p); corners != -1 || border != -1 || sides != -1 {
			t.Fatalf("%s: %d corners, %d border, %d sides", what, corners, border, sides)
		}
		if n, ok := impl.EulerOf(p); ok || n != 0 {
			t.Fatalf("%s: euler %d %v", what, n, ok)
		}
		if one, touching, three, ok := impl.QuadsOf(p); ok || one != -1 || touching != -1 || three != -1 {
			t.Fatalf("%s: quads %d %d %d %v", what, one, touching, three, ok)
		}
	}
}

// Promise 45.

// checkCorners holds the corners against a scan, and against the promise 45. It reports whether the sum is told.
func checkCorners(t *testing.T, p spots) bool {
	t.Helper()
	got := impl.CornersOf(p)
	if want := scanned(p).corners; got != want || got > 4*len(p) {
		t.Fatalf("%v has %d corners, want %d", p, got, want)
	}
	sum, ok := impl.SumOf(p, impl.SquareOf(2))
	if ok && got != len(sum) {
		t.Fatalf("%v has %d corners, and the sum %d spots", p, got, len(sum))
	}
	return ok
}

func TestCornersAreTheSumWithASquare(t *testing.T) {
	isTold, tooMany, tooFar := 0, 0, 0
	for _, p := range cellPictures() {
		switch {
		case checkCorners(t, p):
			isTold++
		case impl.CornersOf(p) > impl.MaxSpots:
			tooMany++
		default:
			tooFar++
		}
	}
	if isTold < 500 || tooMany < 200 || tooFar < 100 {
		t.Fatalf("only %d sums are told, %d not for many corners, %d for far ones", isTold, tooMany, tooFar)
	}
	eachSmallPicture(func(p spots) { checkCorners(t, p) })
}

func TestCornersWhereTheSumIsTooFarOrTooGreat(t *testing.T) {
	for _, c := range []struct {
		what string
		p    spots
		want int
	}{
		{"at the right end", pic(30, 0), 4},
		{"at the upper end", pic(0, 30), 4},
		{"in the corner", pic(29, 29, 30, 29, 29, 30, 30, 30), 9},
		{"in all corners", pic(-30, -30, 30, -30, -30, 30, 30, 30), 16},
		{"60 corners", block(0, 0, 14, 42), 60},
		{"61 corners", together(block(0, 0, 11, 44), pic(11, 4)), 63},
		{"62 corners", block(0, 0, 30, 30), 62},
		{"a row from end to end, but one", row(-30, 30, 60), 122},
		{"15 alone", spread()[:15], 60},
		{"16 alone", spread()[:16], 64},
	} {
		if got := impl.CornersOf(c.p); got != c.want {
			t.Fatalf("%s: %d corners, want %d", c.what, got, c.want)
		}
		checkCorners(t, c.p)
	}
}

// Promise 46.

// checkBorder holds the border against a scan, and against the promise 46. It returns by how much it is greater than that of the filled picture, and whether this is told.
func checkBorder(t *testing.T, p spots) (int, bool) {
	t.Helper()
	got := impl.BorderSides(p)
	if want := scanned(p).border; got != want || got%2 != 0 {
		t.Fatalf("%v has a border of %d sides, want %d", p, got, want)
	}
	for _, q := range []spots{impl.TurnedOf(p), impl.OverOf(p)} {
		if n := impl.BorderSides(q); n != got {
			t.Fatalf("%v has a border of %d sides, and turned, as %v, of %d", p, got, q, n)
		}
	}
	filled, ok := impl.BothFilled(p)
	if !ok || impl.CountPieces(p, false) != 1 {
		return 0, false
	}
	// A filled picture of one piece has as much border as its box.
	least, greatest := cornersOf(p)
	n := impl.BorderSides(filled)
	if n > got || n != 2*(greatest.X-least.X+1+greatest.Y-least.Y+1) {
		t.Fatalf("%v has a border of %d sides, and filled, as %v, of %d", p, got, filled, n)
	}
	return got - n, true
}

func TestBordersAreEven(t *testing.T) {
	equal, less, not := 0, 0, 0
	for _, p := range cellPictures() {
		more, ok := checkBorder(t, p)
		switch {
		case !ok:
			not++
		case more > 0:
			less++
		default:
			equal++
		}
	}
	if equal < 200 || less < 150 || not < 500 {
		t.Fatalf("only %d filled pictures of one piece have an equal border, %d less, and %d are not told", equal, less, not)
	}
	eachSmallPicture(func(p spots) {
		if got := impl.BorderSides(p); got%2 != 0 || got != scanned(p).border {
			t.Fatalf("%v has a border of %d sides", p, got)
		}
	})
	for _, p := range subsetsOf(block(-2, -1, 4, 12)) {
		checkBorder(t, p)
	}
}

// TestBordersOfFilledPictures holds the promise at pictures of one piece for which filled rows and columns are told, and at others of which the border may be less than filled, or for which they are not told.
func TestBordersOfFilledPictures(t *testing.T) {
	for _, c := range []struct {
		what         string
		p            spots
		before, then int
	}{
		{"a ring", squareRing(1), 16, 12},
		{"the greatest ring that is told", squareRing(3), 48, 28},
		{"a ring that is not told", squareRing(7), 112, -1},
		{"a hook", drawn("### #.. ###"), 16, 12},
		{"a comb", drawn("####### #.#.#.#"), 24, 18},
		{"a corner of long rows", together(row(-30, -30, 30), column(-30, -30, 30)), 120, 120},
		{"long rows around a place that is filled", together(row(0, 0, 20), column(0, 0, 3), column(19, 0, 3)), 50, 46},
		{"long rows around one that is too great", together(row(0, 0, 20), column(0, 0, 4), column(19, 0, 4)), 54, -1},
		{"two in a row, apart", pic(-3, 0, 3, 0), 8, 16},
		{"two at the ends of a row", pic(-30, 0, 30, 0), 8, -1},
		{"two in a column, apart", pic(0, 0, 0, 2), 8, 8},
		{"four corners", pic(-3, -3, 3, -3, -3, 3, 3, 3), 16, 28},
		{"four corners of the plane", pic(-30, -30, 30, -30, -30, 30, 30, 30), 16, -1},
		{"60 spots", block(0, 0, 10, 60), 32, 32},
		{"59 spots and a hole", without(block(0, 0, 10, 60), pic(4, 3), 1), 36, 32},
		{"58 spots and two bays", without(block(0, 0, 10, 60), pic(4, 0, 0, 3), 1), 36, 32},
		{"60 spots in a stair", stair(), 122, 122},
	} {
		if got := impl.BorderSides(c.p); got != c.before {
			t.Fatalf("%s: a border of %d sides, want %d", c.what, got, c.before)
		}
		filled, ok := impl.BothFilled(c.p)
		if ok != (c.then >= 0) || ok && impl.BorderSides(filled) != c.then {
			t.Fatalf("%s: filled %v, a border of %d sides, want %d", c.what, ok, impl.BorderSides(filled), c.then)
		}
		checkBorder(t, c.p)
	}
}

// stair is 60 spots, each beside the one before, by turns on the right and above.
func stair() spots {
	var p spots
	for i := range 60 {
		p = append(p, at(i/2+i%2-15, i/2-15))
	}
	return p
}

// Promise 47.

func checkSidesCounted(t *testing.T, p spots) {
	t.Helper()
	got := impl.SidesOf(p)
	if want := scanned(p).sides; got != want || 2*got != 4*len(p)+impl.BorderSides(p) {
		t.Fatalf("%v has %d sides, want %d, and a border of %d", p, got, want, impl.BorderSides(p))
	}
	if corners, pieces := impl.CornersOf(p), impl.CountPieces(p, true); got < corners-pieces {
		t.Fatalf("%v has %d sides, %d corners and %d pieces", p, got, corners, pieces)
	}
}

func TestTwiceAllSidesAreFourForEachCellAndTheBorder(t *testing.T) {
	for _, p := range cellPictures() {
		checkSidesCounted(t, p)
	}
	eachSmallPicture(func(p spots) { checkSidesCounted(t, p) })
}

func TestCellsBesideEachOtherShareOneSide(t *testing.T) {
	for n := 1; n <= 60; n++ {
		for _, p := range []spots{row(-30, 7, n), row(31-n, -30, n), column(-30, -30, n), column(4, 31-n, n), stair()[:n]} {
			if sides, border := impl.SidesOf(p), impl.BorderSides(p); sides != 3*n+1 || border != 2*n+2 {
				t.Fatalf("%v has %d sides, and a border of %d", p, sides, border)
			}
		}
		for _, p := range []spots{spread()[:n], cornerRing(15)[:n]} {
			if sides, border := impl.SidesOf(p), impl.BorderSides(p); sides != 4*n || border != 4*n {
				t.Fatalf("%v has %d sides, and a border of %d", p, sides, border)
			}
		}
	}
}

// Promise 48.

// checkEuler holds the number against pieces and holes, of sets and of the program, and against what it is counted from.
func checkEuler(t *testing.T, p spots) int {
	t.Helper()
	got, ok := impl.EulerOf(p)
	n := scanned(p)
	if want := len(piecesSet(p, true)) - len(holesSet(p)); !ok || got != want || got != n.corners-n.sides+len(p) {
		t.Fatalf("euler of %v: got %d %v, want %d, by counts %d", p, got, ok, want, n.corners-n.sides+len(p))
	}
	if want := impl.CountPieces(p, true) - len(impl.HolesOf(p)); got != want {
		t.Fatalf("euler of %v: got %d, but pieces less holes are %d", p, got, want)
	}
	if want := impl.CornersOf(p) - impl.SidesOf(p) + len(p); got != want {
		t.Fatalf("euler of %v: got %d, but corners less sides and cells more are %d", p, got, want)
	}
	return got
}

func TestPiecesLessHoles(t *testing.T) {
	less, none, more := 0, 0, 0
	for _, p := range cellPictures() {
		switch n := checkEuler(t, p); {
		case n < 0:
			less++
		case n == 0:
			none++
		case n > 1:
			more++
		}
	}
	if less < 100 || none < 100 || more < 200 {
		t.Fatalf("only %d numbers are less than 0, %d are 0, and %d are greater than 1", less, none, more)
	}
	for _, corner := range pic(-1, -1, 28, 27) {
		for _, p := range subsetsOf(block(corner.X, corner.Y, 3, 12)) {
			checkEuler(t, p)
		}
	}
}

// Promise 49.

func checkQuads(t *testing.T, p spots) {
	t.Helper()
	n := scanned(p)
	one, touching, three, ok := impl.QuadsOf(p)
	if !ok || one != n.one || touching != n.touching || three != n.three {
		t.Fatalf("quads of %v: got %d %d %d %v, want %+v", p, one, touching, three, ok, n)
	}
	if euler, ok := impl.EulerOf(p); !ok || one-three-2*touching != 4*euler {
		t.Fatalf("quads of %v: %d %d %d, and euler %d %v", p, one, touching, three, euler, ok)
	}
	if len(p) > 0 && one+2*touching < 4 {
		t.Fatalf("quads of %v: %d %d", p, one, touching)
	}
	if one+touching+three > impl.CornersOf(p) {
		t.Fatalf("quads of %v: %d %d %d, of %d corners", p, one, touching, three, impl.CornersOf(p))
	}
}

func TestCornersTellPiecesLessHoles(t *testing.T) {
	for _, p := range cellPictures() {
		checkQuads(t, p)
	}
	eachSmallPicture(func(p spots) { checkQuads(t, p) })
}

// TestAllSquaresOfTwoByTwo holds what each square of two by two has at its middle, as all around it is the same.
func TestAllSquaresOfTwoByTwo(t *testing.T) {
	square := block(4, -7, 2, 4)
	// The bits are those of the spots in order.
	around := map[int]cellCounts{0b0110: {touching: 1}, 0b1001: {touching: 1}}
	for _, three := range []int{0b0111, 0b1011, 0b1101, 0b1110} {
		around[three] = cellCounts{three: 1}
	}
	for _, one := range []int{0b0001, 0b0010, 0b0100, 0b1000} {
		around[one] = cellCounts{one: 1}
	}
	for bits, p := range subsetsOf(square) {
		// Far from the middle each cell has one corner of its own, and shares two others or has them alone.
		want := around[bits]
		want.one += len(p)
		in := setOf(p)
		for _, side := range [][2]impl.Spot{{square[0], square[1]}, {square[2], square[3]}, {square[0], square[2]}, {square[1], square[3]}} {
			if in[side[0]] != in[side[1]] {
				want.one++
			}
		}
		one, touching, three, ok := impl.QuadsOf(p)
		if !ok || one != want.one || touching != want.touching || three != want.three {
			t.Fatalf("%v: got %d %d %d %v, want %+v", p, one, touching, three, ok, want)
		}
	}
}

// The general rules: arguments are not written to, and the same argument is answered the same each time.

// answers puts all that is told of a picture into spots.
func answers(p spots) spots {
	euler, eulerOk := impl.EulerOf(p)
	one, touching, three, quadsOk := impl.QuadsOf(p)
	return pic(impl.CornersOf(p), impl.BorderSides(p), impl.SidesOf(p), euler, one, touching, three, cellsIn(eulerOk, quadsOk))
}

func TestCellsAreCountedTheSameEachTime(t *testing.T) {
	pictures := slices.Concat(ringPictures()[:24], gridPictures(), scattered(12, 3), scattered(12, 5), subsets(-1, 0), []spots{nil, {}, stair(), block(0, 0, 10, 60)})
	for _, bad := range invalid() {
		pictures = append(pictures, bad)
	}
	for _, p := range pictures {
		checkMemory(t, "the counts", func(args []spots) spots { return answers(args[0]) }, p)
		want := answers(p)
		for range 10 {
			wantPicture(t, "the counts, again", answers(slices.Clone(p)), want)
		}
	}
}

func TestCellsDoNotDependOnCapacity(t *testing.T) {
	for _, p := range append(scattered(6, 3), stair(), squareRing(3), cornerRing(5), block(-3, 0, 7, 60)) {
		for n := range len(p) {
			for _, q := range []spots{p[:n], slices.Clip(p[:n]), p[n:]} {
				checkCorners(t, q)
				checkBorder(t, q)
				checkSidesCounted(t, q)
				checkEuler(t, q)
				checkQuads(t, q)
			}
		}
	}
}
