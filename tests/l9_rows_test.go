package tests

import (
	"slices"
	"testing"

	"loop.example/growingpictures/impl"
)

// overSet is all spots of a picture with both numbers exchanged.
func overSet(p spots) spots {
	set := map[impl.Spot]bool{}
	for _, a := range p {
		set[at(a.Y, a.X)] = true
	}
	return pictureOf(set)
}

// plane is which spots of a box are there; with n in the place 30 + n.
type plane struct {
	least, greatest impl.Spot
	there           [61][61]bool
}

func planeOf(p spots) *plane {
	g := &plane{least: at(1, 1), greatest: at(0, 0)}
	if len(p) > 0 {
		g.least, g.greatest = cornersOf(p)
	}
	for _, a := range p {
		g.there[30+a.Y][30+a.X] = true
	}
	return g
}

// sees tells whether there is a spot at a or, by steps, behind it.
func (g *plane) sees(a, step impl.Spot) bool {
	for g.least.X <= a.X && a.X <= g.greatest.X && g.least.Y <= a.Y && a.Y <= g.greatest.Y {
		if g.there[30+a.Y][30+a.X] {
			return true
		}
		a = at(a.X+step.X, a.Y+step.Y)
	}
	return false
}

// fill puts each spot of the box that is between two by one of the steps, one spot after the other, until there is no other one.
func (g *plane) fill(steps ...impl.Spot) spots {
	for changed := true; changed; {
		changed = false
		for _, a := range g.box() {
			for _, step := range steps {
				if !g.there[30+a.Y][30+a.X] && g.sees(a, step) && g.sees(a, at(-step.X, -step.Y)) {
					g.there[30+a.Y][30+a.X], changed = true, true
				}
			}
		}
	}
	return slices.DeleteFunc(g.box(), func(a impl.Spot) bool { return !g.there[30+a.Y][30+a.X] })
}

func (g *plane) box() spots {
	wide, high := g.greatest.X-g.least.X+1, g.greatest.Y-g.least.Y+1
	return block(g.least.X, g.least.Y, max(wide, 1), wide*high)
}

func rowsSet(p spots) spots {
	return planeOf(p).fill(at(1, 0))
}

func columnsSet(p spots) spots {
	return planeOf(p).fill(at(0, 1))
}

func bothSet(p spots) spots {
	return planeOf(p).fill(at(1, 0), at(0, 1))
}

// isFilled looks at each two spots in one row or column, and at all spots between them.
func isFilled(p spots) bool {
	in := setOf(p)
	for _, a := range p {
		for _, b := range p {
			for x := a.X; a.Y == b.Y && x < b.X; x++ {
				if !in[at(x, a.Y)] {
					return false
				}
			}
			for y := a.Y; a.X == b.X && y < b.Y; y++ {
				if !in[at(a.X, y)] {
					return false
				}
			}
		}
	}
	return true
}

// turnsOf counts how often rows and then columns are filled by turns until nothing changes.
func turnsOf(p spots) int {
	turns := 0
	for next := columnsSet(rowsSet(p)); !same(next, p); next = columnsSet(rowsSet(p)) {
		p = next
		turns++
	}
	return turns
}

// chain is lone spots, but for two in the row 0: in each turn of filling a row comes across a column in which one more spot waits, and this column across the next row.
func chain(links int) spots {
	list := pic(0, 0)
	for i := range links {
		list = append(list, at(2*i+3, 2*i), at(2*i+2, 2*i+3))
	}
	return pictureOf(setOf(list))
}

// crossing is the ends of a row and of a column that have one spot in common, 0, 0, which is between them.
func crossing(left, right, down, up int) spots {
	return together(pic(-left, 0, right, 0), pic(0, -down, 0, up))
}

// slopePictures is spots of which no two are in one row or column, stairs, and both with a spot more or less.
func slopePictures() []spots {
	var list []spots
	for n := 1; n <= 12; n++ {
		var slope, stairs, steep spots
		for i := range n {
			slope = append(slope, at(i-3, i-2))
			stairs = append(stairs, at(i, i), at(i+1, i))
			steep = append(steep, at(-i, 2*i), at(-i, 2*i+1), at(-i, 2*i+2))
		}
		for _, p := range []spots{slope, stairs, pictureOf(setOf(steep))} {
			list = append(list, p, impl.TurnedOf(p), overSet(p), without(p, p[len(p)/2:], len(p)), together(p, pic(5, -2)))
		}
	}
	return list
}

// rowPictures is pictures of all kinds, of which many are told if they are filled, and many are not.
func rowPictures() []spots {
	list := slices.Concat(slopePictures(), ringPictures(), gridPictures(), samplePictures(), ballPictures(), lackingPictures(), scattered(60, 3), scattered(60, 4), scattered(12, 6))
	for _, p := range scattered(60, 9) {
		for _, each := range []int{4, 7, 12} {
			list = append(list, without(p, without(p, p, each), 1))
		}
	}
	for links := range 14 {
		p := chain(links)
		list = append(list, p, impl.TurnedOf(p), overSet(p), impl.TurnedOf(overSet(p)), together(p, pic(30, 30)), together(p, pic(0, 30)))
	}
	for far := range 31 {
		list = append(list, crossing(15, 15, 14, far), crossing(far, 14, 15, 15), crossing(far, far, far, far), crossing(0, far, 0, 30), crossing(far, 30, far, 0))
	}
	return list
}

// fillings is with filled rows, with filled columns, and with both.
func fillings() []func([]impl.Spot) ([]impl.Spot, bool) {
	return []func([]impl.Spot) ([]impl.Spot, bool){impl.RowsFilled, impl.ColumnsFilled, impl.BothFilled}
}

// Promise 40.

func checkOver(t *testing.T, p spots) {
	t.Helper()
	over := impl.OverOf(p)
	wantPicture(t, "exchanged", over, overSet(p))
	if !impl.PictureOk(over) || len(over) != len(p) {
		t.Fatalf("%v exchanged is %v", p, over)
	}
	wantPicture(t, "exchanged twice", impl.OverOf(over), p)
}

func TestExchangedTwiceItIsAsBefore(t *testing.T) {
	for _, p := range append(rowPictures(), sizePictures()...) {
		checkOver(t, p)
	}
	for _, corner := range pic(0, 0, -1, -1, -30, -30, 28, 29, -30, 29, 28, -30) {
		for _, p := range subsets(corner.X, corner.Y) {
			checkOver(t, p)
		}
	}
	for y := -30; y <= 30; y++ {
		for x := -30; x <= 30; x++ {
			wantPicture(t, "one spot exchanged", impl.OverOf(pic(x, y)), pic(y, x))
		}
	}
}

func TestAFewAreExchanged(t *testing.T) {
	for _, c := range []struct {
		what    string
		p, want spots
	}{
		{"no spots", nil, nil},
		{"an empty slice", spots{}, nil},
		{"a row", row(-30, 5, 60), column(5, -30, 60)},
		{"a column", column(30, -29, 60), row(-29, 30, 60)},
		{"a block", block(0, -2, 10, 60), block(-2, 0, 6, 60)},
		{"a slope", pic(-30, -30, 0, 0, 30, 30), pic(-30, -30, 0, 0, 30, 30)},
		{"another slope", pic(30, -30, 0, 0, -30, 30), pic(30, -30, 0, 0, -30, 30)},
		{"three in a corner", pic(0, 0, 1, 0, 0, 2), pic(0, 0, 2, 0, 0, 1)},
		{"three that change their order", pic(2, 0, 1, 1, 0, 5), pic(5, 0, 1, 1, 0, 2)},
		{"corners", pic(-30, -30, 30, -30, -30, 29), pic(-30, -30, 29, -30, -30, 30)},
	} {
		wantPicture(t, c.what, impl.OverOf(c.p), c.want)
		wantPicture(t, c.what+", back", impl.OverOf(c.want), c.p)
	}
}

// Promise 41.

// checkRows holds filled rows against a plane, and against the promise 41.
func checkRows(t *testing.T, p spots) {
	t.Helper()
	want := rowsSet(p)
	got, ok := impl.RowsFilled(p)
	wantIfTold(t, "rows filled", got, ok, want, len(want) <= 60)
	if !ok {
		return
	}
	least, greatest, isBox := impl.BoxOf(p)
	low, high, stays := impl.BoxOf(got)
	if !impl.PictureOk(got) || !impl.WithinOk(p, got) || low != least || high != greatest || stays != isBox {
		t.Fatalf("%v with filled rows is %v", p, got)
	}
	again, ok := impl.RowsFilled(got)
	wantTold(t, "rows filled again", again, ok, got)
	for _, a := range got {
		left := slices.ContainsFunc(p, func(b impl.Spot) bool { return b.Y == a.Y && b.X <= a.X })
		right := slices.ContainsFunc(p, func(b impl.Spot) bool { return b.Y == a.Y && b.X >= a.X })
		if !left || !right {
			t.Fatalf("%v with filled rows is %v, with %v", p, got, a)
		}
	}
}

// wantFilled takes how many spots there are with filled rows, with filled columns, and with both; -1 if that is not told.
func wantFilled(t *testing.T, what string, p spots, rows, columns, both int) {
	t.Helper()
	checkRows(t, p)
	checkColumns(t, p)
	checkBoth(t, p)
	counts := [3]int{-1, -1, -1}
	for i, fill := range fillings() {
		if got, ok := fill(p); ok {
			counts[i] = len(got)
		}
	}
	if counts != [3]int{rows, columns, both} {
		t.Fatalf("%s: %v spots, want %d, %d and %d", what, counts, rows, columns, both)
	}
}

func TestFilledRowsStayFilled(t *testing.T) {
	told, more := 0, 0
	for _, p := range rowPictures() {
		checkRows(t, p)
		got, ok := impl.RowsFilled(p)
		if ok {
			told++
			more += min(1, len(got)-len(p))
		}
	}
	if told < 200 || more < 100 {
		t.Fatalf("only %d are told, and %d of them have more spots", told, more)
	}
}

func TestAllSmallPicturesAreFilled(t *testing.T) {
	for _, corner := range pic(-1, -1, -30, -30, 27, 28, -30, 28, 27, -30) {
		for _, p := range subsetsOf(block(corner.X, corner.Y, 4, 12)) {
			if len(p)%2 == 0 || corner == at(-1, -1) {
				checkRows(t, p)
				checkColumns(t, p)
				checkBoth(t, p)
				checkFilledOk(t, p)
			}
		}
	}
}

func TestAFewRowsAreFilled(t *testing.T) {
	for what, rows := range map[string]string{
		"two spots":                        "#+#",
		"two spots, far apart":             "#+++++++++#",
		"two spots beside each other":      "##",
		"three spots":                      "#+#++#",
		"three spots, two beside":          "##++#",
		"spots in the middle of a run":     "#+##+#+#",
		"rows that are not beside":         "#+# ... .#+#",
		"one spot in each row":             "#... .#.. ...# ..#.",
		"a spot that is alone in its row":  "#++# .#.. #+#.",
		"a higher row, further left":       "...#+# #++#.. .#+++#",
		"rows that end where others begin": "#++#... ...#++#",
		"a ring":                           "### #+# ###",
		"a bay on the right":               "### #.. ###",
		"a bay above":                      "#+# ###",
		"a chessboard":                     "#+#+# .#+#. #+#+#",
		"a column with a gap":              "# . #",
	} {
		want := shown(rows, func(sign rune) bool { return sign != '.' })
		p := drawn(rows)
		for _, far := range pic(0, 0, -20, 11, 24, -26) {
			got, ok := impl.RowsFilled(movedTo(p, far.X, far.Y))
			wantTold(t, what, got, ok, movedTo(want, far.X, far.Y))
			got, ok = impl.ColumnsFilled(overSet(movedTo(p, far.X, far.Y)))
			wantTold(t, what+", exchanged", got, ok, overSet(movedTo(want, far.X, far.Y)))
		}
		for _, moved := range atEnds(p) {
			checkRows(t, moved)
			checkColumns(t, moved)
			checkBoth(t, moved)
		}
	}
}

func TestFarApartInOneRow(t *testing.T) {
	for _, y := range []int{-30, -1, 0, 30} {
		for n := 2; n <= 61; n++ {
			for _, x := range []int{-30, 31 - n} {
				ends := pic(x, y, x+n-1, y)
				want := n
				if n > 60 {
					want = -1
				}
				wantFilled(t, "far apart in one row", ends, want, 2, want)
				wantFilled(t, "far apart in one column", overSet(ends), 2, want, want)
			}
		}
	}
	for n := 1; n <= 59; n++ {
		// Two rows that are not beside each other, and have no number in common.
		p := together(pic(-30, -7, n-31, -7), pic(n-30, 20, 29, 20))
		wantFilled(t, "two rows of 60 together", p, 60, len(p), 60)
		wantFilled(t, "two columns of 60 together", overSet(p), len(p), 60, 60)
		more := together(p, pic(30, 20))
		wantFilled(t, "two rows of 61 together", more, -1, len(more), -1)
		wantFilled(t, "two columns of 61 together", overSet(more), len(more), -1, -1)
	}
	for _, c := range []struct {
		what                string
		p                   spots
		rows, columns, both int
	}{
		{"60 with ends of a row, and one more", pic(-30, 0, 29, 0, 30, 1), -1, 3, -1},
		{"three in the longest row", pic(-30, 3, 0, 3, 30, 3), -1, 3, -1},
		{"60 in the longest row without one", without(row(-30, 3, 61), pic(7, 3), 1), -1, 60, -1},
		{"59 in a row without one", without(row(-30, -3, 60), pic(7, -3), 1), 60, 59, 60},
		{"60 in a row", row(-29, 30, 60), 60, 60, 60},
		{"ends of all rows", together(column(-30, -30, 30), column(30, -30, 30)), -1, 60, -1},
		{"four corners", pic(-30, -30, 30, -30, -30, 30, 30, 30), -1, -1, -1},
		{"two corners", pic(-30, -30, 30, 30), 2, 2, 2},
		{"two other corners", pic(30, -30, -30, 30), 2, 2, 2},
		{"three corners", pic(-30, -30, 30, -30, 30, 30), -1, -1, -1},
		{"60 far apart", spread(), -1, -1, -1},
	} {
		wantFilled(t, c.what, c.p, c.rows, c.columns, c.both)
		wantFilled(t, c.what+", exchanged", overSet(c.p), c.columns, c.rows, c.both)
	}
}

func TestSixtySpotsAreFilled(t *testing.T) {
	full, more := block(-5, -3, 10, 60), block(-5, -3, 10, 61)
	for _, c := range []struct {
		what                string
		p                   spots
		rows, columns, both int
	}{
		{"60 spots", full, 60, 60, 60},
		{"59 spots and one in the middle", without(full, pic(0, 0), 1), 60, 60, 60},
		{"50 spots and ten in the middle", without(full, pic(-2, -1, -1, -1, 0, -1, 1, -1, 2, -1, -2, 1, -1, 1, 0, 1, 1, 1, 2, 1), 1), 60, 60, 60},
		{"a bay above", without(full, pic(0, 2), 1), 60, 59, 60},
		{"a bay on the left", without(full, pic(-5, 0), 1), 59, 60, 60},
		{"bays on all sides", without(full, pic(0, 2, 0, -3, -5, 0, 4, 0), 1), 58, 58, 60},
		{"without a corner", without(full, pic(-5, -3), 1), 59, 59, 59},
		{"60 of 61 and one in the middle", without(more, pic(0, 0), 1), -1, -1, -1},
		{"60 of 61 and a bay above", without(more, pic(0, 2), 1), -1, 60, -1},
		{"60 of 61 and a bay on the left", without(more, pic(-5, 0), 1), 60, -1, -1},
		{"60 of 61 without a corner", without(more, pic(4, -3), 1), 60, 60, 60},
		{"59 of 61 and bays both ways", without(more, pic(0, 2, -5, 0), 1), 60, 60, -1},
	} {
		wantFilled(t, c.what, c.p, c.rows, c.columns, c.both)
		wantFilled(t, c.what+", exchanged", overSet(c.p), c.columns, c.rows, c.both)
		wantFilled(t, c.what+", turned", impl.TurnedOf(c.p), c.rows, c.columns, c.both)
		for _, moved := range atEnds(c.p) {
			wantFilled(t, c.what+", moved", moved, c.rows, c.columns, c.both)
		}
	}
}

// Promise 42.

// checkColumns holds filled columns against a plane, and against the promise 42.
func checkColumns(t *testing.T, p spots) {
	t.Helper()
	want := columnsSet(p)
	got, ok := impl.ColumnsFilled(p)
	wantIfTold(t, "columns filled", got, ok, want, len(want) <= 60)
	exchanged, isTold := impl.RowsFilled(impl.OverOf(p))
	wantIfTold(t, "columns filled", got, ok, impl.OverOf(exchanged), isTold)
	if !ok {
		return
	}
	if !impl.PictureOk(got) || !impl.WithinOk(p, got) {
		t.Fatalf("%v with filled columns is %v", p, got)
	}
	again, ok := impl.ColumnsFilled(got)
	wantTold(t, "columns filled again", again, ok, got)
}

func TestColumnsAreRowsExchanged(t *testing.T) {
	rowsAlone, columnsAlone := 0, 0
	for _, p := range rowPictures() {
		checkColumns(t, p)
		_, rows := impl.RowsFilled(p)
		_, columns := impl.ColumnsFilled(p)
		switch {
		case rows && !columns:
			rowsAlone++
		case columns && !rows:
			columnsAlone++
		}
	}
	if rowsAlone < 10 || columnsAlone < 10 {
		t.Fatalf("only %d are told with filled rows alone, %d with filled columns alone", rowsAlone, columnsAlone)
	}
}

// Promise 43.

// checkBoth holds what is filled both ways against a plane, and against the promise 43.
func checkBoth(t *testing.T, p spots) {
	t.Helper()
	want := bothSet(p)
	got, ok := impl.BothFilled(p)
	wantIfTold(t, "filled both ways", got, ok, want, len(want) <= 60)
	if !ok {
		return
	}
	if !impl.PictureOk(got) || !impl.WithinOk(p, got) || !isFilled(got) {
		t.Fatalf("%v filled both ways is %v", p, got)
	}
	for _, fill := range fillings() {
		again, ok := fill(got)
		wantTold(t, "filled again", again, ok, got)
	}
}

func TestPicturesAreFilledBothWays(t *testing.T) {
	told, more := 0, 0
	for _, p := range rowPictures() {
		checkBoth(t, p)
		got, ok := impl.BothFilled(p)
		if ok {
			told++
			more += min(1, len(got)-len(p))
		}
	}
	if told < 200 || more < 100 {
		t.Fatalf("only %d are told, and %d of them have more spots", told, more)
	}
}

// TestTheLeastFilledPictureAround holds what is filled against what is common to all filled pictures that have the picture.
func TestTheLeastFilledPictureAround(t *testing.T) {
	all := subsetsOf(block(-2, -1, 4, 12))
	var filled []int
	for bits, p := range all {
		if isFilled(p) {
			filled = append(filled, bits)
		}
	}
	for bits, p := range all {
		least := len(all) - 1
		for _, other := range filled {
			if other&bits == bits {
				least &= other
			}
		}
		got, ok := impl.BothFilled(p)
		wantTold(t, "the least one", got, ok, all[least])
	}
}

func TestWhatIsCommonToFilledPicturesIsFilled(t *testing.T) {
	list := slices.Concat(slopePictures()[80:], sumPictures(), ringPictures()[:30], scattered(12, 3), scattered(12, 4), subsets(-1, 0)[:12])
	unions, commons := 0, 0
	pairs(list, func(p, q spots) {
		first, ok := impl.BothFilled(p)
		if !ok {
			return
		}
		if union, isTold := impl.UnionOf(p, q); isTold {
			both, isTold := impl.BothFilled(union)
			if isTold && !impl.WithinOk(first, both) {
				t.Fatalf("%v filled is %v, with %v it is %v", p, first, q, both)
			}
			unions++
		}
		second, ok := impl.BothFilled(q)
		if !ok {
			return
		}
		common := impl.CommonOf(first, second)
		if !impl.FilledOk(common) || !isFilled(common) {
			t.Fatalf("%v and %v, filled, have in common %v", p, q, common)
		}
		commons += min(1, len(common))
	})
	if unions < 1000 || commons < 1000 {
		t.Fatalf("only %d unions, and %d that have spots in common", unions, commons)
	}
}

func TestFillingGoesOnForSeveralTurns(t *testing.T) {
	most := 0
	for links := range 15 {
		p := chain(links)
		if !impl.PictureOk(p) {
			t.Fatalf("%v is no picture", p)
		}
		turns := turnsOf(p)
		if turns < links {
			t.Fatalf("%d links are filled in %d turns", links, turns)
		}
		if len(bothSet(p)) <= 60 {
			most = turns
		}
		for _, q := range []spots{p, impl.TurnedOf(p), overSet(p), impl.TurnedOf(overSet(p))} {
			checkBoth(t, q)
			checkFilledOk(t, q)
			for _, moved := range atEnds(q) {
				checkBoth(t, moved)
			}
		}
	}
	if most < 6 {
		t.Fatalf("the most turns of which the end is told are %d", most)
	}
}

func TestToldAtTheFirstTurnAndNotAtALaterOne(t *testing.T) {
	for links := 1; links <= 6; links++ {
		// The last column of the chain comes across the end of a row that is too long for all together.
		p := together(movedTo(chain(links), 28-2*links, 0), pic(-30, 2*links))
		for _, q := range []spots{p, impl.TurnedOf(p), overSet(p)} {
			left := q
			for turn := 1; turn <= links; turn++ {
				left = columnsSet(rowsSet(left))
				if len(left) > 60 {
					t.Fatalf("%v is not told at the turn %d", q, turn)
				}
			}
			got, ok := impl.BothFilled(q)
			wantNone(t, "a chain with a long row behind it", got, ok)
			checkBoth(t, q)
		}
	}
}

func TestRowsAndColumnsAreTooManyTogether(t *testing.T) {
	wantFilled(t, "60 across", crossing(15, 15, 15, 14), 33, 32, 60)
	wantFilled(t, "61 across", crossing(15, 15, 15, 15), 33, 33, -1)
	wantFilled(t, "60 across, with a long row", crossing(28, 29, 1, 1), 60, 5, 60)
	wantFilled(t, "61 across, with a long row", crossing(29, 29, 1, 1), -1, 5, -1)
	wantFilled(t, "61 across, with a long row that is told", crossing(28, 29, 1, 2), 60, 6, -1)
	wantFilled(t, "60 across, with a long column", crossing(1, 1, 28, 29), 5, 60, 60)
	wantFilled(t, "61 across, with a long column that is told", crossing(2, 1, 28, 29), 6, 60, -1)
}

func TestFilledRingsAreFull(t *testing.T) {
	for radius := 1; radius <= 15; radius++ {
		far := 30 - radius
		for _, centre := range pic(0, 0, far, far, -far, far, -far, -far, far, -far) {
			for way, ring := range []spots{cornerRing(radius), squareRing(radius)} {
				if way == 1 && radius > 7 {
					continue
				}
				full := movedTo(insideRing(radius+1, way), centre.X, centre.Y)
				ring = movedTo(ring, centre.X, centre.Y)
				for _, fill := range fillings() {
					got, ok := fill(ring)
					wantIfTold(t, "a filled ring", got, ok, full, len(full) <= 60)
				}
				checkFilledOk(t, ring)
			}
		}
	}
}

func TestFillingTheEmptyPictureAndLoneSpots(t *testing.T) {
	for _, none := range []spots{nil, {}, make(spots, 0, 9)} {
		wantPicture(t, "none exchanged", impl.OverOf(none), nil)
		wantFilled(t, "none filled", none, 0, 0, 0)
		if !impl.FilledOk(none) {
			t.Fatal("the empty picture is not filled")
		}
	}
	for y := -30; y <= 30; y++ {
		for x := -30; x <= 30; x++ {
			for _, fill := range fillings() {
				got, ok := fill(pic(x, y))
				wantTold(t, "one spot filled", got, ok, pic(x, y))
			}
			if !impl.FilledOk(pic(x, y)) {
				t.Fatalf("%d, %d alone is not filled", x, y)
			}
		}
	}
}

func TestInvalidPicturesAreNotFilled(t *testing.T) {
	for what, bad := range invalid() {
		wantPicture(t, "exchanged: "+what, impl.OverOf(bad), nil)
		got, ok := impl.RowsFilled(bad)
		wantNone(t, "rows filled: "+what, got, ok)
		got, ok = impl.ColumnsFilled(bad)
		wantNone(t, "columns filled: "+what, got, ok)
		got, ok = impl.BothFilled(bad)
		wantNone(t, "filled both ways: "+what, got, ok)
		if impl.FilledOk(bad) {
			t.Fatalf("%s: is filled", what)
		}
	}
}

// Promise 44.

// checkFilledOk holds whether a picture is filled against each two of its spots, and against the promise 44.
func checkFilledOk(t *testing.T, p spots) {
	t.Helper()
	got := impl.FilledOk(p)
	rows, rowsTold := impl.RowsFilled(p)
	columns, columnsTold := impl.ColumnsFilled(p)
	unchanged := rowsTold && columnsTold && same(rows, p) && same(columns, p)
	if got != isFilled(p) || got != unchanged || got != impl.FilledOk(impl.OverOf(p)) {
		t.Fatalf("%v is filled: %v; with filled rows %v, with filled columns %v", p, got, rows, columns)
	}
}

func TestFilledIsFilledBothWays(t *testing.T) {
	filled, not := 0, 0
	for _, p := range append(rowPictures(), sizePictures()...) {
		checkFilledOk(t, p)
		if impl.FilledOk(p) {
			filled++
		} else {
			not++
		}
		if both, ok := impl.BothFilled(p); ok && !impl.FilledOk(both) {
			t.Fatalf("%v filled both ways is not filled: %v", p, both)
		}
	}
	if filled < 100 || not < 100 {
		t.Fatalf("only %d are filled, and %d not", filled, not)
	}
}

func TestAFewAreFilled(t *testing.T) {
	for rows, want := range map[string]bool{
		"#":                   true,
		"##":                  true,
		"#.#":                 false,
		"# . #":               false,
		"#. .#":               true,
		"#.. ... ..#":         true,
		"#.. ... #.#":         false,
		"### ### ###":         true,
		"### #.# ###":         false,
		".#. ### .#.":         true,
		".#. #.# .#.":         false,
		"### #.. ###":         false,
		"#.# ###":             false,
		"#.. ### ..#":         true,
		"##. .## ..#":         true,
		"##.. ..##":           true,
		"#... .#.. ..#. ...#": true,
		"..## .##. ##..":      true,
		"## .# ##":            false,
		"##.## ##.##":         false,
		"#### .##. ####":      false,
		".##. #### .##.":      true,
	} {
		p := drawn(rows)
		for _, q := range append(atEnds(p), p, overSet(p), impl.TurnedOf(p)) {
			checkFilledOk(t, q)
			if got := impl.FilledOk(q); got != want {
				t.Fatalf("%s as %v is filled: %v", rows, q, got)
			}
		}
	}
}

func TestSumsOfFilledPicturesNeedNotBeFilled(t *testing.T) {
	p, q := pic(0, 0, 1, 2), pic(1, -2, 0, 0)
	sum, ok := impl.SumOf(p, q)
	wantTold(t, "the sum", sum, ok, pic(1, -2, 0, 0, 2, 0, 1, 2))
	if !impl.FilledOk(p) || !impl.FilledOk(q) || impl.FilledOk(sum) {
		t.Fatalf("%v and %v, and their sum %v", p, q, sum)
	}
}

func TestFillingMovesWithThePicture(t *testing.T) {
	for _, p := range slices.Concat(slopePictures(), ringPictures()[:30], []spots{chain(3), chain(5), crossing(9, 8, 7, 6)}) {
		filled, ok := impl.BothFilled(p)
		for _, a := range pic(1, 0, 0, 1, -7, 3, 11, -9, -20, -20) {
			moved, isTold := impl.MovedBy(p, a)
			if !isTold {
				continue
			}
			want, _ := impl.MovedBy(filled, a)
			got, told := impl.BothFilled(moved)
			wantIfTold(t, "moved and filled", got, told, want, ok)
		}
		got, told := impl.BothFilled(impl.TurnedOf(p))
		wantIfTold(t, "turned and filled", got, told, impl.TurnedOf(filled), ok)
		got, told = impl.BothFilled(impl.OverOf(p))
		wantIfTold(t, "exchanged and filled", got, told, impl.OverOf(filled), ok)
	}
}

// The general rules: arguments are not written to, results are new, and nothing is kept from call to call.

func TestFilledPicturesShareNoMemory(t *testing.T) {
	pictures := []spots{nil, {}, pic(0, 0), pic(0, 0, 1, 0), pic(-30, -30, 30, 30), pic(-30, 0, 29, 0), pic(-30, 0, 30, 0), pic(0, -30, 0, 30), squareRing(1), squareRing(3), squareRing(7), cornerRing(4), cornerRing(5),
		block(0, 0, 10, 60), block(-1, -1, 3, 9), row(-30, 30, 60), column(30, -30, 60), spread(), chain(1), chain(4), chain(7), chain(14), crossing(15, 15, 15, 14), crossing(15, 15, 15, 15)}
	pictures = slices.Concat(pictures, slopePictures()[20:40], scattered(6, 3), scattered(6, 5), subsets(-1, 0)[:40])
	for _, bad := range invalid() {
		pictures = append(pictures, bad)
	}
	for _, p := range pictures {
		for i, fill := range fillings() {
			checkMemory(t, "filling "+decimal(i), func(args []spots) spots {
				filled, _ := fill(args[0])
				return filled
			}, p)
		}
		checkMemory(t, "OverOf", func(args []spots) spots { return impl.OverOf(args[0]) }, p)
		checkMemory(t, "FilledOk", func(args []spots) spots {
			if impl.FilledOk(args[0]) {
				return pic(1, 1)
			}
			return nil
		}, p)
	}
}

func TestFillingDoesNotDependOnCapacity(t *testing.T) {
	for _, p := range append(scattered(6, 3), chain(5), block(-3, 0, 7, 60)) {
		for n := range len(p) {
			for _, q := range []spots{p[:n], slices.Clip(p[:n]), p[n:]} {
				checkOver(t, q)
				checkRows(t, q)
				checkColumns(t, q)
				checkBoth(t, q)
				checkFilledOk(t, q)
			}
		}
	}
}
