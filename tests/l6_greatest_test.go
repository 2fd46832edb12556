package tests

import (
	"math"
	"slices"
	"strings"
	"testing"

	"loop.example/growingpictures/impl"
)

type centres = []impl.Centre

func centre(x, y, radius int) impl.Centre {
	return impl.Centre{At: at(x, y), Radius: radius}
}

// radiusSet tells by steps how far the nearest spot outside of a set is, less one, and at most 3.
func radiusSet(in map[impl.Spot]bool, a impl.Spot, way int) int {
	nearest := 4
	for _, d := range block(-4, -4, 9, 81) {
		if !in[at(a.X+d.X, a.Y+d.Y)] {
			nearest = min(nearest, stepsBetween(d, at(0, 0), way))
		}
	}
	return nearest - 1
}

func centresSet(p spots, way int) centres {
	var list centres
	in := setOf(p)
	for _, a := range p {
		list = append(list, impl.Centre{At: a, Radius: radiusSet(in, a, way)})
	}
	return list
}

// ballWithin tells spot by spot, by steps, whether all of a ball is within another one.
func ballWithin(c, other impl.Centre, way int) bool {
	for _, d := range block(-3, -3, 7, 49) {
		a := at(c.At.X+d.X, c.At.Y+d.Y)
		if stepsBetween(d, at(0, 0), way) <= c.Radius && stepsBetween(a, other.At, way) > other.Radius {
			return false
		}
	}
	return true
}

func greatestSet(p spots, way int) centres {
	var list centres
	all := centresSet(p, way)
	for _, c := range all {
		if !slices.ContainsFunc(all, func(other impl.Centre) bool {
			return other.Radius > c.Radius && ballWithin(c, other, way)
		}) {
			list = append(list, c)
		}
	}
	return list
}

// fromSet tells by steps the union of the balls of centres that are valid, and whether it is a picture.
func fromSet(list centres, way int) (spots, bool) {
	set := map[impl.Spot]bool{}
	for _, c := range list {
		ball, told := grownSet(spots{c.At}, c.Radius, way)
		if !told {
			return nil, false
		}
		for _, a := range ball {
			set[a] = true
		}
	}
	return pictureOf(set), len(set) <= 60
}

func wantCentres(t *testing.T, what string, got, want centres) {
	t.Helper()
	if !slices.Equal(got, want) {
		t.Fatalf("%s: got %v, want %v", what, got, want)
	}
}

// checkFrom holds the picture of centres against sets, and against the promise 29.
func checkFrom(t *testing.T, list centres, way int) {
	t.Helper()
	want, told := fromSet(list, way)
	got, ok := impl.PictureFrom(list, way)
	wantIfTold(t, "picture from centres", got, ok, want, told)
	for _, c := range list {
		if radius := impl.RadiusAt(got, c.At, way); ok && radius < c.Radius {
			t.Fatalf("%v in the way %d is %v, with the radius %d at %v", list, way, got, radius, c)
		}
	}
}

// signed is the rows without the numbers that are drawn in them: a # for each, or what is drawn for it.
func signed(rows string) string {
	return strings.NewReplacer("0", "#", "1", "#", "2", "#", "3", "#").Replace(rows)
}

// numbered is the centres that rows show by a number, the lowest row first, of which the middle one is 0, 0.
func numbered(rows string) centres {
	var list centres
	for _, a := range drawn(signed(rows)) {
		all := strings.Fields(rows)
		row := all[a.Y+len(all)/2]
		if sign := row[a.X+len(row)/2]; sign != '#' {
			list = append(list, impl.Centre{At: a, Radius: int(sign - '0')})
		}
	}
	return list
}

// without is a picture less each so-many-th one of other spots.
func without(p, others spots, each int) spots {
	gone := map[impl.Spot]bool{}
	for i := 0; i < len(others); i += each {
		gone[others[i]] = true
	}
	return leftSet(p, gone)
}

// greatestPictures is pictures of lone spots, squares, balls, and squares with holes, at the ends as well.
func greatestPictures() []spots {
	list := append(patternPictures(), ballPictures()...)
	for side := 1; side <= 7; side++ {
		for _, corner := range pic(0, 0, -3, -3, -30, -30, 31-side, 31-side, -30, 31-side, 31-side, -30) {
			list = append(list, block(corner.X, corner.Y, side, side*side))
		}
	}
	eachBall(func(radius, way int) {
		for _, far := range []int{0, 30 - radius, radius - 30} {
			ball, _ := grownSet(pic(far, -far), radius, way)
			list = append(list, ball)
		}
	})
	list = append(list, greaterBall(), pictureOf(setOf(append(greaterBall(), row(10, 3, 19)...))),
		block(-4, -3, 8, 56), block(-3, -4, 7, 56), block(-3, -4, 7, 60), block(-6, -2, 12, 60), block(-3, -3, 6, 36))
	for _, others := range scattered(40, 4) {
		list = append(list, without(block(-4, -3, 8, 56), others, 7), without(block(-30, 24, 8, 56), movedTo(others, -26, 27), 9), without(greaterBall(), others, 12))
	}
	return list
}

// greaterBall is the ball of the radius 4 in the way 0: one that is greater than any radius allows.
func greaterBall() spots {
	set := map[impl.Spot]bool{}
	for _, a := range block(-4, -4, 9, 81) {
		set[a] = stepsBetween(a, at(0, 0), 0) <= 4
	}
	return pictureOf(set)
}

func movedTo(p spots, x, y int) spots {
	var moved spots
	for _, a := range p {
		moved = append(moved, at(a.X+x, a.Y+y))
	}
	return moved
}

// noSummedWays is numbers that are no way in which there are radii: the way 2 tells distances, but is none.
func noSummedWays() []int {
	return append(noWays(), 2)
}

// Promise 26.

// checkRadii holds the radius at each spot, and at spots that are none, against steps, and against the promise 26.
func checkRadii(t *testing.T, p spots, way int) {
	t.Helper()
	in := setOf(p)
	tried := append(block(-31, -31, 63, 63*63), p...)
	for _, a := range tried {
		got := impl.RadiusAt(p, a, way)
		if want := radiusOrNone(in, a, way); got != want {
			t.Fatalf("%v at %v in the way %d: %d, want %d", p, a, way, got, want)
		}
	}
	for _, a := range p {
		got, missing := impl.RadiusAt(p, a, way), false
		for _, d := range block(-4, -4, 9, 81) {
			b := at(a.X+d.X, a.Y+d.Y)
			far := stepsBetween(d, at(0, 0), way)
			if far <= got && !impl.HasSpot(p, b) {
				t.Fatalf("%v at %v in the way %d: %d, but %v is none", p, a, way, got, b)
			}
			missing = missing || far == got+1 && !impl.HasSpot(p, b)
		}
		if got < impl.MaxRadius && !missing {
			t.Fatalf("%v at %v in the way %d: %d, but all one farther are there", p, a, way, got)
		}
	}
}

func radiusOrNone(in map[impl.Spot]bool, a impl.Spot, way int) int {
	if !in[a] {
		return -1
	}
	return radiusSet(in, a, way)
}

func TestRadiiAreHowFarTheOutsideIs(t *testing.T) {
	seen := map[int]bool{}
	for _, p := range greatestPictures() {
		for way := range 2 {
			checkRadii(t, p, way)
			for _, a := range p {
				seen[10*way+impl.RadiusAt(p, a, way)] = true
			}
		}
	}
	if len(seen) != 8 {
		t.Fatalf("not all radii are seen: %v", seen)
	}
}

func TestRadiiInAllPicturesOfNineSpots(t *testing.T) {
	for _, p := range subsetsOf(block(-1, -1, 3, 9)) {
		for way := range 2 {
			want := -1
			switch beside := len(impl.CommonOf(p, pic(0, -1, -1, 0, 1, 0, 0, 1))); {
			case len(p) == 9 || way == 0 && beside == 4 && slices.Contains(p, at(0, 0)):
				want = 1
			case slices.Contains(p, at(0, 0)):
				want = 0
			}
			if got := impl.RadiusAt(p, at(0, 0), way); got != want {
				t.Fatalf("%v in the way %d: %d, want %d", p, way, got, want)
			}
			checkGreatest(t, p, way)
		}
	}
}

func TestAFewRadii(t *testing.T) {
	for _, c := range []struct {
		what string
		way  int
		rows string
	}{
		{"one spot, way 0", 0, "0"},
		{"one spot, way 1", 1, "0"},
		{"lone ones, way 0", 0, "0.0.0 ..... 0.0.0"},
		{"lone ones, way 1", 1, "0.0.0 ..... 0.0.0"},
		{"two by two, way 0", 0, "00 00"},
		{"two by two, way 1", 1, "00 00"},
		{"three by three, way 0", 0, "000 010 000"},
		{"three by three, way 1", 1, "000 010 000"},
		{"without a corner, way 0", 0, "000 010 00."},
		{"without a corner, way 1", 1, "000 000 00."},
		{"a cross, way 0", 0, ".0. 010 .0."},
		{"a cross, way 1", 1, ".0. 000 .0."},
		{"five by five, way 0", 0, "00000 01110 01210 01110 00000"},
		{"five by five, way 1", 1, "00000 01110 01210 01110 00000"},
		{"five by five with a hole, way 0", 0, "00000 01010 00.00 01010 00000"},
		{"five by five with a hole, way 1", 1, "00000 00000 00.00 00000 00000"},
		{"a ball of the radius 2, way 0", 0, "..0.. .010. 01210 .010. ..0.."},
		{"a ball of the radius 2, way 1", 1, "..0.. .000. 00100 .000. ..0.."},
		{"seven by seven, way 0", 0, "0000000 0111110 0122210 0123210 0122210 0111110 0000000"},
		{"seven by seven, way 1", 1, "0000000 0111110 0122210 0123210 0122210 0111110 0000000"},
		{"eight by seven, way 1", 1, "00000000 01111110 01222210 01233210 01222210 01111110 00000000"},
		{"a greater ball, way 0", 0, "....0.... ...010... ..01210.. .0123210. 012333210 .0123210. ..01210.. ...010... ....0...."},
		{"a greater ball, way 1", 1, "....0.... ...000... ..00100.. .0011100. 001121100 .0011100. ..00100.. ...000... ....0...."},
	} {
		list := numbered(c.rows)
		for _, a := range list {
			if got := impl.RadiusAt(drawn(signed(c.rows)), a.At, c.way); got != a.Radius {
				t.Errorf("%s at %v: %d, want %d", c.what, a.At, got, a.Radius)
			}
		}
		wantCentres(t, c.what, impl.CentresOf(drawn(signed(c.rows)), c.way), list)
	}
}

func TestSquaresHaveNoGreaterRadiusAtTheEnds(t *testing.T) {
	for way := range 2 {
		for side := 1; side <= 7; side++ {
			for _, corner := range pic(-30, -30, 31-side, -30, -30, 31-side, 31-side, 31-side, 0, 0) {
				p := block(corner.X, corner.Y, side, side*side)
				for _, a := range p {
					want := min(a.X-corner.X, a.Y-corner.Y, corner.X+side-1-a.X, corner.Y+side-1-a.Y)
					if got := impl.RadiusAt(p, a, way); got != want {
						t.Fatalf("%v at %v in the way %d: %d, want %d", p, a, way, got, want)
					}
				}
			}
		}
	}
}

func TestInvalidRadii(t *testing.T) {
	refused := func(what string, p spots, a impl.Spot, way int) {
		t.Helper()
		if got := impl.RadiusAt(p, a, way); got != -1 {
			t.Fatalf("%s: %v at %v in the way %d: %d", what, p, a, way, got)
		}
	}
	pictures := []spots{nil, {}, pic(0, 0), pic(30, 30), block(-1, -1, 3, 9), block(-3, -3, 7, 49), pic(-30, -30, 30, 30)}
	for way := range 2 {
		for what, bad := range invalid() {
			for _, a := range slices.Concat(pic(0, 0, 30, 30), bad[:min(5, len(bad))], bad[len(bad)-1:]) {
				refused(what, bad, a, way)
			}
		}
		refused("nine by nine", block(-4, -4, 9, 81), at(0, 0), way)
		for _, p := range pictures {
			for _, far := range farSpots() {
				refused("too far", p, far, way)
			}
			refused("none of the picture", p, at(7, 7), way)
		}
	}
	for _, way := range noSummedWays() {
		for _, p := range pictures {
			for _, a := range slices.Concat(p, pic(0, 0, 7, 7, 31, 0)) {
				refused("no way", p, a, way)
			}
		}
		refused("no way, no picture", pic(1, 0, 0, 0), at(0, 0), way)
	}
}

// Promise 27.

func TestRadiiBesideEachOtherDifferByOne(t *testing.T) {
	for _, p := range greatestPictures() {
		for way := range 2 {
			list := impl.CentresOf(p, way)
			wantCentres(t, "centres", list, centresSet(p, way))
			for _, c := range list {
				if got := impl.RadiusAt(p, c.At, way); got != c.Radius {
					t.Fatalf("%v has in the way %d the radius %d and the centre %v", p, way, got, c)
				}
				for _, other := range list {
					apart := impl.DistanceOf(c.At, other.At, way) == 1
					if differ := c.Radius - other.Radius; apart && (differ > 1 || differ < -1) {
						t.Fatalf("%v in the way %d: %v is beside %v", p, way, c, other)
					}
				}
			}
		}
	}
}

func TestLoneSpotsAreCentresOfTheRadiusZero(t *testing.T) {
	var apart spots
	for _, a := range block(0, 0, 10, 60) {
		apart = append(apart, at(3*a.X-30, 2*a.Y-30))
	}
	for _, p := range []spots{apart, pic(0, 0), pic(30, 30), pic(-30, -30), pic(-30, -30, 30, -30, -30, 30, 30, 30), pic(30, 0, -30, 1), row(-30, 30, 60), column(30, -30, 60)} {
		var want centres
		for _, a := range p {
			want = append(want, impl.Centre{At: a})
		}
		for way := range 2 {
			wantCentres(t, "lone ones", impl.CentresOf(p, way), want)
			wantCentres(t, "greatest lone ones", impl.GreatestOf(p, way), want)
			got, ok := impl.PictureFrom(want, way)
			wantTold(t, "picture of lone ones", got, ok, p)
		}
	}
}

func TestNoPicturesHaveNoCentres(t *testing.T) {
	refused := func(what string, p spots, way int) {
		t.Helper()
		wantCentres(t, what, impl.CentresOf(p, way), nil)
		wantCentres(t, what+", greatest", impl.GreatestOf(p, way), nil)
	}
	for what, bad := range invalid() {
		for _, way := range append(noSummedWays(), 0, 1) {
			refused(what, bad, way)
		}
	}
	for _, way := range append(noSummedWays(), 0, 1) {
		refused("nine by nine", block(-4, -4, 9, 81), way)
		for _, none := range []spots{nil, {}, make(spots, 0, 9)} {
			refused("the empty picture", none, way)
		}
	}
	for _, way := range noSummedWays() {
		for _, p := range []spots{pic(0, 0), pic(30, -30), block(-1, -1, 3, 9), impl.BallOf(3, 2), block(0, 0, 10, 60)} {
			refused("no way", p, way)
		}
	}
}

// Promise 28.

// checkGreatest holds the greatest balls of a picture against steps, and against the promise 28.
func checkGreatest(t *testing.T, p spots, way int) {
	t.Helper()
	list := impl.GreatestOf(p, way)
	wantCentres(t, "greatest", list, greatestSet(p, way))
	union, ok := impl.PictureFrom(list, way)
	wantTold(t, "picture of the greatest", union, ok, p)
	for _, c := range list {
		ball, ok := impl.MovedBy(impl.BallOf(c.Radius, way), c.At)
		if !ok || !impl.WithinOk(ball, p) {
			t.Fatalf("the ball of %v in the way %d is %v, not within %v", c, way, ball, p)
		}
		for _, other := range list {
			greater, _ := impl.MovedBy(impl.BallOf(other.Radius, way), other.At)
			if other.Radius > c.Radius && impl.WithinOk(ball, greater) {
				t.Fatalf("%v in the way %d: %v is within %v", p, way, c, other)
			}
		}
	}
}

func TestAPictureIsTheUnionOfItsGreatestBalls(t *testing.T) {
	fewer := 0
	for _, p := range greatestPictures() {
		for way := range 2 {
			checkGreatest(t, p, way)
			if n := len(impl.GreatestOf(p, way)); n > 1 && n < len(p) {
				fewer++
			}
		}
	}
	if fewer < 100 {
		t.Fatalf("only %d pictures have some balls that are greatest, and some that are not", fewer)
	}
}

func TestSmallPicturesHaveGreatestBalls(t *testing.T) {
	for _, corner := range pic(0, 0, -1, -1, -30, -30, 28, 29, -30, 29, 28, -30) {
		for _, p := range subsets(corner.X, corner.Y) {
			for way := range 2 {
				checkGreatest(t, p, way)
			}
		}
	}
}

func TestAFewAreGreatest(t *testing.T) {
	for _, c := range []struct {
		what string
		way  int
		rows string
	}{
		{"one spot", 0, "0"},
		{"a row", 1, "00000"},
		{"two by two, way 0", 0, "00 00"},
		{"two by two, way 1", 1, "00 00"},
		{"three by three, way 0", 0, "0#0 #1# 0#0"},
		{"three by three, way 1", 1, "### #1# ###"},
		{"three by two squares, way 1", 1, "#### #11# ####"},
		{"three by two squares, way 0", 0, "0##0 #11# 0##0"},
		{"a cross, way 0", 0, ".#. #1# .#."},
		{"a cross, way 1", 1, ".0. 000 .0."},
		{"two crosses, way 0", 0, ".#.#. #1#1# .#.#."},
		{"a cross and a lone one, way 0", 0, ".#... #1#.0 .#..."},
		{"five by five, way 0", 0, "0###0 #1#1# ##2## #1#1# 0###0"},
		{"five by five, way 1", 1, "##### ##### ##2## ##### #####"},
		{"five by five with a hole, way 0", 0, "0#0#0 #1#1# 0#.#0 #1#1# 0#0#0"},
		{"a square and a tail, way 1", 1, "###.. #1#00 ###.."},
		{"a square and a tail, way 0", 0, "0##.. #11#0 0##.."},
		{"a tail ahead, way 0", 0, "..##0 0#11# ..##0"},
		{"a greater square and a lesser one, way 1", 1, "#####... ######## ##2#111# ######## #####..."},
		{"a lesser square ahead of a greater one, way 1", 1, "...##### ######## #111#2## ######## ...#####"},
		{"seven by seven, way 1", 1, "####### ####### ####### ###3### ####### ####### #######"},
		{"seven by seven, way 0", 0, "0#####0 #1###1# ##2#2## ###3### ##2#2## #1###1# 0#####0"},
		{"eight by seven, way 1", 1, "######## ######## ######## ###33### ######## ######## ########"},
		{"a greater ball, way 0", 0, "....#.... ...###... ..#####.. .###3###. ###333### .###3###. ..#####.. ...###... ....#...."},
	} {
		wantCentres(t, c.what, impl.GreatestOf(drawn(signed(c.rows)), c.way), numbered(c.rows))
		checkGreatest(t, drawn(signed(c.rows)), c.way)
	}
}

// Promise 29.

func TestPicturesOfAFewCentres(t *testing.T) {
	some := centres{
		centre(0, 0, 0), centre(0, 0, 1), centre(0, 0, 2), centre(0, 0, 3), centre(1, 0, 1), centre(-1, 2, 0), centre(3, -1, 2),
		centre(-4, 4, 1), centre(7, 7, 3), centre(30, 30, 0), centre(-29, 29, 1), centre(27, -27, 3), centre(28, 0, 3), centre(-9, -30, 1),
	}
	told, refused := 0, 0
	for way := range 2 {
		for _, a := range some {
			checkFrom(t, centres{a}, way)
			for _, b := range some {
				checkFrom(t, centres{a, b}, way)
				for _, c := range some {
					list := centres{a, b, c}
					checkFrom(t, list, way)
					if _, ok := impl.PictureFrom(list, way); ok {
						told++
					} else {
						refused++
					}
				}
			}
		}
	}
	if told < 500 || refused < 500 {
		t.Fatalf("only %d are told, and %d are not", told, refused)
	}
}

func TestOneCentreIsABall(t *testing.T) {
	for way := range 2 {
		for radius := range impl.MaxRadius + 1 {
			got, ok := impl.PictureFrom(centres{centre(0, 0, radius)}, way)
			wantTold(t, "one centre", got, ok, impl.BallOf(radius, way))
			for far := 24; far <= 31; far++ {
				for _, a := range pic(far, 0, -far, 0, 0, far, 0, -far, far, far, -far, far, far, -far, -far, -far) {
					want, _ := grownSet(spots{a}, radius, way)
					got, ok := impl.PictureFrom(centres{{At: a, Radius: radius}}, way)
					wantIfTold(t, "one centre at the end", got, ok, want, far+radius <= 30)
					got, ok = impl.PictureFrom(centres{{}, {At: a, Radius: radius}, {}}, way)
					if ok != (far+radius <= 30) || !ok && len(got) > 0 {
						t.Fatalf("%v with the radius %d in the way %d, and another one: %v %v", a, radius, way, got, ok)
					}
				}
			}
		}
	}
}

func TestOfNoCentresItIsEmpty(t *testing.T) {
	for _, none := range []centres{nil, {}, make(centres, 0, 9)} {
		for way := range 2 {
			got, ok := impl.PictureFrom(none, way)
			wantTold(t, "of no centres", got, ok, nil)
		}
		for _, way := range noSummedWays() {
			got, ok := impl.PictureFrom(none, way)
			wantNone(t, "of no centres, in no way", got, ok)
		}
	}
}

func TestTheOrderOfCentresDoesNotMatter(t *testing.T) {
	for _, p := range greatestPictures() {
		for way := range 2 {
			list := impl.CentresOf(p, way)
			got, ok := impl.PictureFrom(list, way)
			wantTold(t, "of all centres", got, ok, p)
			slices.Reverse(list)
			got, ok = impl.PictureFrom(list, way)
			wantTold(t, "of all centres, the last ones first", got, ok, p)
			slices.SortStableFunc(list, func(a, b impl.Centre) int { return (a.At.X*7+a.At.Y*3)%5 - (b.At.X*7+b.At.Y*3)%5 })
			got, ok = impl.PictureFrom(append(list, list...), way)
			wantTold(t, "of all centres twice, in no order", got, ok, p)
		}
	}
}

func TestTheSameCentreAgainChangesNothing(t *testing.T) {
	for way := range 2 {
		for radius := range impl.MaxRadius + 1 {
			c, ball := centre(-27, 27, radius), impl.BallOf(radius, way)
			want, _ := impl.MovedBy(ball, c.At)
			got, ok := impl.PictureFrom(slices.Repeat(centres{c}, 2), way)
			wantTold(t, "the same one twice", got, ok, want)
			got, ok = impl.PictureFrom(slices.Repeat(centres{c}, 2000), way)
			wantTold(t, "the same one again and again", got, ok, want)
			for less := range radius {
				for _, list := range []centres{{c, centre(-27, 27, less)}, {centre(-27, 27, less), c}} {
					got, ok = impl.PictureFrom(list, way)
					wantTold(t, "the same spot with two radii", got, ok, want)
				}
			}
		}
	}
}

func TestPicturesOfCentresHaveAtMostSixtySpots(t *testing.T) {
	var lone centres
	for _, a := range row(-30, 20, 61) {
		lone = append(lone, impl.Centre{At: a})
	}
	for _, c := range []struct {
		what string
		list centres
		way  int
		want int
	}{
		{"60 spots", lone[:60], 0, 60},
		{"61 spots", lone, 0, -1},
		{"61 spots, and the first one again", append(slices.Clone(lone), lone[0]), 1, -1},
		{"60 spots, and one of these again", append(slices.Clone(lone[:60]), lone[7]), 1, 60},
		{"60 spots, and each again", append(slices.Clone(lone[:60]), lone[:60]...), 0, 60},
		{"the greatest square and 11", append(slices.Clone(lone[:11]), centre(0, 0, 3)), 1, 60},
		{"the greatest square and 12", append(slices.Clone(lone[:12]), centre(0, 0, 3)), 1, -1},
		{"the greatest ball of the way 0 and 35", append(centres{centre(0, 0, 3)}, lone[:35]...), 0, 60},
		{"the greatest ball of the way 0 and 36", append(centres{centre(0, 0, 3)}, lone[:36]...), 0, -1},
		{"two squares apart", centres{centre(0, 0, 3), centre(8, 0, 3)}, 1, -1},
		{"two squares beside each other", centres{centre(0, 0, 3), centre(1, 0, 3)}, 1, 56},
		{"two squares aslant", centres{centre(0, 0, 3), centre(1, 1, 3)}, 1, -1},
		{"two balls of the way 0 apart", centres{centre(0, 0, 3), centre(8, 0, 3)}, 0, 50},
		{"three balls of the way 0 apart", centres{centre(0, 0, 3), centre(8, 0, 3), centre(-8, 0, 3)}, 0, -1},
		{"two squares of the radius 2 and one of the radius 1", centres{centre(0, 0, 2), centre(9, 0, 2), centre(5, 9, 1)}, 1, 59},
	} {
		checkFrom(t, c.list, c.way)
		got, ok := impl.PictureFrom(c.list, c.way)
		if c.want < 0 {
			wantNone(t, c.what, got, ok)
		} else if !ok || len(got) != c.want {
			t.Fatalf("%s: %d spots, %v", c.what, len(got), ok)
		}
	}
}

func TestInvalidCentres(t *testing.T) {
	var bad centres
	for _, radius := range noRadii() {
		bad = append(bad, centre(0, 0, radius), centre(30, -30, radius), centre(31, 0, radius))
	}
	for _, far := range farSpots() {
		for radius := range impl.MaxRadius + 1 {
			bad = append(bad, impl.Centre{At: far, Radius: radius})
		}
		bad = append(bad, impl.Centre{At: far, Radius: math.MinInt}, impl.Centre{At: far, Radius: math.MaxInt})
	}
	good, full := centre(0, 0, 1), block(0, 0, 10, 60)
	for _, way := range append(noSummedWays(), 0, 1) {
		for _, c := range bad {
			for _, list := range []centres{{c}, {c, c}, {good, c}, {c, good}, {good, c, good}, {centre(0, 0, 3), c, centre(9, 9, 3)}} {
				got, ok := impl.PictureFrom(list, way)
				wantNone(t, "invalid centres", got, ok)
			}
			all := impl.CentresOf(full, 0)
			got, ok := impl.PictureFrom(append(all, c), way)
			wantNone(t, "an invalid centre last", got, ok)
		}
	}
	for _, way := range noSummedWays() {
		for _, list := range []centres{{good}, {centre(0, 0, 0)}, {good, centre(2, 2, 0)}, {centre(30, 30, 0)}, impl.CentresOf(full, 1)} {
			got, ok := impl.PictureFrom(list, way)
			wantNone(t, "centres in no way", got, ok)
		}
	}
}

// The general rules: arguments are not written to, results are new, and nothing is kept from call to call.

func TestGreatestBallsShareNoMemory(t *testing.T) {
	pictures := append(greatestPictures()[:60], block(-3, -3, 7, 49), greaterBall(), block(0, 0, 10, 60))
	for _, bad := range invalid() {
		pictures = append(pictures, bad)
	}
	spotMark, centreMark := at(-7777, 7777), centre(9999, -9999, 9999)
	for _, p := range pictures {
		for way := range impl.Ways {
			checkMemory(t, "RadiusAt", func(args []spots) spots { return pic(impl.RadiusAt(args[0], at(0, 0), way), 0) }, p)
			checkNew(t, "CentresOf", func(args []spots) centres { return impl.CentresOf(args[0], way) }, spotMark, centreMark, p)
			checkNew(t, "GreatestOf", func(args []spots) centres { return impl.GreatestOf(args[0], way) }, spotMark, centreMark, p)
		}
	}
}

func TestPicturesOfCentresShareNoMemory(t *testing.T) {
	lists := []centres{
		nil, {}, {centre(0, 0, 0)}, {centre(5, 5, 0), centre(-5, -5, 0)}, {centre(0, 0, 3), centre(1, 0, 3)}, {centre(1, 0, 1), centre(0, 0, 2), centre(1, 0, 1)},
		{centre(0, 0, 3), centre(9, 9, 3)}, {centre(0, 0, 4)}, {centre(31, 0, 0)}, {centre(0, 0, 1), centre(0, 0, -1)}, {centre(math.MaxInt, math.MinInt, 3)},
	}
	for _, p := range greatestPictures()[:60] {
		for way := range 2 {
			list := impl.GreatestOf(p, way)
			slices.Reverse(list)
			lists = append(lists, list, impl.CentresOf(p, way))
		}
	}
	for _, list := range lists {
		for way := range impl.Ways {
			checkNew(t, "PictureFrom", func(args []centres) spots {
				p, _ := impl.PictureFrom(args[0], way)
				return p
			}, centre(-7777, 7777, 7777), at(9999, -9999), list)
		}
	}
}
