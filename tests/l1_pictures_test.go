package tests

import (
	"slices"
	"testing"

	"loop.example/growingpictures/impl"
)

// inOrder tells the order as the document has it: in a higher row, or in the same row further to the right.
func inOrder(a, b impl.Spot) bool {
	return b.Y > a.Y || b.Y == a.Y && b.X > a.X
}

func samplePictures() []spots {
	list := []spots{
		nil,
		{},
		pic(0, 0),
		pic(-30, -30, 30, 30),
		pic(-30, -30, 30, -30, -30, 30, 30, 30),
		pic(30, -30, -30, 30),
		pic(5, 0, -5, 1, 5, 2, -5, 3),
		block(-30, 7, 61, 60),
		block(-29, -7, 61, 60),
		block(0, 0, 10, 60),
		block(0, -30, 1, 60),
		block(30, -29, 1, 60),
	}
	list = append(list, scattered(12, 30)...)
	return append(list, scattered(12, 4)...)
}

// Promise 1.

func TestNoSpotsAreAPicture(t *testing.T) {
	if !impl.PictureOk(nil) || !impl.PictureOk(spots{}) || !impl.PictureOk(make(spots, 0, 100)) {
		t.Fatal("the empty picture is refused")
	}
}

func TestOneSpotIsAPictureIfItIsNotTooFar(t *testing.T) {
	for y := -33; y <= 33; y++ {
		for x := -33; x <= 33; x++ {
			want := x >= -30 && x <= 30 && y >= -30 && y <= 30
			if got := impl.PictureOk(pic(x, y)); got != want {
				t.Fatalf("the spot %d, %d alone: %v", x, y, got)
			}
		}
	}
	for _, n := range extremes() {
		if impl.PictureOk(pic(n, 0)) || impl.PictureOk(pic(0, n)) || impl.PictureOk(pic(n, n)) {
			t.Fatalf("a spot with %d is a picture", n)
		}
	}
}

func TestPicturesAreInOrder(t *testing.T) {
	grid := block(-1, -1, 3, 9)
	for _, a := range grid {
		for _, b := range grid {
			if got, want := impl.PictureOk(spots{a, b}), inOrder(a, b); got != want {
				t.Fatalf("%v %v: %v", a, b, got)
			}
			for _, c := range grid {
				if got, want := impl.PictureOk(spots{a, b, c}), inOrder(a, b) && inOrder(b, c); got != want {
					t.Fatalf("%v %v %v: %v", a, b, c, got)
				}
			}
		}
	}
	if !impl.PictureOk(pic(30, -30, -30, -29, 0, 30)) {
		t.Fatal("a higher row may begin further to the left")
	}
}

func TestPicturesHaveAtMostSixtySpots(t *testing.T) {
	for _, wide := range []int{1, 7, 60, 61} {
		for n := range 70 {
			p := block(-30, -30, wide, n)
			want := n <= 60 && (wide > 1 || n <= 61)
			if got := impl.PictureOk(p); got != want {
				t.Fatalf("%d spots in rows of %d: %v", n, wide, got)
			}
		}
	}
	if impl.PictureOk(block(-30, -30, 61, 61*61)) || impl.PictureOk(make(spots, 100000)) {
		t.Fatal("far too many spots are a picture")
	}
}

func TestPicturesStayOnesWithoutTheirLastSpot(t *testing.T) {
	for _, p := range samplePictures() {
		for n := range len(p) + 1 {
			if !impl.PictureOk(p[:n]) {
				t.Fatalf("the first %d of %v are no picture", n, p)
			}
		}
	}
}

func TestInvalidPictures(t *testing.T) {
	for what, p := range invalid() {
		if impl.PictureOk(p) {
			t.Errorf("%s: is a picture", what)
		}
	}
	p := block(-20, 3, 10, 60)
	for i := range p {
		for _, bad := range []impl.Spot{at(31, p[i].Y), at(-31, p[i].Y), at(p[i].X, 31), at(p[i].X, -31)} {
			q := slices.Clone(p)
			q[i] = bad
			if impl.PictureOk(q) {
				t.Fatalf("a picture with %v as spot %d", bad, i)
			}
		}
	}
}

// Promise 2.

func TestSpotsAreThereOrNot(t *testing.T) {
	for _, p := range samplePictures() {
		for y := -32; y <= 32; y++ {
			for x := -32; x <= 32; x++ {
				if got, want := impl.HasSpot(p, at(x, y)), slices.Contains(p, at(x, y)); got != want {
					t.Fatalf("%v has %d, %d: %v", p, x, y, got)
				}
			}
		}
		for _, n := range extremes() {
			if impl.HasSpot(p, at(n, 0)) || impl.HasSpot(p, at(0, n)) || impl.HasSpot(p, at(n, n)) {
				t.Fatalf("%v has a spot with %d", p, n)
			}
		}
	}
}

func TestInvalidPicturesHaveNoSpots(t *testing.T) {
	for what, p := range invalid() {
		for _, a := range append(pic(0, 0, 1, 1), p...) {
			if impl.HasSpot(p, a) {
				t.Fatalf("%s: has %v", what, a)
			}
		}
	}
}

// Promises 3, 4 and 5.

// pairs gives each pair of pictures, both ways round.
func pairs(list []spots, visit func(p, q spots)) {
	for _, p := range list {
		for _, q := range list {
			visit(p, q)
		}
	}
}

// checkPair holds what the program tells of two pictures against sets.
func checkPair(t *testing.T, p, q spots) {
	t.Helper()
	either, both := setOf(p), map[impl.Spot]bool{}
	for _, a := range q {
		both[a] = either[a]
	}
	for _, a := range q {
		either[a] = true
	}
	union, common := pictureOf(either), pictureOf(both)
	got, ok := impl.UnionOf(p, q)
	if len(union) > impl.MaxSpots {
		wantNone(t, "union of too many", got, ok)
	} else {
		wantTold(t, "union", got, ok, union)
	}
	wantPicture(t, "common", impl.CommonOf(p, q), common)
	if got, want := impl.WithinOk(p, q), len(common) == len(p); got != want {
		t.Fatalf("%v within %v: %v", p, q, got)
	}
}

// checkPairPromises holds the results for two pictures against each other, as the promises 3, 4 and 5 do.
func checkPairPromises(t *testing.T, p, q spots) {
	t.Helper()
	union, ok := impl.UnionOf(p, q)
	turned, turnedOk := impl.UnionOf(q, p)
	common := impl.CommonOf(p, q)
	if ok != turnedOk || !same(union, turned) || !same(common, impl.CommonOf(q, p)) {
		t.Fatalf("%v and %v: exchanged they differ", p, q)
	}
	if ok && (!impl.WithinOk(p, union) || !impl.WithinOk(q, union) || len(union) != len(p)+len(q)-len(common)) {
		t.Fatalf("%v and %v: union %v, common %v", p, q, union, common)
	}
	if !impl.WithinOk(common, p) || !impl.WithinOk(common, q) {
		t.Fatalf("%v and %v: common %v is not within both", p, q, common)
	}
	if impl.WithinOk(p, q) && impl.WithinOk(q, p) && !same(p, q) {
		t.Fatalf("%v and %v are within each other", p, q)
	}
	if impl.WithinOk(p, q) != (ok && same(union, q)) {
		t.Fatalf("%v within %v, union %v", p, q, union)
	}
}

func TestPairsOfSmallPictures(t *testing.T) {
	for _, corner := range pic(-1, 0, -30, -30, 28, -30, -30, 29, 28, 29) {
		pairs(subsets(corner.X, corner.Y), func(p, q spots) {
			checkPair(t, p, q)
			checkPairPromises(t, p, q)
		})
	}
}

func TestPairsOfGreaterPictures(t *testing.T) {
	pairs(samplePictures(), func(p, q spots) {
		checkPair(t, p, q)
		checkPairPromises(t, p, q)
	})
}

func TestPairsOfPicturesApart(t *testing.T) {
	low, high := block(-30, -30, 10, 25), block(-30, 10, 10, 25)
	left, right := block(-30, 0, 5, 25), block(20, 0, 5, 25)
	pairs([]spots{low, high, left, right}, func(p, q spots) { checkPair(t, p, q) })
}

func TestPicturesAndThemselves(t *testing.T) {
	for _, p := range samplePictures() {
		got, ok := impl.UnionOf(p, p)
		wantTold(t, "union with itself", got, ok, p)
		wantPicture(t, "common with itself", impl.CommonOf(p, p), p)
		if !impl.WithinOk(p, p) {
			t.Fatalf("%v is not within itself", p)
		}
	}
}

func TestPicturesAndTheEmptyOne(t *testing.T) {
	for _, p := range samplePictures() {
		for _, none := range []spots{nil, {}, p[:0]} {
			got, ok := impl.UnionOf(p, none)
			wantTold(t, "union with none", got, ok, p)
			got, ok = impl.UnionOf(none, p)
			wantTold(t, "union of none", got, ok, p)
			wantPicture(t, "common with none", impl.CommonOf(p, none), nil)
			wantPicture(t, "common of none", impl.CommonOf(none, p), nil)
			if !impl.WithinOk(none, p) || impl.WithinOk(p, none) != (len(p) == 0) {
				t.Fatalf("the empty picture and %v", p)
			}
		}
	}
}

func TestUnionsHaveAtMostSixtySpots(t *testing.T) {
	for n := range 61 {
		p := block(-30, 0, 61, n)
		for _, rest := range []int{59 - n, 60 - n, 61 - n, 60} {
			if rest < 0 || rest > 60 {
				continue
			}
			apart := block(-30, 5, 61, rest)
			got, ok := impl.UnionOf(p, apart)
			if n+rest > 60 {
				wantNone(t, "union of too many", got, ok)
				continue
			}
			wantTold(t, "union of both apart", got, ok, append(slices.Clone(p), apart...))
		}
	}
	full := block(0, 0, 10, 60)
	got, ok := impl.UnionOf(full[:40], full[20:])
	wantTold(t, "union of both with 20 in common", got, ok, full)
	more := block(0, 0, 10, 61)
	got, ok = impl.UnionOf(more[:40], more[20:])
	wantNone(t, "union of 61", got, ok)
	got, ok = impl.UnionOf(full, pic(9, 5))
	wantTold(t, "union of 60 and one of them", got, ok, full)
	got, ok = impl.UnionOf(full, pic(10, 5))
	wantNone(t, "union of 60 and one more", got, ok)
}

func TestInvalidPicturesInPairs(t *testing.T) {
	good := []spots{nil, {}, pic(0, 0), pic(0, 0, 1, 0), block(-30, 0, 61, 60)}
	for what, bad := range invalid() {
		for _, p := range append(good, bad) {
			got, ok := impl.UnionOf(p, bad)
			wantNone(t, "union with "+what, got, ok)
			got, ok = impl.UnionOf(bad, p)
			wantNone(t, "union of "+what, got, ok)
			wantPicture(t, "common with "+what, impl.CommonOf(p, bad), nil)
			wantPicture(t, "common of "+what, impl.CommonOf(bad, p), nil)
			if impl.WithinOk(p, bad) || impl.WithinOk(bad, p) {
				t.Fatalf("%v within %s, or the other way", p, what)
			}
		}
	}
}

func TestWithinNeedsEachSpot(t *testing.T) {
	full := block(-3, -3, 8, 60)
	for i := range full {
		less := slices.Delete(slices.Clone(full), i, i+1)
		if !impl.WithinOk(less, full) || impl.WithinOk(full, less) {
			t.Fatalf("all spots and all but %v", full[i])
		}
	}
}

// Promise 6.

// movedInside tells whether each spot of a picture, moved, is not too far, and the picture moved.
func movedInside(p spots, a impl.Spot) (spots, bool) {
	var moved spots
	for _, b := range p {
		c := at(b.X+a.X, b.Y+a.Y)
		if c.X < -30 || c.X > 30 || c.Y < -30 || c.Y > 30 {
			return nil, false
		}
		moved = append(moved, c)
	}
	return moved, true
}

func TestMovedPictures(t *testing.T) {
	list := append(subsets(-1, 0)[:8], samplePictures()...)
	for _, p := range list {
		for y := -62; y <= 62; y += 2 {
			for x := -61; x <= 61; x++ {
				a := at(x, y)
				want, inside := movedInside(p, a)
				got, ok := impl.MovedBy(p, a)
				if !inside || x < -60 || x > 60 || y < -60 || y > 60 {
					wantNone(t, "moved too far", got, ok)
					continue
				}
				wantTold(t, "moved", got, ok, want)
			}
		}
	}
}

func TestMovedPicturesAreMovedBack(t *testing.T) {
	for _, p := range samplePictures() {
		for _, a := range block(-5, -5, 11, 121) {
			moved, ok := impl.MovedBy(p, a)
			if !ok {
				continue
			}
			for _, b := range p {
				if !impl.HasSpot(moved, at(b.X+a.X, b.Y+a.Y)) {
					t.Fatalf("%v moved by %v: %v is not there", p, a, b)
				}
			}
			back, ok := impl.MovedBy(moved, at(-a.X, -a.Y))
			wantTold(t, "moved back", back, ok, p)
		}
	}
}

func TestMovesFromBorderToBorder(t *testing.T) {
	for _, x := range []int{-30, 30} {
		for _, y := range []int{-30, 30} {
			p := pic(x, y)
			got, ok := impl.MovedBy(p, at(-2*x, 0))
			wantTold(t, "from side to side", got, ok, pic(-x, y))
			got, ok = impl.MovedBy(p, at(0, -2*y))
			wantTold(t, "from row to row", got, ok, pic(x, -y))
			got, ok = impl.MovedBy(p, at(-2*x, -2*y))
			wantTold(t, "from corner to corner", got, ok, pic(-x, -y))
			got, ok = impl.MovedBy(p, at(-2*x-x/30, 0))
			wantNone(t, "past the other side", got, ok)
			got, ok = impl.MovedBy(p, at(0, -2*y-y/30))
			wantNone(t, "past the other row", got, ok)
			got, ok = impl.MovedBy(p, at(x/30, 0))
			wantNone(t, "off its side", got, ok)
			got, ok = impl.MovedBy(p, at(0, y/30))
			wantNone(t, "off its row", got, ok)
		}
	}
}

func TestMovesThatGoTooFarForOneSpot(t *testing.T) {
	p := pic(0, -12, -7, 0, 9, 0, 1, 8)
	for _, last := range pic(21, 0, -23, 0, 0, 22, 0, -18) {
		if _, ok := impl.MovedBy(p, last); !ok {
			t.Fatalf("moved by %v it is just inside", last)
		}
	}
	for _, first := range pic(22, 0, -24, 0, 0, 23, 0, -19) {
		got, ok := impl.MovedBy(p, first)
		wantNone(t, "one spot is outside", got, ok)
	}
}

func TestMovesOfTheEmptyPicture(t *testing.T) {
	for _, none := range []spots{nil, {}} {
		for _, a := range pic(0, 0, 60, 60, -60, -60, 60, -60, -60, 60, 31, -31) {
			got, ok := impl.MovedBy(none, a)
			wantTold(t, "none moved", got, ok, nil)
		}
		for _, a := range pic(61, 0, -61, 0, 0, 61, 0, -61, 61, -61) {
			got, ok := impl.MovedBy(none, a)
			wantNone(t, "none moved by too much", got, ok)
		}
	}
}

func TestInvalidMoves(t *testing.T) {
	for _, p := range []spots{nil, {}, pic(0, 0), pic(-30, -30), pic(30, 30), pic(-30, -30, 30, 30)} {
		for _, n := range extremes() {
			for _, a := range []impl.Spot{at(n, 0), at(0, n), at(n, n), at(n, 60), at(-60, n)} {
				got, ok := impl.MovedBy(p, a)
				wantNone(t, "moved by too much", got, ok)
			}
		}
	}
	for what, bad := range invalid() {
		for _, a := range pic(0, 0, 1, 0, -1, 0, 0, 1, 0, -1, -30, -30, 30, 30, 61, 0) {
			got, ok := impl.MovedBy(bad, a)
			wantNone(t, "moved: "+what, got, ok)
		}
		for _, n := range extremes() {
			got, ok := impl.MovedBy(bad, at(n, n))
			wantNone(t, "moved by too much: "+what, got, ok)
		}
	}
}

// Promise 7.

func turnedSet(p spots) spots {
	set := map[impl.Spot]bool{}
	for _, a := range p {
		set[at(-a.X, -a.Y)] = true
	}
	return pictureOf(set)
}

func TestTurnedPictures(t *testing.T) {
	list := append(samplePictures(), subsets(-1, 0)...)
	list = append(list, subsets(28, 29)...)
	for _, p := range list {
		turned := impl.TurnedOf(p)
		wantPicture(t, "turned", turned, turnedSet(p))
		if !impl.PictureOk(turned) {
			t.Fatalf("%v turned is no picture: %v", p, turned)
		}
		wantPicture(t, "turned twice", impl.TurnedOf(turned), p)
	}
}

func TestTurningKeepsWhatIsCommon(t *testing.T) {
	pairs(append(samplePictures(), subsets(-1, -1)[40:]...), func(p, q spots) {
		turned := impl.CommonOf(impl.TurnedOf(p), impl.TurnedOf(q))
		wantPicture(t, "common, turned", turned, impl.TurnedOf(impl.CommonOf(p, q)))
	})
}

func TestTurnedOnes(t *testing.T) {
	wantPicture(t, "none turned", impl.TurnedOf(nil), nil)
	wantPicture(t, "none turned", impl.TurnedOf(spots{}), nil)
	wantPicture(t, "the middle turned", impl.TurnedOf(pic(0, 0)), pic(0, 0))
	wantPicture(t, "a corner turned", impl.TurnedOf(pic(-30, 30)), pic(30, -30))
	wantPicture(t, "a few turned", impl.TurnedOf(pic(-2, 1, 3, 1, 0, 4)), pic(0, -4, -3, -1, 2, -1))
	for what, bad := range invalid() {
		wantPicture(t, "turned: "+what, impl.TurnedOf(bad), nil)
	}
}

// The general rules: arguments are not written to, and results are new.

func TestPicturesShareNoMemory(t *testing.T) {
	list := []spots{nil, pic(0, 0), pic(0, 0, 1, 0), pic(-3, -3, 4, -3, 0, 2), pic(-30, -30, 30, 30), block(0, 0, 10, 30), block(0, 3, 10, 30), block(0, 0, 10, 60)}
	for _, bad := range invalid() {
		list = append(list, bad)
	}
	pairs(list, func(p, q spots) {
		checkMemory(t, "UnionOf", func(args []spots) spots {
			union, _ := impl.UnionOf(args[0], args[1])
			return union
		}, p, q)
		checkMemory(t, "CommonOf", func(args []spots) spots { return impl.CommonOf(args[0], args[1]) }, p, q)
		checkMemory(t, "WithinOk", func(args []spots) spots {
			impl.WithinOk(args[0], args[1])
			return nil
		}, p, q)
	})
	for _, p := range list {
		for _, a := range pic(0, 0, 1, 0, -1, -1, 30, 30, 60, 60, 61, 0) {
			checkMemory(t, "MovedBy", func(args []spots) spots {
				moved, _ := impl.MovedBy(args[0], a)
				return moved
			}, p)
			checkMemory(t, "HasSpot", func(args []spots) spots {
				impl.HasSpot(args[0], a)
				return nil
			}, p)
		}
		checkMemory(t, "TurnedOf", func(args []spots) spots { return impl.TurnedOf(args[0]) }, p)
		checkMemory(t, "PictureOk", func(args []spots) spots {
			impl.PictureOk(args[0])
			return nil
		}, p)
	}
}

func TestPicturesShareNoMemoryWithThemselves(t *testing.T) {
	for _, p := range samplePictures() {
		checkMemory(t, "UnionOf one", func(args []spots) spots {
			union, _ := impl.UnionOf(args[0], args[0])
			return union
		}, p)
		checkMemory(t, "CommonOf one", func(args []spots) spots { return impl.CommonOf(args[0], args[0]) }, p)
	}
}

func TestPicturesDoNotDependOnCapacity(t *testing.T) {
	backing := block(-3, 0, 7, 60)
	p, q := backing[:20], backing[10:30]
	checkPair(t, p, q)
	checkPair(t, p[:20:20], q[:20:20])
	got, ok := impl.MovedBy(p, at(1, 1))
	want, _ := movedInside(p, at(1, 1))
	wantTold(t, "moved part", got, ok, want)
}

func TestBoundsOfPictures(t *testing.T) {
	if impl.MaxSpots != 60 || impl.MaxFar != 30 {
		t.Fatal("MaxSpots or MaxFar")
	}
}
