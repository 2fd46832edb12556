package tests

import (
	"math"
	"slices"
	"strings"
	"testing"

	"loop.example/growingpictures/impl"
)

// asking is the pattern of rows of signs, the lowest one first, of which the middle one is 0, 0: # must be there, o must not.
func asking(rows string) impl.Pattern {
	away := strings.NewReplacer("#", ".", "o", "#").Replace(rows)
	return impl.Pattern{There: drawn(rows), Away: drawn(away)}
}

// foundSet tells by sets where a pattern is found, the spots that are too far as well, and whether there are none of these.
func foundSet(p spots, m impl.Pattern) (map[impl.Spot]bool, bool) {
	in, found, inside := setOf(p), map[impl.Spot]bool{}, true
	for _, b := range p {
		for _, first := range m.There {
			a, all := at(b.X-first.X, b.Y-first.Y), true
			for _, c := range m.There {
				all = all && in[at(a.X+c.X, a.Y+c.Y)]
			}
			for _, c := range m.Away {
				all = all && !in[at(a.X+c.X, a.Y+c.Y)]
			}
			if all {
				found[a] = true
				inside = inside && max(a.X, -a.X, a.Y, -a.Y) <= 30
			}
		}
	}
	return found, inside
}

// leftSet is the spots of a picture that are none of a set.
func leftSet(p spots, gone map[impl.Spot]bool) spots {
	left := setOf(p)
	for a := range gone {
		left[a] = false
	}
	return pictureOf(left)
}

// spotsBeside tells of which spots of a picture how many of these others, added, are spots of it.
func spotsBeside(p, others spots, wanted func(n int) bool) spots {
	in, out := setOf(p), map[impl.Spot]bool{}
	for _, a := range p {
		n := 0
		for _, d := range others {
			if in[at(a.X+d.X, a.Y+d.Y)] {
				n++
			}
		}
		out[a] = wanted(n)
	}
	return pictureOf(out)
}

func aroundSpots() spots {
	return pic(-1, -1, 0, -1, 1, -1, -1, 0, 1, 0, -1, 1, 0, 1, 1, 1)
}

func besideSpots() spots {
	return pic(0, -1, -1, 0, 1, 0, 0, 1)
}

func loneSet(p spots) spots {
	return spotsBeside(p, aroundSpots(), func(n int) bool { return n == 0 })
}

func borderSet(p spots) spots {
	return spotsBeside(p, besideSpots(), func(n int) bool { return n < 4 })
}

// somePatterns is patterns of all sorts: of one spot, corners and ends, with parts of 9 spots, and as far as may be.
func somePatterns() []impl.Pattern {
	list := []impl.Pattern{
		asking("#"), asking(".#."), asking("#.."), asking("..#"), asking("# . ."), asking(". . #"),
		asking("##."), asking("o#."), asking(".#o"), asking("#o#"), asking("# o"), asking("ooo o#o ooo"), asking("### ### ###"),
		asking(".#. ### .#."), asking("o.. .#. ..o"), asking("oo. o## .#."), asking("#o# o.o #o#"), asking("ooo o.o o#o"),
		asking("oo.. o#.. ...."), asking("###.. ###.. ###.. ooo.. ooo.. ooo.. ....."),
		{There: pic(3, 3)}, {There: pic(-3, -3)}, {There: pic(-3, 0, 3, 0)}, {There: pic(0, -3, 0, 3)},
		{There: pic(3, 0), Away: pic(-3, 0)}, {There: pic(0, 0), Away: pic(-3, -3, 3, -3, -3, 3, 3, 3)},
		{There: pic(-3, -3, 3, 3), Away: pic(0, 0)}, {There: pic(0, 1, -1, 2), Away: pic(0, 0, 1, 2)},
	}
	return append(list,
		impl.Pattern{There: block(-3, -3, 7, 9), Away: block(-3, 1, 7, 9)},
		impl.Pattern{There: block(1, 1, 3, 9), Away: block(-3, -3, 3, 9)},
		impl.Pattern{There: pic(0, 0), Away: spots{}}, impl.Pattern{There: pic(1, 0, 2, 0), Away: make(spots, 0, 9)})
}

// smallPatterns is all patterns of a block of 3 by 2 spots, of which each is asked to be there, asked to be away, or not asked, and one is there.
func smallPatterns(x, y int) []impl.Pattern {
	var list []impl.Pattern
	for number := range 729 {
		var m impl.Pattern
		for _, a := range block(x, y, 3, 6) {
			switch number % 3 {
			case 1:
				m.There = append(m.There, a)
			case 2:
				m.Away = append(m.Away, a)
			}
			number /= 3
		}
		if len(m.There) > 0 {
			list = append(list, m)
		}
	}
	return list
}

// noPatterns is patterns that are not valid, each by what is wrong with it.
func noPatterns() map[string]impl.Pattern {
	bad := map[string]impl.Pattern{
		"asks nothing":                    {},
		"asks nothing, of empty slices":   {There: spots{}, Away: spots{}},
		"asks nothing to be there":        {Away: pic(0, 0)},
		"asks nothing of eight":           {There: spots{}, Away: aroundSpots()},
		"the same spot both ways":         {There: pic(0, 0), Away: pic(0, 0)},
		"the first spot both ways":        {There: pic(-1, 0, 0, 0), Away: pic(-1, 0, 1, 0)},
		"the last spot both ways":         {There: pic(-1, 0, 0, 0), Away: pic(-2, 0, 0, 0)},
		"a spot in between both ways":     {There: pic(-1, 0, 0, 0, 1, 0), Away: pic(0, -1, 0, 0, 0, 1)},
		"all spots both ways":             {There: block(-1, -1, 3, 9), Away: block(-1, -1, 3, 9)},
		"the first one last, both ways":   {There: pic(2, 2, 3, 3), Away: pic(-3, -3, 0, 0, 2, 2)},
		"10 spots there":                  {There: block(-3, -3, 5, 10)},
		"10 spots away":                   {There: pic(0, 0), Away: block(-3, -3, 5, 10)},
		"10 spots there and 9 away":       {There: block(-3, -3, 5, 10), Away: block(-3, 1, 5, 9)},
		"9 spots there and 10 away":       {There: block(-3, 1, 5, 9), Away: block(-3, -3, 5, 10)},
		"all spots of the square there":   {There: block(-3, -3, 7, 49)},
		"all but one away":                {There: pic(-3, -3), Away: block(-3, -3, 7, 49)[1:]},
		"there too far right":             {There: pic(0, 0, 4, 0)},
		"there too far left":              {There: pic(-4, 0, 0, 0)},
		"there too far up":                {There: pic(0, 0, 0, 4)},
		"there too far down":              {There: pic(0, -4, 0, 0)},
		"there too far in the middle":     {There: pic(0, 0, 4, 1, 0, 2)},
		"away too far right":              {There: pic(0, 0), Away: pic(3, 0, 4, 0)},
		"away too far left":               {There: pic(0, 0), Away: pic(-4, 0, -3, 0)},
		"away too far up":                 {There: pic(0, 0), Away: pic(0, 3, 0, 4)},
		"away too far down":               {There: pic(0, 0), Away: pic(0, -4, 0, -3)},
		"away too far in the middle":      {There: pic(0, 0), Away: pic(1, 0, -4, 1, 1, 2)},
		"a picture, but too far there":    {There: pic(30, 30)},
		"a picture, but too far away":     {There: pic(0, 0), Away: pic(-30, -30)},
		"there from right to left":        {There: pic(1, 0, 0, 0)},
		"there from above":                {There: pic(0, 1, 0, 0)},
		"there the same spot twice":       {There: pic(0, 0, 0, 0)},
		"away from right to left":         {There: pic(0, 0), Away: pic(2, 0, 1, 0)},
		"away from above":                 {There: pic(0, 0), Away: pic(0, 2, 0, 1)},
		"away the same spot twice":        {There: pic(0, 0), Away: pic(1, 0, 1, 0)},
		"by columns there":                {There: pic(0, 0, 0, 1, 1, 0)},
		"by columns away":                 {There: pic(3, 3), Away: pic(0, 0, 0, 1, 1, 0)},
		"out of order, and both ways":     {There: pic(0, 0), Away: pic(1, 0, 0, 0)},
		"too far as far as an int can be": {There: pic(math.MinInt, math.MaxInt)},
	}
	for what, part := range invalid() {
		bad["there: "+what] = impl.Pattern{There: part}
		bad["there, with away: "+what] = impl.Pattern{There: part, Away: pic(-3, 3)}
		bad["away: "+what] = impl.Pattern{There: pic(-3, 3), Away: part}
		bad["both: "+what] = impl.Pattern{There: part, Away: part}
	}
	return bad
}

// patternPictures is pictures in which many patterns are found, at the ends as well.
func patternPictures() []spots {
	list := append(shrinkPictures(),
		nil, spots{}, pic(30, 30), pic(-30, -30), pic(30, -30), pic(-30, 30), pic(-30, -30, 30, 30), pic(27, 0), pic(-27, 0), pic(28, 0, 30, 0),
		block(28, 28, 3, 9), block(-30, -30, 3, 9), block(-30, 28, 3, 9), block(28, -30, 3, 9), block(-1, -1, 3, 9), block(-2, -2, 5, 25),
		pic(0, 0, 2, 0, 4, 0, 0, 2, 2, 2, 4, 2), pic(0, 0, 1, 1, 2, 2, 4, 2), pic(0, 0, 1, 0, 2, 0, 0, 1), pic(-3, -3, 3, -3, 0, 0, -3, 3, 3, 3),
		pic(-5, 0, -4, 0, -3, 0, 1, 1, 5, 2, 6, 3, -9, 9, 9, 9))
	return append(list, scattered(8, 4)...)
}

// checkFound holds what a pattern finds, and what is thinned by it, against sets, and against the promise 23.
func checkFound(t *testing.T, p spots, m impl.Pattern) {
	t.Helper()
	set, told := foundSet(p, m)
	found, ok := impl.FoundIn(p, m)
	wantIfTold(t, "found", found, ok, pictureOf(set), told)
	left, isTold := impl.ThinnedBy(p, m)
	wantTold(t, "thinned", left, isTold, leftSet(p, set))
	if !impl.WithinOk(left, p) || ok && len(impl.CommonOf(left, found)) != 0 {
		t.Fatalf("%v thinned by %v is %v, found is %v", p, m, left, found)
	}
}

// wantFound takes the rows of a picture, and of what is found there.
func wantFound(t *testing.T, what string, m impl.Pattern, rows, found string) {
	t.Helper()
	got, ok := impl.FoundIn(drawn(rows), m)
	wantTold(t, what, got, ok, drawn(found))
}

// Promise 21.

func TestOneSpotIsAPattern(t *testing.T) {
	for _, a := range block(-6, -6, 13, 13*13) {
		near := max(a.X, -a.X, a.Y, -a.Y) <= 3
		if got := impl.PatternOk(impl.Pattern{There: spots{a}}); got != near {
			t.Fatalf("%v there: %v", a, got)
		}
		if got := impl.PatternOk(impl.Pattern{There: spots{a}, Away: spots{}}); got != near {
			t.Fatalf("%v there, and an empty slice away: %v", a, got)
		}
		if impl.PatternOk(impl.Pattern{Away: spots{a}}) {
			t.Fatalf("%v away, and nothing there", a)
		}
		for _, b := range block(-4, -4, 9, 81) {
			bNear := max(b.X, -b.X, b.Y, -b.Y) <= 3
			if got := impl.PatternOk(impl.Pattern{There: spots{a}, Away: spots{b}}); got != (near && bNear && a != b) {
				t.Fatalf("%v there, %v away: %v", a, b, got)
			}
		}
	}
}

func TestPatternsStayOnesWithoutAway(t *testing.T) {
	for _, m := range append(somePatterns(), smallPatterns(-1, 0)...) {
		if !impl.PatternOk(m) || !impl.PatternOk(impl.Pattern{There: m.There}) {
			t.Fatalf("%v is none, or without Away", m)
		}
		if impl.PatternOk(impl.Pattern{Away: m.Away}) {
			t.Fatalf("%v is one without There", m)
		}
		if len(m.Away) > 0 && !impl.PatternOk(impl.Pattern{There: m.Away, Away: m.There}) {
			t.Fatalf("%v is none exchanged", m)
		}
	}
}

func TestPartsOfPatternsHaveAtMostNineSpots(t *testing.T) {
	for there := range 20 {
		for away := range 20 {
			m := impl.Pattern{There: block(-3, -3, 7, there), Away: block(-3, 0, 7, away)}
			if got, want := impl.PatternOk(m), there >= 1 && there <= 9 && away <= 9; got != want {
				t.Fatalf("%d there and %d away: %v", there, away, got)
			}
		}
	}
}

func TestNoSpotIsInBothParts(t *testing.T) {
	full := block(-1, -1, 3, 9)
	for there := 1; there < 512; there += 2 {
		for away := range 512 {
			var m impl.Pattern
			for i, a := range full {
				if there>>i&1 == 1 {
					m.There = append(m.There, a)
				}
				if away>>i&1 == 1 {
					m.Away = append(m.Away, a)
				}
			}
			if got, want := impl.PatternOk(m), there&away == 0; got != want {
				t.Fatalf("%v: %v", m, got)
			}
		}
	}
}

func TestInvalidPatterns(t *testing.T) {
	for what, m := range noPatterns() {
		if impl.PatternOk(m) {
			t.Errorf("%s: is a pattern", what)
		}
		for _, p := range []spots{nil, {}, pic(0, 0), pic(30, 30), block(-1, -1, 3, 9), block(0, 0, 10, 60), row(-30, -30, 60)} {
			got, ok := impl.FoundIn(p, m)
			wantNone(t, "found: "+what, got, ok)
			got, ok = impl.ThinnedBy(p, m)
			wantNone(t, "thinned: "+what, got, ok)
		}
	}
}

// Promise 22.

func TestSmallPatternsInSmallPictures(t *testing.T) {
	for _, corner := range pic(0, 0, -30, -30, 28, 29) {
		for i, m := range smallPatterns(-1, -1) {
			for j, p := range subsets(corner.X, corner.Y) {
				if corner.X == 0 || (i+j)%4 == 0 {
					checkFound(t, p, m)
				}
			}
		}
	}
}

func TestPatternsInGreaterPictures(t *testing.T) {
	for _, p := range append(patternPictures(), samplePictures()...) {
		for _, m := range somePatterns() {
			checkFound(t, p, m)
		}
	}
}

func TestAFewAreFound(t *testing.T) {
	rows := "###.. ####. .###. ..... ....#"
	wantFound(t, "each spot", asking("#"), rows, rows)
	wantFound(t, "those on the left of another one", asking(".##"), rows, "##... ###.. .##.. ..... .....")
	wantFound(t, "the spots on the left of all", asking("..#"), ".###. .#.## .....", "###.. #.##. .....")
	wantFound(t, "corners below, on the left", asking("ooo o## o#."), rows, "#.... ..... ..... ..... .....")
	wantFound(t, "corners below, on the left, less asked", asking(".o. o## .#."), rows, "#.... ..... ..... ..... .....")
	wantFound(t, "corners above, on the right", asking(".#. ##o .o."), rows, "..... ..... ...#. ..... .....")
	wantFound(t, "ends of rows on the right", asking(".#o"), rows, "..#.. ...#. ...#. ..... ....#")
	wantFound(t, "beginnings of rows", asking("o#."), rows, "#.... #... .#... ..... ....#")
	wantFound(t, "all nine", asking("### ### ###"), "##### ##### #####", "..... .###. .....")
	wantFound(t, "all nine, but one is missing", asking("### ### ###"), rows, "..... ..... ..... ..... .....")
	wantFound(t, "lone ones", asking("ooo o#o ooo"), rows, "..... ..... ..... ..... ....#")
	wantFound(t, "spots that are none of the picture", asking(".#. .o. ..."), ".###. .#... .....", "..... ..##. .#...")
	wantFound(t, "holes", asking(".#. #o# .#."), ".###. .#.#. .###.", "..... ..#.. .....")
	wantFound(t, "holes that are not asked to be away", asking(".#. #.# .#."), "..... .###. .#.#. .###. .....", "..... ..... ..#.. ..... .....")
	wantFound(t, "nowhere", asking("#o#"), rows, "..... ..... ..... ..... .....")
}

func TestFoundAtSpotsThatAreNotOnes(t *testing.T) {
	p := block(0, 0, 2, 4)
	for _, c := range []struct {
		m    impl.Pattern
		want spots
	}{
		{impl.Pattern{There: pic(3, 3)}, block(-3, -3, 2, 4)},
		{impl.Pattern{There: pic(-3, 3)}, block(3, -3, 2, 4)},
		{impl.Pattern{There: pic(3, 3), Away: pic(2, 3)}, pic(-3, -3, -3, -2)},
		{impl.Pattern{There: pic(1, 0), Away: pic(0, 0)}, pic(-1, 0, -1, 1)},
		{impl.Pattern{There: pic(0, 1), Away: pic(0, 0)}, pic(0, -1, 1, -1)},
		{impl.Pattern{There: pic(-1, 0, 1, 0)}, nil},
	} {
		got, ok := impl.FoundIn(p, c.m)
		wantTold(t, "found apart", got, ok, c.want)
		checkFound(t, p, c.m)
	}
}

func TestFoundTooFarIsNotTold(t *testing.T) {
	for _, d := range block(-3, -3, 7, 49) {
		m := impl.Pattern{There: spots{d}}
		for _, b := range block(-30, -30, 61, 61*61) {
			if max(b.X, -b.X) < 27 && max(b.Y, -b.Y) < 27 {
				continue
			}
			a := at(b.X-d.X, b.Y-d.Y)
			got, ok := impl.FoundIn(spots{b}, m)
			wantIfTold(t, "one spot found", got, ok, spots{a}, max(a.X, -a.X, a.Y, -a.Y) <= 30)
		}
	}
	for _, c := range []struct {
		what string
		p    spots
		m    impl.Pattern
		left spots
	}{
		{"one of two too far left", pic(-30, 0, 0, 0), impl.Pattern{There: pic(1, 0)}, pic(-30, 0, 0, 0)},
		{"one of two too far right", pic(0, 0, 30, 0), impl.Pattern{There: pic(-1, 0)}, pic(0, 0, 30, 0)},
		{"one of two too far down", pic(0, -30, 0, 0), impl.Pattern{There: pic(0, 1)}, pic(0, -30, 0, 0)},
		{"one of two too far up", pic(0, 0, 0, 30), impl.Pattern{There: pic(0, -1)}, pic(0, 0, 0, 30)},
		{"one of a row too far, but the others go", row(-30, 0, 4), impl.Pattern{There: pic(1, 0)}, pic(-27, 0)},
		{"all go but one, and one is too far", row(27, 0, 4), impl.Pattern{There: pic(-1, 0)}, pic(27, 0)},
		{"three too far left, one at the end", row(-30, 0, 5), impl.Pattern{There: pic(3, 0)}, row(-28, 0, 3)},
	} {
		got, ok := impl.FoundIn(c.p, c.m)
		wantNone(t, c.what, got, ok)
		left, ok := impl.ThinnedBy(c.p, c.m)
		wantTold(t, c.what+", thinned", left, ok, c.left)
		checkFound(t, c.p, c.m)
	}
	got, ok := impl.FoundIn(pic(-30, 0, -29, 0), impl.Pattern{There: pic(1, 0), Away: pic(2, 0)})
	wantTold(t, "what would be too far is not found", got, ok, pic(-30, 0))
	got, ok = impl.FoundIn(pic(-30, 0, 0, 0), impl.Pattern{There: pic(1, 0), Away: pic(0, 0)})
	wantNone(t, "away where no spot may be", got, ok)
	got, ok = impl.FoundIn(pic(30, 30), impl.Pattern{There: pic(0, 0), Away: pic(3, 3)})
	wantTold(t, "nothing is there beyond the end", got, ok, pic(30, 30))
}

func TestFoundWithoutAwayIsShrunk(t *testing.T) {
	told, less := 0, 0
	for _, p := range append(patternPictures(), subsets(-1, 0)[32:]...) {
		for _, m := range append(somePatterns(), smallPatterns(0, 0)[300:360]...) {
			all, allOk := impl.FoundIn(p, impl.Pattern{There: m.There})
			shrunk, shrunkOk := impl.ShrunkBy(p, m.There)
			if allOk != shrunkOk || !same(all, shrunk) {
				t.Fatalf("%v found in %v without Away: %v %v, shrunk %v %v", m, p, all, allOk, shrunk, shrunkOk)
			}
			found, ok := impl.FoundIn(p, m)
			if !allOk {
				continue
			}
			if !ok || !impl.WithinOk(found, all) {
				t.Fatalf("%v found in %v: %v %v, without Away %v", m, p, found, ok, all)
			}
			if len(found) > 0 {
				told++
			}
			if len(found) < len(all) {
				less++
			}
		}
	}
	if told < 500 || less < 500 {
		t.Fatalf("only %d are found, and %d are less", told, less)
	}
}

func TestPatternsThatAskMoreAreFoundAtFewerSpots(t *testing.T) {
	for _, p := range append(patternPictures(), subsets(0, 0)[40:]...) {
		for _, m := range somePatterns() {
			found, ok := impl.FoundIn(p, m)
			if !ok {
				continue
			}
			for _, a := range block(-3, -3, 7, 49) {
				there, _ := impl.UnionOf(m.There, spots{a})
				away, _ := impl.UnionOf(m.Away, spots{a})
				for _, more := range []impl.Pattern{{There: there, Away: m.Away}, {There: m.There, Away: away}} {
					if !impl.PatternOk(more) {
						continue
					}
					fewer, ok := impl.FoundIn(p, more)
					if !ok || !impl.WithinOk(fewer, found) {
						t.Fatalf("%v is found in %v at %v, but %v at %v %v", m, p, found, more, fewer, ok)
					}
				}
			}
		}
	}
}

func TestFoundMovesWithThePicture(t *testing.T) {
	told := 0
	for _, p := range append(patternPictures(), subsets(27, 0)...) {
		for _, by := range pic(1, 0, -1, 0, 0, 1, 5, -7) {
			moved, ok := impl.MovedBy(p, by)
			if !ok {
				continue
			}
			for _, m := range somePatterns() {
				found, foundOk := impl.FoundIn(p, m)
				got, ok := impl.FoundIn(moved, m)
				if !foundOk || !ok {
					continue
				}
				want, wantOk := impl.MovedBy(found, by)
				wantTold(t, "found in the moved picture", got, wantOk, want)
				if len(got) > 0 {
					told++
				}
			}
		}
	}
	if told < 1000 {
		t.Fatalf("only %d are told", told)
	}
}

func TestPatternsMovedAreFoundMovedBack(t *testing.T) {
	for _, p := range []spots{block(0, 0, 10, 60), pic(0, 0, 1, 0, 2, 0, 0, 1), scattered(8, 4)[3], scattered(8, 4)[6]} {
		for _, m := range smallPatterns(-1, 0)[:400] {
			found, _ := impl.FoundIn(p, m)
			for _, by := range pic(2, 2, -2, 0, 1, -3) {
				there, _ := impl.MovedBy(m.There, by)
				away, _ := impl.MovedBy(m.Away, by)
				got, ok := impl.FoundIn(p, impl.Pattern{There: there, Away: away})
				want, _ := impl.MovedBy(found, at(-by.X, -by.Y))
				wantTold(t, "found by the moved pattern", got, ok, want)
			}
		}
	}
}

func TestNothingIsFoundInTheEmptyPicture(t *testing.T) {
	for _, none := range []spots{nil, {}, make(spots, 0, 9)} {
		for _, m := range append(somePatterns(), smallPatterns(-1, -1)...) {
			got, ok := impl.FoundIn(none, m)
			wantTold(t, "found in none", got, ok, nil)
			got, ok = impl.ThinnedBy(none, m)
			wantTold(t, "none thinned", got, ok, nil)
		}
		wantPicture(t, "lone ones of none", impl.LoneSpots(none), nil)
		wantPicture(t, "the border of none", impl.BorderOf(none), nil)
	}
}

func TestPatternsWithNilAndEmptyPartsFindTheSame(t *testing.T) {
	for _, p := range patternPictures() {
		for _, m := range somePatterns() {
			want, told := impl.FoundIn(p, impl.Pattern{There: m.There})
			got, ok := impl.FoundIn(p, impl.Pattern{There: m.There, Away: make(spots, 0, 5)})
			wantIfTold(t, "found without Away", got, ok, want, told)
		}
	}
}

func TestPatternsWithPartsOfNineSpots(t *testing.T) {
	there, away := block(-3, -3, 7, 9), block(-3, 1, 7, 9)
	m := impl.Pattern{There: there, Away: away}
	for _, b := range pic(0, 0, 5, -7, -27, -27, 27, -20) {
		p, _ := impl.MovedBy(there, b)
		got, ok := impl.FoundIn(p, m)
		wantTold(t, "nine there", got, ok, spots{b})
		for i := range p {
			got, ok = impl.FoundIn(slices.Delete(slices.Clone(p), i, i+1), m)
			wantTold(t, "eight there", got, ok, nil)
		}
		for _, c := range away {
			more, _ := impl.UnionOf(p, pic(b.X+c.X, b.Y+c.Y))
			got, ok = impl.FoundIn(more, m)
			wantTold(t, "one that must not be there", got, ok, nil)
		}
		more, _ := impl.UnionOf(p, pic(b.X-3, b.Y))
		got, ok = impl.FoundIn(more, m)
		wantTold(t, "one that is not asked", got, ok, spots{b})
	}
}

// Promise 23.

func TestAFewAreThinned(t *testing.T) {
	for _, c := range []struct {
		what       string
		m          impl.Pattern
		rows, left string
	}{
		{"by one spot all go", asking("#"), "### #.# ###", "... ... ..."},
		{"by a spot beside, those with one on the right go", asking("..#"), "### #.# ###", "..# #.# ..#"},
		{"by lone spots these go", asking("ooo o#o ooo"), "#...# ..... .##..", "..... ..... .##.."},
		{"by ends of rows these go", asking(".#o"), "####. .##.. ....#", "###.. .#... ....."},
		{"by corners that are found once", asking(".o. o## .#."), "### ### ###", ".## ### ###"},
		{"by holes nothing goes", asking(".#. #o# .#."), "### #.# ###", "### #.# ###"},
		{"by what is found nowhere nothing goes", asking("#o#"), "### ### ###", "### ### ###"},
		{"by the inside the border stays", asking(".#. ### .#."), "##### ##### ##### .....", "##### #...# ##### ....."},
	} {
		got, ok := impl.ThinnedBy(drawn(c.rows), c.m)
		wantTold(t, c.what, got, ok, drawn(c.left))
	}
}

// TestThinnedIsToldWhereFoundIsNot takes spots that are found outside of the pictures: they are none of the picture, and do not matter.
func TestThinnedIsToldWhereFoundIsNot(t *testing.T) {
	for _, p := range []spots{row(-30, 0, 60), row(-30, 30, 4), block(-30, -30, 3, 9), pic(-30, 0), pic(-30, 30, -29, 30)} {
		m := impl.Pattern{There: pic(1, 0)}
		got, ok := impl.FoundIn(p, m)
		wantNone(t, "found too far left", got, ok)
		var want spots
		for _, a := range p {
			if !slices.Contains(p, at(a.X+1, a.Y)) {
				want = append(want, a)
			}
		}
		got, ok = impl.ThinnedBy(p, m)
		wantTold(t, "thinned", got, ok, want)
	}
}

func TestThinnedAndFoundOnesAreThePicture(t *testing.T) {
	for _, p := range patternPictures() {
		for _, m := range somePatterns() {
			found, ok := impl.FoundIn(p, m)
			if !ok {
				continue
			}
			left, isTold := impl.ThinnedBy(p, m)
			gone := impl.CommonOf(p, found)
			union, _ := impl.UnionOf(left, gone)
			if !isTold || !same(union, p) || len(left)+len(gone) != len(p) {
				t.Fatalf("%v thinned by %v: %v, found %v", p, m, left, found)
			}
		}
	}
}

func TestInvalidPicturesWithPatterns(t *testing.T) {
	for what, bad := range invalid() {
		for _, m := range somePatterns() {
			got, ok := impl.FoundIn(bad, m)
			wantNone(t, "found in "+what, got, ok)
			got, ok = impl.ThinnedBy(bad, m)
			wantNone(t, "thinned: "+what, got, ok)
		}
		for _, m := range []impl.Pattern{{}, {There: bad}, {There: pic(0, 0), Away: bad}, {There: bad, Away: bad}, {There: block(-3, -3, 5, 10)}} {
			got, ok := impl.FoundIn(bad, m)
			wantNone(t, "nothing valid found in "+what, got, ok)
			got, ok = impl.ThinnedBy(bad, m)
			wantNone(t, "nothing valid thinned: "+what, got, ok)
		}
		wantPicture(t, "lone ones: "+what, impl.LoneSpots(bad), nil)
		wantPicture(t, "border: "+what, impl.BorderOf(bad), nil)
	}
}

// Promise 24.

// checkLone holds lone spots and the border against sets, and against the promises 24 and 25.
func checkLone(t *testing.T, p spots) {
	t.Helper()
	lone, border := impl.LoneSpots(p), impl.BorderOf(p)
	wantPicture(t, "lone spots", lone, loneSet(p))
	wantPicture(t, "border", border, borderSet(p))
	found, ok := impl.FoundIn(p, impl.Pattern{There: pic(0, 0), Away: aroundSpots()})
	wantTold(t, "lone spots found", found, ok, lone)
	if !impl.WithinOk(lone, border) || !impl.WithinOk(border, p) || len(p) > 0 && len(border) == 0 {
		t.Fatalf("%v has lone spots %v, and the border %v", p, lone, border)
	}
	inside, ok := impl.ShrunkBy(p, impl.BallOf(1, 0))
	wantTold(t, "inside", inside, ok, leftSet(p, setOf(border)))
}

func TestLoneSpotsAndBordersOfSmallPictures(t *testing.T) {
	for _, corner := range pic(0, 0, -1, -1, -30, -30, 28, 29, -30, 29, 28, -30) {
		for _, p := range subsets(corner.X, corner.Y) {
			checkLone(t, p)
		}
	}
	for _, p := range subsetsOf(block(-1, -1, 3, 9)) {
		checkLone(t, p)
	}
}

func TestLoneSpotsAndBordersOfGreaterPictures(t *testing.T) {
	for _, p := range append(patternPictures(), ballPictures()...) {
		checkLone(t, p)
	}
	for _, p := range append(scattered(60, 4), scattered(30, 12)...) {
		checkLone(t, p)
	}
}

func TestLoneSpotsHaveNoneOfEightNeighbours(t *testing.T) {
	for _, a := range append(endSpots(), pic(29, 29, -29, -29)...) {
		wantPicture(t, "one spot", impl.LoneSpots(spots{a}), spots{a})
		for _, d := range block(-2, -2, 5, 25) {
			b := at(a.X+d.X, a.Y+d.Y)
			if d == at(0, 0) || max(b.X, -b.X, b.Y, -b.Y) > 30 {
				continue
			}
			two := pictureOf(setOf(spots{a, b}))
			want := two
			if max(d.X, -d.X, d.Y, -d.Y) == 1 {
				want = nil
			}
			wantPicture(t, "two spots", impl.LoneSpots(two), want)
		}
	}
}

func TestAFewAreLone(t *testing.T) {
	wantPicture(t, "apart by one", impl.LoneSpots(drawn("#.#.# ..... #.#.#")), drawn("#.#.# ..... #.#.#"))
	wantPicture(t, "aslant they are not", impl.LoneSpots(drawn("#.#.# .#... #...#")), drawn("....# ..... ....#"))
	wantPicture(t, "a hole is no spot", impl.LoneSpots(drawn("### #.# ###")), nil)
	wantPicture(t, "in a wide ring", impl.LoneSpots(drawn("##### #...# #.#.# #...# #####")), pic(0, 0))
	wantPicture(t, "all four ends", impl.LoneSpots(pic(-30, -30, 30, -30, -30, 30, 30, 30)), pic(-30, -30, 30, -30, -30, 30, 30, 30))
	wantPicture(t, "the end of a row, and the beginning of the next one", impl.LoneSpots(pic(30, 0, -30, 1)), pic(30, 0, -30, 1))
	var apart spots
	for _, a := range block(-14, -3, 10, 60) {
		apart = append(apart, at(-30+2*(a.X+14), 2*a.Y))
	}
	wantPicture(t, "60 lone ones", impl.LoneSpots(apart), apart)
}

// Promise 25.

func TestAFewBorders(t *testing.T) {
	for _, c := range []struct {
		what, rows, border string
	}{
		{"three by three", "### ### ###", "### #.# ###"},
		{"without a corner", "### ### ##.", "### #.# ##."},
		{"with a hole", "##### ##### ##.## ##### #####", "##### #.#.# ##.## #.#.# #####"},
		{"a cross", ".#. ### .#.", ".#. #.# .#."},
		{"a row", ".... #### ....", ".... #### ...."},
		{"two rows", "##### ##### .....", "##### ##### ....."},
		{"a great cross", "..#.. ..#.. ##### ..#.. ..#..", "..#.. ..#.. ##.## ..#.. ..#.."},
	} {
		wantPicture(t, c.what, impl.BorderOf(drawn(c.rows)), drawn(c.border))
	}
	full := block(0, 0, 10, 60)
	wantPicture(t, "ten by six", impl.BorderOf(full), leftSet(full, setOf(block(1, 1, 8, 32))))
	for _, corner := range pic(-30, -30, 28, -30, -30, 28, 28, 28) {
		nine := block(corner.X, corner.Y, 3, 9)
		wantPicture(t, "nine at an end", impl.BorderOf(nine), slices.Delete(slices.Clone(nine), 4, 5))
	}
	for _, p := range []spots{row(-30, 30, 60), column(30, -30, 60), row(-30, -30, 60), column(-30, -29, 60), block(-30, -30, 2, 60), block(-30, 29, 30, 60)} {
		wantPicture(t, "all of a thin one", impl.BorderOf(p), p)
	}
	wantPicture(t, "three rows at the upper end", impl.BorderOf(block(-30, 28, 20, 60)), leftSet(block(-30, 28, 20, 60), setOf(row(-29, 29, 18))))
}

func TestOneOfFourIsEnoughForABorder(t *testing.T) {
	cross := drawn(".#. ### .#.")
	for _, a := range pic(0, 0, 29, 0, -29, 0, 0, 29, 0, -29, 29, 29, -29, -29) {
		p, _ := impl.MovedBy(cross, a)
		wantPicture(t, "all but the middle", impl.BorderOf(p), leftSet(p, setOf(spots{a})))
		for _, d := range besideSpots() {
			less := leftSet(p, setOf(pic(a.X+d.X, a.Y+d.Y)))
			wantPicture(t, "the middle as well", impl.BorderOf(less), less)
		}
	}
}

// The general rules: arguments are not written to, and results are new.

func TestPatternsShareNoMemory(t *testing.T) {
	pictures := []spots{nil, pic(0, 0), pic(-30, 0, 0, 0), pic(0, 0, 1, 0, 5, 5), block(0, 0, 3, 18), block(0, 0, 10, 60), pic(1, 0, 0, 0), block(0, 0, 10, 61)}
	patterns := append(somePatterns(), impl.Pattern{}, impl.Pattern{There: pic(0, 0), Away: pic(0, 0)}, impl.Pattern{There: block(-3, -3, 5, 10)})
	for _, bad := range invalid() {
		pictures = append(pictures, bad)
		patterns = append(patterns, impl.Pattern{There: bad}, impl.Pattern{There: pic(0, 0), Away: bad})
	}
	for _, p := range pictures {
		for _, m := range patterns {
			checkMemory(t, "FoundIn", func(args []spots) spots {
				found, _ := impl.FoundIn(args[0], impl.Pattern{There: args[1], Away: args[2]})
				return found
			}, p, m.There, m.Away)
			checkMemory(t, "ThinnedBy", func(args []spots) spots {
				left, _ := impl.ThinnedBy(args[0], impl.Pattern{There: args[1], Away: args[2]})
				return left
			}, p, m.There, m.Away)
		}
		checkMemory(t, "LoneSpots", func(args []spots) spots { return impl.LoneSpots(args[0]) }, p)
		checkMemory(t, "BorderOf", func(args []spots) spots { return impl.BorderOf(args[0]) }, p)
	}
	for _, m := range patterns {
		checkMemory(t, "PatternOk", func(args []spots) spots {
			impl.PatternOk(impl.Pattern{There: args[0], Away: args[1]})
			return nil
		}, m.There, m.Away)
	}
}

func TestPatternsOfPartsOfOneSlice(t *testing.T) {
	backing := block(-3, 0, 7, 21)
	p, there, away := backing, backing[3:5], backing[5:9]
	for _, m := range []impl.Pattern{{There: there, Away: away}, {There: there, Away: backing[14:20]}, {There: backing[:9], Away: backing[9:18]}, {There: slices.Clip(there), Away: slices.Clip(away)}} {
		checkFound(t, p, m)
		checkFound(t, p[:10], m)
		checkFound(t, m.There, m)
	}
	checkLone(t, backing[2:16])
}
