package tests

import (
	"bytes"
	"regexp"
	"slices"
	"strconv"
	"strings"
	"testing"

	"loop.example/growingpictures/impl"
)

// rowsBySigns puts a # to the place of each spot, apart from the program's way, which asks of each place for a spot.
func rowsBySigns(p spots) []string {
	if len(p) == 0 {
		return nil
	}
	least, greatest := cornersOf(p)
	signs := make([][]byte, greatest.Y-least.Y+1)
	for i := range signs {
		signs[i] = bytes.Repeat([]byte{'.'}, greatest.X-least.X+1)
	}
	for _, a := range p {
		signs[greatest.Y-a.Y][a.X-least.X] = '#'
	}
	var rows []string
	for _, row := range signs {
		rows = append(rows, string(row))
	}
	return rows
}

func textBySigns(p spots) string {
	if len(p) == 0 {
		return "-"
	}
	least, _ := cornersOf(p)
	return decimal(least.X) + "," + decimal(least.Y) + ":" + strings.Join(rowsBySigns(p), "/")
}

var textParts = regexp.MustCompile(`\A(0|-?[1-9][0-9]?),(0|-?[1-9][0-9]?):([#.]+(?:/[#.]+)*)\z`)

// readBySigns holds a text against all that makes it one, each by itself, apart from the program's way, which writes what it has read.
func readBySigns(s string) (spots, bool) {
	if s == "-" {
		return nil, true
	}
	parts := textParts.FindStringSubmatch(s)
	if parts == nil {
		return nil, false
	}
	x, _ := strconv.Atoi(parts[1])
	y, _ := strconv.Atoi(parts[2])
	rows := strings.Split(parts[3], "/")
	wide, high := len(rows[0]), len(rows)
	if x < -30 || y < -30 || x+wide-1 > 30 || y+high-1 > 30 || strings.Count(s, "#") > 60 {
		return nil, false
	}
	var left, right bool
	for _, row := range rows {
		if len(row) != wide {
			return nil, false
		}
		left = left || row[0] == '#'
		right = right || row[wide-1] == '#'
	}
	if !left || !right || !strings.Contains(rows[0], "#") || !strings.Contains(rows[high-1], "#") {
		return nil, false
	}
	set := map[impl.Spot]bool{}
	for i, row := range rows {
		for j, sign := range row {
			set[at(x+j, y+high-1-i)] = sign == '#'
		}
	}
	return pictureOf(set), true
}

// checkReading holds a text of any kind against what is read from it. It reports whether it is the text of a picture.
func checkReading(t *testing.T, s string) bool {
	t.Helper()
	want, isOne := readBySigns(s)
	got, ok := impl.ReadText(s)
	if ok != isOne || !same(got, want) {
		t.Fatalf("ReadText of %q: got %v %v, want %v %v", s, got, ok, want, isOne)
	}
	if !ok {
		return false
	}
	if text := impl.TextOf(got); text != s {
		t.Fatalf("%q is read as %v, which has the text %q", s, got, text)
	}
	if again, ok := impl.ReadText(s + "/"); ok || len(again) != 0 {
		t.Fatalf("%q with a slash behind is read as %v %v", s, again, ok)
	}
	return true
}

func wantRefused(t *testing.T, what, s string) {
	t.Helper()
	got, ok := impl.ReadText(s)
	wantNone(t, what+", "+strconv.Quote(s[:min(len(s), 200)]), got, ok)
	if checkReading(t, s) {
		t.Fatalf("%s: %q is a text", what, s)
	}
}

// shortBySigns counts from each sign on how many are equal.
func shortBySigns(row string) string {
	short := ""
	for i := 0; i < len(row); {
		n := 1
		for i+n < len(row) && row[i+n] == row[i] {
			n++
		}
		if n > 1 {
			short += decimal(n)
		}
		short += row[i : i+1]
		i += n
	}
	return short
}

var shortRuns = regexp.MustCompile(`\A(?:(?:[2-9]|[1-9][0-9])?[#.])+\z`)
var shortRun = regexp.MustCompile(`([0-9]*)([#.])`)

// longBySigns holds a short row against all that makes it one, each by itself.
func longBySigns(s string) (string, bool) {
	if !shortRuns.MatchString(s) {
		return "", false
	}
	row := ""
	for _, run := range shortRun.FindAllStringSubmatch(s, -1) {
		n := 1
		if run[1] != "" {
			n, _ = strconv.Atoi(run[1])
		}
		if strings.HasSuffix(row, run[2]) || len(row)+n > 61 {
			return "", false
		}
		row += strings.Repeat(run[2], n)
	}
	return row, true
}

// checkLong holds a short row of any kind against what is read from it. It reports whether it is one of a row.
func checkLong(t *testing.T, s string) bool {
	t.Helper()
	want, isOne := longBySigns(s)
	got, ok := impl.LongRow(s)
	if ok != isOne || got != want {
		t.Fatalf("LongRow of %q: got %q %v, want %q %v", s, got, ok, want, isOne)
	}
	if !ok {
		return false
	}
	if short := impl.ShortRow(got); short != s {
		t.Fatalf("%q is read as %q, which is written %q", s, got, short)
	}
	return true
}

func wantNoLong(t *testing.T, what, s string) {
	t.Helper()
	if row, ok := impl.LongRow(s); ok || row != "" || checkLong(t, s) {
		t.Fatalf("%s: LongRow of %q: %q %v", what, s[:min(len(s), 200)], row, ok)
	}
}

// textPictures is pictures of all kinds: of one row and one column, of pieces, at the ends, with few spots and with many.
func textPictures() []spots {
	list := slices.Concat(cellPictures(), samplePictures(), patternPictures(), scattered(60, 30), []spots{
		nil, {}, spread(), stair(), block(0, 0, 10, 60), block(-30, -30, 30, 60), block(29, 1, 2, 60), cornerRing(15), squareRing(7),
		pic(-30, -30, 30, -30, -30, 30, 30, 30), pic(-30, -30, 30, 30), pic(30, -30, -30, 30), pic(-30, 0, 30, 0), pic(0, -30, 0, 30),
	})
	for n := 1; n <= 60; n++ {
		list = append(list, row(-30, 30, n), row(31-n, -30, n), row(-7, 0, min(n, 38)), column(30, -30, n), column(-30, 31-n, n), column(0, -9, min(n, 40)))
	}
	return list
}

// eachText visits all texts of so many of some signs, behind a beginning.
func eachText(ahead, signs string, n int, visit func(s string)) {
	if n == 0 {
		visit(ahead)
		return
	}
	for i := range len(signs) {
		eachText(ahead+signs[i:i+1], signs, n-1, visit)
	}
}

// eachChange visits all texts that differ from a text at one place: a byte less, another one, one more, or two exchanged.
func eachChange(s string, visit func(changed string)) {
	for i := range len(s) + 1 {
		visit(s[:i])
		visit(s[i:])
		for b := range 256 {
			sign := string([]byte{byte(b)})
			visit(s[:i] + sign + s[i:])
			if i < len(s) {
				visit(s[:i] + sign + s[i+1:])
			}
		}
		if i < len(s) {
			visit(s[:i] + s[i+1:])
			visit(s[:i] + s[i:i+1] + s[i:])
		}
		if i+1 < len(s) {
			visit(s[:i] + s[i+1:i+2] + s[i:i+1] + s[i+2:])
			visit(s[:i] + s[i+2:])
		}
	}
}

// greatNumbers is numbers that no spot and no run has: too far, too great for an int, and those of which the lowest bits are a number that is near.
func greatNumbers() []string {
	list := []string{
		"62", "63", "99", "100", "258", "4294967296", "4294967299", "9223372036854775808", "9223372036854775809",
		"18446744073709551615", "18446744073709551616", "18446744073709551617", "18446744073709551619", "36893488147419103235",
		"340282366920938463463374607431768211459", "99999999999999999999999999999999", "1" + strings.Repeat("0", 1000), strings.Repeat("9", 1<<16),
	}
	for _, n := range extremes() {
		if n > 0 && n != 61 {
			list = append(list, decimal(n))
		}
	}
	return list
}

// fewTexts is texts with the pictures that they tell.
func fewTexts() map[string]spots {
	dots := strings.Repeat(".", 59)
	return map[string]spots{
		"-":                  nil,
		"0,0:#":              pic(0, 0),
		"1,0:#":              pic(1, 0),
		"0,-1:#":             pic(0, -1),
		"-1,1:#":             pic(-1, 1),
		"9,-9:#":             pic(9, -9),
		"-10,10:#":           pic(-10, 10),
		"30,-30:#":           pic(30, -30),
		"-30,30:#":           pic(-30, 30),
		"30,30:#":            pic(30, 30),
		"-30,-30:#":          pic(-30, -30),
		"0,0:##":             pic(0, 0, 1, 0),
		"0,0:#/#":            pic(0, 0, 0, 1),
		"0,0:.#/#.":          pic(0, 0, 1, 1),
		"0,0:#./.#":          pic(1, 0, 0, 1),
		"5,-7:#.#":           pic(5, -7, 7, -7),
		"-10,9:#/./#":        pic(-10, 9, -10, 11),
		"0,-1:.#/##":         pic(0, -1, 1, -1, 1, 0),
		"0,-1:##/.#":         pic(1, -1, 0, 0, 1, 0),
		"-1,-1:.#./###/.#.":  pic(0, -1, -1, 0, 0, 0, 1, 0, 0, 1),
		"0,0:###/#.#/###":    pic(0, 0, 1, 0, 2, 0, 0, 1, 2, 1, 0, 2, 1, 2, 2, 2),
		"3,4:#.../..../...#": pic(6, 4, 3, 6),
		"3,4:...#/..../#...": pic(3, 4, 6, 6),
		"-12,10:##../..##":   pic(-10, 10, -9, 10, -12, 11, -11, 11),
		"10,-20:.##/#..":     pic(10, -20, 11, -19, 12, -19),
		"29,29:##/##":        pic(29, 29, 30, 29, 29, 30, 30, 30),
		"-30,-30:###/#..":    pic(-30, -30, -30, -29, -29, -29, -28, -29),
		"28,-30:..#/#..":     pic(28, -30, 30, -29),

		"-30,7:#" + dots + "#":                                                           pic(-30, 7, 30, 7),
		"-8,-30:#" + strings.Repeat("/.", 59) + "/#":                                     pic(-8, -30, -8, 30),
		"-30,12:" + strings.Repeat("#", 60):                                              row(-30, 12, 60),
		"-29,-30:" + strings.Repeat("#", 60):                                             row(-29, -30, 60),
		"30,-30:#" + strings.Repeat("/#", 59):                                            column(30, -30, 60),
		"3,-29:#" + strings.Repeat("/#", 59):                                             column(3, -29, 60),
		"0,0:" + strings.Repeat("##########/", 5) + "##########":                         block(0, 0, 10, 60),
		"-4,-9:#########./" + strings.Repeat("##########/", 4) + "##########":            block(-4, -9, 10, 59),
		"-30,-30:#" + dots + "#/" + strings.Repeat("."+dots+"./", 59) + "#" + dots + "#": pic(-30, -30, 30, -30, -30, 30, 30, 30),
		"-30,-30:." + dots + "#/" + strings.Repeat("."+dots+"./", 59) + "#" + dots + ".": pic(-30, -30, 30, 30),
	}
}

// noTexts is texts of no picture, each kind by what is wrong with it.
func noTexts() map[string][]string {
	return map[string][]string{
		"an empty text":              {"", " ", "\n", "\x00"},
		"a dash and more":            {"--", "- ", " -", "-\n", "-/", "-:", "-:#", "-#", "-0", "0-", "-,", "–", "—", "-\x00"},
		"a row too many":             {"0,0:./#", "0,0:#/.", "0,0:../##", "0,0:##/..", "0,0:#./#./..", "0,0:./#/#", "0,0:#/./.", "0,-30:./#"},
		"an empty row":               {"0,0:/#", "0,0:#/", "0,0://#", "0,0:#//", "0,0:#//#", "0,0:/", "0,0://"},
		"no rows":                    {"0,0:", "0,0", "0,", "0", "-1,-1:", "0,0:0,0", "30,30:"},
		"rows that are not as long":  {"0,0:##/#", "0,0:#/##", "0,0:#.#/##", "0,0:##/#.#", "0,0:##/##/#", "0,0:##/#/##", "0,0:#/##/##", "0,0:#/#.", "0,0:#./#", "0,0:.#/#"},
		"no spot at the left":        {"0,0:.#", "0,0:.#/.#", "0,0:..#/.##", "-1,0:.#", "0,0:.#.#"},
		"no spot at the right":       {"0,0:#.", "0,0:#./#.", "0,0:#../##.", "-1,0:#.", "0,0:#.#."},
		"no spot at all":             {"0,0:.", "0,0:..", "0,0:./.", "0,0:.../.../..."},
		"a slash behind":             {"0,0:#/", "0,0:##/", "0,0:#/#/", "-1,-1:.#./###/.#./"},
		"something behind":           {"0,0:# ", "0,0:#\n", "0,0:#\r\n", "0,0:#,", "0,0:#:", "0,0:#-", "0,0:#0", "0,0:##x", "0,0:#\x00", "0,0:#0,0:#", "0,0:#/0,0:#", "0,0:#-", "0,0:#\xff"},
		"something ahead":            {" 0,0:#", "\n0,0:#", "/0,0:#", "-0,0:#", ",0,0:#", ":0,0:#", "#0,0:#", "\ufeff0,0:#", "(0,0:#"},
		"a plus":                     {"+0,0:#", "0,+0:#", "+1,0:#", "1,+1:#", "-+1,0:#", "+-1,0:#", "+30,+30:#"},
		"zeroes ahead":               {"00,0:#", "0,00:#", "01,0:#", "0,01:#", "-01,0:#", "0,-01:#", "-00,0:#", "000030,0:#", "0,-030:#"},
		"a minus ahead of 0":         {"-0,0:#", "0,-0:#", "-0,-0:#"},
		"no number":                  {",0:#", "0,:#", ",:#", "-,0:#", "0,-:#", "--1,0:#", "x,0:#", "0,x:#", "#,#:#", ".,.:#", "1-,0:#", "1-1,0:#", "٣,0:#", "１,0:#"},
		"a number written otherwise": {"0x1,0:#", "1e0,0:#", "1_0,0:#", "0b1,0:#", "0o7,0:#", "1.0,0:#", "1.,0:#", "0 ,0:#", " 0,0:#", "0, 0:#", "0,0 :#", "(0),0:#", "1 0,0:#", "-\x001,0:#"},
		"too far":                    {"31,0:#", "-31,0:#", "0,31:#", "0,-31:#", "30,0:##", "0,30:#/#", "29,0:#.#", "0,29:#/./#", "-31,0:##", "0,-31:#/#", "61,0:#", "-61,0:#", "99,99:#", "30,30:##/##", "-31,-31:.#/#."},
		"signs that are none":        {"0,0:x", "0,0:#x#", "0,0:# #", "0,0:#_#", "0,0:#\x00#", "0,0:##/#x", "0,0:##/x#", "0,0:#\xff#", "0,0:＃", "0,0:#·#", "0,0:#,#", "0,0:#:#", "0,0:#-#", "0,0:*", "0,0:#\n#", "0,0:#0#", "0,0:#1#", "0,0:o", "0,0:X", "0,0:#\\#", "0,0:#|#", "0,0:é#"},
		"a comma or colon not right": {"0:0:#", "0,0,#", "0,0,0:#", "0,0::#", "0,,0:#", "0,0;#", "0;0:#", "0.0:#", "0,0#", "0,0/#", "0 0:#", "00:#", ":#", ",", ":", "0:#", "0,#", "#", "##", "#/#", "0,0=#"},
		"short rows":                 {"0,0:2#", "0,0:#2.#", "0,0:3#/#.#", "0,0:1#"},
		"more than sixty spots":      {"0,0:" + strings.Repeat("#", 61), "-30,0:" + strings.Repeat("#", 61), "0,-30:#" + strings.Repeat("/#", 60), "0,0:" + strings.Repeat("##########/", 6) + "#.........", "0,0:########/########/########/########/########/########/########/########", "-30,-30:" + strings.Repeat(strings.Repeat("#", 61)+"/", 60) + strings.Repeat("#", 61)},
		"rows too many":              {"0,-30:#" + strings.Repeat("/.", 60) + "/#", "0,0:#" + strings.Repeat("/.", 30) + "/#", "0,-30:#" + strings.Repeat("/.", 1000) + "/#", "0,-30:#" + strings.Repeat("/.", 1<<16-2) + "/#", "0,0:" + strings.Repeat("/", 1<<16), "0,0:#" + strings.Repeat("/#", 1<<16)},
		"rows too long":              {"-30,0:#" + strings.Repeat(".", 60) + "#", "0,0:#" + strings.Repeat(".", 30) + "#", "-30,0:#" + strings.Repeat(".", 1<<16-2) + "#", "0,0:" + strings.Repeat("#", 1<<16), "0,0:" + strings.Repeat(".", 1<<16)},
	}
}

// Promise 50.

func checkRowsOf(t *testing.T, p spots) {
	t.Helper()
	rows := impl.RowsOf(p)
	if want := rowsBySigns(p); !slices.Equal(rows, want) {
		t.Fatalf("the rows of %v: got %q, want %q", p, rows, want)
	}
	least, greatest, ok := impl.BoxOf(p)
	if !ok {
		if len(p) != 0 || len(rows) != 0 {
			t.Fatalf("%v has no box, but the rows %q", p, rows)
		}
		return
	}
	if len(rows) != greatest.Y-least.Y+1 || strings.Count(strings.Join(rows, ""), "#") != len(p) {
		t.Fatalf("%v has the rows %q", p, rows)
	}
	for _, row := range rows {
		if len(row) != greatest.X-least.X+1 || strings.Trim(row, "#.") != "" {
			t.Fatalf("%v has the rows %q", p, rows)
		}
	}
	if !strings.Contains(rows[0], "#") || !strings.Contains(rows[len(rows)-1], "#") {
		t.Fatalf("%v has no spot at the border: %q", p, rows)
	}
}

func TestRowsAreAsLongAsTheBox(t *testing.T) {
	for _, p := range textPictures() {
		checkRowsOf(t, p)
	}
	eachSmallPicture(func(p spots) { checkRowsOf(t, p) })
}

func TestAFewRowsOfSigns(t *testing.T) {
	for text, p := range fewTexts() {
		want := strings.Split(text[strings.Index(text, ":")+1:], "/")
		if text == "-" {
			want = nil
		}
		if got := impl.RowsOf(p); !slices.Equal(got, want) {
			t.Fatalf("the rows of %v: got %q, want %q", p, got, want)
		}
	}
}

func TestRowsComeFromTheHighestOneDown(t *testing.T) {
	// The rows of pictures are drawn the lowest one first.
	for rows := range fewCells() {
		want := strings.Fields(rows)
		slices.Reverse(want)
		p := drawn(rows)
		if len(p) == 0 || strings.Trim(want[0], ".") == "" || strings.Trim(want[len(want)-1], ".") == "" {
			continue
		}
		for _, q := range append(atEnds(p), p) {
			if got := impl.RowsOf(q); !slices.Equal(got, want) {
				t.Fatalf("the rows of %v: got %q, want %q", q, got, want)
			}
		}
	}
}

func TestNoPicturesHaveNoRowsAndNoText(t *testing.T) {
	bad := invalid()
	for _, far := range farSpots() {
		name := decimal(far.X) + " and " + decimal(far.Y)
		bad[name] = spots{far}
		bad[name+" behind others"] = append(block(0, 0, 3, 9), far)
		bad[name+" before others"] = append(spots{far}, block(0, 0, 3, 9)...)
	}
	for what, p := range bad {
		if rows, text := impl.RowsOf(p), impl.TextOf(p); len(rows) != 0 || text != "" {
			t.Fatalf("%s: the rows %q and the text %q", what, rows, text)
		}
	}
	for _, none := range []spots{nil, {}, make(spots, 0, 9), pic(0, 0)[:0], pic(99, 99)[:0]} {
		if rows, text := impl.RowsOf(none), impl.TextOf(none); len(rows) != 0 || text != "-" {
			t.Fatalf("the empty picture: the rows %q and the text %q", rows, text)
		}
	}
}

// Promise 51.

func checkText(t *testing.T, p spots) {
	t.Helper()
	text := impl.TextOf(p)
	if want := textBySigns(p); text != want {
		t.Fatalf("the text of %v: got %q, want %q", p, text, want)
	}
	got, ok := impl.ReadText(text)
	wantTold(t, text, got, ok, p)
	checkReading(t, text)
	moved, ok := impl.MovedBy(p, at(1, 0))
	if ok && !slices.Equal(impl.RowsOf(moved), impl.RowsOf(p)) {
		t.Fatalf("%v has the rows %q, and moved %q", p, impl.RowsOf(p), impl.RowsOf(moved))
	}
}

func TestTextsOfPicturesAreRead(t *testing.T) {
	texts := map[string]spots{}
	for _, p := range textPictures() {
		checkText(t, p)
		text := impl.TextOf(p)
		if q, ok := texts[text]; ok && !same(p, q) {
			t.Fatalf("%v and %v have the text %q", p, q, text)
		}
		texts[text] = p
	}
	if len(texts) < 2000 {
		t.Fatalf("only %d texts", len(texts))
	}
	for _, corner := range pic(-1, -1, 28, 27) {
		for _, p := range subsetsOf(block(corner.X, corner.Y, 3, 12)) {
			checkText(t, p)
		}
	}
}

func TestAFewTexts(t *testing.T) {
	for text, p := range fewTexts() {
		if !impl.PictureOk(p) {
			t.Fatalf("%v is no picture", p)
		}
		if got := impl.TextOf(p); got != text {
			t.Fatalf("the text of %v: got %q, want %q", p, got, text)
		}
		got, ok := impl.ReadText(text)
		wantTold(t, text, got, ok, p)
		checkText(t, p)
	}
}

func TestTextsOfLoneSpots(t *testing.T) {
	for _, a := range block(-30, -30, 61, 61*61) {
		text := decimal(a.X) + "," + decimal(a.Y) + ":#"
		if got := impl.TextOf(spots{a}); got != text {
			t.Fatalf("the text of %v: got %q", a, got)
		}
		got, ok := impl.ReadText(text)
		wantTold(t, text, got, ok, spots{a})
	}
}

func TestTextsOfTwoSpots(t *testing.T) {
	for _, a := range endSpots() {
		for _, b := range block(-30, -30, 61, 61*61) {
			// All of them would take long.
			if (a.X+2*b.X+3*b.Y)%19 == 0 {
				checkText(t, pictureOf(setOf(spots{a, b})))
			}
		}
	}
}

func TestTextsMoveWithThePicture(t *testing.T) {
	moved := 0
	for _, p := range append(scattered(12, 3), squareRing(2), pic(0, 0), stair()[:20], row(-5, 2, 11), column(1, -5, 11)) {
		rows := impl.RowsOf(p)
		for _, a := range block(-30, -30, 61, 61*61) {
			q, ok := impl.MovedBy(p, a)
			if !ok || len(p) == 0 {
				continue
			}
			least, _ := cornersOf(q)
			text := decimal(least.X) + "," + decimal(least.Y) + ":" + strings.Join(rows, "/")
			if got := impl.TextOf(q); got != text {
				t.Fatalf("the text of %v: got %q, want %q", q, got, text)
			}
			read, ok := impl.ReadText(text)
			wantTold(t, text, read, ok, q)
			moved++
		}
	}
	if moved < 10000 {
		t.Fatalf("only %d pictures are moved", moved)
	}
}

// Promise 52.

func TestRefusedTexts(t *testing.T) {
	for what, list := range noTexts() {
		for _, s := range list {
			wantRefused(t, what, s)
		}
	}
}

func TestTextsWithASlashBehindAreRefused(t *testing.T) {
	for _, p := range append(textPictures(), subsets(0, 0)...) {
		text := impl.TextOf(p)
		for _, behind := range []string{"/", "//", " ", "\n", ",", ":", "-", "0", text} {
			wantRefused(t, "something behind", text+behind)
		}
		// These may be the text of another picture.
		for _, behind := range []string{"#", ".", "/#", "/."} {
			checkReading(t, text+behind)
		}
	}
}

func TestReadTextsAreCanonical(t *testing.T) {
	read, refused := 0, 0
	visit := func(s string) {
		if checkReading(t, s) {
			read++
		} else {
			refused++
		}
	}
	for n := range 7 {
		eachText("", "-01,:#./", n, visit)
	}
	for _, ahead := range []string{"0,0:", "-3,-10:", "29,29:", "30,-30:"} {
		for n := range 10 {
			eachText(ahead, "#./", n, visit)
		}
	}
	for n := range 5 {
		eachText("", "-+013 ", n, func(number string) {
			visit(number + ",0:#")
			visit("0," + number + ":##")
			visit(number + "," + number + ":#")
		})
	}
	if read < 1000 || refused < 100000 {
		t.Fatalf("only %d texts are read, and %d refused", read, refused)
	}
}

func TestTextsThatAreChangedAtOnePlace(t *testing.T) {
	read, refused := 0, 0
	for _, text := range []string{
		"-", "0,0:#", "-1,10:.#/##", "30,30:#", "-30,-30:##", "3,-30:#.#/.#.", "29,29:#./.#", "-29,0:#", "28,-3:..#/#..",
		"0,0:###/#.#/###", "-1,-1:.#./###/.#.", "-7,29:##/.#", "10,20:#/./#",
	} {
		if !checkReading(t, text) {
			t.Fatalf("%q is refused", text)
		}
		eachChange(text, func(s string) {
			if checkReading(t, s) {
				read++
			} else {
				refused++
			}
		})
	}
	if read < 300 || refused < 10000 {
		t.Fatalf("only %d texts are read, and %d refused", read, refused)
	}
}

func TestTextsOfManyRowsAndOfLongOnes(t *testing.T) {
	for _, from := range []int{-31, -30, -29, -1, 0, 1, 29, 30, 31} {
		for n := 2; n <= 70; n++ {
			ok := from >= -30 && from+n-1 <= 30
			for s, told := range map[string]bool{
				decimal(from) + ",-4:#" + strings.Repeat(".", n-2) + "#":       ok,
				"4," + decimal(from) + ":#" + strings.Repeat("/.", n-2) + "/#": ok,
				decimal(from) + ",4:" + strings.Repeat("#", n):                 ok && n <= 60,
				"-4," + decimal(from) + ":#" + strings.Repeat("/#", n-1):       ok && n <= 60,
			} {
				if checkReading(t, s) != told {
					t.Fatalf("%q: want %v", s, told)
				}
			}
		}
	}
}

func TestTextsOfSixtySpotsAndMore(t *testing.T) {
	for wide := 1; wide <= 61; wide++ {
		for n := 55; n <= 64; n++ {
			high := (n + wide - 1) / wide
			if high > 61 {
				continue
			}
			// The highest row is not full, unless it comes out even.
			full := strings.Repeat("#", wide)
			first := strings.Repeat("#", n-(high-1)*wide)
			rows := first + strings.Repeat(".", wide-len(first)) + strings.Repeat("/"+full, high-1)
			if high == 1 && len(first) < wide {
				continue
			}
			if checkReading(t, "-30,-30:"+rows) != (n <= 60) {
				t.Fatalf("%d spots, %d wide", n, wide)
			}
		}
	}
}

func TestTextsWithGreatNumbers(t *testing.T) {
	for _, n := range append(greatNumbers(), "31", "61") {
		for _, s := range []string{n + ",0:#", "0," + n + ":#", "-" + n + ",0:#", "0,-" + n + ":#", n + "," + n + ":#", n + ",-" + n + ":.#/#.", "-" + n + ",0:" + strings.Repeat(".", 60) + "#"} {
			wantRefused(t, "a great number", s)
		}
	}
	for n := -40; n <= 40; n++ {
		ok := n >= -30 && n <= 30
		if checkReading(t, decimal(n)+",0:#") != ok || checkReading(t, "0,"+decimal(n)+":#") != ok {
			t.Fatalf("%d: want %v", n, ok)
		}
	}
}

// Promise 53.

func checkShort(t *testing.T, row string) {
	t.Helper()
	short := impl.ShortRow(row)
	if want := shortBySigns(row); short != want || short == "" || len(short) > len(row) {
		t.Fatalf("%q is written %q, want %q", row, short, want)
	}
	if long, ok := impl.LongRow(short); !ok || long != row {
		t.Fatalf("%q is written %q, and read as %q %v", row, short, long, ok)
	}
	checkLong(t, short)
}

func TestShortRowsAreNoLonger(t *testing.T) {
	for n := 1; n <= 14; n++ {
		eachText("", "#.", n, func(row string) { checkShort(t, row) })
	}
	for _, p := range textPictures() {
		for _, row := range impl.RowsOf(p) {
			checkShort(t, row)
		}
	}
}

func TestShortRowsOfRuns(t *testing.T) {
	for first := range 62 {
		for second := range 62 - first {
			for _, third := range []int{0, 1, 2, 9, 10, 61 - first - second} {
				if second == 0 && third > 0 || first+second == 0 || first+second+third > 61 {
					continue
				}
				dots, hashes := strings.Repeat(".", second), strings.Repeat("#", first)
				checkShort(t, hashes+dots+strings.Repeat("#", third))
				checkShort(t, strings.Repeat(".", first)+strings.Repeat("#", second)+strings.Repeat(".", third))
			}
		}
	}
}

// fewRows is rows with how they are written shorter.
func fewRows() map[string]string {
	return map[string]string{
		"#":                             "#",
		".":                             ".",
		"##":                            "2#",
		"..":                            "2.",
		"#.":                            "#.",
		".#":                            ".#",
		"#.#":                           "#.#",
		"###":                           "3#",
		"###..#":                        "3#2.#",
		"#..###":                        "#2.3#",
		"##..":                          "2#2.",
		"....#....":                     "4.#4.",
		"#########":                     "9#",
		"##########":                    "10#",
		"...........":                   "11.",
		"#########.":                    "9#.",
		".##########.":                  ".10#.",
		"####################":          "20#",
		"##.##########....##########.#": "2#.10#4.10#.#",
		strings.Repeat("#.", 30) + "#":  strings.Repeat("#.", 30) + "#",
		strings.Repeat("##.", 20) + "#": strings.Repeat("2#.", 20) + "#",
		strings.Repeat("##", 30) + ".":  "60#.",
		"." + strings.Repeat("#", 60):   ".60#",
		strings.Repeat("#", 61):         "61#",
		strings.Repeat(".", 61):         "61.",
		strings.Repeat("#", 60):         "60#",
		strings.Repeat(".", 30) + strings.Repeat("#", 31): "30.31#",
		"#" + strings.Repeat(".", 59) + "#":               "#59.#",
	}
}

func TestAFewShortRows(t *testing.T) {
	for row, short := range fewRows() {
		if got := impl.ShortRow(row); got != short {
			t.Fatalf("%q is written %q, want %q", row, got, short)
		}
		if got, ok := impl.LongRow(short); !ok || got != row {
			t.Fatalf("%q is read as %q %v, want %q", short, got, ok, row)
		}
		checkShort(t, row)
	}
}

func TestRunsOfOneSign(t *testing.T) {
	for n := 1; n <= 61; n++ {
		for _, sign := range []string{"#", "."} {
			short := decimal(n) + sign
			if n == 1 {
				short = sign
			}
			row := strings.Repeat(sign, n)
			if got := impl.ShortRow(row); got != short {
				t.Fatalf("%q is written %q, want %q", row, got, short)
			}
			if got, ok := impl.LongRow(short); !ok || got != row {
				t.Fatalf("%q is read as %q %v, want %q", short, got, ok, row)
			}
		}
	}
}

func TestRowsThatAreNone(t *testing.T) {
	list := []string{
		"", "a", " ", "# ", " #", "#\n", "\n", "3#", "3#2.#", "#/#", "-", "0,0:#", "#,", "##x", "x##", "#x#", "＃", "#·#", "..．", "#\x00", "\x00#", "\xff", "#\xc0",
	}
	for _, n := range []int{62, 63, 100, 122, 256, 257, 1000, 1 << 16, 1<<16 + 1, 1 << 20} {
		list = append(list, strings.Repeat("#", n), strings.Repeat(".", n), strings.Repeat("#.", n)[:n], strings.Repeat(".", n-1)+"#")
	}
	for b := range 256 {
		if b == '#' || b == '.' {
			continue
		}
		sign := string([]byte{byte(b)})
		for _, row := range []string{"", "#", ".", "##", "#.", ".#.", strings.Repeat("#", 60), strings.Repeat(".", 30)} {
			list = append(list, sign+row, row+sign, row[:len(row)/2]+sign+row[len(row)/2:])
		}
	}
	for _, row := range list {
		if got := impl.ShortRow(row); got != "" {
			t.Fatalf("%q is written %q", row[:min(len(row), 200)], got)
		}
	}
}

// Promise 54.

func TestLongRowsAreWrittenShort(t *testing.T) {
	read, refused := 0, 0
	visit := func(s string) {
		if checkLong(t, s) {
			read++
		} else {
			refused++
		}
	}
	for n := range 7 {
		eachText("", "#.0126", n, visit)
	}
	for n := range 5 {
		eachText("", "#.0123456789-+", n, visit)
	}
	for n := range 200 {
		for _, ahead := range []string{"", "#", ".", "0", "-", "+", "#0", "2#", "2.", "30.", "60.", "61."} {
			for _, behind := range []string{"", "#", ".", "##", "#.", "#1", "#2", "#2.", "#30.", "#60."} {
				visit(ahead + decimal(n) + behind)
			}
		}
	}
	for _, short := range []string{"3#2.#", "#", "61.", "10#9.", "#.#", "2#2.2#2.", "60#."} {
		eachChange(short, visit)
	}
	if read < 2000 || refused < 20000 {
		t.Fatalf("only %d short rows are read, and %d refused", read, refused)
	}
}

// noShortRows is texts of no row, each kind by what is wrong with it.
func noShortRows() map[string][]string {
	return map[string][]string{
		"an empty text":             {""},
		"a count of 0":              {"0#", "0.", "#0.", "0#.", "2#0.#", "00#", "#0.#"},
		"a count of 1":              {"1#", "1.", "#1.", "1#.", "2#1.2#", "#1.#", "1#1."},
		"zeroes ahead":              {"02#", "002#", "2#03.", "010#", "01#", "061#", "0000000000000000000000000002#"},
		"a count that is too great": {"62#", "62.", "99#", "100#", "610#", ".62#", "70#2."},
		"a row that is too long":    {"60#2.", "31#31.", "2#60.", "61#.", "#61.", "30#30.2#", "30#.30#.", "20#20.20#2.", strings.Repeat("#.", 31), strings.Repeat("2#2.", 16), strings.Repeat("#.", 1<<16), strings.Repeat("61#61.", 1<<16)},
		"the same sign again":       {"##", "..", "2##", "#2#", "2#2#", "2#3#", ".##", "#..", "2..2#", "30#31#", "#.##", "60##", "9##"},
		"a count and no sign":       {"3", "#2", "2#3", "3#2", "61", "#1", "#0", "2#.61", "#00", "1", "0", "61#0", "10", "#.9", "##2"},
		"other signs":               {"a", "3a", "#a", "a#", "3#a", "2 #", " 2#", "2# ", "2#\n", "\n", "x2#", "2x#", "2#/2#", "/", "-", ":", "2*", "٣#", "３#", "2＃", "\x00", "2\x00#", "\xff", "#\xff", "2#\x80"},
		"a sign ahead of a count":   {"-2#", "+2#", "#-2.", "#+2.", "-#", "+#", "-1#", "-0#", "+0#", "--2#", "-61#", "-62#"},
		"another way of counting":   {"0x2#", "2_0#", "1e1#", "2,5#", "2,#", "2e0#", "0b10#", "1 0#", "2'#"},
	}
}

func TestShortRowsThatAreNone(t *testing.T) {
	for what, list := range noShortRows() {
		for _, s := range list {
			wantNoLong(t, what, s)
		}
	}
	for _, n := range greatNumbers() {
		for _, s := range []string{n + "#", n + ".", "#" + n + ".", n + "#.", "2#" + n + ".#", "-" + n + "#", n, "0" + n + "#"} {
			wantNoLong(t, "a great count", s)
		}
	}
}

// The general rules: arguments are not written to, results are new, and the same argument is answered the same each time.

func TestTextsShareNoMemory(t *testing.T) {
	pictures := slices.Concat(ringPictures()[:24], gridPictures(), scattered(12, 3), scattered(6, 30), subsets(-1, 0), []spots{nil, {}, stair(), block(0, 0, 10, 60), pic(-30, -30, 30, 30)})
	for _, bad := range invalid() {
		pictures = append(pictures, bad)
	}
	for _, p := range pictures {
		checkNew(t, "RowsOf", func(args [][]impl.Spot) []string { return impl.RowsOf(args[0]) }, at(-7777, 7777), "overwritten", p)
		checkNew(t, "TextOf", func(args [][]impl.Spot) []string { return []string{impl.TextOf(args[0])} }, at(-7777, 7777), "overwritten", p)
		text := impl.TextOf(p)
		for _, s := range []string{text, text + "/", text + "#", "-", "", "0,0:#/##"} {
			checkMemory(t, "ReadText of "+s, func([]spots) spots {
				got, _ := impl.ReadText(s)
				return got
			})
		}
	}
}

func TestTextsAreToldTheSameEachTime(t *testing.T) {
	for text, p := range fewTexts() {
		for range 10 {
			if got := impl.TextOf(slices.Clone(p)); got != text {
				t.Fatalf("the text of %v: got %q, want %q", p, got, text)
			}
			// What is refused between does not change what is read next.
			for _, s := range []string{text, text + "/", text[:len(text)-1], text} {
				checkReading(t, strings.Clone(s))
			}
		}
	}
	for row, short := range fewRows() {
		for range 10 {
			if got := impl.ShortRow(strings.Clone(row)); got != short {
				t.Fatalf("%q is written %q, want %q", row, got, short)
			}
			for _, s := range []string{short, short + "2", short[1:], short} {
				checkLong(t, strings.Clone(s))
			}
		}
	}
}

// TestTextsOfChangedBytes holds that nothing is kept of a text: its bytes may be another text's later.
func TestTextsOfChangedBytes(t *testing.T) {
	buffer := []byte("0,0:#.#/.#.")
	first, ok := impl.ReadText(string(buffer))
	want := slices.Clone(first)
	overwrite(buffer, 'x')
	wantTold(t, "the text of before", first, ok, want)
	rows := impl.RowsOf(first)
	scribble(first)
	if !slices.Equal(rows, []string{"#.#", ".#."}) {
		t.Fatalf("the rows change: %q", rows)
	}
	again, ok := impl.ReadText("0,0:#.#/.#.")
	wantTold(t, "once more", again, ok, want)
}

func TestTextsDoNotDependOnCapacity(t *testing.T) {
	for _, p := range append(scattered(6, 3), stair(), squareRing(3), cornerRing(5), block(-3, 0, 7, 60)) {
		for n := range len(p) {
			for _, q := range []spots{p[:n], slices.Clip(p[:n]), p[n:]} {
				checkRowsOf(t, q)
				checkText(t, q)
			}
		}
	}
}
