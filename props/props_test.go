package props_test

import (
	"math"
	"slices"
	"strconv"
	"strings"
	"testing"

	"selvedge/api"
	"selvedge/props"
)

var classNames = map[string]api.Class{
	"L": api.L, "R": api.R, "AL": api.AL, "EN": api.EN, "ES": api.ES, "ET": api.ET, "AN": api.AN, "CS": api.CS,
	"NSM": api.NSM, "BN": api.BN, "B": api.B, "S": api.S, "WS": api.WS, "ON": api.ON,
	"LRE": api.LRE, "RLE": api.RLE, "LRO": api.LRO, "RLO": api.RLO, "PDF": api.PDF,
	"LRI": api.LRI, "RLI": api.RLI, "FSI": api.FSI, "PDI": api.PDI,
}

// noCharacters are runes that are none of 0 to 10FFFF.
var noCharacters = []rune{
	math.MinInt32, math.MinInt32 + 1, -0x110000, -0x10FFFF, -0x5D0, -257, -256, -255, -0x28, -0x20, -2, -1,
	0x110000, 0x110001, 0x1100FF, 0x110100, 0x1105D0, 0x200020, 0x1000028, math.MaxInt32 - 1, math.MaxInt32,
}

// everyRune is each character, with runes that are none.
func everyRune() []rune {
	l := slices.Clone(noCharacters)
	for r := rune(-0x400); r <= 0x110400; r++ {
		l = append(l, r)
	}
	return l
}

func hex(t *testing.T, s string) rune {
	t.Helper()
	n, err := strconv.ParseInt(s, 16, 32)
	if err != nil {
		t.Fatal(err)
	}
	return rune(n)
}

type classRow struct {
	first, last rune
	class       api.Class
}

func chapterRows(t *testing.T) []classRow {
	t.Helper()
	var rows []classRow
	for line := range strings.Lines(strings.TrimSpace(chapterClasses)) {
		cells := strings.Split(line, "|")
		class := classNames[strings.TrimSpace(cells[1])]
		for _, s := range strings.Split(strings.TrimSpace(cells[2]), ", ") {
			first, last, isRange := strings.Cut(s, " to ")
			if !isRange {
				last = first
			}
			rows = append(rows, classRow{hex(t, first), hex(t, last), class})
		}
	}
	return rows
}

func chapterPairs(t *testing.T, text string) [][2]rune {
	t.Helper()
	var l [][2]rune
	for _, s := range strings.Split(strings.TrimSpace(text), ", ") {
		left, right, _ := strings.Cut(s, " ")
		l = append(l, [2]rune{hex(t, left), hex(t, right)})
	}
	return l
}

func TestClassOfOrdinaryCharacters(t *testing.T) { // P1.1
	for _, x := range []struct {
		r    rune
		want api.Class
	}{
		{'a', api.L}, {'Z', api.L}, {0xE9, api.L}, {0x4E00, api.L}, {0xD800, api.L}, {0xDFFF, api.L}, {0xFFFF, api.L},
		{0x5D0, api.R}, {0x200F, api.R}, {0x1E900, api.R}, {0x627, api.AL}, {0xFEFC, api.AL}, {0x1EE00, api.AL},
		{'0', api.EN}, {'9', api.EN}, {0x6F5, api.EN}, {'+', api.ES}, {'-', api.ES}, {'#', api.ET}, {0x20AC, api.ET},
		{0x661, api.AN}, {0x6DD, api.AN}, {',', api.CS}, {':', api.CS}, {0xA0, api.CS}, {0x301, api.NSM}, {0xE0100, api.NSM},
		{0, api.BN}, {0x200B, api.BN}, {0xFEFF, api.BN}, {'\n', api.B}, {'\r', api.B}, {0x2029, api.B}, {'\t', api.S}, {0x1F, api.S},
		{' ', api.WS}, {'\f', api.WS}, {0x2028, api.WS}, {'!', api.ON}, {'(', api.ON}, {0xFFFD, api.ON}, {0x1F600, api.ON},
		{0x202A, api.LRE}, {0x202B, api.RLE}, {0x202C, api.PDF}, {0x202D, api.LRO}, {0x202E, api.RLO},
		{0x2066, api.LRI}, {0x2067, api.RLI}, {0x2068, api.FSI}, {0x2069, api.PDI}, {0x10FFFF, api.L},
	} {
		if c := props.Class(x.r); c != x.want {
			t.Errorf("Class(%X) is %d, not %d", x.r, c, x.want)
		}
	}
}

func TestClassAtTheEdgesOfRanges(t *testing.T) { // P1.1
	rows := chapterRows(t)
	classOf := func(r rune) api.Class {
		for _, row := range rows {
			if row.first <= r && r <= row.last {
				return row.class
			}
		}
		return api.L
	}
	for _, row := range rows {
		for _, r := range []rune{row.first - 1, row.first, row.last, row.last + 1} {
			if c := props.Class(r); c != classOf(r) {
				t.Errorf("Class(%X) is %d, not %d", r, c, classOf(r))
			}
		}
	}
}

func TestClassOfEveryRune(t *testing.T) { // P1.1
	want := map[rune]api.Class{}
	for _, row := range chapterRows(t) {
		for r := row.first; r <= row.last; r++ {
			want[r] = row.class
		}
	}
	for _, r := range everyRune() {
		class, told := want[r]
		if !told {
			class = api.L
		}
		if c := props.Class(r); c != class {
			t.Errorf("Class(%X) is %d, not %d", r, c, class)
		}
	}
}

func TestRunesThatAreNoCharacters(t *testing.T) { // P1.1 to P1.3
	for _, r := range noCharacters {
		if c := props.Class(r); c != api.L {
			t.Errorf("Class(%d) is %d", r, c)
		}
		if p, open, ok := props.Bracket(r); p != 0 || open || ok {
			t.Errorf("Bracket(%d) is %X %v %v", r, p, open, ok)
		}
		if m, ok := props.Mirror(r); m != r || ok {
			t.Errorf("Mirror(%d) is %X %v", r, m, ok)
		}
		if props.Space(r) {
			t.Errorf("Space(%d)", r)
		}
	}
}

type bracket struct {
	closing     rune
	opening, is bool
}

func TestBracketExamples(t *testing.T) { // P1.2
	for _, x := range []struct {
		r    rune
		want bracket
	}{
		{'(', bracket{')', true, true}}, {')', bracket{')', false, true}}, {'[', bracket{']', true, true}}, {'}', bracket{'}', false, true}},
		{0x2329, bracket{0x3009, true, true}}, {0x232A, bracket{0x3009, false, true}},
		{0x3008, bracket{0x3009, true, true}}, {0x3009, bracket{0x3009, false, true}},
		{0x301A, bracket{0x301B, true, true}}, {0x301B, bracket{0x301B, false, true}},
		{'<', bracket{}}, {'>', bracket{}}, {0xAB, bracket{}}, {'a', bracket{}}, {0, bracket{}},
		{0x2328, bracket{}}, {0x232B, bracket{}}, {0x3007, bracket{}}, {0x3012, bracket{}}, {0x3013, bracket{}}, {0x301C, bracket{}},
	} {
		closing, opening, is := props.Bracket(x.r)
		if got := (bracket{closing, opening, is}); got != x.want {
			t.Errorf("Bracket(%X) is %v, not %v", x.r, got, x.want)
		}
	}
}

func TestBracketOfEveryRune(t *testing.T) { // P1.2
	want := map[rune]bracket{}
	for _, p := range chapterPairs(t, chapterBrackets) {
		closing := p[1]
		if closing == 0x232A {
			closing = 0x3009
		}
		want[p[0]] = bracket{closing, true, true}
		want[p[1]] = bracket{closing, false, true}
	}
	if len(want) != 46 {
		t.Fatalf("the chapter has %d brackets", len(want))
	}
	for _, r := range everyRune() {
		closing, opening, is := props.Bracket(r)
		if got := (bracket{closing, opening, is}); got != want[r] {
			t.Errorf("Bracket(%X) is %v, not %v", r, got, want[r])
		}
	}
}

func TestMirrorExamples(t *testing.T) { // P1.3
	for _, x := range []struct {
		r, want rune
		ok      bool
	}{
		{'(', ')', true}, {')', '(', true}, {'<', '>', true}, {'>', '<', true}, {0xAB, 0xBB, true}, {0xBB, 0xAB, true},
		{0x2329, 0x232A, true}, {0x232A, 0x2329, true}, {0x3008, 0x3009, true}, {0x3009, 0x3008, true},
		{0x2208, 0x220B, true}, {0x2283, 0x2282, true},
		{'a', 'a', false}, {'/', '/', false}, {'=', '=', false}, {0, 0, false}, {0x2209, 0x2209, false}, {0x2284, 0x2284, false}, {-1, -1, false},
	} {
		if m, ok := props.Mirror(x.r); m != x.want || ok != x.ok {
			t.Errorf("Mirror(%X) is %X %v", x.r, m, ok)
		}
	}
}

func TestMirrorOfEveryRune(t *testing.T) { // P1.3
	want := map[rune]rune{}
	for _, text := range []string{chapterBrackets, chapterMirrors} {
		for _, p := range chapterPairs(t, text) {
			want[p[0]], want[p[1]] = p[1], p[0]
		}
	}
	if len(want) != 60 {
		t.Fatalf("the chapter has %d mirrors", len(want))
	}
	for _, r := range everyRune() {
		other, told := want[r]
		if !told {
			other = r
		}
		if m, ok := props.Mirror(r); m != other || ok != told {
			t.Errorf("Mirror(%X) is %X %v", r, m, ok)
		}
	}
}

func TestSpaceOfEveryRune(t *testing.T) { // P1.3, P1.4: 0 to 7F alone
	for _, r := range everyRune() {
		want := r == '\t' || r == '\n' || r == '\f' || r == '\r' || r == ' '
		if props.Space(r) != want {
			t.Errorf("Space(%X) is %v", r, !want)
		}
		if props.Space(r) && (r < 0 || r > 0x7F) {
			t.Errorf("%X is white space", r)
		}
	}
}

func TestMirrorOfMirrorIsTheCharacter(t *testing.T) { // P1.4
	for _, r := range everyRune() {
		m, ok := props.Mirror(r)
		back, again := props.Mirror(m)
		if back != r || again != ok || ok == (m == r) {
			t.Errorf("%X, its mirror %X (%v), its mirror's %X (%v)", r, m, ok, back, again)
		}
	}
}

func TestBracketsAreNeutralAndPairWithTheirMirrors(t *testing.T) { // P1.4
	for _, r := range everyRune() {
		closing, opening, is := props.Bracket(r)
		if !is {
			continue
		}
		if c := props.Class(r); c != api.ON {
			t.Errorf("the bracket %X has the class %d", r, c)
		}
		m, mirrored := props.Mirror(r)
		otherClosing, otherOpening, otherIs := props.Bracket(m)
		if !mirrored || !otherIs || otherClosing != closing || otherOpening == opening {
			t.Errorf("%X does not pair with its mirror %X", r, m)
		}
	}
}

func TestEachClassIsSomeCharacters(t *testing.T) { // P1.4
	seen := map[api.Class]bool{}
	for _, r := range everyRune() {
		seen[props.Class(r)] = true
	}
	for name, class := range classNames {
		if !seen[class] {
			t.Errorf("no character has the class %s", name)
		}
	}
	if len(seen) != len(classNames) {
		t.Errorf("%d classes are answered, %d there are", len(seen), len(classNames))
	}
}
