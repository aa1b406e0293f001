package pair

import (
	"maps"
	"math"
	"slices"
	"strconv"
	"strings"
	"testing"
)

// chapterPairs: the pairs, as the chapter has them.
const chapterPairs = `
00C0 0041 0300; 00C1 0041 0301; 00C2 0041 0302; 00C3 0041 0303; 00C4 0041 0308; 00C5 0041 030A
00C7 0043 0327; 00C8 0045 0300; 00C9 0045 0301; 00CA 0045 0302; 00CB 0045 0308; 00CC 0049 0300
00CD 0049 0301; 00CE 0049 0302; 00CF 0049 0308; 00D1 004E 0303; 00D2 004F 0300; 00D3 004F 0301
00D4 004F 0302; 00D5 004F 0303; 00D6 004F 0308; 00D9 0055 0300; 00DA 0055 0301; 00DB 0055 0302
00DC 0055 0308; 00DD 0059 0301; 00E0 0061 0300; 00E1 0061 0301; 00E2 0061 0302; 00E3 0061 0303
00E4 0061 0308; 00E5 0061 030A; 00E7 0063 0327; 00E8 0065 0300; 00E9 0065 0301; 00EA 0065 0302
00EB 0065 0308; 00EC 0069 0300; 00ED 0069 0301; 00EE 0069 0302; 00EF 0069 0308; 00F1 006E 0303
00F2 006F 0300; 00F3 006F 0301; 00F4 006F 0302; 00F5 006F 0303; 00F6 006F 0308; 00F9 0075 0300
00FA 0075 0301; 00FB 0075 0302; 00FC 0075 0308; 00FD 0079 0301; 00FF 0079 0308; 0100 0041 0304
0101 0061 0304; 0102 0041 0306; 0103 0061 0306; 0104 0041 0328; 0105 0061 0328; 0106 0043 0301
0107 0063 0301; 0108 0043 0302; 0109 0063 0302; 010A 0043 0307; 010B 0063 0307; 010C 0043 030C
010D 0063 030C; 010E 0044 030C; 010F 0064 030C; 0112 0045 0304; 0113 0065 0304; 0114 0045 0306
0115 0065 0306; 0116 0045 0307; 0117 0065 0307; 0118 0045 0328; 0119 0065 0328; 011A 0045 030C
011B 0065 030C; 011C 0047 0302; 011D 0067 0302; 011E 0047 0306; 011F 0067 0306; 0120 0047 0307
0121 0067 0307; 0122 0047 0327; 0123 0067 0327; 0124 0048 0302; 0125 0068 0302; 0128 0049 0303
0129 0069 0303; 012A 0049 0304; 012B 0069 0304; 012C 0049 0306; 012D 0069 0306; 012E 0049 0328
012F 0069 0328; 0130 0049 0307; 0134 004A 0302; 0135 006A 0302; 0136 004B 0327; 0137 006B 0327
0139 004C 0301; 013A 006C 0301; 013B 004C 0327; 013C 006C 0327; 013D 004C 030C; 013E 006C 030C
0143 004E 0301; 0144 006E 0301; 0145 004E 0327; 0146 006E 0327; 0147 004E 030C; 0148 006E 030C
014C 004F 0304; 014D 006F 0304; 014E 004F 0306; 014F 006F 0306; 0150 004F 030B; 0151 006F 030B
0154 0052 0301; 0155 0072 0301; 0156 0052 0327; 0157 0072 0327; 0158 0052 030C; 0159 0072 030C
015A 0053 0301; 015B 0073 0301; 015C 0053 0302; 015D 0073 0302; 015E 0053 0327; 015F 0073 0327
0160 0053 030C; 0161 0073 030C; 0162 0054 0327; 0163 0074 0327; 0164 0054 030C; 0165 0074 030C
0168 0055 0303; 0169 0075 0303; 016A 0055 0304; 016B 0075 0304; 016C 0055 0306; 016D 0075 0306
016E 0055 030A; 016F 0075 030A; 0170 0055 030B; 0171 0075 030B; 0172 0055 0328; 0173 0075 0328
0174 0057 0302; 0175 0077 0302; 0176 0059 0302; 0177 0079 0302; 0178 0059 0308; 0179 005A 0301
017A 007A 0301; 017B 005A 0307; 017C 007A 0307; 017D 005A 030C; 017E 007A 030C; 01A0 004F 031B
01A1 006F 031B; 01AF 0055 031B; 01B0 0075 031B; 01CD 0041 030C; 01CE 0061 030C; 01CF 0049 030C
01D0 0069 030C; 01D1 004F 030C; 01D2 006F 030C; 01D3 0055 030C; 01D4 0075 030C; 01D5 00DC 0304
01D6 00FC 0304; 01D7 00DC 0301; 01D8 00FC 0301; 01D9 00DC 030C; 01DA 00FC 030C; 01DB 00DC 0300
01DC 00FC 0300; 0344 0308 0301; 0386 0391 0301; 0388 0395 0301; 0389 0397 0301; 038A 0399 0301
038C 039F 0301; 038E 03A5 0301; 038F 03A9 0301; 0390 03CA 0301; 03AA 0399 0308; 03AB 03A5 0308
03AC 03B1 0301; 03AD 03B5 0301; 03AE 03B7 0301; 03AF 03B9 0301; 03B0 03CB 0301; 03CA 03B9 0308
03CB 03C5 0308; 03CC 03BF 0301; 03CD 03C5 0301; 03CE 03C9 0301; 0400 0415 0300; 0401 0415 0308
0403 0413 0301; 0407 0406 0308; 040C 041A 0301; 040D 0418 0300; 040E 0423 0306; 0419 0418 0306
0439 0438 0306; 0450 0435 0300; 0451 0435 0308; 0453 0433 0301; 0457 0456 0308; 045C 043A 0301
045D 0438 0300; 045E 0443 0306; 0622 0627 0653; 0623 0627 0654; 0624 0648 0654; 0625 0627 0655
0626 064A 0654; 06C0 06D5 0654; 06C2 06C1 0654; 06D3 06D2 0654; 0929 0928 093C; 0931 0930 093C
0934 0933 093C; 0958 0915 093C; 0959 0916 093C; 095A 0917 093C; 095B 091C 093C; 095C 0921 093C
095D 0922 093C; 095E 092B 093C; 095F 092F 093C; 1EA0 0041 0323; 1EA1 0061 0323; 1EA2 0041 0309
1EA3 0061 0309; 1EA4 00C2 0301; 1EA5 00E2 0301; 1EA6 00C2 0300; 1EA7 00E2 0300; 1EA8 00C2 0309
1EA9 00E2 0309; 1EAA 00C2 0303; 1EAB 00E2 0303; 1EAC 1EA0 0302; 1EAD 1EA1 0302; 1EAE 0102 0301
1EAF 0103 0301; 1EB0 0102 0300; 1EB1 0103 0300; 1EB2 0102 0309; 1EB3 0103 0309; 1EB4 0102 0303
1EB5 0103 0303; 1EB6 1EA0 0306; 1EB7 1EA1 0306; 1EB8 0045 0323; 1EB9 0065 0323; 1EBA 0045 0309
1EBB 0065 0309; 1EBC 0045 0303; 1EBD 0065 0303; 1EBE 00CA 0301; 1EBF 00EA 0301; 1EC0 00CA 0300
1EC1 00EA 0300; 1EC2 00CA 0309; 1EC3 00EA 0309; 1EC4 00CA 0303; 1EC5 00EA 0303; 1EC6 1EB8 0302
1EC7 1EB9 0302; 1EC8 0049 0309; 1EC9 0069 0309; 1ECA 0049 0323; 1ECB 0069 0323; 1ECC 004F 0323
1ECD 006F 0323; 1ECE 004F 0309; 1ECF 006F 0309; 1ED0 00D4 0301; 1ED1 00F4 0301; 1ED2 00D4 0300
1ED3 00F4 0300; 1ED4 00D4 0309; 1ED5 00F4 0309; 1ED6 00D4 0303; 1ED7 00F4 0303; 1ED8 1ECC 0302
1ED9 1ECD 0302; 1EDA 01A0 0301; 1EDB 01A1 0301; 1EDC 01A0 0300; 1EDD 01A1 0300; 1EDE 01A0 0309
1EDF 01A1 0309; 1EE0 01A0 0303; 1EE1 01A1 0303; 1EE2 01A0 0323; 1EE3 01A1 0323; 1EE4 0055 0323
1EE5 0075 0323; 1EE6 0055 0309; 1EE7 0075 0309; 1EE8 01AF 0301; 1EE9 01B0 0301; 1EEA 01AF 0300
1EEB 01B0 0300; 1EEC 01AF 0309; 1EED 01B0 0309; 1EEE 01AF 0303; 1EEF 01B0 0303; 1EF0 01AF 0323
1EF1 01B0 0323; 1EF2 0059 0300; 1EF3 0079 0300; 1EF4 0059 0323; 1EF5 0079 0323; 1EF6 0059 0309
1EF7 0079 0309; 1EF8 0059 0303; 1EF9 0079 0303; 304C 304B 3099; 304E 304D 3099
3050 304F 3099; 3052 3051 3099; 3054 3053 3099; 3056 3055 3099; 3058 3057 3099; 305A 3059 3099
305C 305B 3099; 305E 305D 3099; 3060 305F 3099; 3062 3061 3099; 3065 3064 3099; 3067 3066 3099
3069 3068 3099; 3070 306F 3099; 3071 306F 309A; 3073 3072 3099; 3074 3072 309A; 3076 3075 3099
3077 3075 309A; 3079 3078 3099; 307A 3078 309A; 307C 307B 3099; 307D 307B 309A; 3094 3046 3099
309E 309D 3099; 30AC 30AB 3099; 30AE 30AD 3099; 30B0 30AF 3099; 30B2 30B1 3099; 30B4 30B3 3099
30B6 30B5 3099; 30B8 30B7 3099; 30BA 30B9 3099; 30BC 30BB 3099; 30BE 30BD 3099; 30C0 30BF 3099
30C2 30C1 3099; 30C5 30C4 3099; 30C7 30C6 3099; 30C9 30C8 3099; 30D0 30CF 3099; 30D1 30CF 309A
30D3 30D2 3099; 30D4 30D2 309A; 30D6 30D5 3099; 30D7 30D5 309A; 30D9 30D8 3099; 30DA 30D8 309A
30DC 30DB 3099; 30DD 30DB 309A; 30F4 30A6 3099; 30F7 30EF 3099; 30F8 30F0 3099; 30F9 30F1 3099
30FA 30F2 3099; 30FE 30FD 3099
`

// chapterSingles: the singles, as the chapter has them.
const chapterSingles = `0340 0300; 0341 0301; 0343 0313; 037E 003B; 0387 00B7; 2000 2002; 2001 2003; 2126 03A9; 212A 004B; 212B 00C5`

// chapterLower: the lower cases, as the chapter has them.
const chapterLower = `
| 0041 to 005A | each | 32 |
| 00C0 to 00D6 | each | 32 |
| 00D8 to 00DE | each | 32 |
| 0100 to 012E | each second one | 1 |
| 0130 | each | -199 |
| 0132 to 0136 | each second one | 1 |
| 0139 to 0147 | each second one | 1 |
| 014A to 0176 | each second one | 1 |
| 0178 | each | -121 |
| 0179 to 017D | each second one | 1 |
| 01A0 | each | 1 |
| 01AF | each | 1 |
| 01CD to 01DB | each second one | 1 |
| 0386 | each | 38 |
| 0388 to 038A | each | 37 |
| 038C | each | 64 |
| 038E to 038F | each | 63 |
| 0391 to 03A1 | each | 32 |
| 03A3 to 03AB | each | 32 |
| 0400 to 040F | each | 80 |
| 0410 to 042F | each | 32 |
| 1EA0 to 1EF8 | each second one | 1 |
| 2126 | each | -7517 |
| 212A | each | -8383 |
| 212B | each | -8262 |
| FF21 to FF3A | each | 32 |
| 10400 to 10427 | each | 40 |
`

// chapterKana: what FF66 to FF9F become, as the chapter has it.
const chapterKana = `
30F2 30A1 30A3 30A5 30A7 30A9 30E3 30E5 30E7 30C3 30FC 30A2
30A4 30A6 30A8 30AA 30AB 30AD 30AF 30B1 30B3 30B5 30B7 30B9
30BB 30BD 30BF 30C1 30C4 30C6 30C8 30CA 30CB 30CC 30CD 30CE
30CF 30D2 30D5 30D8 30DB 30DE 30DF 30E0 30E1 30E2 30E4 30E6
30E8 30E9 30EA 30EB 30EC 30ED 30EF 30F3 3099 309A
`

func hex(t *testing.T, text string) rune {
	t.Helper()
	n, err := strconv.ParseUint(text, 16, 21)
	if err != nil {
		t.Fatal(err)
	}
	return rune(n)
}

// told reads rows of hexadecimal numbers, with semicolons or lines' ends between.
func told(t *testing.T, text string, n int) [][]rune {
	t.Helper()
	var out [][]rune
	for _, row := range strings.FieldsFunc(text, func(r rune) bool { return r == ';' || r == '\n' }) {
		var is []rune
		for _, word := range strings.Fields(row) {
			is = append(is, hex(t, word))
		}
		if len(is) != n {
			t.Fatal("a row of the chapter:", row)
		}
		out = append(out, is)
	}
	return out
}

type model struct {
	pairs, singles [][]rune
	down           map[rune][]rune
	excluded       map[rune]bool
	up             map[string]rune
	second         map[rune]bool
	lower          map[rune]rune
	width          map[rune]rune
}

func chapter(t *testing.T) *model {
	t.Helper()
	m := &model{
		pairs: told(t, chapterPairs, 3), singles: told(t, chapterSingles, 2),
		down: map[rune][]rune{}, excluded: map[rune]bool{0x0344: true},
		up: map[string]rune{}, second: map[rune]bool{}, lower: map[rune]rune{}, width: map[rune]rune{},
	}
	for r := rune(0x0958); r <= 0x095F; r++ {
		m.excluded[r] = true
	}
	for _, row := range m.singles {
		m.down[row[0]] = row[1:]
		m.excluded[row[0]] = true
	}
	for _, row := range m.pairs {
		m.down[row[0]] = row[1:]
		if !m.excluded[row[0]] {
			m.up[string(row[1:])] = row[0]
			m.second[row[2]] = true
		}
	}
	m.readLower(t)
	m.readWidths(t)
	return m
}

func (m *model) readLower(t *testing.T) {
	for _, line := range strings.Split(strings.TrimSpace(chapterLower), "\n") {
		cells := strings.Split(strings.Trim(line, "|"), "|")
		from, to, _ := strings.Cut(strings.TrimSpace(cells[0]), " to ")
		if to == "" {
			to = from
		}
		add, err := strconv.Atoi(strings.TrimSpace(cells[2]))
		if err != nil {
			t.Fatal(err)
		}
		step := rune(1)
		if strings.Contains(cells[1], "second") {
			step = 2
		}
		for r := hex(t, from); r <= hex(t, to); r += step {
			m.lower[r] = r + rune(add)
		}
	}
}

func (m *model) readWidths(t *testing.T) {
	for r := rune(0xFF01); r <= 0xFF5E; r++ {
		m.width[r] = r - 0xFF01 + 0x21
	}
	m.width[0xFF61] = 0x3002
	m.width[0xFF65] = 0x30FB
	words := strings.Fields(chapterKana)
	if len(words) != 0xFF9F-0xFF66+1 {
		t.Fatal("the chapter's widths:", len(words))
	}
	for i, word := range words {
		m.width[0xFF66+rune(i)] = hex(t, word)
	}
}

func orSelf(m map[rune]rune, r rune) rune {
	if is, ok := m[r]; ok {
		return is
	}
	return r
}

// everyRune: all code points, and numbers that are none: below, above, at both ends, and those whose last bits are a code point's.
func everyRune(yield func(rune) bool) {
	for r := rune(-0x300); r <= 0x110300; r++ {
		if !yield(r) {
			return
		}
	}
	for _, r := range []rune{math.MinInt32, math.MinInt32 + 1, -0x10000, math.MaxInt32 - 1, math.MaxInt32, 0x1000041, 0x10000E9, 0x10000301, -0x7FFFFF17} {
		if !yield(r) {
			return
		}
	}
}

func TestP7_1DownOfEveryRune(t *testing.T) {
	m, p := chapter(t), New()
	for r := range everyRune {
		a, b, n := p.Down(r)
		is := m.down[r]
		if n != len(is) || n == 0 && (a != 0 || b != 0) || n == 1 && (a != is[0] || b != 0) || n == 2 && (a != is[0] || b != is[1]) {
			t.Fatalf("Down(%X): %X %X %d, asked %X", r, a, b, n, is)
		}
	}
}

func TestP7_1ExcludedAndSecondOfEveryRune(t *testing.T) {
	m, p := chapter(t), New()
	for r := range everyRune {
		if got := p.Excluded(r); got != m.excluded[r] {
			t.Fatalf("Excluded(%X): %v", r, got)
		}
		if got := p.Second(r); got != m.second[r] {
			t.Fatalf("Second(%X): %v", r, got)
		}
	}
}

// named: all code points that the chapter's pairs and singles name, their neighbours, and numbers that are no code points; rising.
func named(m *model) []rune {
	all := map[rune]bool{0: true, -1: true, math.MinInt32: true, math.MaxInt32: true, 0x10FFFF: true, 0x110000: true, 0x1000041: true, 0x10000301: true, 0x1100: true, 0x1161: true, 0xAC00: true, 0x11A8: true}
	for _, row := range slices.Concat(m.pairs, m.singles) {
		for _, r := range row {
			all[r], all[r-1], all[r+1] = true, true, true
		}
	}
	return slices.Sorted(maps.Keys(all))
}

func TestP7_1UpOfAllTwo(t *testing.T) {
	m, p := chapter(t), New()
	seen := 0
	all := named(m)
	for _, a := range all {
		for _, b := range all {
			asked, there := rune(0), false
			if a >= 0 && b >= 0 && a <= 0x10FFFF && b <= 0x10FFFF {
				asked, there = m.up[string([]rune{a, b})]
			}
			if there {
				seen++
			}
			if got, ok := p.Up(a, b); got != asked || ok != there {
				t.Fatalf("Up(%X, %X): %X %v, asked %X %v", a, b, got, ok, asked, there)
			}
		}
	}
	if seen != len(m.up) || seen != len(m.pairs)-9 {
		t.Error("pairs that were seen:", seen)
	}
}

func TestP7_1UpOfWhatIsNoPair(t *testing.T) {
	p := New()
	for _, two := range [][2]rune{
		{0x301, 'e'}, {'e', 0}, {0, 0x301}, {0, 0}, {0xE9, 0x301}, {0xE9, 0}, // turned round, half, put together already
		{0x308, 0x301}, {0x915, 0x93C}, {0x92F, 0x93C}, // excluded
		{0x300, 0}, {0x3A9, 0}, {'K', 0}, {0xC5, 0}, // what singles are
		{0x1100, 0x1161}, {0xAC00, 0x11A8}, // of Hangul
		{'e' + 1<<24, 0x301}, {'e', 0x301 - 1<<24}, {-'e', 0x301}, {math.MinInt32, math.MaxInt32},
	} {
		if r, ok := p.Up(two[0], two[1]); r != 0 || ok {
			t.Errorf("Up(%X, %X): %X %v", two[0], two[1], r, ok)
		}
	}
}

func TestP7_1Len(t *testing.T) {
	m, p := chapter(t), New()
	if got := p.Len(); got != len(m.pairs)+len(m.singles) || got != 385+10 {
		t.Error(got)
	}
}

func TestP7_1LowerOfEveryRune(t *testing.T) {
	m := chapter(t)
	for r := range everyRune {
		if got := Lower(r); got != orSelf(m.lower, r) {
			t.Fatalf("Lower(%X): %X", r, got)
		}
	}
}

func TestP7_1WidthOfEveryRune(t *testing.T) {
	m := chapter(t)
	for r := range everyRune {
		if got := Width(r); got != orSelf(m.width, r) {
			t.Fatalf("Width(%X): %X", r, got)
		}
	}
}

func TestP7_1Edges(t *testing.T) {
	for _, c := range []struct{ r, lower, width rune }{
		{'@', '@', '@'}, {'A', 'a', 'A'}, {'Z', 'z', 'Z'}, {'[', '[', '['}, {'a', 'a', 'a'},
		{0xD6, 0xF6, 0xD6}, {0xD7, 0xD7, 0xD7}, {0xD8, 0xF8, 0xD8}, {0xDE, 0xFE, 0xDE}, {0xDF, 0xDF, 0xDF},
		{0x12E, 0x12F, 0x12E}, {0x12F, 0x12F, 0x12F}, {0x130, 'i', 0x130}, {0x131, 0x131, 0x131}, {0x132, 0x133, 0x132},
		{0x136, 0x137, 0x136}, {0x138, 0x138, 0x138}, {0x139, 0x13A, 0x139}, {0x149, 0x149, 0x149}, {0x178, 0xFF, 0x178}, {0x17F, 0x17F, 0x17F},
		{0x3A2, 0x3A2, 0x3A2}, {0x3C2, 0x3C2, 0x3C2}, {0x2126, 0x3C9, 0x2126}, {0x212A, 'k', 0x212A}, {0x212B, 0xE5, 0x212B},
		{0xFF00, 0xFF00, 0xFF00}, {0xFF01, 0xFF01, '!'}, {0xFF21, 0xFF41, 'A'}, {0xFF5E, 0xFF5E, '~'}, {0xFF5F, 0xFF5F, 0xFF5F},
		{0xFF60, 0xFF60, 0xFF60}, {0xFF61, 0xFF61, 0x3002}, {0xFF62, 0xFF62, 0xFF62}, {0xFF64, 0xFF64, 0xFF64}, {0xFF65, 0xFF65, 0x30FB},
		{0xFF66, 0xFF66, 0x30F2}, {0xFF9F, 0xFF9F, 0x309A}, {0xFFA0, 0xFFA0, 0xFFA0},
		{0x10400, 0x10428, 0x10400}, {0x10427, 0x1044F, 0x10427}, {0x10428, 0x10428, 0x10428},
		{0x10FFFF, 0x10FFFF, 0x10FFFF}, {-1, -1, -1}, {math.MinInt32, math.MinInt32, math.MinInt32}, {math.MaxInt32, math.MaxInt32, math.MaxInt32},
	} {
		if got := Lower(c.r); got != c.lower {
			t.Errorf("Lower(%X): %X", c.r, got)
		}
		if got := Width(c.r); got != c.width {
			t.Errorf("Width(%X): %X", c.r, got)
		}
	}
}

func TestP7_1EachNewTellsTheSame(t *testing.T) {
	m, p := chapter(t), New()
	for _, a := range named(m) {
		p.Down(a)
		p.Up(a, a)
		p.Excluded(a)
		p.Second(a)
	}
	q := New()
	if p == q || p.Len() != q.Len() {
		t.Fatal("lengths:", p.Len(), q.Len())
	}
	for r, is := range m.down {
		a, b, n := p.Down(r)
		c, d, k := q.Down(r)
		if a != c || b != d || n != k || n != len(is) {
			t.Errorf("Down(%X): %X %X %d, %X %X %d", r, a, b, n, c, d, k)
		}
	}
}

func TestP7_2UpOfDown(t *testing.T) {
	p := New()
	pairs := 0
	for r := range everyRune {
		a, b, n := p.Down(r)
		if n != 2 {
			continue
		}
		pairs++
		if up, ok := p.Up(a, b); p.Excluded(r) == ok || ok && up != r {
			t.Errorf("Up(Down(%X)): %X %v", r, up, ok)
		}
	}
	if pairs != 385 {
		t.Error("pairs:", pairs)
	}
}

func TestP7_2NoTwoOfOnePair(t *testing.T) {
	p := New()
	of := map[[2]rune]rune{}
	for r := range everyRune {
		a, b, n := p.Down(r)
		if n != 2 {
			continue
		}
		if first, ok := of[[2]rune{a, b}]; ok {
			t.Errorf("%X and %X are both made of %X %X", first, r, a, b)
		}
		of[[2]rune{a, b}] = r
	}
}

func TestP7_3TwiceIsOnce(t *testing.T) {
	for r := range everyRune {
		if once := Lower(r); Lower(once) != once {
			t.Errorf("Lower(%X): %X, then %X", r, once, Lower(once))
		}
		if once := Width(r); Width(once) != once {
			t.Errorf("Width(%X): %X, then %X", r, once, Width(once))
		}
	}
}

func FuzzP7(f *testing.F) {
	f.Add(int32('e'), int32(0x301))
	f.Add(int32(0x308), int32(0x301))
	f.Add(int32(math.MinInt32), int32(math.MaxInt32))
	p := New()
	f.Fuzz(func(t *testing.T, a, b int32) {
		if up, ok := p.Up(a, b); ok {
			if c, d, n := p.Down(up); c != a || d != b || n != 2 || p.Excluded(up) || !p.Second(b) {
				t.Errorf("Up(%X, %X): %X, which is made of %X %X", a, b, up, c, d)
			}
		} else if up != 0 {
			t.Errorf("Up(%X, %X): %X beside false", a, b, up)
		}
		if once := Lower(Width(a)); Lower(once) != once {
			t.Errorf("Lower(Width(%X)): %X", a, once)
		}
	})
}
