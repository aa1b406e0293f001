package ucd

import "slices"

// line is a line of the chapter's table.
type line struct {
	from, to                        rune
	kind, bidi, script, class, join int
}

// Kinds that lines alone have.
const (
	even = Private + 1 + iota // Upper at even code points, Lower at odd ones
	odd                       // the other way about
)

// lines is the chapter's table, rising. It is a function's, since it is too long for a variable.
func lines() []line {
	return slices.Concat(latin(), marksToHebrew(), arabic(), devanagariToHangul(), privateToLast())
}

func latin() []line {
	return []line{
		{0x0000, 0x001F, Control, BN, Other, 0, None},
		{0x0020, 0x0020, Sign, WS, Other, 0, None},
		{0x0021, 0x0022, Sign, ON, Other, 0, None},
		{0x0023, 0x0025, Sign, ET, Other, 0, None},
		{0x0026, 0x002A, Sign, ON, Other, 0, None},
		{0x002B, 0x002B, Sign, ES, Other, 0, None},
		{0x002C, 0x002C, Sign, CS, Other, 0, None},
		{0x002D, 0x002D, Sign, ES, Other, 0, None},
		{0x002E, 0x002F, Sign, CS, Other, 0, None},
		{0x0030, 0x0039, Digit, EN, Other, 0, None},
		{0x003A, 0x003A, Sign, CS, Other, 0, None},
		{0x003B, 0x0040, Sign, ON, Other, 0, None},
		{0x0041, 0x005A, Upper, L, Latin, 0, None},
		{0x005B, 0x0060, Sign, ON, Other, 0, None},
		{0x0061, 0x007A, Lower, L, Latin, 0, None},
		{0x007B, 0x007E, Sign, ON, Other, 0, None},
		{0x007F, 0x009F, Control, BN, Other, 0, None},
		{0x00A0, 0x00A0, Sign, CS, Other, 0, None},
		{0x00A1, 0x00A1, Sign, ON, Other, 0, None},
		{0x00A2, 0x00A5, Sign, ET, Other, 0, None},
		{0x00A6, 0x00A9, Sign, ON, Other, 0, None},
		{0x00AA, 0x00AA, Letter, L, Latin, 0, None},
		{0x00AB, 0x00AC, Sign, ON, Other, 0, None},
		{0x00AD, 0x00AD, Format, BN, Other, 0, Through},
		{0x00AE, 0x00AF, Sign, ON, Other, 0, None},
		{0x00B0, 0x00B1, Sign, ET, Other, 0, None},
		{0x00B2, 0x00B3, Sign, EN, Other, 0, None},
		{0x00B4, 0x00B4, Sign, ON, Other, 0, None},
		{0x00B5, 0x00B5, Lower, L, Other, 0, None},
		{0x00B6, 0x00B8, Sign, ON, Other, 0, None},
		{0x00B9, 0x00B9, Sign, EN, Other, 0, None},
		{0x00BA, 0x00BA, Letter, L, Latin, 0, None},
		{0x00BB, 0x00BF, Sign, ON, Other, 0, None},
		{0x00C0, 0x00D6, Upper, L, Latin, 0, None},
		{0x00D7, 0x00D7, Sign, ON, Other, 0, None},
		{0x00D8, 0x00DE, Upper, L, Latin, 0, None},
		{0x00DF, 0x00F6, Lower, L, Latin, 0, None},
		{0x00F7, 0x00F7, Sign, ON, Other, 0, None},
		{0x00F8, 0x00FF, Lower, L, Latin, 0, None},
		{0x0100, 0x0137, even, L, Latin, 0, None},
		{0x0138, 0x0138, Lower, L, Latin, 0, None},
		{0x0139, 0x0148, odd, L, Latin, 0, None},
		{0x0149, 0x0149, Lower, L, Latin, 0, None},
		{0x014A, 0x0177, even, L, Latin, 0, None},
		{0x0178, 0x0178, Upper, L, Latin, 0, None},
		{0x0179, 0x017E, odd, L, Latin, 0, None},
		{0x017F, 0x017F, Lower, L, Latin, 0, None},
		{0x01A0, 0x01A1, even, L, Latin, 0, None},
		{0x01AF, 0x01B0, odd, L, Latin, 0, None},
		{0x01CD, 0x01DC, odd, L, Latin, 0, None},
	}
}

func marksToHebrew() []line {
	return []line{
		{0x0300, 0x0314, Mark, NSM, Other, 230, Through},
		{0x0315, 0x0315, Mark, NSM, Other, 232, Through},
		{0x0316, 0x0319, Mark, NSM, Other, 220, Through},
		{0x031A, 0x031A, Mark, NSM, Other, 232, Through},
		{0x031B, 0x031B, Mark, NSM, Other, 216, Through},
		{0x031C, 0x0320, Mark, NSM, Other, 220, Through},
		{0x0321, 0x0322, Mark, NSM, Other, 202, Through},
		{0x0323, 0x0326, Mark, NSM, Other, 220, Through},
		{0x0327, 0x0328, Mark, NSM, Other, 202, Through},
		{0x0329, 0x0333, Mark, NSM, Other, 220, Through},
		{0x0334, 0x0338, Mark, NSM, Other, 1, Through},
		{0x0339, 0x033C, Mark, NSM, Other, 220, Through},
		{0x033D, 0x0344, Mark, NSM, Other, 230, Through},
		{0x0345, 0x0345, Mark, NSM, Other, 240, Through},
		{0x0375, 0x0375, Sign, ON, Greek, 0, None},
		{0x037E, 0x037E, Sign, ON, Other, 0, None},
		{0x0386, 0x0386, Upper, L, Greek, 0, None},
		{0x0387, 0x0387, Sign, ON, Other, 0, None},
		{0x0388, 0x038A, Upper, L, Greek, 0, None},
		{0x038C, 0x038C, Upper, L, Greek, 0, None},
		{0x038E, 0x038F, Upper, L, Greek, 0, None},
		{0x0390, 0x0390, Lower, L, Greek, 0, None},
		{0x0391, 0x03A1, Upper, L, Greek, 0, None},
		{0x03A3, 0x03AB, Upper, L, Greek, 0, None},
		{0x03AC, 0x03CE, Lower, L, Greek, 0, None},
		{0x0400, 0x042F, Upper, L, Cyrillic, 0, None},
		{0x0430, 0x045F, Lower, L, Cyrillic, 0, None},
		{0x05B4, 0x05B4, Mark, NSM, Hebrew, 14, Through},
		{0x05B7, 0x05B7, Mark, NSM, Hebrew, 17, Through},
		{0x05BC, 0x05BC, Mark, NSM, Hebrew, 21, Through},
		{0x05BF, 0x05BF, Mark, NSM, Hebrew, 23, Through},
		{0x05C1, 0x05C1, Mark, NSM, Hebrew, 24, Through},
		{0x05C2, 0x05C2, Mark, NSM, Hebrew, 25, Through},
		{0x05D0, 0x05EA, Letter, R, Hebrew, 0, None},
		{0x05F3, 0x05F4, Sign, R, Hebrew, 0, None},
	}
}

func arabic() []line {
	return []line{
		{0x0621, 0x0621, Letter, AL, Arabic, 0, None},
		{0x0622, 0x0625, Letter, AL, Arabic, 0, Right},
		{0x0626, 0x0626, Letter, AL, Arabic, 0, Dual},
		{0x0627, 0x0627, Letter, AL, Arabic, 0, Right},
		{0x0628, 0x0628, Letter, AL, Arabic, 0, Dual},
		{0x0629, 0x0629, Letter, AL, Arabic, 0, Right},
		{0x062A, 0x062E, Letter, AL, Arabic, 0, Dual},
		{0x062F, 0x0632, Letter, AL, Arabic, 0, Right},
		{0x0633, 0x063A, Letter, AL, Arabic, 0, Dual},
		{0x0640, 0x0640, Modifier, AL, Other, 0, Causing},
		{0x0641, 0x0647, Letter, AL, Arabic, 0, Dual},
		{0x0648, 0x0648, Letter, AL, Arabic, 0, Right},
		{0x0649, 0x064A, Letter, AL, Arabic, 0, Dual},
		{0x064B, 0x064B, Mark, NSM, Other, 27, Through},
		{0x064C, 0x064C, Mark, NSM, Other, 28, Through},
		{0x064D, 0x064D, Mark, NSM, Other, 29, Through},
		{0x064E, 0x064E, Mark, NSM, Other, 30, Through},
		{0x064F, 0x064F, Mark, NSM, Other, 31, Through},
		{0x0650, 0x0650, Mark, NSM, Other, 32, Through},
		{0x0651, 0x0651, Mark, NSM, Other, 33, Through},
		{0x0652, 0x0652, Mark, NSM, Other, 34, Through},
		{0x0653, 0x0654, Mark, NSM, Other, 230, Through},
		{0x0655, 0x0655, Mark, NSM, Other, 220, Through},
		{0x0660, 0x0669, Digit, AN, Arabic, 0, None},
		{0x0670, 0x0670, Mark, NSM, Other, 35, Through},
		{0x0671, 0x0671, Letter, AL, Arabic, 0, Right},
		{0x067E, 0x067E, Letter, AL, Arabic, 0, Dual},
		{0x0686, 0x0686, Letter, AL, Arabic, 0, Dual},
		{0x0698, 0x0698, Letter, AL, Arabic, 0, Right},
		{0x06A9, 0x06A9, Letter, AL, Arabic, 0, Dual},
		{0x06AF, 0x06AF, Letter, AL, Arabic, 0, Dual},
		{0x06C0, 0x06C0, Letter, AL, Arabic, 0, Right},
		{0x06C1, 0x06C2, Letter, AL, Arabic, 0, Dual},
		{0x06CC, 0x06CC, Letter, AL, Arabic, 0, Dual},
		{0x06D2, 0x06D3, Letter, AL, Arabic, 0, Right},
		{0x06D5, 0x06D5, Letter, AL, Arabic, 0, Right},
		{0x06F0, 0x06F9, Digit, EN, Arabic, 0, None},
		{0x06FD, 0x06FE, Sign, AL, Arabic, 0, None},
	}
}

func devanagariToHangul() []line {
	return []line{
		{0x0901, 0x0902, Mark, NSM, Devanagari, 0, Through},
		{0x0903, 0x0903, Spacing, L, Devanagari, 0, None},
		{0x0904, 0x0939, Letter, L, Devanagari, 0, None},
		{0x093C, 0x093C, Mark, NSM, Devanagari, 7, Through},
		{0x093E, 0x0940, Spacing, L, Devanagari, 0, None},
		{0x0941, 0x0948, Mark, NSM, Devanagari, 0, Through},
		{0x0949, 0x094C, Spacing, L, Devanagari, 0, None},
		{0x094D, 0x094D, Mark, NSM, Devanagari, 9, Through},
		{0x0958, 0x0961, Letter, L, Devanagari, 0, None},
		{0x0966, 0x096F, Digit, L, Devanagari, 0, None},
		{0x1100, 0x1112, Letter, L, Hangul, 0, None},
		{0x1161, 0x1175, Letter, L, Hangul, 0, None},
		{0x11A8, 0x11C2, Letter, L, Hangul, 0, None},
		{0x1EA0, 0x1EF9, even, L, Latin, 0, None},
		{0x2000, 0x200A, Sign, WS, Other, 0, None},
		{0x200B, 0x200B, Format, BN, Other, 0, Through},
		{0x200C, 0x200C, Format, BN, Other, 0, None},
		{0x200D, 0x200D, Format, BN, Other, 0, Causing},
		{0x200E, 0x200E, Format, L, Other, 0, Through},
		{0x200F, 0x200F, Format, R, Other, 0, Through},
		{0x2010, 0x2027, Sign, ON, Other, 0, None},
		{0x202A, 0x202E, Format, BN, Other, 0, Through},
		{0x2066, 0x2069, Format, BN, Other, 0, Through},
		{0x2126, 0x2126, Upper, L, Greek, 0, None},
		{0x212A, 0x212B, Upper, L, Latin, 0, None},
		{0x3001, 0x3002, Sign, ON, Other, 0, None},
		{0x3005, 0x3005, Modifier, L, Han, 0, None},
		{0x3007, 0x3007, Sign, L, Han, 0, None},
		{0x3031, 0x3035, Modifier, L, Other, 0, None},
		{0x303B, 0x303B, Modifier, L, Han, 0, None},
		{0x3041, 0x3096, Letter, L, Hiragana, 0, None},
		{0x3099, 0x309A, Mark, NSM, Other, 8, Through},
		{0x309D, 0x309E, Modifier, L, Hiragana, 0, None},
		{0x30A1, 0x30FA, Letter, L, Katakana, 0, None},
		{0x30FB, 0x30FB, Sign, ON, Other, 0, None},
		{0x30FC, 0x30FC, Modifier, L, Other, 0, None},
		{0x30FD, 0x30FE, Modifier, L, Katakana, 0, None},
		{0x4E00, 0x9FFF, Letter, L, Han, 0, None},
		{0xAC00, 0xD7A3, Letter, L, Hangul, 0, None},
	}
}

func privateToLast() []line {
	return []line{
		{0xE000, 0xF8FF, Private, L, Other, 0, None},
		{0xFF01, 0xFF0F, Sign, ON, Other, 0, None},
		{0xFF10, 0xFF19, Digit, EN, Other, 0, None},
		{0xFF1A, 0xFF20, Sign, ON, Other, 0, None},
		{0xFF21, 0xFF3A, Upper, L, Latin, 0, None},
		{0xFF3B, 0xFF40, Sign, ON, Other, 0, None},
		{0xFF41, 0xFF5A, Lower, L, Latin, 0, None},
		{0xFF5B, 0xFF5E, Sign, ON, Other, 0, None},
		{0xFF61, 0xFF61, Sign, ON, Other, 0, None},
		{0xFF65, 0xFF65, Sign, ON, Other, 0, None},
		{0xFF66, 0xFF6F, Letter, L, Katakana, 0, None},
		{0xFF70, 0xFF70, Modifier, L, Other, 0, None},
		{0xFF71, 0xFF9D, Letter, L, Katakana, 0, None},
		{0xFF9E, 0xFF9F, Modifier, L, Other, 0, None},
		{0xFFFD, 0xFFFD, Sign, ON, Other, 0, None},
		{0x10400, 0x10427, Upper, L, Other, 0, None},
		{0x10428, 0x1044F, Lower, L, Other, 0, None},
		{0x1F600, 0x1F64F, Sign, ON, Other, 0, None},
		{0xF0000, 0xFFFFD, Private, L, Other, 0, None},
		{0x100000, 0x10FFFD, Private, L, Other, 0, None},
	}
}
