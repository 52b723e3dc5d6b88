package text

import (
	"math"
	"slices"
	"strings"
	"testing"
	"unicode/utf8"
)

// nonTexts are strings that are no texts: control characters, characters from U+10000 on, and bytes that are no UTF-8.
var nonTexts = []string{
	"\x00", "\t", "\n", "\r", "\x1f", "\x7f", "\u0080", "\u0085", "\u009f", "\U00010000", "\U0001F600", "\U0010FFFF",
	"\x80", "\xbf", "\xc3", "\xe4\xb8", "\xf0\x90\x80", "\xfe", "\xff", "\xff\xff",
	"\xc0\x80", "\xc1\xbf", "\xe0\x80\x80", "\xe0\x9f\xbf", "\xf0\x80\x80\x80", "\xf0\x8f\xbf\xbf",
	"\xed\xa0\x80", "\xed\xaf\xbf", "\xed\xb0\x80", "\xed\xbf\xbf", "\xf4\x90\x80\x80", "\xf8\x88\x80\x80\x80",
}

// eachRune calls f for every character of a text.
func eachRune(f func(r rune)) {
	for r := rune(0x20); r <= 0xFFFF; r++ {
		if 0x7F <= r && r <= 0x9F || 0xD800 <= r && r <= 0xDFFF {
			continue
		}
		f(r)
	}
}

// eachText calls f for every text of at most five characters out of a few that differ in kind.
func eachText(f func(s string)) {
	alphabet := []string{"a", "Z", "7", " ", "\u00a0", "É", "ß", "×", "Ā", "-"}
	var extend func(s string, left int)
	extend = func(s string, left int) {
		f(s)
		if left == 0 {
			return
		}
		for _, c := range alphabet {
			extend(s+c, left-1)
		}
	}
	extend("", 5)
}

// folded returns what the document says of the folding of a character.
func folded(r rune) string {
	groups := []struct {
		first, last rune
		to          string
	}{
		{0xC0, 0xC5, "a"}, {0xE0, 0xE5, "a"}, {0xC6, 0xC6, "ae"}, {0xE6, 0xE6, "ae"}, {0xC7, 0xC7, "c"}, {0xE7, 0xE7, "c"},
		{0xC8, 0xCB, "e"}, {0xE8, 0xEB, "e"}, {0xCC, 0xCF, "i"}, {0xEC, 0xEF, "i"}, {0xD0, 0xD0, "d"}, {0xF0, 0xF0, "d"},
		{0xD1, 0xD1, "n"}, {0xF1, 0xF1, "n"}, {0xD2, 0xD6, "o"}, {0xD8, 0xD8, "o"}, {0xF2, 0xF6, "o"}, {0xF8, 0xF8, "o"},
		{0xD9, 0xDC, "u"}, {0xF9, 0xFC, "u"}, {0xDD, 0xDD, "y"}, {0xFD, 0xFD, "y"}, {0xFF, 0xFF, "y"},
		{0xDE, 0xDE, "th"}, {0xFE, 0xFE, "th"}, {0xDF, 0xDF, "ss"},
	}
	for _, g := range groups {
		if g.first <= r && r <= g.last {
			return g.to
		}
	}
	if 'A' <= r && r <= 'Z' {
		return strings.ToLower(string(r))
	}
	return string(r)
}

// P1.1: exactly the characters of the definition are allowed, wherever they stand.
func TestValidCharacters(t *testing.T) {
	if !Valid("") {
		t.Error("the empty string is a text")
	}
	for r := rune(0); r <= utf8.MaxRune; r++ {
		if !utf8.ValidRune(r) {
			continue
		}
		want := 0x20 <= r && r <= 0x7E || 0xA0 <= r && r <= 0xFFFF
		c := string(r)
		for _, s := range []string{c, "é" + c, c + "a"} {
			if Valid(s) != want {
				t.Errorf("Valid(%q) is %v", s, !want)
			}
		}
	}
}

// P1.1: U+FFFD is a character, a byte that decodes to it is none.
func TestValidBytes(t *testing.T) {
	if !Valid("\ufffd") || !Valid("\ufffe\uffff") {
		t.Error("U+FFFD to U+FFFF are characters of texts")
	}
	for _, bad := range nonTexts {
		for _, s := range []string{bad, "a" + bad, bad + "a", "ü" + bad + "中", "\ufffd" + bad} {
			if Valid(s) {
				t.Errorf("Valid(%q) is true", s)
			}
		}
	}
	for b := 0x80; b <= 0xFF; b++ {
		if s := string([]byte{byte(b)}); Valid(s) {
			t.Errorf("Valid(%q) is true", s)
		}
	}
	for r := 0xD800; r <= 0xDFFF; r++ {
		s := string([]byte{0xE0 | byte(r>>12), 0x80 | byte(r>>6&0x3F), 0x80 | byte(r&0x3F)})
		if Valid(s) {
			t.Errorf("Valid(%q) is true", s)
		}
	}
}

// P1.2
func TestRunes(t *testing.T) {
	for s, want := range map[string]int{"": 0, "a": 1, "Ünï": 3, "ab\u00a0c": 4, "中文": 2, "\ufffd\uffff": 2, "e\u0301": 2} {
		if n := Runes(s); n != want {
			t.Errorf("Runes(%q) is %d, not %d", s, n, want)
		}
	}
	if n := Runes(strings.Repeat("aé中", 10000)); n != 30000 {
		t.Errorf("Runes of a long text is %d", n)
	}
	eachRune(func(r rune) {
		if n := Runes("a" + string(r)); n != 2 {
			t.Errorf("Runes of a and %q is %d", r, n)
		}
	})
}

// P1.2
func TestClip(t *testing.T) {
	tests := []struct {
		s    string
		n    int
		want string
	}{
		{"Ünï", math.MinInt, ""}, {"Ünï", -1, ""}, {"Ünï", 0, ""},
		{"Ünï", 1, "Ü"}, {"Ünï", 2, "Ün"}, {"Ünï", 3, "Ünï"}, {"Ünï", 4, "Ünï"}, {"Ünï", 5, "Ünï"}, {"Ünï", math.MaxInt, "Ünï"},
		{"", -1, ""}, {"", 0, ""}, {"", 1, ""}, {"", math.MaxInt, ""},
		{"中文字", 1, "中"}, {"中文字", 2, "中文"}, {"\ufffda", 1, "\ufffd"}, {" \u00a0 a", 2, " \u00a0"}, {"e\u0301", 1, "e"},
	}
	for _, x := range tests {
		if c := Clip(x.s, x.n); c != x.want {
			t.Errorf("Clip(%q, %d) is %q, not %q", x.s, x.n, c, x.want)
		}
	}
}

// P1.3
func TestClean(t *testing.T) {
	tests := map[string]string{
		"": "", " ": "", "\u00a0": "", " \u00a0 ": "", "a": "a", "ab": "ab", "a b": "a b", "  a  b ": "a b",
		"\u00a0a": "a", "a\u00a0": "a", "a\u00a0b": "a b", "a \u00a0 b": "a b", "a\u00a0 \u00a0b  c": "a b c",
		"Ägir  Straße": "Ägir Straße", " L'été -  1990! ": "L'été - 1990!", "\u3000a\u2003": "\u3000a\u2003",
	}
	for s, want := range tests {
		if c := Clean(s); c != want {
			t.Errorf("Clean(%q) is %q, not %q", s, c, want)
		}
	}
}

// P1.3: only U+0020 and U+00A0 are blanks.
func TestBlanks(t *testing.T) {
	eachRune(func(r rune) {
		c := string(r)
		s, want, blank := c+"a"+c+c+"b"+c, "a b", true
		if r != 0x20 && r != 0xA0 {
			want, blank = s, false
		}
		if x := Clean(s); x != want {
			t.Errorf("Clean(%q) is %q, not %q", s, x, want)
		}
		if Space(c) != blank || Space(" "+c) != blank || Space(c+"\u00a0") != blank {
			t.Errorf("Space of %q is not %v", c, blank)
		}
	})
}

// P1.3
func TestSpace(t *testing.T) {
	tests := map[string]bool{
		"": true, " ": true, "\u00a0": true, " \u00a0 ": true, "a": false, " a": false, "a ": false, " a ": false, "\u00a0é": false, "\u3000": false,
	}
	for s, want := range tests {
		if Space(s) != want {
			t.Errorf("Space(%q) is %v", s, !want)
		}
	}
}

// P1.4: every character of texts, alone and between others.
func TestFoldCharacters(t *testing.T) {
	eachRune(func(r rune) {
		want := folded(r)
		if f := Fold(string(r)); f != want {
			t.Errorf("Fold(%q) is %q, not %q", r, f, want)
		}
		if f := Fold("Ü" + string(r) + "中"); f != "u"+want+"中" {
			t.Errorf("Fold of %q within a text is %q", r, f)
		}
	})
}

// P1.4
func TestFold(t *testing.T) {
	tests := map[string]string{
		"": "", "Ægir Straße": "aegir strasse", "ÀÁÂÃÄÅàáâãäå": "aaaaaaaaaaaa", "ÐðÞþ": "ddthth", "×÷": "×÷", "Ÿ": "Ÿ",
		"ŒœĀā": "ŒœĀā", " A\u00a0 Z-": " a\u00a0 z-", "@[`{09": "@[`{09", "ΑΩ": "ΑΩ", "e\u0301": "e\u0301", "\ufffd": "\ufffd",
	}
	for s, want := range tests {
		if f := Fold(s); f != want {
			t.Errorf("Fold(%q) is %q, not %q", s, f, want)
		}
	}
}

// P1.5: every character of texts between two letters either joins or parts them.
func TestWordsCharacters(t *testing.T) {
	eachRune(func(r rune) {
		f := folded(r)
		joins := r >= 0x100 || '0' <= f[0] && f[0] <= '9' || 'a' <= f[0] && f[0] <= 'z'
		want := []string{"x", "y"}
		if joins {
			want = []string{"x" + f + "y"}
		}
		if w := Words("x" + string(r) + "y"); !slices.Equal(w, want) {
			t.Errorf("Words of %q between x and y are %q, not %q", r, w, want)
		}
		if w := Words(string(r)); joins != slices.Equal(w, []string{f}) || joins == (len(w) == 0) {
			t.Errorf("Words(%q) are %q", r, w)
		}
	})
}

// P1.5
func TestWords(t *testing.T) {
	tests := map[string][]string{
		"": nil, " ": nil, "-- !": nil, "L'été 1990!": {"l", "ete", "1990"}, "a": {"a"}, " a": {"a"}, "a ": {"a"}, "a--b": {"a", "b"},
		"b a b": {"b", "a", "b"}, "a×b÷c": {"a", "b", "c"}, "a\u00a0b": {"a", "b"}, "Ægir-Straße, 2": {"aegir", "strasse", "2"},
		"中文 Ā1": {"中文", "Ā1"}, "aé中0": {"ae中0"}, "x\u2014y": {"x\u2014y"}, "¿Qué?": {"que"}, "A_B": {"a", "b"}, "\ufffd": {"\ufffd"},
	}
	for s, want := range tests {
		if w := Words(s); !slices.Equal(w, want) {
			t.Errorf("Words(%q) are %q, not %q", s, w, want)
		}
	}
}

// P1.5: each result is a list of its own.
func TestWordsMemory(t *testing.T) {
	first := Words("a b")
	first[0] = "x"
	if w := Words("a b"); !slices.Equal(w, []string{"a", "b"}) {
		t.Errorf("Words are %q after an earlier result was changed", w)
	}
}

// P1.6
func TestTwice(t *testing.T) {
	eachText(func(s string) {
		cleaned, folded, words := Clean(s), Fold(s), Words(s)
		if x := Clean(cleaned); x != cleaned {
			t.Errorf("Clean(%q) is %q", cleaned, x)
		}
		if x := Fold(folded); x != folded {
			t.Errorf("Fold(%q) is %q", folded, x)
		}
		for _, x := range []string{folded, cleaned, strings.Join(words, " ")} {
			if w := Words(x); !slices.Equal(w, words) {
				t.Errorf("Words(%q) are %q, Words(%q) are %q", x, w, s, words)
			}
		}
	})
}

// P1.7
func TestClipTwice(t *testing.T) {
	eachText(func(s string) {
		all := Runes(s)
		for n := -1; n <= all+1; n++ {
			c := Clip(s, n)
			if !strings.HasPrefix(s, c) || Runes(c) != min(max(n, 0), all) {
				t.Errorf("Clip(%q, %d) is %q", s, n, c)
			}
			if x := Clip(c, n); x != c {
				t.Errorf("Clip(%q, %d) is %q", c, n, x)
			}
		}
	})
}

// P1.7
func TestCleanEmpty(t *testing.T) {
	eachText(func(s string) {
		blanks := strings.Trim(s, " \u00a0") == ""
		if Space(s) != blanks || (Clean(s) == "") != blanks {
			t.Errorf("Space(%q) is %v, Clean is %q", s, Space(s), Clean(s))
		}
	})
}

// The results are texts again.
func TestResultsAreTexts(t *testing.T) {
	eachRune(func(r rune) {
		s := " " + string(r) + " é" + string(r)
		for _, x := range append(Words(s), Clean(s), Fold(s), Clip(s, 2)) {
			if !Valid(x) {
				t.Errorf("from %q comes %q, which is no text", s, x)
			}
		}
	})
}

// For strings that are no texts it is promised only that the calls do not panic, and that they end.
func TestNonTexts(t *testing.T) {
	for _, bad := range nonTexts {
		for _, s := range []string{bad, " " + bad, bad + " a", "Ü" + bad + "\u00a0ß", strings.Repeat(bad, 1000)} {
			for _, n := range []int{math.MinInt, -1, 0, 1, 2, 1000, math.MaxInt} {
				Clip(s, n)
			}
			Runes(s)
			Clean(s)
			Space(s)
			Fold(s)
			Words(s)
		}
	}
}
