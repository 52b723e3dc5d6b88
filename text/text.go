// Package text: normalized texts and their words (layer 1; shared/doc/01-text.md).
package text

import (
	"strings"
	"unicode/utf8"
)

// The letters with accents, and × and ÷ among them, stand from U+00C0 to U+00FF.
const (
	firstAccent = 0xC0
	lastAccent  = 0xFF
)

// accents lists what folding makes of the characters from firstAccent to lastAccent.
var accents = [lastAccent - firstAccent + 1]string{
	"a", "a", "a", "a", "a", "a", "ae", "c", "e", "e", "e", "e", "i", "i", "i", "i",
	"d", "n", "o", "o", "o", "o", "o", "×", "o", "u", "u", "u", "u", "y", "th", "ss",
	"a", "a", "a", "a", "a", "a", "ae", "c", "e", "e", "e", "e", "i", "i", "i", "i",
	"d", "n", "o", "o", "o", "o", "o", "÷", "o", "u", "u", "u", "u", "y", "th", "y",
}

// Valid reports whether s is a text.
func Valid(s string) bool {
	// A range reads a byte that is no UTF-8 as U+FFFD, which is a character of texts.
	if !utf8.ValidString(s) {
		return false
	}
	for _, r := range s {
		if !allowed(r) {
			return false
		}
	}
	return true
}

// allowed reports whether a text may contain a character. Surrogates are no valid UTF-8, so it does not get any.
func allowed(r rune) bool {
	return 0x20 <= r && r <= 0x7E || 0xA0 <= r && r <= 0xFFFF
}

// Runes returns the number of characters of a text.
func Runes(s string) int {
	n := 0
	for range s {
		n++
	}
	return n
}

// Clip returns the first n characters of a text.
func Clip(s string, n int) string {
	if n < 1 {
		return ""
	}
	for i := range s {
		if n == 0 {
			return s[:i]
		}
		n--
	}
	return s
}

// Clean returns a text without superfluous blanks.
func Clean(s string) string {
	var b strings.Builder
	gap := false
	for _, r := range s {
		if blank(r) {
			gap = true
			continue
		}
		if gap && b.Len() > 0 {
			b.WriteByte(' ')
		}
		gap = false
		b.WriteRune(r)
	}
	return b.String()
}

// blank reports whether a character is a blank.
func blank(r rune) bool {
	return r == ' ' || r == 0xA0
}

// Fold returns a text in small letters without accents.
func Fold(s string) string {
	var b strings.Builder
	for _, r := range s {
		switch {
		case 'A' <= r && r <= 'Z':
			b.WriteRune(r - 'A' + 'a')
		case firstAccent <= r && r <= lastAccent:
			b.WriteString(accents[r-firstAccent])
		default:
			b.WriteRune(r)
		}
	}
	return b.String()
}

// Words returns the words of a text, folded.
func Words(s string) []string {
	folded := Fold(s)
	var words []string
	start, inside := 0, false
	for i, r := range folded {
		switch {
		case letter(r) && !inside:
			start, inside = i, true
		case !letter(r) && inside:
			words = append(words, folded[start:i])
			inside = false
		}
	}
	if inside {
		words = append(words, folded[start:])
	}
	return words
}

// letter reports whether a character of a folded text is a letter.
func letter(r rune) bool {
	return 'a' <= r && r <= 'z' || '0' <= r && r <= '9' || r >= 0x100
}

// Space reports whether s contains only blanks.
func Space(s string) bool {
	for _, r := range s {
		if !blank(r) {
			return false
		}
	}
	return true
}
