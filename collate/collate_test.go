package collate

import (
	"math/rand"
	"regexp"
	"slices"
	"strings"
	"testing"

	"library/text"
)

// languages are the four languages with rules of their own and some strings that name none.
var languages = []string{"eng", "ger", "swe", "spa", "lat", "", "ENG", "eng ", "sw", "\xff"}

// articlesOf lists what the document names as articles of each language.
var articlesOf = map[string]string{
	"eng": "the a an",
	"ger": "der die das ein eine",
	"swe": "en ett den det de",
	"spa": "el la los las un una",
}

// lettersOf lists what the document says of replaced letters of each language.
var lettersOf = map[string]map[string]string{
	"ger": {"Ä": "ae", "ä": "ae", "Ö": "oe", "ö": "oe", "Ü": "ue", "ü": "ue"},
	"swe": {"Å": "{", "å": "{", "Ä": "|", "ä": "|", "Ö": "}", "ö": "}"},
	"spa": {"Ñ": "n~", "ñ": "n~"},
}

// runs finds the runs of which a key consists.
var runs = regexp.MustCompile(`[a-z0-9{|}~\x{100}-\x{ffff}]+`)

// keyOf makes a key in the document's four steps.
func keyOf(lang, s string) string {
	for _, c := range []string{"{", "|", "}", "~"} {
		s = strings.ReplaceAll(s, c, " ")
	}
	for letter, to := range lettersOf[lang] {
		s = strings.ReplaceAll(s, letter, to)
	}
	return strings.Join(runs.FindAllString(text.Fold(s), -1), " ")
}

// eachText calls f for every text of at most n parts of an alphabet.
func eachText(n int, alphabet []string, f func(s string)) {
	var extend func(s string, left int)
	extend = func(s string, left int) {
		f(s)
		if left == 0 {
			return
		}
		for _, c := range alphabet {
			extend(s+c, left-1)
		}
	}
	extend("", n)
}

// mixed are characters of every kind that a key treats differently.
var mixed = []string{"a", "Z", "7", " ", "\u00a0", "-", "{", "~", "Ä", "å", "ñ", "ü", "ß", "Ā"}

// P2.1: only the four languages, written in small letters, have rules of their own.
func TestKnown(t *testing.T) {
	for _, lang := range []string{"eng", "ger", "swe", "spa"} {
		if !Known(lang) {
			t.Errorf("%q has rules of its own", lang)
		}
	}
	for _, lang := range []string{"", "lat", "fre", "Eng", "ENG", "GER", "eng ", " eng", "en", "engl", "germ", "sw", "sp", "es", "\x00", "\xff"} {
		if Known(lang) {
			t.Errorf("%q has no rules of its own", lang)
		}
	}
}

// P2.2: the chapter's examples.
func TestSkipExamples(t *testing.T) {
	for _, c := range []struct{ lang, s, want string }{
		{"eng", "The  Dogs", "Dogs"}, {"eng", "The", "The"}, {"ger", "The Dogs", "The Dogs"}, {"lat", "The Dogs", "The Dogs"},
	} {
		if got := Skip(c.lang, c.s); got != c.want {
			t.Errorf("Skip(%q, %q) is %q, not %q", c.lang, c.s, got, c.want)
		}
	}
}

// P2.2 and P2.9: every article is removed in its own languages only, in small letters, in capitals and mixed, with one blank or more.
func TestSkipArticles(t *testing.T) {
	for _, list := range articlesOf {
		for _, word := range strings.Fields(list) {
			mixedCase := strings.ToUpper(word[:1]) + word[1:]
			for _, written := range []string{word, strings.ToUpper(word), mixedCase} {
				checkArticle(t, word, written)
			}
		}
	}
}

// checkArticle skips a written form of an article in all languages.
func checkArticle(t *testing.T, word, written string) {
	t.Helper()
	for _, lang := range languages {
		own := slices.Contains(strings.Fields(articlesOf[lang]), word)
		for _, gap := range []string{" ", "  ", "     "} {
			for _, rest := range []string{"x", "Dogs and  cats ", "-", "\u00a0", "Äpfel", "the end", "la"} {
				want := written + gap + rest
				if own {
					want = rest
				}
				if got := Skip(lang, written+gap+rest); got != want {
					t.Errorf("Skip(%q, %q) is %q, not %q", lang, written+gap+rest, got, want)
				}
			}
		}
	}
}

// P2.2: an article without anything behind it stays, and its blanks with it.
func TestSkipAlone(t *testing.T) {
	for lang, list := range articlesOf {
		for _, word := range strings.Fields(list) {
			for _, s := range []string{word, strings.ToUpper(word), word + " ", word + "    "} {
				if got := Skip(lang, s); got != s {
					t.Errorf("Skip(%q, %q) is %q", lang, s, got)
				}
			}
		}
	}
}

// P2.2: what is no article followed by a blank stays as it is.
func TestSkipNothing(t *testing.T) {
	for _, s := range []string{
		"", " ", "   ", " the Dogs", "  The Dogs", "thee Dogs", "th Dogs", "The-Dogs", "The\u00a0Dogs", "The, Dogs", "\"The Dogs", "Dogs the end",
		"a-b c", "Dogs ", " a", "theDogs", "Dogs  and  cats", "The\u00a0 Dogs", "\u00a0The Dogs",
	} {
		for _, lang := range languages {
			if got := Skip(lang, s); got != s {
				t.Errorf("Skip(%q, %q) is %q", lang, s, got)
			}
		}
	}
}

// P2.2: the word is folded with its accents, and only one article is removed.
func TestSkipFolded(t *testing.T) {
	for _, c := range []struct{ lang, s, want string }{
		{"eng", "À la carte", "la carte"}, {"eng", "Þe Dogs", "Dogs"}, {"swe", "DÉT hus", "hus"}, {"spa", "él niño", "niño"}, {"ger", "Diè Öl", "Öl"},
		{"eng", "The the end", "the end"}, {"spa", "La  La Land", "La Land"}, {"eng", "a a", "a"},
		{"ger", "Däs Öl", "Öl"}, {"swe", "Dén å", "å"},
	} {
		if got := Skip(c.lang, c.s); got != c.want {
			t.Errorf("Skip(%q, %q) is %q, not %q", c.lang, c.s, got, c.want)
		}
	}
}

// P2.2: for every short text the definition, told word by word, gives the same.
func TestSkipAll(t *testing.T) {
	eachText(5, []string{"a", "n", "U", "En", "é", " ", "\u00a0", "-"}, func(s string) {
		for _, lang := range languages[:5] {
			want := s
			if i := strings.Index(s, " "); i >= 0 && strings.Trim(s[i:], " ") != "" {
				for _, word := range strings.Fields(articlesOf[lang]) {
					if text.Fold(s[:i]) == word {
						want = strings.TrimLeft(s[i:], " ")
					}
				}
			}
			if got := Skip(lang, s); got != want {
				t.Errorf("Skip(%q, %q) is %q, not %q", lang, s, got, want)
			}
		}
	})
}

// P2.3: the chapter's examples, and each step by itself.
func TestKeyExamples(t *testing.T) {
	for _, c := range []struct{ lang, s, want string }{
		{"ger", "Äpfel & Öl", "aepfel oel"}, {"eng", "Äpfel", "apfel"}, {"swe", "Ål", "{l"}, {"spa", "Año", "an~o"}, {"eng", "a{b", "a b"},
		{"ger", "ÄäÖöÜü", "aeaeoeoeueue"}, {"swe", "ÅåÄäÖöÜü", "{{||}}uu"}, {"spa", "ÑñÄö", "n~n~ao"}, {"eng", "ÄäÖöÜüÅåÑñ", "aaoouuaann"},
		{"lat", "ÄÖÜÅÑ", "aouan"}, {"", "Ä", "a"}, {"GER", "Ä", "a"},
		{"swe", "å{ä", "{ |"}, {"swe", "{|}~", ""}, {"spa", "n~o ño", "n o n~o"},
		{"eng", "The Dogs", "the dogs"}, {"eng", "Don't", "don t"}, {"eng", "a×b÷c", "a b c"}, {"eng", "Ā中 Ωx", "Ā中 Ωx"}, {"eng", "a\u00a0\u00a0b", "a b"},
		{"ger", "Straße", "strasse"}, {"swe", "Ær", "aer"}, {"eng", "0-9", "0 9"}, {"eng", "", ""}, {"swe", " - ", ""}, {"spa", "¿×÷?", ""},
		{"eng", "/09:@AZ[`az", "09 az az"},
	} {
		if got := Key(c.lang, c.s); got != c.want {
			t.Errorf("Key(%q, %q) is %q, not %q", c.lang, c.s, got, c.want)
		}
	}
}

// P2.3: every character of texts, alone and between others.
func TestKeyCharacters(t *testing.T) {
	for r := rune(0x20); r <= 0xFFFF; r++ {
		c := string(r)
		if !text.Valid(c) || 0xD800 <= r && r <= 0xDFFF {
			continue
		}
		for _, lang := range languages[:5] {
			for _, s := range []string{c, "x" + c + "y"} {
				if got, want := Key(lang, s), keyOf(lang, s); got != want {
					t.Errorf("Key(%q, %q) is %q, not %q", lang, s, got, want)
				}
			}
		}
	}
}

// P2.3: every short text of characters of all kinds.
func TestKeyAll(t *testing.T) {
	eachText(3, mixed, func(s string) {
		for _, lang := range languages {
			if got, want := Key(lang, s), keyOf(lang, s); got != want {
				t.Errorf("Key(%q, %q) is %q, not %q", lang, s, got, want)
			}
		}
	})
}

// P2.4: the chapter's examples, and texts whose order depends on the language.
func TestCompareExamples(t *testing.T) {
	for _, c := range []struct{ lang, first, second string }{
		{"swe", "Zon", "Ål"}, {"swe", "Ål", "Ärta"}, {"swe", "Zon", "Ärta"}, {"swe", "Ärta", "Öl"}, {"eng", "Ål", "Zon"}, {"lat", "Ål", "Zon"},
		{"eng", "Dog", "dog"}, {"ger", "Ad", "Äb"}, {"ger", "Äb", "Af"}, {"eng", "Äb", "Ad"},
		{"spa", "nz", "ña"}, {"spa", "ña", "oa"}, {"eng", "ña", "nz"},
		{"eng", "", "a"}, {"eng", "", "-"}, {"eng", "-", "a"}, {"eng", "a b", "ab"}, {"eng", "10", "9"}, {"eng", "9", "a"}, {"eng", "z", "Ā"},
		{"eng", "a", "a-"}, {"eng", "a b", "a-b"}, {"eng", "A-b", "a b"}, {"eng", "Dog x", "dog y"}, {"eng", "dog x", "Dog y"},
	} {
		if got := Compare(c.lang, c.first, c.second); got != -1 {
			t.Errorf("Compare(%q, %q, %q) is %d", c.lang, c.first, c.second, got)
		}
		if got := Compare(c.lang, c.second, c.first); got != 1 {
			t.Errorf("Compare(%q, %q, %q) is %d", c.lang, c.second, c.first, got)
		}
	}
}

// P2.4: any two short texts compare as their keys do, and as they do themselves if the keys are equal.
func TestCompareAll(t *testing.T) {
	texts := shortTexts()
	for _, lang := range languages[:5] {
		for _, a := range texts {
			for _, b := range texts {
				want := strings.Compare(keyOf(lang, a), keyOf(lang, b))
				if want == 0 {
					want = strings.Compare(a, b)
				}
				if got := Compare(lang, a, b); got != want {
					t.Fatalf("Compare(%q, %q, %q) is %d, not %d", lang, a, b, got, want)
				}
			}
		}
	}
}

// shortTexts lists all texts of at most two characters out of a few of different kinds.
func shortTexts() []string {
	var texts []string
	eachText(2, mixed, func(s string) { texts = append(texts, s) })
	return texts
}

// P2.6: only equal texts compare as 0, the opposite comparison gives the opposite, and what comes before passes on.
func TestOrder(t *testing.T) {
	texts := []string{"", " ", "-", "a", "A", "á", "ä", "Ä", "ae", "AE", "a b", "a-b", "ab", "å", "{", "z", "ñ", "n", "n~", "nz", "Ā", "0"}
	for _, lang := range languages {
		for _, a := range texts {
			for _, b := range texts {
				checkOrder(t, lang, a, b, texts)
			}
		}
	}
}

// checkOrder compares two texts with each other and with all of a list.
func checkOrder(t *testing.T, lang, a, b string, texts []string) {
	t.Helper()
	c := Compare(lang, a, b)
	if (c == 0) != (a == b) || c < -1 || c > 1 {
		t.Errorf("Compare(%q, %q, %q) is %d", lang, a, b, c)
	}
	if back := Compare(lang, b, a); back != -c {
		t.Errorf("Compare(%q, %q, %q) is %d, and the opposite %d", lang, a, b, c, back)
	}
	for _, third := range texts {
		if c < 0 && Compare(lang, b, third) < 0 && Compare(lang, a, third) >= 0 {
			t.Errorf("in %q %q, %q and %q are no order", lang, a, b, third)
		}
	}
}

// P2.5: lists with equal texts and with texts of equal keys.
func TestSortExamples(t *testing.T) {
	for _, c := range []struct {
		lang       string
		list, want []string
	}{
		{"swe", []string{"Ärta", "Öl", "Ål", "Zon"}, []string{"Zon", "Ål", "Ärta", "Öl"}},
		{"eng", []string{"Zon", "Ärta", "Öl", "Ål"}, []string{"Ål", "Ärta", "Öl", "Zon"}},
		{"ger", []string{"Az", "Äpfel", "Ad", "Af"}, []string{"Ad", "Äpfel", "Af", "Az"}},
		{"spa", []string{"oso", "ñu", "nz", "na"}, []string{"na", "nz", "ñu", "oso"}},
		{"lat", []string{"b", "Á", "a"}, []string{"a", "Á", "b"}},
		{"eng", []string{"dog", "Dog", "dog", "DOG", "cat", "Dog"}, []string{"cat", "DOG", "Dog", "Dog", "dog", "dog"}},
		{"eng", []string{"a.", "a", " a", "", "-", ""}, []string{"", "", "-", " a", "a", "a."}},
		{"eng", []string{"b", "a"}, []string{"a", "b"}},
		{"eng", []string{"a"}, []string{"a"}},
		{"eng", nil, nil}, {"swe", []string{}, nil},
	} {
		if got := Sort(c.lang, c.list); !slices.Equal(got, c.want) {
			t.Errorf("Sort(%q, %q) is %q, not %q", c.lang, c.list, got, c.want)
		}
	}
}

// P2.5 and P2.7: lists of many lengths come out in order with the same texts, stay as they are when sorted again, and are not changed themselves.
func TestSortLists(t *testing.T) {
	texts := shortTexts()
	random := rand.New(rand.NewSource(5))
	for n := range 200 {
		list := make([]string, n)
		for i := range list {
			list[i] = texts[random.Intn(1+random.Intn(len(texts)))]
		}
		checkSort(t, languages[n%len(languages)], list)
	}
}

// checkSort sorts a list and looks at the result.
func checkSort(t *testing.T, lang string, list []string) {
	t.Helper()
	given := slices.Clone(list)
	sorted := Sort(lang, list)
	if !slices.Equal(list, given) {
		t.Errorf("Sort(%q, %q) changed its argument", lang, given)
	}
	inOrder := func(a, b string) int { return Compare(lang, a, b) }
	if !slices.IsSortedFunc(sorted, inOrder) {
		t.Errorf("Sort(%q, %q) is %q", lang, given, sorted)
	}
	if !slices.Equal(Sort(lang, sorted), sorted) {
		t.Errorf("sorting %q again in %q changes it", sorted, lang)
	}
	again := slices.Clone(sorted)
	slices.Sort(again)
	slices.Sort(given)
	if !slices.Equal(again, given) {
		t.Errorf("Sort in %q of %q has other texts: %q", lang, given, again)
	}
	if len(sorted) > 0 {
		sorted[0] = "changed"
		if slices.Contains(list, "changed") {
			t.Errorf("Sort in %q shares its result with its argument", lang)
		}
	}
}

// P2.8: blanks and punctuation around a text, and a second blank within it, do not change its key.
func TestKeySeparators(t *testing.T) {
	separators := []string{" ", "\u00a0"}
	for c := rune('!'); c <= '~'; c++ {
		if !regexp.MustCompile(`[A-Za-z0-9]`).MatchString(string(c)) {
			separators = append(separators, string(c))
		}
	}
	for _, lang := range languages {
		eachText(2, mixed, func(s string) {
			key := Key(lang, s)
			for _, c := range separators {
				for _, changed := range []string{c + s, s + c, c + " " + s + c + c, strings.ReplaceAll(s, " ", "  ")} {
					if got := Key(lang, changed); got != key {
						t.Errorf("Key(%q, %q) is %q, and Key of %q is %q", lang, s, key, changed, got)
					}
				}
			}
		})
	}
}

// P2.9: an article and a blank in front of any text that begins with something other than a blank are removed.
func TestSkipInFront(t *testing.T) {
	for lang, list := range articlesOf {
		for _, word := range strings.Fields(list) {
			eachText(2, mixed, func(s string) {
				if s == "" || s[0] == ' ' {
					return
				}
				for _, title := range []string{word + " " + s, strings.ToUpper(word) + " " + s} {
					if got := Skip(lang, title); got != s {
						t.Errorf("Skip(%q, %q) is %q, not %q", lang, title, got, s)
					}
				}
			})
		}
	}
}

// Strings that are no texts get some result, the same each time.
func TestNonTexts(t *testing.T) {
	bad := []string{"\xff", "the \xff", "\xff the", "\xe4\xb8", "\xed\xa0\x80", "\U0010FFFF", "a\x00b", "\t\n", "ä\xc3"}
	for _, lang := range languages {
		for _, a := range bad {
			for _, b := range bad {
				if Skip(lang, a) != Skip(lang, a) || Key(lang, a) != Key(lang, a) || Compare(lang, a, b) != -Compare(lang, b, a) {
					t.Errorf("no fixed result in %q for %q and %q", lang, a, b)
				}
			}
		}
		if got := Sort(lang, bad); len(got) != len(bad) {
			t.Errorf("Sort(%q, %q) is %q", lang, bad, got)
		}
	}
}
