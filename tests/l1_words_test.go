package tests

import (
	"math/rand"
	"slices"
	"strings"
	"testing"

	"loop.example/fuzzydictionary/impl"
)

func TestConstantsOfWords(t *testing.T) {
	if impl.MaxLetters != 12 || impl.MaxWords != 60 {
		t.Fatalf("MaxLetters is %d, MaxWords is %d", impl.MaxLetters, impl.MaxWords)
	}
}

func validWordSamples() []string {
	return append(shortWords("amz", 3), "kitten", "sitting", "abcdefghijk", longest, "zzzzzzzzzzzz", "nopqrstuvwxy", "mnopqrstuvwx", "z")
}

func TestP11PartsOfWordsAreValid(t *testing.T) {
	for _, s := range validWordSamples() {
		for i := 0; i <= len(s); i++ {
			for j := i; j <= len(s); j++ {
				if !impl.WordValid(s[i:j]) {
					t.Fatalf("WordValid(%q) is false", s[i:j])
				}
			}
		}
	}
}

func TestP11CapitalLettersAreInvalid(t *testing.T) {
	for _, s := range validWordSamples() {
		for k := range len(s) {
			capital := s[:k] + strings.ToUpper(s[k:k+1]) + s[k+1:]
			if impl.WordValid(capital) {
				t.Fatalf("WordValid(%q) is true", capital)
			}
		}
		for k := 0; k <= len(s); k++ {
			if capital := s[:k] + "Q" + s[k:]; impl.WordValid(capital) {
				t.Fatalf("WordValid(%q) is true", capital)
			}
		}
	}
}

func TestP11LettersAreAToZ(t *testing.T) {
	for c := range 256 {
		one := string([]byte{byte(c)})
		want := c >= 'a' && c <= 'z'
		for _, s := range []string{one, one + "ab", "a" + one + "b", "ab" + one, "abcdefghijk" + one, one + "abcdefghijk"} {
			if impl.WordValid(s) != want {
				t.Fatalf("WordValid(%q) is %v", s, !want)
			}
		}
	}
}

func TestP11WordsAreShort(t *testing.T) {
	for n := range 300 {
		if s := strings.Repeat("w", n); impl.WordValid(s) != (n <= 12) {
			t.Fatalf("WordValid of %d letters is %v", n, n > 12)
		}
	}
	if !impl.WordValid(longest) || impl.WordValid(tooLong) {
		t.Fatal("12 letters are valid, 13 are not")
	}
	// Length is in bytes: 12 letters outside a to z are no word, nor are fewer than 13 characters of more bytes.
	if impl.WordValid(strings.Repeat("\u00e9", 12)) || impl.WordValid(strings.Repeat("\u00e9", 6)) {
		t.Fatal("other letters are valid")
	}
}

func TestP11OtherTextsAreInvalid(t *testing.T) {
	for _, s := range badWords {
		if impl.WordValid(s) {
			t.Fatalf("WordValid(%q) is true", s)
		}
	}
}

func validListSamples() [][]string {
	lists := [][]string{
		nil, {}, {"a"}, {"z"}, {longest}, {"a", "b"}, {"a", "aa"}, {"a", "aa", "aaa", "ab", "b"},
		{"kitten", "sitting"}, {"word", "words", "wording", "world"}, {"zzzzzzzzzzz", "zzzzzzzzzzzz"},
		{"abcdefghijk", longest}, manyWords(59), manyWords(60), {"az", "b"}, {"stone", "stones"},
	}
	for k := range lists {
		slices.Sort(lists[k])
	}
	r := rand.New(rand.NewSource(12))
	for range 40 {
		lists = append(lists, randomList(r, impl.MaxWords))
	}
	return lists
}

func TestP12PartsOfListsAreValid(t *testing.T) {
	r := rand.New(rand.NewSource(1))
	for _, list := range validListSamples() {
		for i := 0; i <= len(list); i++ {
			for j := i; j <= len(list); j++ {
				if !impl.ListValid(list[i:j]) {
					t.Fatalf("ListValid(%q) is false", list[i:j])
				}
			}
		}
		var part []string
		for _, s := range list {
			if r.Intn(2) == 0 {
				part = append(part, s)
			}
		}
		if !impl.ListValid(part) {
			t.Fatalf("ListValid(%q) is false", part)
		}
	}
}

func TestP12FirstWordAgainIsInvalid(t *testing.T) {
	for _, list := range validListSamples() {
		for k, s := range list {
			if again := slices.Concat(list, []string{s}); impl.ListValid(again) {
				t.Fatalf("ListValid(%q) is true", again)
			}
			if twice := slices.Insert(slices.Clone(list), k, s); impl.ListValid(twice) {
				t.Fatalf("ListValid(%q) is true", twice)
			}
		}
	}
}

func TestP12ListsAscend(t *testing.T) {
	for _, list := range validListSamples() {
		for i := range list {
			for j := i + 1; j < len(list); j++ {
				swapped := slices.Clone(list)
				swapped[i], swapped[j] = swapped[j], swapped[i]
				if impl.ListValid(swapped) {
					t.Fatalf("ListValid(%q) is true", swapped)
				}
			}
		}
	}
	words := shortWords("abz", 3)[1:]
	for _, a := range words {
		for _, b := range words {
			if impl.ListValid([]string{a, b}) != (strings.Compare(a, b) < 0) {
				t.Fatalf("ListValid(%q, %q)", a, b)
			}
		}
	}
}

func TestP12ListsAreShort(t *testing.T) {
	for n := range 200 {
		if impl.ListValid(manyWords(n)) != (n <= 60) {
			t.Fatalf("ListValid of %d words is %v", n, n > 60)
		}
	}
}

// brokenLists returns lists that are not valid because of one word, which is put where order alone would allow it, if it can be.
func brokenLists() [][]string {
	broken := [][]string{{""}, {"", ""}, {"", "a"}, {"a", ""}, {"a", "", "b"}, {"b", "a"}, {"a", "a"}, {"a", "b", "a"}, {"a", "c", "b"}, {"aa", "a"}, manyWords(61)}
	for _, bad := range append([]string{""}, badWords...) {
		for _, list := range [][]string{{}, {"a"}, {"b", "m", "zz"}} {
			for k := 0; k <= len(list); k++ {
				broken = append(broken, slices.Insert(slices.Clone(list), k, bad))
			}
			sorted := append(slices.Clone(list), bad)
			slices.Sort(sorted)
			broken = append(broken, sorted)
		}
	}
	return broken
}

func TestP12OtherListsAreInvalid(t *testing.T) {
	for _, list := range brokenLists() {
		if impl.ListValid(list) {
			t.Fatalf("ListValid(%q) is true", list)
		}
	}
}

func checkListOf(t *testing.T, words []string) {
	t.Helper()
	list := impl.ListOf(words)
	if !impl.ListValid(list) {
		t.Fatalf("ListOf(%q) is %q, which is not valid", words, list)
	}
	if want := plainList(words); !slices.Equal(list, want) {
		t.Fatalf("ListOf(%q) is %q, not %q", words, list, want)
	}
}

func TestP13ListsHaveTheWords(t *testing.T) {
	for _, words := range [][]string{
		nil, {}, {"a"}, {"b", "a"}, {"b", "a", "b"}, {"a", "a"}, {"a", "a", "a", "b", "b", "a"},
		{"words", "word", "world", "word"}, {"aa", "a", "b", "ab"}, {longest, "abcdefghijk", longest},
		{"zzzzzzzzzzzz", "z", "zz", "z", "zz", "z"}, {"ba", "b", "ab", "a"},
	} {
		checkListOf(t, words)
	}
	for _, list := range validListSamples() {
		checkListOf(t, list)
	}
	r := rand.New(rand.NewSource(13))
	for range 300 {
		checkListOf(t, randomWords(r, impl.MaxWords))
	}
}

func TestP13OrderAndRepetitionsDoNotMatter(t *testing.T) {
	r := rand.New(rand.NewSource(131))
	for range 300 {
		words := randomWords(r, 30)
		want := impl.ListOf(words)
		mixed := slices.Concat(words, words)
		r.Shuffle(len(mixed), func(i, j int) { mixed[i], mixed[j] = mixed[j], mixed[i] })
		if got := impl.ListOf(mixed); !slices.Equal(got, want) {
			t.Fatalf("ListOf(%q) is %q, not %q", mixed, got, want)
		}
		slices.Reverse(mixed)
		if got := impl.ListOf(mixed); !slices.Equal(got, want) {
			t.Fatalf("ListOf(%q) is %q, not %q", mixed, got, want)
		}
		if got := impl.ListOf(want); !slices.Equal(got, want) {
			t.Fatalf("ListOf(%q) is %q", want, got)
		}
	}
}

func TestP13AtMostMaxWords(t *testing.T) {
	full := manyWords(60)
	slices.Reverse(full)
	if got := impl.ListOf(full); !slices.Equal(got, manyWords(60)) {
		t.Fatalf("ListOf of 60 words has %d", len(got))
	}
	if got := impl.ListOf(manyWords(61)); len(got) != 0 {
		t.Fatalf("ListOf of 61 words has %d", len(got))
	}
	// Repeated words count: 60 times one word is a list, once more is not.
	if got := impl.ListOf(slices.Repeat([]string{"a"}, 60)); !slices.Equal(got, []string{"a"}) {
		t.Fatalf("ListOf of 60 times a is %q", got)
	}
	if got := impl.ListOf(slices.Repeat([]string{"a"}, 61)); len(got) != 0 {
		t.Fatalf("ListOf of 61 times a is %q", got)
	}
	if got := impl.ListOf(append(manyWords(60), "aa")); len(got) != 0 {
		t.Fatalf("ListOf of 60 words and one again has %d", len(got))
	}
	if got := impl.ListOf(append(manyWords(59), "aa")); !slices.Equal(got, manyWords(59)) {
		t.Fatalf("ListOf of 59 words and one again has %d", len(got))
	}
}

func TestP13OtherWordsMakeNoList(t *testing.T) {
	for _, bad := range append([]string{""}, badWords...) {
		for _, words := range [][]string{{}, {"a"}, {"b", "a", "b"}, {"z", "m", "c", "z"}} {
			for k := 0; k <= len(words); k++ {
				broken := slices.Insert(slices.Clone(words), k, bad)
				if got := impl.ListOf(broken); len(got) != 0 {
					t.Fatalf("ListOf(%q) is %q", broken, got)
				}
			}
		}
	}
}

func TestP13ListsAreNew(t *testing.T) {
	for _, words := range [][]string{{"a", "b", "c"}, {"c", "b", "a"}, {"b", "a", "b", "a"}, {"a"}, {"a", "a"}, manyWords(60)} {
		mustKeep(t, words, func(words []string) {
			list := impl.ListOf(words)
			list = list[:cap(list)]
			for k := range list {
				list[k] = "changed"
			}
		})
	}
}

func checkFound(t *testing.T, list []string) {
	t.Helper()
	for k, s := range list {
		if got := impl.ListFind(list, s); got != k {
			t.Fatalf("ListFind(%q, %q) is %d, not %d", list, s, got, k)
		}
		without := slices.Delete(slices.Clone(list), k, k+1)
		if got := impl.ListFind(without, s); got != -1 {
			t.Fatalf("ListFind(%q, %q) is %d, not -1", without, s, got)
		}
		for _, near := range []string{s[1:], s[:len(s)-1], s + "a", "a" + s, s + "z", "z" + s, s[:len(s)-1] + "m"} {
			if got := impl.ListFind(list, near); got != slices.Index(list, near) {
				t.Fatalf("ListFind(%q, %q) is %d", list, near, got)
			}
		}
	}
}

func TestP14FoundWordsAreThere(t *testing.T) {
	for _, list := range validListSamples() {
		checkFound(t, list)
	}
}

func TestP14OtherWordsAreNotThere(t *testing.T) {
	for _, list := range validListSamples() {
		for _, s := range append([]string{""}, badWords...) {
			if got := impl.ListFind(list, s); got != -1 {
				t.Fatalf("ListFind(%q, %q) is %d", list, s, got)
			}
		}
	}
	for s, list := range map[string][]string{"a": nil, "b": {"a", "c"}, "d": {"a", "c"}, "c": {"d", "e"}, "wor": {"word", "words"}, "wordx": {"word", "words"}} {
		if got := impl.ListFind(list, s); got != -1 {
			t.Fatalf("ListFind(%q, %q) is %d", list, s, got)
		}
	}
}

func TestP14OtherListsHaveNoWords(t *testing.T) {
	for _, list := range brokenLists() {
		for _, s := range append(slices.Clone(list), "", "a", "b", "m") {
			if got := impl.ListFind(list, s); got != -1 {
				t.Fatalf("ListFind(%q, %q) is %d", list, s, got)
			}
		}
	}
}

func TestP14ListsAreKept(t *testing.T) {
	for _, list := range [][]string{{"a", "b", "c"}, {"c", "b", "a"}, {"b", "b", "a"}} {
		mustKeep(t, list, func(list []string) {
			impl.ListValid(list)
			impl.ListFind(list, "b")
		})
	}
}

func checkShared(t *testing.T, a string, b string) {
	t.Helper()
	n := impl.SharedStart(a, b)
	if back := impl.SharedStart(b, a); back != n {
		t.Fatalf("SharedStart(%q, %q) is %d, the other way round %d", a, b, n, back)
	}
	if n < 0 || n > min(len(a), len(b)) || a[:n] != b[:n] {
		t.Fatalf("SharedStart(%q, %q) is %d", a, b, n)
	}
	if n < len(a) && n < len(b) && a[n] == b[n] {
		t.Fatalf("SharedStart(%q, %q) is %d, but the letters behind are equal", a, b, n)
	}
}

func TestP15SharedStartsAreCommon(t *testing.T) {
	words := shortWords("abz", 3)
	for _, a := range words {
		for _, b := range words {
			checkShared(t, a, b)
		}
	}
	r := rand.New(rand.NewSource(15))
	for range 2000 {
		start := randomWord(r, 0, 8)
		a, b := start+randomWord(r, 0, 4), start+randomWord(r, 0, 4)
		checkShared(t, a, b)
		checkShared(t, a, turned(a))
		if impl.SharedStart(a, b) < len(start) {
			t.Fatalf("SharedStart(%q, %q) is less than %d", a, b, len(start))
		}
	}
}

func TestP15SharedStartsOfSomeWords(t *testing.T) {
	for _, x := range []struct {
		a, b string
		want int
	}{
		{"", "", 0}, {"", "a", 0}, {"a", "b", 0}, {"a", "a", 1}, {"word", "world", 3}, {"word", "word", 4}, {"stone", "stones", 5},
		{"ab", "bb", 0}, {"abab", "abbb", 2}, {longest, longest, 12}, {longest, "abcdefghijkz", 11}, {longest, "", 0}, {longest, "abcdefghijk", 11},
	} {
		if got := impl.SharedStart(x.a, x.b); got != x.want {
			t.Fatalf("SharedStart(%q, %q) is %d, not %d", x.a, x.b, got, x.want)
		}
		if got := impl.SharedStart(x.b, x.a); got != x.want {
			t.Fatalf("SharedStart(%q, %q) is %d, not %d", x.b, x.a, got, x.want)
		}
	}
}

func TestP15OtherWordsShareNothing(t *testing.T) {
	for _, bad := range badWords {
		for _, s := range []string{"", "a", "z", longest, bad} {
			if got := impl.SharedStart(s, bad); got != -1 {
				t.Fatalf("SharedStart(%q, %q) is %d", s, bad, got)
			}
			if got := impl.SharedStart(bad, s); got != -1 {
				t.Fatalf("SharedStart(%q, %q) is %d", bad, s, got)
			}
		}
	}
}
