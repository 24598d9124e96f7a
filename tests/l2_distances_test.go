package tests

import (
	"math/bits"
	"math/rand"
	"strings"
	"testing"

	"loop.example/fuzzydictionary/impl"
)

// plainEdits returns the least number of inserted, removed and replaced letters that lead from a word to each word of at most most letters of an alphabet, by making the changes one after the other.
func plainEdits(s string, alphabet string, most int) map[string]int {
	steps := map[string]int{s: 0}
	for met := []string{s}; len(met) > 0; met = met[1:] {
		for _, next := range changedOnce(met[0], alphabet) {
			if _, known := steps[next]; !known && len(next) <= most {
				steps[next] = steps[met[0]] + 1
				met = append(met, next)
			}
		}
	}
	return steps
}

// changedOnce returns the words that one change of EditDistance makes of a word.
func changedOnce(s string, alphabet string) []string {
	var all []string
	for k := 0; k <= len(s); k++ {
		for _, c := range alphabet {
			all = append(all, s[:k]+string(c)+s[k:])
			if k < len(s) {
				all = append(all, s[:k]+string(c)+s[k+1:])
			}
		}
		if k < len(s) {
			all = append(all, s[:k]+s[k+1:])
		}
	}
	return all
}

// plainDistance goes over two words from their beginnings, and tries everything that can become of the first letters; known has what was found before.
func plainDistance(a string, b string, swaps bool, known map[[2]string]int) int {
	if a == "" || b == "" {
		return len(a) + len(b)
	}
	if d, met := known[[2]string{a, b}]; met {
		return d
	}
	d := plainDistance(a[1:], b[1:], swaps, known)
	if a[0] != b[0] {
		d++
	}
	d = min(d, 1+plainDistance(a[1:], b, swaps, known), 1+plainDistance(a, b[1:], swaps, known))
	if swaps && len(a) > 1 && len(b) > 1 && a[0] == b[1] && a[1] == b[0] {
		d = min(d, 1+plainDistance(a[2:], b[2:], swaps, known))
	}
	known[[2]string{a, b}] = d
	return d
}

func plainEdit(a string, b string) int { return plainDistance(a, b, false, map[[2]string]int{}) }
func plainSwap(a string, b string) int { return plainDistance(a, b, true, map[[2]string]int{}) }

// plainCommon tries all choices of letters of the first word.
func plainCommon(a string, b string) int {
	most := 0
	for choice := range uint(1) << len(a) {
		if many := bits.OnesCount(choice); many > most && leftIn(a, choice, b) {
			most = many
		}
	}
	return most
}

// leftIn reports whether the chosen letters of the first word are in the second one, in the same order.
func leftIn(a string, choice uint, b string) bool {
	for k := range len(a) {
		if choice>>k&1 == 0 {
			continue
		}
		at := strings.IndexByte(b, a[k])
		if at < 0 {
			return false
		}
		b = b[at+1:]
	}
	return true
}

func plainPlaces(a string, b string) int {
	if len(a) != len(b) {
		return -1
	}
	different := 0
	for k := range []byte(a) {
		if a[k] != b[k] {
			different++
		}
	}
	return different
}

// exchanged returns a word with the letters at k and k+1 exchanged.
func exchanged(s string, k int) string {
	return s[:k] + s[k+1:k+2] + s[k:k+1] + s[k+2:]
}

// damaged returns a valid word that comes from another one by a few changes and exchanges.
func damaged(r *rand.Rand, s string) string {
	for range r.Intn(5) {
		next := s
		if k := r.Intn(len(s) + 1); k+1 < len(s) && r.Intn(2) == 0 {
			next = exchanged(s, k)
		} else if all := changedOnce(s, "abm"); len(all) > 0 {
			next = all[r.Intn(len(all))]
		}
		if len(next) <= impl.MaxLetters {
			s = next
		}
	}
	return s
}

var knownPairs = []struct {
	a, b                       string
	edit, swap, common, places int
}{
	{"", "", 0, 0, 0, 0},
	{"", "a", 1, 1, 0, -1},
	{"", "abc", 3, 3, 0, -1},
	{"", longest, 12, 12, 0, -1},
	{"a", "a", 0, 0, 1, 0},
	{"a", "z", 1, 1, 0, 1},
	{"a", "ab", 1, 1, 1, -1},
	{"a", "ba", 1, 1, 1, -1},
	{"a", "bab", 2, 2, 1, -1},
	{"a", longest, 11, 11, 1, -1},
	{"z", longest, 12, 12, 0, -1},
	{"word", "word", 0, 0, 4, 0},
	{"word", "world", 1, 1, 4, -1},
	{"word", "ward", 1, 1, 3, 1},
	{"stone", "stones", 1, 1, 5, -1},
	{"stone", "tone", 1, 1, 4, -1},
	{"kitten", "sitting", 3, 3, 4, -1},
	{"abc", "axd", 2, 2, 1, 2},
	{"intention", "execution", 5, 5, 5, 5},
	{"ab", "ba", 2, 1, 1, 2},
	{"aa", "aa", 0, 0, 2, 0},
	{"abc", "bac", 2, 1, 2, 2},
	{"abc", "acb", 2, 1, 2, 2},
	{"abcd", "badc", 3, 2, 2, 4},
	{"abcd", "acbd", 2, 1, 3, 2},
	{"aba", "bab", 2, 2, 2, 3},
	{"abab", "baba", 2, 2, 3, 4},
	{"aabb", "abab", 2, 1, 3, 2},
	// An exchanged letter is not changed again, and nothing comes between two of them.
	{"ca", "abc", 3, 3, 1, -1},
	{"ac", "abc", 1, 1, 2, -1},
	{"ca", "ac", 2, 1, 1, 2},
	{"ab", "bxa", 3, 3, 1, -1},
	{"axb", "ba", 3, 3, 1, -1},
	{"ab", "bc", 2, 2, 1, 2},
	{"abc", "bca", 2, 2, 2, 3},
	{"abc", "cba", 2, 2, 1, 2},
	{"abcd", "dcba", 4, 3, 1, 4},
	{longest, longest, 0, 0, 12, 0},
	{longest, "abcdefghijk", 1, 1, 11, -1},
	{longest, "bcdefghijkl", 1, 1, 11, -1},
	{longest, "bcdefghijkla", 2, 2, 11, 12},
	{longest, "nopqrstuvwxy", 12, 12, 0, 12},
	{longest, "badcfehgjilk", 7, 6, 6, 12},
	{longest, "bacdefghijkl", 2, 1, 11, 2},
	{longest, "abcdefghijlk", 2, 1, 11, 2},
	{"aaaaaaaaaaaa", "aaaaaaaaaaab", 1, 1, 11, 1},
	{"aaaaaaaaaaaa", "zzzzzzzzzzzz", 12, 12, 0, 12},
}

// wordPairs returns pairs of valid words: all short ones, the known ones, and longer ones that are alike, turned round, or exchanged somewhere.
func wordPairs() [][2]string {
	var pairs [][2]string
	for _, words := range [][]string{shortWords("ab", 4), shortWords("amz", 3)} {
		for _, a := range words {
			for _, b := range words {
				pairs = append(pairs, [2]string{a, b})
			}
		}
	}
	for _, x := range knownPairs {
		pairs = append(pairs, [2]string{x.a, x.b}, [2]string{x.b, x.a})
	}
	r := rand.New(rand.NewSource(16))
	for range 500 {
		a, b := randomWord(r, 0, impl.MaxLetters), randomWord(r, 0, impl.MaxLetters)
		same := randomWord(r, len(a), len(a))
		pairs = append(pairs, [2]string{a, b}, [2]string{a, same}, [2]string{a, turned(a)}, [2]string{a, damaged(r, a)})
		if len(a) > 1 {
			pairs = append(pairs, [2]string{a, exchanged(a, r.Intn(len(a)-1))})
		}
	}
	return pairs
}

func checkNumber(t *testing.T, name string, a string, b string, got int, want int) {
	t.Helper()
	if got != want {
		t.Fatalf("%s(%q, %q) is %d, not %d", name, a, b, got, want)
	}
}

// checkOtherWords fails if there is a number for a word that is not valid, on either side.
func checkOtherWords(t *testing.T, name string, distance func(a string, b string) int) {
	t.Helper()
	for _, bad := range badWords {
		sameLength := strings.Repeat("a", min(len(bad), impl.MaxLetters))
		for _, s := range append([]string{"", "a", "z", "ab", longest, sameLength}, badWords...) {
			checkNumber(t, name, s, bad, distance(s, bad), -1)
			checkNumber(t, name, bad, s, distance(bad, s), -1)
		}
	}
	for k := range longest {
		for _, c := range []string{"A", "Z", "`", "{", " ", "0", "\x00", "\xff"} {
			bad := longest[:k] + c + longest[k+1:]
			checkNumber(t, name, longest, bad, distance(longest, bad), -1)
			checkNumber(t, name, bad, longest, distance(bad, longest), -1)
			checkNumber(t, name, bad, bad, distance(bad, bad), -1)
		}
	}
	checkNumber(t, name, tooLong, tooLong, distance(tooLong, tooLong), -1)
}

func TestP16DistancesOfSomeWords(t *testing.T) {
	for _, x := range knownPairs {
		checkNumber(t, "EditDistance", x.a, x.b, impl.EditDistance(x.a, x.b), x.edit)
		checkNumber(t, "EditDistance", x.b, x.a, impl.EditDistance(x.b, x.a), x.edit)
	}
}

func TestP16DistancesAreLeast(t *testing.T) {
	words := shortWords("abc", 4)
	for _, a := range words {
		edits := plainEdits(a, "abc", 4)
		for _, b := range words {
			checkNumber(t, "EditDistance", a, b, impl.EditDistance(a, b), edits[b])
		}
	}
	for _, p := range wordPairs() {
		checkNumber(t, "EditDistance", p[0], p[1], impl.EditDistance(p[0], p[1]), plainEdit(p[0], p[1]))
	}
}

func TestP16DistancesAreDistances(t *testing.T) {
	for _, p := range wordPairs() {
		a, b := p[0], p[1]
		d := impl.EditDistance(a, b)
		checkNumber(t, "EditDistance", b, a, impl.EditDistance(b, a), d)
		checkNumber(t, "EditDistance", turned(a), turned(b), impl.EditDistance(turned(a), turned(b)), d)
		if (d == 0) != (a == b) {
			t.Fatalf("EditDistance(%q, %q) is %d", a, b, d)
		}
		if greater := max(len(a), len(b)); d > greater || d < greater-min(len(a), len(b)) {
			t.Fatalf("EditDistance(%q, %q) is %d", a, b, d)
		}
	}
}

func TestP16OneChangeIsOne(t *testing.T) {
	for _, s := range []string{"", "a", "ab", "stone", "kitten", "abcdefghijk", longest} {
		for _, next := range changedOnce(s, "abmz") {
			want := 1
			if next == s {
				want = 0
			}
			if len(next) > 12 {
				want = -1
			}
			checkNumber(t, "EditDistance", s, next, impl.EditDistance(s, next), want)
		}
	}
}

func TestP16OtherWordsHaveNoDistance(t *testing.T) {
	checkOtherWords(t, "EditDistance", impl.EditDistance)
}

func TestP17SwapsOfSomeWords(t *testing.T) {
	for _, x := range knownPairs {
		checkNumber(t, "SwapDistance", x.a, x.b, impl.SwapDistance(x.a, x.b), x.swap)
		checkNumber(t, "SwapDistance", x.b, x.a, impl.SwapDistance(x.b, x.a), x.swap)
	}
}

func TestP17SwapsAreLeast(t *testing.T) {
	words := shortWords("abc", 4)
	for _, a := range words {
		for _, b := range words {
			checkNumber(t, "SwapDistance", a, b, impl.SwapDistance(a, b), plainSwap(a, b))
		}
	}
	for _, p := range wordPairs() {
		checkNumber(t, "SwapDistance", p[0], p[1], impl.SwapDistance(p[0], p[1]), plainSwap(p[0], p[1]))
	}
}

func TestP17SwapsAreNearDistances(t *testing.T) {
	for _, p := range wordPairs() {
		a, b := p[0], p[1]
		d, edit := impl.SwapDistance(a, b), impl.EditDistance(a, b)
		checkNumber(t, "SwapDistance", b, a, impl.SwapDistance(b, a), d)
		if d > edit || d < (edit+1)/2 {
			t.Fatalf("SwapDistance(%q, %q) is %d, EditDistance is %d", a, b, d, edit)
		}
	}
}

func TestP17ExchangedNeighboursAreNear(t *testing.T) {
	words := append(shortWords("ab", 5), "stone", "letter", "kitten", "aabbccddeeff", "abcdefghijk", longest)
	for _, s := range words {
		for k := range max(len(s)-1, 0) {
			want := 1
			if s[k] == s[k+1] {
				want = 0
			}
			checkNumber(t, "SwapDistance", s, exchanged(s, k), impl.SwapDistance(s, exchanged(s, k)), want)
			checkNumber(t, "SwapDistance", exchanged(s, k), s, impl.SwapDistance(exchanged(s, k), s), want)
		}
	}
}

func TestP17TwoExchanges(t *testing.T) {
	for i := range len(longest) - 1 {
		for j := range len(longest) - 1 {
			want := 2
			if i == j {
				want = 0
			}
			twice := exchanged(exchanged(longest, i), j)
			checkNumber(t, "SwapDistance", longest, twice, impl.SwapDistance(longest, twice), want)
			checkNumber(t, "SwapDistance", twice, longest, impl.SwapDistance(twice, longest), want)
		}
	}
}

// A letter that was exchanged stays as it is, so a way over a third word can be shorter.
func TestP17ExchangedLettersAreNotChangedAgain(t *testing.T) {
	for _, start := range []string{"", "x", "xyz", "xyzxyzxyz"} {
		for _, end := range []string{"", "x", "xyz", "xyzxyzxyz"} {
			if len(start)+len(end)+3 > impl.MaxLetters {
				continue
			}
			a, b := start+"ca"+end, start+"abc"+end
			checkNumber(t, "SwapDistance", a, b, impl.SwapDistance(a, b), 3)
			checkNumber(t, "SwapDistance", b, a, impl.SwapDistance(b, a), 3)
		}
	}
}

func TestP17OtherWordsHaveNoDistance(t *testing.T) {
	checkOtherWords(t, "SwapDistance", impl.SwapDistance)
}

func TestP18CommonLettersOfSomeWords(t *testing.T) {
	for _, x := range knownPairs {
		checkNumber(t, "LongestCommon", x.a, x.b, impl.LongestCommon(x.a, x.b), x.common)
		checkNumber(t, "LongestCommon", x.b, x.a, impl.LongestCommon(x.b, x.a), x.common)
	}
}

func TestP18CommonLettersAreInBoth(t *testing.T) {
	for _, p := range wordPairs() {
		checkNumber(t, "LongestCommon", p[0], p[1], impl.LongestCommon(p[0], p[1]), plainCommon(p[0], p[1]))
	}
}

func TestP18CommonLettersBoundDistances(t *testing.T) {
	for _, p := range wordPairs() {
		a, b := p[0], p[1]
		n, edit := impl.LongestCommon(a, b), impl.EditDistance(a, b)
		checkNumber(t, "LongestCommon", b, a, impl.LongestCommon(b, a), n)
		checkNumber(t, "LongestCommon", turned(a), turned(b), impl.LongestCommon(turned(a), turned(b)), n)
		if n < 0 || n > min(len(a), len(b)) {
			t.Fatalf("LongestCommon(%q, %q) is %d", a, b, n)
		}
		if edit > len(a)+len(b)-2*n || edit < max(len(a), len(b))-n {
			t.Fatalf("LongestCommon(%q, %q) is %d, EditDistance is %d", a, b, n, edit)
		}
	}
}

func TestP18AllLettersOfPartsAreCommon(t *testing.T) {
	for choice := range uint(1) << len(longest) {
		var part []byte
		for k := range len(longest) {
			if choice>>k&1 == 1 {
				part = append(part, longest[k])
			}
		}
		checkNumber(t, "LongestCommon", longest, string(part), impl.LongestCommon(longest, string(part)), len(part))
	}
}

func TestP18OtherWordsHaveNothingInCommon(t *testing.T) {
	checkOtherWords(t, "LongestCommon", impl.LongestCommon)
}

func TestP19DifferentPlacesOfSomeWords(t *testing.T) {
	for _, x := range knownPairs {
		checkNumber(t, "DifferentPlaces", x.a, x.b, impl.DifferentPlaces(x.a, x.b), x.places)
		checkNumber(t, "DifferentPlaces", x.b, x.a, impl.DifferentPlaces(x.b, x.a), x.places)
	}
}

func TestP19DifferentPlacesAreReplaced(t *testing.T) {
	for _, p := range wordPairs() {
		a, b := p[0], p[1]
		n := impl.DifferentPlaces(a, b)
		checkNumber(t, "DifferentPlaces", a, b, n, plainPlaces(a, b))
		checkNumber(t, "DifferentPlaces", b, a, impl.DifferentPlaces(b, a), n)
		checkNumber(t, "DifferentPlaces", turned(a), turned(b), impl.DifferentPlaces(turned(a), turned(b)), n)
		if len(a) == len(b) && n < impl.EditDistance(a, b) {
			t.Fatalf("DifferentPlaces(%q, %q) is %d, EditDistance is %d", a, b, n, impl.EditDistance(a, b))
		}
	}
}

func TestP19WordsOfDifferentLengths(t *testing.T) {
	for i := range len(longest) + 1 {
		for j := range len(longest) + 1 {
			want := -1
			if i == j {
				want = 0
			}
			checkNumber(t, "DifferentPlaces", longest[:i], longest[:j], impl.DifferentPlaces(longest[:i], longest[:j]), want)
		}
	}
}

func TestP19OtherWordsHaveNoDifferentPlaces(t *testing.T) {
	checkOtherWords(t, "DifferentPlaces", impl.DifferentPlaces)
}

// distances are the functions of P112; DifferentPlaces stays -1 for words of different lengths.
var distances = []struct {
	name     string
	distance func(a string, b string) int
}{
	{"EditDistance", impl.EditDistance},
	{"SwapDistance", impl.SwapDistance},
	{"DifferentPlaces", impl.DifferentPlaces},
}

func checkEqualEnds(t *testing.T, a string, b string, letter string) {
	t.Helper()
	for _, x := range distances {
		want := x.distance(a, b)
		if len(a) == impl.MaxLetters || len(b) == impl.MaxLetters {
			want = -1
		}
		checkNumber(t, x.name, a+letter, b+letter, x.distance(a+letter, b+letter), want)
		checkNumber(t, x.name, letter+a, letter+b, x.distance(letter+a, letter+b), want)
	}
}

func TestP112EqualEndsDoNotMatter(t *testing.T) {
	for _, p := range wordPairs() {
		for _, letter := range []string{"a", "b", "m", "z", "q"} {
			checkEqualEnds(t, p[0], p[1], letter)
		}
		if p[0] != "" && p[1] != "" {
			checkEqualEnds(t, p[0], p[1], p[0][:1])
			checkEqualEnds(t, p[0], p[1], p[1][len(p[1])-1:])
		}
	}
}

func TestP112SharedStartsDoNotMatter(t *testing.T) {
	for _, p := range wordPairs() {
		a, b := p[0], p[1]
		n := impl.SharedStart(a, b)
		for _, x := range distances {
			checkNumber(t, x.name, a[n:], b[n:], x.distance(a[n:], b[n:]), x.distance(a, b))
		}
	}
}

func TestP112EndsOnBothSides(t *testing.T) {
	for _, x := range knownPairs {
		longer := max(len(x.a), len(x.b))
		for size := 1; size <= (impl.MaxLetters-longer)/2; size++ {
			end := strings.Repeat("e", size)
			a, b := end+x.a+end, end+x.b+end
			checkNumber(t, "EditDistance", a, b, impl.EditDistance(a, b), x.edit)
			checkNumber(t, "SwapDistance", a, b, impl.SwapDistance(a, b), x.swap)
			checkNumber(t, "DifferentPlaces", a, b, impl.DifferentPlaces(a, b), x.places)
		}
	}
}

func TestP112OtherEndsHaveNoDistance(t *testing.T) {
	for _, x := range distances {
		for _, s := range []string{"", "a", "stone", "abcdefghijk"} {
			for _, end := range []string{"A", "Z", "`", "{", " ", "\x00", "\xff", "\u00e9", "0"} {
				checkNumber(t, x.name, s+end, s+end, x.distance(s+end, s+end), -1)
				checkNumber(t, x.name, end+s, end+s, x.distance(end+s, end+s), -1)
			}
		}
		checkNumber(t, x.name, tooLong, tooLong, x.distance(tooLong, tooLong), -1)
	}
}
