package tests

import (
	"fmt"
	"math"
	"slices"
	"strings"
	"testing"

	"loop.example/fuzzydictionary/impl"
)

// otherErrors are numbers of errors that are not asked for.
var otherErrors = []int{-1, -2, -3, -4, -5, -12, -13, -1 << 32, math.MinInt, math.MinInt + 4, 5, 6, 8, 12, 13, 16, 260, 1 << 32, 1<<32 + 4, math.MaxInt - 4, math.MaxInt}

func TestConstantsOfBands(t *testing.T) {
	if impl.MaxErrors != 4 {
		t.Fatalf("MaxErrors is %d", impl.MaxErrors)
	}
}

// checkWithin holds WithinDistance with every number of errors against a distance that was found otherwise.
func checkWithin(t *testing.T, a string, b string, distance int) {
	t.Helper()
	for errors := range impl.MaxErrors + 1 {
		want := distance
		if distance > errors {
			want = -1
		}
		name := fmt.Sprintf("WithinDistance with %d errors", errors)
		checkNumber(t, name, a, b, impl.WithinDistance(a, b, errors), want)
		checkNumber(t, name, b, a, impl.WithinDistance(b, a, errors), want)
		checkNumber(t, name, turned(a), turned(b), impl.WithinDistance(turned(a), turned(b), errors), want)
	}
}

// checkOtherErrors fails if there is a number for a number of errors that is not asked for.
func checkOtherErrors(t *testing.T, name string, call func(a string, b string, errors int) int) {
	t.Helper()
	words := []string{"", "a", "z", "ab", "ba", "stone", "abcdefghijk", longest, turned(longest), "aaaaaaaaaaaa"}
	for _, errors := range otherErrors {
		for _, a := range words {
			for _, b := range words {
				checkNumber(t, fmt.Sprintf("%s with %d errors", name, errors), a, b, call(a, b, errors), -1)
			}
		}
	}
}

// checkOtherBands fails if there is a number for a word that is not valid, whatever the number of errors is.
func checkOtherBands(t *testing.T, name string, call func(a string, b string, errors int) int) {
	t.Helper()
	for _, errors := range append([]int{0, 1, 2, 3, 4}, otherErrors...) {
		checkOtherWords(t, fmt.Sprintf("%s with %d errors", name, errors), func(a string, b string) int { return call(a, b, errors) })
	}
}

func TestP23BoundsOfSomeWords(t *testing.T) {
	for _, x := range knownPairs {
		checkWithin(t, x.a, x.b, x.edit)
	}
}

func TestP23BoundsCutOff(t *testing.T) {
	words := shortWords("abc", 4)
	for _, a := range words {
		edits := plainEdits(a, "abc", 4)
		for _, b := range words {
			checkWithin(t, a, b, edits[b])
		}
	}
	for _, p := range wordPairs() {
		checkWithin(t, p[0], p[1], plainEdit(p[0], p[1]))
	}
}

func TestP23TheResultIsEditDistance(t *testing.T) {
	for _, p := range wordPairs() {
		checkWithin(t, p[0], p[1], impl.EditDistance(p[0], p[1]))
	}
}

func TestP23WithoutErrorsOnlyEqualWords(t *testing.T) {
	for _, a := range []string{"", "a", "z", "ab", "stone", "aabb", "abcdefghijk", longest, "zzzzzzzzzzzz"} {
		checkNumber(t, "WithinDistance with 0 errors", a, a, impl.WithinDistance(a, a, 0), 0)
		for _, b := range changedOnce(a, "abmz") {
			want := -1
			if a == b {
				want = 0
			}
			checkNumber(t, "WithinDistance with 0 errors", a, b, impl.WithinDistance(a, b, 0), want)
			checkNumber(t, "WithinDistance with 0 errors", b, a, impl.WithinDistance(b, a, 0), want)
		}
	}
}

func TestP23EqualWordsAreWithinAnyErrors(t *testing.T) {
	for _, s := range append(shortWords("az", 4), longest, "aaaaaaaaaaaa", "abababababab", "abcdefghijk") {
		checkWithin(t, s, s, 0)
	}
}

func TestP23TheEmptyWordIsWithinTheLength(t *testing.T) {
	for size := range impl.MaxLetters + 1 {
		checkWithin(t, "", longest[:size], size)
		checkWithin(t, "", strings.Repeat("z", size), size)
	}
}

// Replaced letters stay in the middle of the band, removed ones lead to its border.
func TestP23ExactlyAsManyErrorsAndOneMore(t *testing.T) {
	for choice := range 1 << impl.MaxLetters {
		var left, replaced []byte
		for k := range len(longest) {
			if choice>>k&1 == 1 {
				left, replaced = append(left, longest[k]), append(replaced, longest[k])
			} else {
				replaced = append(replaced, 'z')
			}
		}
		checkWithin(t, longest, string(left), len(longest)-len(left))
		checkWithin(t, longest, string(replaced), len(longest)-len(left))
	}
}

// The letters that both words have lie on the border of the band: letters are inserted at one end, and removed at the other one.
func TestP23TheBorderOfTheBand(t *testing.T) {
	for size := range impl.MaxLetters + 1 {
		for inserted := range impl.MaxLetters - size + 1 {
			for removed := range impl.MaxLetters - size + 1 {
				shared := longest[:size]
				a, b := shared+strings.Repeat("x", removed), strings.Repeat("z", inserted)+shared
				checkWithin(t, a, b, min(inserted+removed, max(len(a), len(b))))
				a, b = strings.Repeat("x", removed)+shared, strings.Repeat("z", inserted)+shared
				checkWithin(t, a, b, max(inserted, removed))
			}
		}
	}
}

// The shorter word is a part of the longer one, so nothing but the lengths keeps them from being within the errors.
func TestP23LengthsThatDifferByMore(t *testing.T) {
	for _, s := range []string{longest, "aaaaaaaaaaaa", "abababababab"} {
		for i := range len(s) + 1 {
			for j := range i + 1 {
				checkWithin(t, s[:i], s[:j], i-j)
				checkWithin(t, s[:i], s[i-j:i], i-j)
			}
		}
	}
}

func TestP23MoreErrorsKeepTheDistance(t *testing.T) {
	for _, p := range wordPairs() {
		before := -1
		for errors := range impl.MaxErrors + 1 {
			d := impl.WithinDistance(p[0], p[1], errors)
			if d < -1 || d > errors || before >= 0 && d != before || before < 0 && d >= 0 && d != errors {
				t.Fatalf("WithinDistance(%q, %q, %d) is %d, and with an error less %d", p[0], p[1], errors, d, before)
			}
			before = d
		}
	}
}

func TestP23OtherErrorsHaveNoDistance(t *testing.T) {
	checkOtherErrors(t, "WithinDistance", impl.WithinDistance)
}

func TestP23OtherWordsHaveNoDistance(t *testing.T) {
	checkOtherBands(t, "WithinDistance", impl.WithinDistance)
}

// plainCells counts the pairs of the document one by one.
func plainCells(n int, m int, errors int) int {
	cells := 0
	for i := 0; i <= n; i++ {
		for j := 0; j <= m; j++ {
			if i-j <= errors && j-i <= errors {
				cells++
			}
		}
	}
	return cells
}

// bandWords returns words of a number of letters; the band is the same for all of them.
func bandWords(size int) []string {
	return []string{longest[:size], longest[len(longest)-size:], strings.Repeat("a", size), strings.Repeat("z", size)}
}

func TestP24BandsOfSomeWords(t *testing.T) {
	for _, x := range []struct {
		a, b  string
		cells []int
	}{
		{"", "", []int{1, 1, 1, 1, 1}},
		{"", "a", []int{1, 2, 2, 2, 2}},
		{"a", "a", []int{2, 4, 4, 4, 4}},
		{"a", "z", []int{2, 4, 4, 4, 4}},
		{"ab", "ab", []int{3, 7, 9, 9, 9}},
		{"ab", "abc", []int{3, 8, 11, 12, 12}},
		{"abcd", "dcba", []int{5, 13, 19, 23, 25}},
		{"abcde", "vwxyz", []int{6, 16, 24, 30, 34}},
		{"kitten", "sitting", []int{7, 20, 31, 40, 47}},
		{"", longest, []int{1, 2, 3, 4, 5}},
		{"a", longest, []int{2, 5, 7, 9, 11}},
		{"abcd", longest, []int{5, 14, 22, 29, 35}},
		{"abcdefgh", longest, []int{9, 26, 42, 57, 71}},
		{"abcdefghijk", longest, []int{12, 35, 56, 75, 92}},
		{longest, longest, []int{13, 37, 59, 79, 97}},
		{longest, "zzzzzzzzzzzz", []int{13, 37, 59, 79, 97}},
	} {
		for errors, want := range x.cells {
			name := fmt.Sprintf("BandCells with %d errors", errors)
			checkNumber(t, name, x.a, x.b, impl.BandCells(x.a, x.b, errors), want)
			checkNumber(t, name, x.b, x.a, impl.BandCells(x.b, x.a, errors), want)
		}
	}
}

func TestP24BandsHaveTheirPairs(t *testing.T) {
	for n := range impl.MaxLetters + 1 {
		for m := range impl.MaxLetters + 1 {
			for errors := range impl.MaxErrors + 1 {
				for _, a := range bandWords(n) {
					for _, b := range bandWords(m) {
						checkNumber(t, fmt.Sprintf("BandCells with %d errors", errors), a, b, impl.BandCells(a, b, errors), plainCells(n, m, errors))
					}
				}
			}
		}
	}
}

func TestP24BandsAreNarrow(t *testing.T) {
	for _, p := range wordPairs() {
		n, m := len(p[0]), len(p[1])
		before := 0
		for errors := range impl.MaxErrors + 1 {
			cells := impl.BandCells(p[0], p[1], errors)
			if cells < 1 || cells > (n+1)*(m+1) || cells > (2*errors+1)*(min(n, m)+1) || cells < before {
				t.Fatalf("BandCells(%q, %q, %d) is %d, and with an error less %d", p[0], p[1], errors, cells, before)
			}
			before = cells
		}
	}
}

func TestP24WithoutErrorsOneCellForEveryBeginning(t *testing.T) {
	for n := range impl.MaxLetters + 1 {
		for m := range impl.MaxLetters + 1 {
			a, b := longest[:n], turned(longest)[:m]
			checkNumber(t, "BandCells with 0 errors", a, b, impl.BandCells(a, b, 0), min(n, m)+1)
		}
	}
}

func TestP24ShortWordsHaveTheWholeTable(t *testing.T) {
	for n := range impl.MaxErrors + 1 {
		for m := range impl.MaxErrors + 1 {
			a, b := longest[:n], turned(longest)[:m]
			checkNumber(t, "BandCells with MaxErrors", a, b, impl.BandCells(a, b, impl.MaxErrors), (n+1)*(m+1))
		}
	}
}

func TestP24OtherErrorsHaveNoBand(t *testing.T) {
	checkOtherErrors(t, "BandCells", impl.BandCells)
}

func TestP24OtherWordsHaveNoBand(t *testing.T) {
	checkOtherBands(t, "BandCells", impl.BandCells)
}

// plainLeast strikes out every letter of the one word once in the other one, and counts what remains of both.
func plainLeast(a string, b string) int {
	missing := 0
	for _, c := range a {
		left := strings.Replace(b, string(c), "", 1)
		if left == b {
			missing++
		}
		b = left
	}
	return max(missing, len(b))
}

func sortedLetters(s string) string {
	b := []byte(s)
	slices.Sort(b)
	return string(b)
}

// orders returns all orders of the letters of a word, some of them repeatedly.
func orders(s string) []string {
	if s == "" {
		return []string{""}
	}
	var all []string
	for k := range len(s) {
		for _, rest := range orders(s[:k] + s[k+1:]) {
			all = append(all, s[k:k+1]+rest)
		}
	}
	return all
}

var knownBounds = []struct {
	a, b  string
	least int
}{
	{"", "", 0},
	{"", "a", 1},
	{"", "aaa", 3},
	{"", longest, 12},
	{"a", "a", 0},
	{"a", "z", 1},
	{"a", "aa", 1},
	{"abc", "cab", 0},
	{"abc", "abd", 1},
	{"aab", "b", 2},
	{"aab", "abb", 1},
	{"aabb", "bbaa", 0},
	{"aabb", "ab", 2},
	{"aaab", "abbb", 2},
	{"aab", "bcc", 2},
	{"abz", "zz", 2},
	{"abcd", "ax", 3},
	{"listen", "silent", 0},
	{"kitten", "sitting", 3},
	{"intention", "execution", 4},
	{"stone", "stones", 1},
	{"stone", "onset", 0},
	{longest, longest, 0},
	{longest, "lkjihgfedcba", 0},
	{longest, "abcdefghijk", 1},
	{longest, "a", 11},
	{longest, "z", 12},
	{longest, "nopqrstuvwxy", 12},
	{longest, "abcdefnopqrs", 6},
	{"aaaaaaaaaaaa", "zzzzzzzzzzzz", 12},
	{"aaaaaaaaaaaa", "aaaaaabbbbbb", 6},
	{"aaaaaaaaaaaa", longest, 11},
}

func checkLeast(t *testing.T, a string, b string, want int) {
	t.Helper()
	checkNumber(t, "LeastDistance", a, b, impl.LeastDistance(a, b), want)
	checkNumber(t, "LeastDistance", b, a, impl.LeastDistance(b, a), want)
}

func TestP25BoundsOfSomeWords(t *testing.T) {
	for _, x := range knownBounds {
		checkLeast(t, x.a, x.b, x.least)
	}
}

func TestP25LettersAreStruckOut(t *testing.T) {
	for _, p := range wordPairs() {
		checkLeast(t, p[0], p[1], plainLeast(p[0], p[1]))
	}
	for i := range len(allLetters) {
		for j := range len(allLetters) {
			a, b := allLetters[i:i+1], allLetters[j:j+1]
			checkLeast(t, a, b, plainLeast(a, b))
			checkLeast(t, a+a+b, b+b, plainLeast(a+a+b, b+b))
		}
	}
}

// The letters alone tell no more: with some order of them the distance is the bound, and with none it is less.
func TestP25BoundsAreGreatest(t *testing.T) {
	for _, words := range [][]string{shortWords("abc", 4), shortWords("amz", 3), {"aab", "aabbc", "bbccd", "abcde", "vwxyz", "edcba", "aaaaa", "zzabc"}} {
		for _, a := range words {
			for _, b := range words {
				nearest := max(len(a), len(b))
				for _, order := range orders(b) {
					nearest = min(nearest, plainEdit(a, order))
				}
				checkLeast(t, a, b, nearest)
			}
		}
	}
}

func TestP25OrdersDoNotMatter(t *testing.T) {
	for _, p := range wordPairs() {
		a, b := p[0], p[1]
		want := impl.LeastDistance(a, b)
		checkLeast(t, turned(a), b, want)
		checkLeast(t, a, turned(b), want)
		checkLeast(t, a, turned(a), 0)
	}
}

func TestP25BoundsLieBetweenLengthsAndDistances(t *testing.T) {
	for _, p := range wordPairs() {
		a, b := p[0], p[1]
		least := impl.LeastDistance(a, b)
		if least > impl.EditDistance(a, b) || least < max(len(a)-len(b), len(b)-len(a)) {
			t.Fatalf("LeastDistance(%q, %q) is %d, EditDistance is %d", a, b, least, impl.EditDistance(a, b))
		}
		if same := sortedLetters(a) == sortedLetters(b); same != (least == 0) {
			t.Fatalf("LeastDistance(%q, %q) is %d", a, b, least)
		}
	}
}

func TestP25OtherWordsHaveNoBound(t *testing.T) {
	checkOtherWords(t, "LeastDistance", impl.LeastDistance)
}

func TestP114BoundsOfSomeWords(t *testing.T) {
	for _, x := range []struct {
		a, b                      string
		least, swap, edit, places int
	}{
		{"", "", 0, 0, 0, 0},
		{"a", "z", 1, 1, 1, 1},
		{"stone", "stone", 0, 0, 0, 0},
		{"stone", "store", 1, 1, 1, 1},
		{"ab", "ba", 0, 1, 2, 2},
		{"abc", "bca", 0, 2, 2, 3},
		{"abab", "baba", 0, 2, 2, 4},
		{"abcd", "dcba", 0, 3, 4, 4},
		{"abcdx", "bacyd", 1, 3, 4, 4},
		{"intention", "execution", 4, 5, 5, 5},
		{longest, "badcfehgjilk", 0, 6, 7, 12},
		{longest, "bcdefghijkla", 0, 2, 2, 12},
		{longest, "nopqrstuvwxy", 12, 12, 12, 12},
		// Words of different lengths have no different places.
		{"", longest, 12, 12, 12, -1},
		{"ca", "abc", 1, 3, 3, -1},
		{"kitten", "sitting", 3, 3, 3, -1},
		{"abcdx", "bacd", 1, 2, 3, -1},
	} {
		checkNumber(t, "LeastDistance", x.a, x.b, impl.LeastDistance(x.a, x.b), x.least)
		checkNumber(t, "SwapDistance", x.a, x.b, impl.SwapDistance(x.a, x.b), x.swap)
		checkNumber(t, "EditDistance", x.a, x.b, impl.EditDistance(x.a, x.b), x.edit)
		checkNumber(t, "DifferentPlaces", x.a, x.b, impl.DifferentPlaces(x.a, x.b), x.places)
		checkChain(t, x.a, x.b)
	}
}

// checkChain fails if a bound is greater than what it bounds; each is 0 or more for valid words.
func checkChain(t *testing.T, a string, b string) {
	t.Helper()
	least, swap, edit, places := impl.LeastDistance(a, b), impl.SwapDistance(a, b), impl.EditDistance(a, b), impl.DifferentPlaces(a, b)
	if least < 0 || least > swap || swap > edit || len(a) == len(b) && edit > places {
		t.Fatalf("for %q and %q LeastDistance is %d, SwapDistance %d, EditDistance %d, DifferentPlaces %d", a, b, least, swap, edit, places)
	}
}

func TestP114BoundsAreBounds(t *testing.T) {
	words := shortWords("abc", 4)
	for _, a := range words {
		for _, b := range words {
			checkChain(t, a, b)
		}
	}
	for _, p := range wordPairs() {
		checkChain(t, p[0], p[1])
		checkChain(t, p[0], turned(p[0]))
		checkChain(t, p[0], sortedLetters(p[0]))
	}
}

// A distance within the errors is not less than the bound of the letters.
func TestP114NoWordIsNearerThanItsLettersTell(t *testing.T) {
	for _, p := range wordPairs() {
		for errors := range impl.MaxErrors + 1 {
			d := impl.WithinDistance(p[0], p[1], errors)
			if least := impl.LeastDistance(p[0], p[1]); d >= 0 && d < least || least > errors && d != -1 {
				t.Fatalf("WithinDistance(%q, %q, %d) is %d, LeastDistance is %d", p[0], p[1], errors, d, least)
			}
		}
	}
}

func TestP114OtherWordsHaveNoBounds(t *testing.T) {
	checkOtherWords(t, "LeastDistance", impl.LeastDistance)
	checkOtherWords(t, "SwapDistance", impl.SwapDistance)
	checkOtherWords(t, "EditDistance", impl.EditDistance)
	checkOtherWords(t, "DifferentPlaces", impl.DifferentPlaces)
}
