package tests

import (
	"fmt"
	"math"
	"strings"
	"testing"

	"loop.example/fuzzydictionary/impl"
)

// otherBytes returns all bytes that are no letters a to z.
func otherBytes() []byte {
	var all []byte
	for c := range 256 {
		if !strings.Contains(allLetters, string([]byte{byte(c)})) {
			all = append(all, byte(c))
		}
	}
	return all
}

// bitWords returns valid words of all lengths, with letters that are at no, one, some and all places.
func bitWords() []string {
	words := append(shortWords("abc", 4), shortWords("az", 5)...)
	for size := range impl.MaxLetters + 1 {
		words = append(words, longest[:size], longest[impl.MaxLetters-size:], turned(longest)[:size], strings.Repeat("a", size), strings.Repeat("z", size), strings.Repeat("ab", 6)[:size])
	}
	for _, p := range wordPairs() {
		words = append(words, p[0])
	}
	return words
}

// plainMask adds up a power of 2 for every place of a letter.
func plainMask(s string, letter byte) int {
	sum, power := 0, 1
	for _, c := range []byte(s) {
		if c == letter {
			sum += power
		}
		power *= 2
	}
	return sum
}

func checkMask(t *testing.T, s string, letter byte, want int) {
	t.Helper()
	if got := impl.LetterMask(s, letter); got != want {
		t.Fatalf("LetterMask(%q, %q) is %d, not %d", s, letter, got, want)
	}
}

func TestP26MasksOfSomeWords(t *testing.T) {
	for _, x := range []struct {
		s      string
		letter byte
		mask   int
	}{
		{"", 'a', 0},
		{"", 'z', 0},
		{"a", 'a', 1},
		{"a", 'b', 0},
		{"z", 'z', 1},
		{"z", 'a', 0},
		{"ab", 'a', 1},
		{"ab", 'b', 2},
		{"ab", 'c', 0},
		{"aa", 'a', 3},
		{"banana", 'a', 42},
		{"banana", 'b', 1},
		{"banana", 'n', 20},
		{"banana", 'z', 0},
		{"stone", 'e', 16},
		{longest, 'a', 1},
		{longest, 'l', 2048},
		{longest, 'm', 0},
		{"aaaaaaaaaaaa", 'a', 4095},
		{"aaaaaaaaaaaa", 'b', 0},
		{"zzzzzzzzzzzz", 'z', 4095},
		{"abababababab", 'a', 1365},
		{"abababababab", 'b', 2730},
	} {
		checkMask(t, x.s, x.letter, x.mask)
	}
}

func TestP26MasksArePlaces(t *testing.T) {
	for _, s := range bitWords() {
		sum := 0
		for _, letter := range []byte(allLetters) {
			mask := impl.LetterMask(s, letter)
			checkMask(t, s, letter, plainMask(s, letter))
			for k := range len(s) {
				if in := mask>>k&1 == 1; in != (s[k] == letter) {
					t.Fatalf("LetterMask(%q, %q) is %d, for the place %d", s, letter, mask, k)
				}
			}
			sum += mask
		}
		if sum != 1<<len(s)-1 {
			t.Fatalf("all masks of %q have the sum %d", s, sum)
		}
	}
}

func TestP26WordsOfOneLetter(t *testing.T) {
	for _, c := range []byte(allLetters) {
		for _, letter := range []byte(allLetters) {
			want := 0
			if c == letter {
				want = 1
			}
			checkMask(t, string(c), letter, want)
		}
	}
}

func TestP26LettersAtOnePlaceAndAtAll(t *testing.T) {
	for size := range impl.MaxLetters + 1 {
		for _, letter := range []byte(allLetters) {
			checkMask(t, strings.Repeat(string(letter), size), letter, 1<<size-1)
			for k := range size {
				other := "m"
				if letter == 'm' {
					other = "n"
				}
				s := strings.Repeat(other, k) + string(letter) + strings.Repeat(other, size-k-1)
				checkMask(t, s, letter, 1<<k)
				checkMask(t, s, other[0], 1<<size-1-1<<k)
			}
		}
	}
}

func TestP26OtherBytesHaveNoMask(t *testing.T) {
	for _, letter := range otherBytes() {
		for _, s := range append([]string{"", "a", "z", "ab", "banana", longest, string([]byte{letter})}, badWords...) {
			checkMask(t, s, letter, -1)
		}
	}
}

func TestP26OtherWordsHaveNoMask(t *testing.T) {
	for _, letter := range []byte(allLetters) {
		for _, s := range badWords {
			checkMask(t, s, letter, -1)
		}
		checkMask(t, strings.Repeat(string(letter), impl.MaxLetters+1), letter, -1)
		for k := range longest {
			for _, c := range []string{"A", "Z", "`", "{", " ", "0", "\x00", "\xff"} {
				checkMask(t, longest[:k]+c+longest[k+1:], letter, -1)
			}
		}
	}
}

// plainColumn holds the distances of neighbouring beginnings against each other, which are found from the letters alone.
func plainColumn(a string, b string) (int, int) {
	known := map[[2]string]int{}
	up, down, power := 0, 0, 1
	for k := range len(a) {
		switch plainDistance(a[:k+1], b, false, known) - plainDistance(a[:k], b, false, known) {
		case 1:
			up += power
		case -1:
			down += power
		}
		power *= 2
	}
	return up, down
}

func checkColumn(t *testing.T, a string, b string, up int, down int) {
	t.Helper()
	if gotUp, gotDown := impl.BitColumn(a, b); gotUp != up || gotDown != down {
		t.Fatalf("BitColumn(%q, %q) is %d and %d, not %d and %d", a, b, gotUp, gotDown, up, down)
	}
}

// checkNoColumn fails if there is a column for a word that is not valid, on either side.
func checkNoColumn(t *testing.T, name string, column func(a string, b string) (int, int)) {
	t.Helper()
	checkOtherWords(t, name+", the first number,", func(a string, b string) int {
		up, _ := column(a, b)
		return up
	})
	checkOtherWords(t, name+", the second number,", func(a string, b string) int {
		_, down := column(a, b)
		return down
	})
}

func TestP27ColumnsOfSomeWords(t *testing.T) {
	for _, x := range []struct {
		a, b     string
		up, down int
	}{
		{"", "", 0, 0},
		{"", "a", 0, 0},
		{"", longest, 0, 0},
		{"a", "", 1, 0},
		{"z", "", 1, 0},
		{"a", "a", 0, 1},
		{"a", "b", 0, 0},
		{"a", "ab", 0, 1},
		{"a", "ba", 0, 1},
		{"a", "aa", 0, 1},
		{"a", "bb", 0, 0},
		{"a", longest, 0, 1},
		{"m", longest, 0, 0},
		{"ab", "a", 2, 1},
		{"ab", "b", 0, 0},
		{"ab", "c", 2, 0},
		{"ab", "ba", 2, 1},
		{"ba", "b", 2, 1},
		{"aa", "a", 2, 1},
		{"abc", "", 7, 0},
		{"abc", "axc", 0, 5},
		{"abc", "abc", 0, 7},
		{"abc", "xyz", 0, 0},
		{"abc", "x", 6, 0},
		{"abc", "c", 2, 0},
		{"abc", "xyzabc", 0, 7},
		{"kitten", "sitting", 0, 46},
		{"sitting", "kitten", 64, 46},
		{longest, "", 4095, 0},
		{longest, longest, 0, 4095},
		{longest, "a", 4094, 1},
		{longest, "l", 2046, 0},
		{longest, "m", 4094, 0},
		{longest, "nopqrstuvwxy", 0, 0},
		{"aaaaaaaaaaaa", "zzzzzzzzzzzz", 0, 0},
		{"aaaaaaaaaaaa", "aaaaaa", 4032, 63},
	} {
		checkColumn(t, x.a, x.b, x.up, x.down)
	}
}

func TestP27ColumnsHaveTheirPlaces(t *testing.T) {
	for _, p := range wordPairs() {
		up, down := plainColumn(p[0], p[1])
		checkColumn(t, p[0], p[1], up, down)
	}
}

func TestP27ColumnsTellDistances(t *testing.T) {
	pairs := wordPairs()
	for _, a := range shortWords("abc", 4) {
		for _, b := range shortWords("abc", 4) {
			pairs = append(pairs, [2]string{a, b})
		}
	}
	for _, p := range pairs {
		a, b := p[0], p[1]
		up, down := impl.BitColumn(a, b)
		if up < 0 || up >= 1<<len(a) || down < 0 || down >= 1<<len(a) || up&down != 0 {
			t.Fatalf("BitColumn(%q, %q) is %d and %d", a, b, up, down)
		}
		checkNumber(t, "BitDistance of BitColumn", a, b, impl.BitDistance(len(a), len(b), up, down), impl.EditDistance(a, b))
	}
}

// Without its last places the column is that of a beginning of the first word.
func TestP27ColumnsOfBeginnings(t *testing.T) {
	for _, p := range wordPairs() {
		up, down := impl.BitColumn(p[0], p[1])
		for n := range len(p[0]) {
			a, part := p[0][:n], 1<<n-1
			checkColumn(t, a, p[1], up&part, down&part)
			checkNumber(t, "BitDistance of BitColumn", a, p[1], impl.BitDistance(n, len(p[1]), up&part, down&part), impl.EditDistance(a, p[1]))
		}
	}
}

func TestP27TheEmptyWord(t *testing.T) {
	checkColumn(t, "", "", 0, 0)
	for _, s := range bitWords() {
		checkColumn(t, s, "", 1<<len(s)-1, 0)
		checkColumn(t, "", s, 0, 0)
	}
}

func TestP27WordsOfOneLetter(t *testing.T) {
	for _, letter := range allLetters {
		for _, s := range append(bitWords(), allLetters[:12], allLetters[12:24], allLetters[24:]) {
			up, down := 0, 0
			if s == "" {
				up = 1
			} else if strings.ContainsRune(s, letter) {
				down = 1
			}
			checkColumn(t, string(letter), s, up, down)
			checkNumber(t, "BitDistance of BitColumn", string(letter), s, impl.BitDistance(1, len(s), up, down), plainEdit(string(letter), s))
		}
	}
}

func TestP27EqualWordsSinkEverywhere(t *testing.T) {
	for _, s := range bitWords() {
		checkColumn(t, s, s, 0, 1<<len(s)-1)
		checkNumber(t, "BitDistance of BitColumn", s, s, impl.BitDistance(len(s), len(s), 0, 1<<len(s)-1), 0)
	}
}

// Without common letters the distance is the length of the longer word, so it grows behind the length of the second one.
func TestP27WordsWithNoLetterInCommon(t *testing.T) {
	for n := range impl.MaxLetters + 1 {
		for m := range impl.MaxLetters + 1 {
			up := 0
			for k := m; k < n; k++ {
				up += 1 << k
			}
			checkColumn(t, longest[:n], "nopqrstuvwxy"[:m], up, 0)
			checkColumn(t, strings.Repeat("a", n), strings.Repeat("z", m), up, 0)
		}
	}
}

func TestP27OtherWordsHaveNoColumn(t *testing.T) {
	checkNoColumn(t, "BitColumn", impl.BitColumn)
}

func checkBits(t *testing.T, letters int, others int, up int, down int, want int) {
	t.Helper()
	if got := impl.BitDistance(letters, others, up, down); got != want {
		t.Fatalf("BitDistance(%d, %d, %d, %d) is %d, not %d", letters, others, up, down, got, want)
	}
}

// plainBits reads the digits of both results from the text of the numbers.
func plainBits(letters int, others int, up int, down int) int {
	grows, sinks := fmt.Sprintf("%013b", up), fmt.Sprintf("%013b", down)
	distance := others
	for k := range grows {
		switch {
		case grows[k] == '1' && (sinks[k] == '1' || 13-k > letters):
			return -1
		case sinks[k] == '1' && 13-k > letters:
			return -1
		case grows[k] == '1':
			distance++
		case sinks[k] == '1':
			distance--
		}
	}
	return max(distance, -1)
}

func TestP28DistancesOfSomeResults(t *testing.T) {
	for _, x := range []struct {
		letters, others, up, down int
		distance                  int
	}{
		{0, 0, 0, 0, 0},
		{0, 1, 0, 0, 1},
		{0, 12, 0, 0, 12},
		{0, 5, 1, 0, -1},
		{0, 5, 0, 1, -1},
		{1, 0, 0, 0, 0},
		{1, 0, 1, 0, 1},
		{1, 0, 0, 1, -1},
		{1, 1, 0, 1, 0},
		{1, 1, 0, 0, 1},
		{1, 1, 1, 0, 2},
		{1, 1, 1, 1, -1},
		{1, 1, 2, 0, -1},
		{1, 1, 0, 2, -1},
		{1, 12, 0, 1, 11},
		{2, 3, 1, 1, -1},
		{2, 3, 4, 0, -1},
		{2, 3, 3, 0, 5},
		{2, 3, 0, 3, 1},
		{2, 3, 2, 1, 3},
		{2, 1, 0, 3, -1},
		{2, 2, 0, 3, 0},
		{3, 3, 0, 5, 1},
		{3, 3, 7, 0, 6},
		{3, 3, 5, 2, 4},
		{3, 3, 3, 6, -1},
		{12, 0, 4095, 0, 12},
		{12, 0, 0, 4095, -1},
		{12, 11, 0, 4095, -1},
		{12, 12, 0, 4095, 0},
		{12, 12, 4095, 0, 24},
		{12, 12, 0, 0, 12},
		{12, 12, 4096, 0, -1},
		{12, 12, 0, 4096, -1},
		{12, 12, 4095, 4095, -1},
		{12, 12, 2048, 2048, -1},
		{12, 0, 1365, 2730, 0},
		{12, 0, 1364, 2730, -1},
		// Only the distance itself must not be negative, not that of a beginning.
		{2, 0, 2, 1, 0},
	} {
		checkBits(t, x.letters, x.others, x.up, x.down, x.distance)
	}
}

func TestP28DigitsAreCounted(t *testing.T) {
	for letters := range 6 {
		for others := range 13 {
			for up := range 70 {
				for down := range 70 {
					checkBits(t, letters, others, up, down, plainBits(letters, others, up, down))
				}
			}
		}
	}
	for letters := range 13 {
		for others := range 13 {
			for up := 0; up < 8192; up += 61 {
				for down := 0; down < 8192; down += 67 {
					checkBits(t, letters, others, up, down, plainBits(letters, others, up, down))
				}
			}
		}
	}
}

func TestP28DigitsAreSteps(t *testing.T) {
	for _, p := range wordPairs() {
		n, m := len(p[0]), len(p[1])
		up, down := impl.BitColumn(p[0], p[1])
		distance := impl.EditDistance(p[0], p[1])
		for k := range n {
			switch digit := 1 << k; {
			case up&digit != 0:
				checkBits(t, n, m, up-digit, down, max(distance-1, -1))
				checkBits(t, n, m, up, down|digit, -1)
			case down&digit != 0:
				checkBits(t, n, m, up, down-digit, distance+1)
				checkBits(t, n, m, up|digit, down, -1)
			default:
				checkBits(t, n, m, up|digit, down, distance+1)
				checkBits(t, n, m, up, down|digit, max(distance-1, -1))
			}
		}
	}
}

func TestP28ResultsAtTheirBounds(t *testing.T) {
	for n := range impl.MaxLetters + 1 {
		for m := range impl.MaxLetters + 1 {
			all := 1<<n - 1
			checkBits(t, n, m, 0, 0, m)
			checkBits(t, n, m, all, 0, m+n)
			checkBits(t, n, m, 0, all, max(m-n, -1))
			if n > 0 {
				checkBits(t, n, m, all, all, -1)
			}
			for k := range n {
				checkBits(t, n, m, all, 1<<k, -1)
				checkBits(t, n, m, 1<<k, all, -1)
				checkBits(t, n, m, all-1<<k, 1<<k, m+n-2)
				checkBits(t, n, m, 1<<k, all-1<<k, max(m-n+2, -1))
			}
		}
	}
}

func TestP28OtherResultsTellNoDistance(t *testing.T) {
	for n := range impl.MaxLetters + 1 {
		others := []int{math.MinInt, math.MinInt + 1, math.MinInt32, -4096, -1 << n, -3, -2, -1, 1 << n, 1<<n + 1, 2 << n, 3 << n, 1 << 20, 1 << 32, 1<<32 + 1, 1 << 62, math.MaxInt32, math.MaxInt - 1, math.MaxInt}
		for _, bad := range others {
			for m := range impl.MaxLetters + 1 {
				for _, good := range []int{0, 1<<n - 1, 1 << n >> 1} {
					checkBits(t, n, m, bad, good, -1)
					checkBits(t, n, m, good, bad, -1)
				}
				for _, worse := range others {
					checkBits(t, n, m, bad, worse, -1)
				}
			}
		}
	}
}

func TestP28OtherNumbersOfLettersTellNoDistance(t *testing.T) {
	others := []int{math.MinInt, math.MinInt32, -64, -63, -13, -12, -2, -1, 13, 14, 24, 31, 32, 62, 63, 64, 65, 256, 1 << 32, 1<<32 + 5, math.MaxInt32, math.MaxInt - 1, math.MaxInt}
	for _, bad := range others {
		for _, x := range []int{0, 1, 2, 4095, 8191, -1} {
			for good := range impl.MaxLetters + 1 {
				checkBits(t, bad, good, x, 0, -1)
				checkBits(t, bad, good, 0, x, -1)
				checkBits(t, good, bad, x, 0, -1)
				checkBits(t, good, bad, 0, x, -1)
			}
			for _, worse := range others {
				checkBits(t, bad, worse, x, 0, -1)
				checkBits(t, bad, worse, 0, x, -1)
			}
		}
	}
}

func checkStep(t *testing.T, a string, b string, letter byte, up int, down int) {
	t.Helper()
	if gotUp, gotDown := impl.StepColumn(a, b, letter); gotUp != up || gotDown != down {
		t.Fatalf("StepColumn(%q, %q, %q) is %d and %d, not %d and %d", a, b, letter, gotUp, gotDown, up, down)
	}
}

func TestP29StepsOfSomeWords(t *testing.T) {
	for _, x := range []struct {
		a, b     string
		letter   byte
		up, down int
	}{
		{"", "", 'a', 0, 0},
		{"", "abcdefghijk", 'l', 0, 0},
		{"a", "", 'a', 0, 1},
		{"a", "", 'b', 0, 0},
		{"a", "a", 'a', 0, 1},
		{"a", "b", 'a', 0, 1},
		{"a", "b", 'b', 0, 0},
		{"a", "abcdefghijk", 'l', 0, 1},
		{"l", "abcdefghijk", 'l', 0, 1},
		{"z", "abcdefghijk", 'l', 0, 0},
		{"ab", "", 'a', 2, 1},
		{"ab", "", 'b', 0, 0},
		{"ab", "a", 'b', 0, 3},
		{"ab", "b", 'a', 2, 1},
		{"abc", "", 'x', 6, 0},
		{"abc", "ax", 'c', 0, 5},
		{"abc", "ab", 'c', 0, 7},
		{"abc", "xy", 'z', 0, 0},
		{longest, "", 'a', 4094, 1},
		{longest, "abcdefghijk", 'l', 0, 4095},
		{longest, "abcdefghijk", 'z', 0, 2047},
		{longest, "nopqrstuvwx", 'y', 0, 0},
		{"aaaaaaaaaaaa", "aaaaaaaaaaa", 'a', 0, 4095},
	} {
		checkStep(t, x.a, x.b, x.letter, x.up, x.down)
	}
}

func TestP29StepsHaveTheirPlaces(t *testing.T) {
	for _, p := range wordPairs() {
		a, b := p[0], p[1]
		if b == "" {
			continue
		}
		up, down := plainColumn(a, b)
		checkStep(t, a, b[:len(b)-1], b[len(b)-1], up, down)
	}
}

func TestP29ColumnsGoOnLetterByLetter(t *testing.T) {
	for _, p := range wordPairs() {
		a, b := p[0], p[1]
		if len(b) == impl.MaxLetters {
			b = b[:impl.MaxLetters-1]
		}
		before := impl.EditDistance(a, b)
		for _, letter := range []byte(allLetters) {
			longer := b + string(letter)
			up, down := impl.StepColumn(a, b, letter)
			checkColumn(t, a, longer, up, down)
			distance := impl.EditDistance(a, longer)
			checkBits(t, len(a), len(longer), up, down, distance)
			if distance < before-1 || distance > before+1 {
				t.Fatalf("the distance of %q from %q is %d, from %q it is %d", a, b, before, longer, distance)
			}
		}
	}
}

func TestP29WordsOfOneLetter(t *testing.T) {
	for _, a := range []byte(allLetters) {
		for _, letter := range []byte(allLetters) {
			for _, b := range []string{"", "a", "m", "z", "abcde", "abcdefghijk", "zzzzzzzzzzz"} {
				down := 0
				if strings.Contains(b+string(letter), string(a)) {
					down = 1
				}
				checkStep(t, string(a), b, letter, 0, down)
			}
		}
	}
}

func TestP29TheLastLetterThatFits(t *testing.T) {
	for _, a := range []string{"", "a", "ab", "stone", "abcdefghijk", longest, turned(longest), "aaaaaaaaaaaa", "abababababab"} {
		for _, b := range []string{"abcdefghijk", "bcdefghijkl", "aaaaaaaaaaa", "zzzzzzzzzzz", "ababababab" + "a"} {
			for _, letter := range []byte(allLetters) {
				up, down := plainColumn(a, b+string(letter))
				checkStep(t, a, b, letter, up, down)
			}
		}
	}
}

func TestP29LongWordsHaveNoStep(t *testing.T) {
	for _, a := range []string{"", "a", "z", "ab", "stone", "abcdefghijk", longest, "aaaaaaaaaaaa"} {
		for _, b := range []string{longest, turned(longest), "aaaaaaaaaaaa", "zzzzzzzzzzzz", tooLong} {
			for _, letter := range []byte(allLetters) {
				checkStep(t, a, b, letter, -1, -1)
			}
		}
	}
}

func TestP29OtherBytesLeadToNoColumn(t *testing.T) {
	for _, letter := range otherBytes() {
		for _, a := range []string{"", "a", "z", "stone", longest, string([]byte{letter})} {
			for _, b := range []string{"", "a", "z", "stone", "abcdefghijk", longest, string([]byte{letter})} {
				checkStep(t, a, b, letter, -1, -1)
			}
		}
	}
}

func TestP29OtherWordsHaveNoStep(t *testing.T) {
	for _, letter := range []byte("abmzA\xff") {
		checkNoColumn(t, fmt.Sprintf("StepColumn with %q", letter), func(a string, b string) (int, int) { return impl.StepColumn(a, b, letter) })
	}
}

func TestP115StepsOfSomeWords(t *testing.T) {
	for _, x := range []struct {
		a, b    string
		columns [][2]int
	}{
		{"", "ab", [][2]int{{0, 0}, {0, 0}, {0, 0}}},
		{"a", "", [][2]int{{1, 0}}},
		{"a", "a", [][2]int{{1, 0}, {0, 1}}},
		{"a", "bab", [][2]int{{1, 0}, {0, 0}, {0, 1}, {0, 1}}},
		{"ab", "ba", [][2]int{{3, 0}, {0, 0}, {2, 1}}},
		{"abc", "axc", [][2]int{{7, 0}, {6, 1}, {4, 1}, {0, 5}}},
		{"abc", "abc", [][2]int{{7, 0}, {6, 1}, {4, 3}, {0, 7}}},
		{"aaa", "aba", [][2]int{{7, 0}, {6, 1}, {4, 1}, {0, 3}}},
	} {
		checkColumn(t, x.a, "", x.columns[0][0], x.columns[0][1])
		for k := range len(x.b) {
			next := x.columns[k+1]
			checkStep(t, x.a, x.b[:k], x.b[k], next[0], next[1])
		}
		last := x.columns[len(x.b)]
		checkColumn(t, x.a, x.b, last[0], last[1])
	}
}

func TestP115ColumnsGoFromTheEmptyWordToEveryWord(t *testing.T) {
	for _, p := range wordPairs() {
		a, b := p[0], p[1]
		up, down := impl.BitColumn(a, "")
		for k := range len(b) {
			checkBits(t, len(a), k, up, down, impl.EditDistance(a, b[:k]))
			up, down = impl.StepColumn(a, b[:k], b[k])
		}
		wantUp, wantDown := plainColumn(a, b)
		if up != wantUp || down != wantDown {
			t.Fatalf("the steps for %q and %q lead to %d and %d, not %d and %d", a, b, up, down, wantUp, wantDown)
		}
		checkColumn(t, a, b, up, down)
	}
}

func TestP115MaxLettersSteps(t *testing.T) {
	for _, a := range []string{"", "a", "z", "stone", longest, turned(longest), "aaaaaaaaaaaa"} {
		for k := range tooLong {
			up, down := -1, -1
			if k < 12 {
				up, down = plainColumn(a, tooLong[:k+1])
			}
			checkStep(t, a, tooLong[:k], tooLong[k], up, down)
		}
		checkColumn(t, a, tooLong, -1, -1)
	}
}

// The steps stop at the first byte that is no letter, and there is none behind it.
func TestP115StepsOverOtherBytes(t *testing.T) {
	for _, c := range []string{"A", "Z", "`", "{", " ", "0", "\x00", "\xff"} {
		for at := range 6 {
			b := "stones"[:at] + c + "stones"[at+1:]
			for k := range len(b) {
				up, down := -1, -1
				if k < at {
					up, down = plainColumn("stone", b[:k+1])
				}
				checkStep(t, "stone", b[:k], b[k], up, down)
				checkStep(t, b, "stones"[:k], "stones"[k], -1, -1)
			}
			checkColumn(t, "stone", b, -1, -1)
			checkColumn(t, b, "stones", -1, -1)
		}
	}
}
