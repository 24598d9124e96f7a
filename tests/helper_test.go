package tests

import (
	"math/rand"
	"slices"
	"strings"
	"testing"

	"loop.example/fuzzydictionary/impl"
)

const (
	longest = "abcdefghijkl"  // MaxLetters letters
	tooLong = "abcdefghijklm" // one letter more
)

// badWords are texts that are no valid words; none of them is empty.
var badWords = []string{
	"A", "aB", "Ab", "abC", "Z", "zZ", "`", "{", "a`", "a{", "@", "[", " ", "a b", " a", "a ",
	"a\x00", "\x00", "a\n", "a-b", "a1", "0", "?", "a*", "\xff", "a\xff", "\xe1", "\u00e9", "caf\u00e9", "\u0430",
	tooLong, tooLong + "n", strings.Repeat("a", 13), strings.Repeat("z", 24), strings.Repeat("a", 1000),
	strings.Repeat("a", 11) + "A", "A" + strings.Repeat("a", 11),
}

// shortWords returns all words of at most most letters of an alphabet, the empty one included, in ascending order.
func shortWords(alphabet string, most int) []string {
	all := []string{""}
	for from, size := 0, 0; size < most; size++ {
		to := len(all)
		for ; from < to; from++ {
			for _, c := range alphabet {
				all = append(all, all[from]+string(c))
			}
		}
	}
	slices.Sort(all)
	return all
}

// manyWords returns the first many words of two letters, in ascending order: aa, ab, .., zz.
func manyWords(many int) []string {
	var list []string
	for k := range many {
		list = append(list, string([]byte{byte('a' + k/26), byte('a' + k%26)}))
	}
	return list
}

// randomWord returns a word of a number of letters in least..most from the first letters of the alphabet, few, so that words are often alike.
func randomWord(r *rand.Rand, least int, most int) string {
	b := make([]byte, least+r.Intn(most-least+1))
	few := 1 + r.Intn(26)
	for k := range b {
		b[k] = byte('a' + r.Intn(few))
	}
	return string(b)
}

// randomWords returns at most most words that are not empty, in any order, some of them repeated.
func randomWords(r *rand.Rand, most int) []string {
	words := make([]string, r.Intn(most+1))
	for k := range words {
		if k > 0 && r.Intn(4) == 0 {
			words[k] = words[r.Intn(k)]
		} else {
			words[k] = randomWord(r, 1, impl.MaxLetters)
		}
	}
	return words
}

// plainList sorts words and leaves out repetitions, in a way of its own.
func plainList(words []string) []string {
	in := map[string]bool{}
	for _, s := range words {
		in[s] = true
	}
	list := []string{}
	for s := range in {
		list = append(list, s)
	}
	slices.Sort(list)
	return list
}

func randomList(r *rand.Rand, most int) []string {
	return plainList(randomWords(r, most))
}

func turned(s string) string {
	b := []byte(s)
	slices.Reverse(b)
	return string(b)
}

// mustKeep runs a call and fails if it wrote to the words, or behind them.
func mustKeep(t *testing.T, words []string, call func(words []string)) {
	t.Helper()
	room := make([]string, len(words)+2)
	copy(room, words)
	room[len(words)], room[len(words)+1] = "behind", "after"
	before := slices.Clone(room)
	call(room[:len(words)])
	if !slices.Equal(room, before) {
		t.Fatalf("an argument was written to: %q, before %q", room, before)
	}
}
