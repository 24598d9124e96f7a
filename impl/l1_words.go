package impl

import "slices"

// MaxLetters is the maximum number of letters of a word; MaxWords is the maximum number of words of a list.
const (
	MaxLetters = 12
	MaxWords   = 60
)

// WordValid reports whether a text has at most MaxLetters bytes, all of them letters a to z; it may be empty.
func WordValid(s string) bool {
	if len(s) > MaxLetters {
		return false
	}
	for k := range len(s) {
		if !isLetter(s[k]) {
			return false
		}
	}
	return true
}

// ListValid reports whether there are at most MaxWords words, all of them valid and not empty, in strictly ascending order, byte by byte.
func ListValid(list []string) bool {
	if !wordsFilled(list) {
		return false
	}
	for k := 1; k < len(list); k++ {
		if list[k-1] >= list[k] {
			return false
		}
	}
	return true
}

// ListOf returns the valid list (ListValid) with all of at most MaxWords valid words, which are not empty, may be in any order and may be repeated; nil for other words.
func ListOf(words []string) []string {
	if !wordsFilled(words) {
		return nil
	}
	list := slices.Clone(words)
	slices.Sort(list)
	return slices.Compact(list)
}

// ListFind returns the number of a word in a valid list; -1 if it is not in it, and for other lists.
func ListFind(list []string, s string) int {
	if !ListValid(list) {
		return -1
	}
	k, found := slices.BinarySearch(list, s)
	if !found {
		return -1
	}
	return k
}

// SharedStart returns how many letters two valid words have in common at the beginning; -1 for other words.
func SharedStart(a string, b string) int {
	if !WordValid(a) || !WordValid(b) {
		return -1
	}
	shorter := min(len(a), len(b))
	for k := range shorter {
		if a[k] != b[k] {
			return k
		}
	}
	return shorter
}

func isLetter(c byte) bool {
	return 'a' <= c && c <= 'z'
}

// wordsFilled reports whether there are at most MaxWords words, all of them valid and not empty, in any order.
func wordsFilled(words []string) bool {
	if len(words) > MaxWords {
		return false
	}
	for _, s := range words {
		if s == "" || !WordValid(s) {
			return false
		}
	}
	return true
}
