package tests

import (
	"maps"
	"math"
	"math/rand"
	"slices"
	"strings"
	"testing"

	"loop.example/fuzzydictionary/impl"
)

// badCounts are numbers that are neither counts nor numbers of times.
var badCounts = []int{0, -1, -2, -impl.MaxCount, math.MinInt32, math.MinInt, impl.MaxCount + 1, 2 * impl.MaxCount, math.MaxInt32, math.MaxInt - 1, math.MaxInt}

// counted returns items with the words of a list, and with some counts, one after the other, again and again.
func counted(list []string, counts ...int) []impl.Item {
	d := []impl.Item{}
	for k, s := range list {
		d = append(d, impl.Item{Word: s, Count: counts[k%len(counts)]})
	}
	return d
}

func randomCount(r *rand.Rand) int {
	switch r.Intn(6) {
	case 0:
		return 1
	case 1:
		return impl.MaxCount
	case 2:
		return impl.MaxCount - 1 - r.Intn(3)
	case 3:
		return 1 + r.Intn(impl.MaxCount)
	}
	return 1 + r.Intn(9)
}

func randomDict(r *rand.Rand, most int) []impl.Item {
	d := []impl.Item{}
	for _, s := range randomList(r, most) {
		d = append(d, impl.Item{Word: s, Count: randomCount(r)})
	}
	return d
}

// dictSamples returns valid dictionaries: without words, with one, with some and with MaxWords words, with the least counts, the greatest ones and others.
func dictSamples() [][]impl.Item {
	samples := [][]impl.Item{
		nil,
		{{Word: "a", Count: 1}},
		{{Word: "z", Count: impl.MaxCount}},
		{{Word: "car", Count: 1}, {Word: "cat", Count: 2}, {Word: "dog", Count: 3}},
	}
	for _, list := range validListSamples() {
		samples = append(samples, counted(list, 1), counted(list, impl.MaxCount), counted(list, 7, 1, impl.MaxCount, 2, impl.MaxCount-1))
	}
	r := rand.New(rand.NewSource(30))
	for range 40 {
		samples = append(samples, randomDict(r, impl.MaxWords))
	}
	return samples
}

// brokenDicts returns dictionaries that are not valid because of their words, of one count, or of their number.
func brokenDicts() [][]impl.Item {
	broken := [][]impl.Item{
		{{}}, {{Word: "a"}}, {{Count: 1}}, {{}, {Word: "a", Count: 1}}, {{Word: "a", Count: 1}, {}},
		counted(manyWords(61), 1), counted(manyWords(62), 3), counted(manyWords(200), impl.MaxCount),
	}
	for _, list := range brokenLists() {
		broken = append(broken, counted(list, 1), counted(list, 5, impl.MaxCount))
	}
	for _, list := range [][]string{{"a"}, {"a", "b"}, {"car", "cat", "dog"}, manyWords(60)} {
		for k := range list {
			for _, bad := range badCounts {
				d := counted(list, 1, 5, impl.MaxCount)
				d[k].Count = bad
				broken = append(broken, d)
			}
		}
	}
	return broken
}

// nearbyWords returns words that are in a dictionary, words that are like them, and others; some are no valid words.
func nearbyWords(d []impl.Item) []string {
	words := []string{"", "a", "aa", "b", "ba", "m", "zz", "zzzzzzzzzzzz", longest, "car", "care", "ca"}
	for _, item := range d {
		s := item.Word
		words = append(words, s, s[1:], s[:len(s)-1], s+"a", "a"+s, s+"z", "z"+s, s[:len(s)-1]+"m", turned(s), strings.ToUpper(s))
	}
	return append(words, badWords...)
}

// plainCounts returns the counts of a dictionary by its words.
func plainCounts(d []impl.Item) map[string]int {
	counts := map[string]int{}
	for _, item := range d {
		counts[item.Word] = item.Count
	}
	return counts
}

// plainDict returns the items of some counts, in the order of their words.
func plainDict(counts map[string]int) []impl.Item {
	d := []impl.Item{}
	for _, s := range slices.Sorted(maps.Keys(counts)) {
		d = append(d, impl.Item{Word: s, Count: counts[s]})
	}
	return d
}

// plainAdd changes counts instead of items, and refuses what does not fit afterwards.
func plainAdd(d []impl.Item, s string, many int) ([]impl.Item, bool) {
	counts := plainCounts(d)
	counts[s] += many
	if len(counts) > impl.MaxWords || counts[s] > impl.MaxCount {
		return d, false
	}
	return plainDict(counts), true
}

func plainDrop(d []impl.Item, s string) ([]impl.Item, bool) {
	counts := plainCounts(d)
	delete(counts, s)
	return plainDict(counts), len(counts) < len(d)
}

func plainStarts(d []impl.Item, start string) []impl.Item {
	found := []impl.Item{}
	for _, item := range d {
		if len(item.Word) >= len(start) && item.Word[:len(start)] == start {
			found = append(found, item)
		}
	}
	return found
}

// checkNewItems fails if a call writes to the dictionary, or behind it, or if its result shares memory with it or with that of the next call.
func checkNewItems(t *testing.T, d []impl.Item, call func(d []impl.Item) []impl.Item) {
	t.Helper()
	room := slices.Concat(d, []impl.Item{{Word: "behind", Count: 8}, {Word: "after", Count: 9}})
	before := slices.Clone(room)
	got := call(room[:len(d)])
	again := call(room[:len(d)])
	want := slices.Clone(got)
	spoil(got)
	if !slices.Equal(room, before) {
		t.Fatalf("an argument was written to, or is shared: %v, before %v", room, before)
	}
	if !slices.Equal(again, want) {
		t.Fatalf("a second result is %v, the first one %v", again, want)
	}
	spoil(room)
	if !slices.Equal(again, want) {
		t.Fatalf("a result is shared with the argument: %v, before %v", again, want)
	}
}

// spoil overwrites items, and the room behind them.
func spoil(d []impl.Item) {
	d = d[:cap(d)]
	for k := range d {
		d[k] = impl.Item{Word: "spoilt", Count: -7}
	}
}

func keptDicts() [][]impl.Item {
	return [][]impl.Item{
		nil, {{Word: "b", Count: 2}}, counted([]string{"a", "b", "c"}, 1, 2, impl.MaxCount), counted(manyWords(60), 4), counted(manyWords(59), 4),
		counted([]string{"c", "b", "a"}, 1), counted([]string{"b", "b"}, 1), counted([]string{"a", "b"}, 1, 0), counted(manyWords(61), 1),
	}
}

func mustDict(t *testing.T, name string, got []impl.Item, want []impl.Item) {
	t.Helper()
	if !slices.Equal(got, want) {
		t.Fatalf("%s is %v, not %v", name, got, want)
	}
}

func TestMaxCount(t *testing.T) {
	if impl.MaxCount != 1000000 {
		t.Fatalf("MaxCount is %d", impl.MaxCount)
	}
}

func TestP30PartsOfDictionariesAreValid(t *testing.T) {
	r := rand.New(rand.NewSource(301))
	for _, d := range dictSamples() {
		for i := 0; i <= len(d); i++ {
			for j := i; j <= len(d); j++ {
				if !impl.DictValid(d[i:j]) {
					t.Fatalf("DictValid(%v) is false", d[i:j])
				}
			}
		}
		var part []impl.Item
		for _, item := range d {
			if r.Intn(2) == 0 {
				part = append(part, item)
			}
		}
		if !impl.DictValid(part) {
			t.Fatalf("DictValid(%v) is false", part)
		}
	}
}

func TestP30CountsAreInBounds(t *testing.T) {
	for _, d := range dictSamples() {
		for k := range d {
			for _, bad := range badCounts {
				broken := slices.Clone(d)
				broken[k].Count = bad
				if impl.DictValid(broken) {
					t.Fatalf("DictValid(%v) is true", broken)
				}
			}
			for _, good := range []int{1, 2, 999, impl.MaxCount - 1, impl.MaxCount} {
				other := slices.Clone(d)
				other[k].Count = good
				if !impl.DictValid(other) {
					t.Fatalf("DictValid(%v) is false", other)
				}
			}
		}
	}
}

func TestP30WordsAreAList(t *testing.T) {
	for _, d := range dictSamples() {
		for k, item := range d {
			again := slices.Concat(d, []impl.Item{{Word: item.Word, Count: 1}})
			twice := slices.Insert(slices.Clone(d), k, impl.Item{Word: item.Word, Count: 3})
			if impl.DictValid(again) || impl.DictValid(twice) {
				t.Fatalf("DictValid(%v) is true with %q twice", d, item.Word)
			}
		}
		for k := 1; k < len(d); k++ {
			swapped := slices.Clone(d)
			swapped[k-1], swapped[k] = swapped[k], swapped[k-1]
			if impl.DictValid(swapped) {
				t.Fatalf("DictValid(%v) is true", swapped)
			}
		}
	}
	for n := range 200 {
		if impl.DictValid(counted(manyWords(n), 1)) != (n <= 60) {
			t.Fatalf("DictValid of %d words is %v", n, n > 60)
		}
	}
}

func TestP30OtherDictionariesAreInvalid(t *testing.T) {
	for _, d := range brokenDicts() {
		if impl.DictValid(d) {
			t.Fatalf("DictValid(%v) is true", d)
		}
	}
}

func TestP30DictionariesAreKept(t *testing.T) {
	for _, d := range keptDicts() {
		checkNewItems(t, d, func(d []impl.Item) []impl.Item {
			impl.DictValid(d)
			impl.DictWords(d)
			impl.DictCount(d, "b")
			return nil
		})
	}
}

func TestP31WordsAreThoseOfTheItems(t *testing.T) {
	for _, d := range dictSamples() {
		words := impl.DictWords(d)
		if !impl.ListValid(words) || len(words) != len(d) {
			t.Fatalf("DictWords(%v) is %q", d, words)
		}
		for k := range d {
			if words[k] != d[k].Word {
				t.Fatalf("DictWords(%v) has %q at %d", d, words[k], k)
			}
		}
	}
	if got := impl.DictWords(nil); len(got) != 0 {
		t.Fatalf("the empty dictionary has the words %q", got)
	}
}

func TestP31OtherDictionariesHaveNoWords(t *testing.T) {
	for _, d := range brokenDicts() {
		if got := impl.DictWords(d); len(got) != 0 {
			t.Fatalf("DictWords(%v) is %q", d, got)
		}
	}
}

func TestP31WordsAreNew(t *testing.T) {
	d := counted([]string{"a", "b", "c"}, 1)
	first, second := impl.DictWords(d), impl.DictWords(d)
	first = first[:cap(first)]
	for k := range first {
		first[k] = "spoilt"
	}
	if !slices.Equal(second, []string{"a", "b", "c"}) || !slices.Equal(d, counted([]string{"a", "b", "c"}, 1)) {
		t.Fatalf("the words of %v are shared: %q", d, second)
	}
}

func TestP32CountsAreThoseOfTheWords(t *testing.T) {
	for _, d := range dictSamples() {
		counts := plainCounts(d)
		words := impl.DictWords(d)
		for _, s := range nearbyWords(d) {
			got := impl.DictCount(d, s)
			if got != counts[s] {
				t.Fatalf("DictCount(%v, %q) is %d, not %d", d, s, got, counts[s])
			}
			if (got > 0) != slices.Contains(words, s) {
				t.Fatalf("DictCount(%v, %q) is %d, the words are %q", d, s, got, words)
			}
		}
	}
}

func TestP32OtherDictionariesHaveNoCounts(t *testing.T) {
	for _, d := range brokenDicts() {
		words := []string{"", "a", "b", "m", "aa", "cat"}
		for _, item := range d {
			words = append(words, item.Word)
		}
		for _, s := range words {
			if got := impl.DictCount(d, s); got != 0 {
				t.Fatalf("DictCount(%v, %q) is %d", d, s, got)
			}
		}
	}
}

func checkAdd(t *testing.T, d []impl.Item, s string, many int) {
	t.Helper()
	got, ok := impl.DictAdd(d, s, many)
	want, fits := plainAdd(d, s, many)
	if ok != fits || !slices.Equal(got, want) {
		t.Fatalf("DictAdd(%v, %q, %d) is %v, %v, not %v, %v", d, s, many, got, ok, want, fits)
	}
	if !impl.DictValid(got) {
		t.Fatalf("DictAdd(%v, %q, %d) is %v, which is not valid", d, s, many, got)
	}
	grown := 0
	if ok {
		grown = many
	}
	if now, then := impl.DictCount(got, s), impl.DictCount(d, s); now != then+grown {
		t.Fatalf("DictAdd(%v, %q, %d): the count was %d and is %d", d, s, many, then, now)
	}
	counts := plainCounts(got)
	for _, item := range d {
		if item.Word != s && counts[item.Word] != item.Count {
			t.Fatalf("DictAdd(%v, %q, %d): the count of %q is %d", d, s, many, item.Word, counts[item.Word])
		}
	}
}

// checkAddRefused holds that a dictionary is returned as it is.
func checkAddRefused(t *testing.T, d []impl.Item, s string, many int) {
	t.Helper()
	if got, ok := impl.DictAdd(d, s, many); ok || !slices.Equal(got, d) {
		t.Fatalf("DictAdd(%v, %q, %d) is %v, %v", d, s, many, got, ok)
	}
}

// wordsToAdd returns words of a dictionary, words that come before, between and behind them, and others.
func wordsToAdd(d []impl.Item) []string {
	words := []string{"a", "m", "zzzzzzzzzzzz", longest}
	for k, item := range d {
		s := item.Word
		words = append(words, s)
		if k%9 == 0 || k == len(d)-1 {
			words = append(words, s[:len(s)-1]+"a", (s + "a")[:min(len(s)+1, impl.MaxLetters)], s[:len(s)-1]+"m")
		}
	}
	return words
}

func TestP33AddedWordsAreCounted(t *testing.T) {
	for _, d := range dictSamples() {
		for _, s := range wordsToAdd(d) {
			left := impl.MaxCount - impl.DictCount(d, s)
			for _, many := range []int{1, 2, left - 1, left, left + 1, impl.MaxCount - 1, impl.MaxCount} {
				if 1 <= many && many <= impl.MaxCount {
					checkAdd(t, d, s, many)
				}
			}
		}
	}
}

func TestP33PlacesOfAddedWords(t *testing.T) {
	d := counted([]string{"b", "d", "f"}, 1, 2, 3)
	for s, words := range map[string][]string{
		"a": {"a", "b", "d", "f"}, "c": {"b", "c", "d", "f"}, "e": {"b", "d", "e", "f"}, "g": {"b", "d", "f", "g"}, "bb": {"b", "bb", "d", "f"}, "az": {"az", "b", "d", "f"},
	} {
		got, ok := impl.DictAdd(d, s, 9)
		if !ok || !slices.Equal(impl.DictWords(got), words) || impl.DictCount(got, s) != 9 {
			t.Fatalf("DictAdd(%v, %q, 9) is %v, %v", d, s, got, ok)
		}
	}
	one, ok := impl.DictAdd(nil, longest, impl.MaxCount)
	if !ok {
		t.Fatalf("DictAdd(nil, %q, MaxCount) is false", longest)
	}
	mustDict(t, "a dictionary with its first word", one, []impl.Item{{Word: longest, Count: impl.MaxCount}})
}

func TestP33WordsThatAreMetAgain(t *testing.T) {
	d := counted([]string{"b", "d", "f"}, 1, 2, 3)
	for k, item := range d {
		got, ok := impl.DictAdd(d, item.Word, 10)
		want := slices.Clone(d)
		want[k].Count += 10
		if !ok {
			t.Fatalf("DictAdd(%v, %q, 10) is false", d, item.Word)
		}
		mustDict(t, "a dictionary with a word that was met again", got, want)
	}
}

func TestP33CountsEndAtMaxCount(t *testing.T) {
	d := counted([]string{"a", "b", "c"}, impl.MaxCount-3, impl.MaxCount, 1)
	for _, x := range []struct {
		s    string
		many int
		want int
	}{{"a", 3, impl.MaxCount}, {"a", 2, impl.MaxCount - 1}, {"c", impl.MaxCount - 1, impl.MaxCount}, {"d", impl.MaxCount, impl.MaxCount}} {
		if got, ok := impl.DictAdd(d, x.s, x.many); !ok || impl.DictCount(got, x.s) != x.want {
			t.Fatalf("DictAdd(%v, %q, %d) is %v, %v", d, x.s, x.many, got, ok)
		}
	}
	checkAddRefused(t, d, "a", 4)
	checkAddRefused(t, d, "a", impl.MaxCount)
	checkAddRefused(t, d, "b", 1)
	checkAddRefused(t, d, "b", impl.MaxCount)
	checkAddRefused(t, d, "c", impl.MaxCount)
}

func TestP33FullDictionaries(t *testing.T) {
	full := counted(manyWords(60), 5, impl.MaxCount-1)
	for _, s := range []string{"a", "aaa", "b", "bmm", "zz", longest} {
		checkAddRefused(t, full, s, 1)
		checkAddRefused(t, full, s, impl.MaxCount)
	}
	for _, item := range full {
		checkAdd(t, full, item.Word, 1)
		checkAdd(t, full, item.Word, 2)
	}
	last := full[:59]
	for _, s := range []string{"a", "bgg", "zz"} {
		got, ok := impl.DictAdd(last, s, 1)
		if !ok || len(got) != 60 {
			t.Fatalf("DictAdd of %q to 59 words is %v, %v", s, got, ok)
		}
		checkAddRefused(t, got, "zzz", 1)
	}
}

func TestP33AddingInPartsIsAddingAtOnce(t *testing.T) {
	r := rand.New(rand.NewSource(33))
	for _, d := range dictSamples() {
		for _, s := range []string{"a", "m", "zz", longest, randomWord(r, 1, 3), "aa", "bh"} {
			for range 4 {
				one, two := randomCount(r), randomCount(r)
				first, ok := impl.DictAdd(d, s, one)
				if !ok {
					continue
				}
				parts, fits := impl.DictAdd(first, s, two)
				if one+two > impl.MaxCount {
					if fits {
						t.Fatalf("%d and %d times %q were added to %v", one, two, s, d)
					}
					continue
				}
				once, okOnce := impl.DictAdd(d, s, one+two)
				if fits != okOnce || fits && !slices.Equal(parts, once) {
					t.Fatalf("%d and %d times %q, added to %v: %v, %v, at once %v, %v", one, two, s, d, parts, fits, once, okOnce)
				}
			}
		}
	}
}

func checkNoAdd(t *testing.T, d []impl.Item, s string, many int) {
	t.Helper()
	if got, ok := impl.DictAdd(d, s, many); ok || len(got) != 0 {
		t.Fatalf("DictAdd(%v, %q, %d) is %v, %v", d, s, many, got, ok)
	}
}

func TestP33OtherArgumentsAddNothing(t *testing.T) {
	dicts := [][]impl.Item{nil, counted([]string{"a"}, 1), counted([]string{"car", "cat", "dog"}, 2), counted(manyWords(60), 3)}
	for _, d := range dicts {
		for _, bad := range append([]string{""}, badWords...) {
			for _, many := range []int{1, 5, impl.MaxCount, 0, -1} {
				checkNoAdd(t, d, bad, many)
			}
		}
		for _, many := range badCounts {
			for _, s := range []string{"a", "cat", "aa", "b", "zz", longest, "", "A"} {
				checkNoAdd(t, d, s, many)
			}
		}
	}
	for _, d := range brokenDicts() {
		for _, s := range []string{"a", "b", "m", "zz", "", "A"} {
			for _, many := range []int{1, impl.MaxCount, 0} {
				checkNoAdd(t, d, s, many)
			}
		}
		for _, item := range d {
			checkNoAdd(t, d, item.Word, 1)
		}
	}
}

func TestP33DictionariesWithAWordAreNew(t *testing.T) {
	for _, d := range keptDicts() {
		for _, s := range []string{"a", "aab", "b", "c", "zz", ""} {
			for _, many := range []int{1, 2, impl.MaxCount, 0} {
				checkNewItems(t, d, func(d []impl.Item) []impl.Item {
					got, _ := impl.DictAdd(d, s, many)
					return got
				})
			}
		}
	}
}

func TestP34DroppedWordsAreGone(t *testing.T) {
	for _, d := range dictSamples() {
		for _, item := range d {
			got, ok := impl.DictDrop(d, item.Word)
			want, _ := plainDrop(d, item.Word)
			if !ok || !slices.Equal(got, want) {
				t.Fatalf("DictDrop(%v, %q) is %v, %v, not %v", d, item.Word, got, ok, want)
			}
			if !impl.DictValid(got) || impl.DictCount(got, item.Word) != 0 {
				t.Fatalf("DictDrop(%v, %q) is %v", d, item.Word, got)
			}
			counts := plainCounts(got)
			for _, other := range d {
				if other.Word != item.Word && counts[other.Word] != other.Count {
					t.Fatalf("DictDrop(%v, %q): the count of %q is %d", d, item.Word, other.Word, counts[other.Word])
				}
			}
			if again, twice := impl.DictDrop(got, item.Word); twice || !slices.Equal(again, got) {
				t.Fatalf("DictDrop(%v, %q) is %v, %v", got, item.Word, again, twice)
			}
			if back, added := impl.DictAdd(got, item.Word, item.Count); !added || !slices.Equal(back, d) {
				t.Fatalf("DictAdd(%v, %q, %d) is %v, %v, not %v", got, item.Word, item.Count, back, added, d)
			}
		}
	}
}

func TestP34PlacesOfDroppedWords(t *testing.T) {
	d := counted([]string{"b", "d", "f"}, 1, 2, 3)
	for k, item := range d {
		got, ok := impl.DictDrop(d, item.Word)
		if !ok {
			t.Fatalf("DictDrop(%v, %q) is false", d, item.Word)
		}
		mustDict(t, "a dictionary without a word", got, slices.Concat(d[:k], d[k+1:]))
	}
	if got, ok := impl.DictDrop(d[:1], "b"); !ok || len(got) != 0 {
		t.Fatalf("without the only word it is %v, %v", got, ok)
	}
}

func TestP34OtherWordsAreNotDropped(t *testing.T) {
	for _, d := range dictSamples() {
		counts := plainCounts(d)
		for _, s := range nearbyWords(d) {
			if counts[s] > 0 {
				continue
			}
			if got, ok := impl.DictDrop(d, s); ok || !slices.Equal(got, d) {
				t.Fatalf("DictDrop(%v, %q) is %v, %v", d, s, got, ok)
			}
		}
	}
}

func TestP34OtherDictionariesAreNotReturned(t *testing.T) {
	for _, d := range brokenDicts() {
		words := []string{"", "a", "b", "m", "zz", "A"}
		for _, item := range d {
			words = append(words, item.Word)
		}
		for _, s := range words {
			if got, ok := impl.DictDrop(d, s); ok || len(got) != 0 {
				t.Fatalf("DictDrop(%v, %q) is %v, %v", d, s, got, ok)
			}
		}
	}
}

func TestP34DictionariesWithoutAWordAreNew(t *testing.T) {
	for _, d := range keptDicts() {
		for _, s := range []string{"a", "aa", "b", "c", "ch", "zz", "", "A"} {
			checkNewItems(t, d, func(d []impl.Item) []impl.Item {
				got, _ := impl.DictDrop(d, s)
				return got
			})
		}
	}
}

func TestP35FoundWordsBeginSo(t *testing.T) {
	for _, d := range dictSamples() {
		starts := nearbyWords(d)
		for _, item := range d {
			for k := range len(item.Word) + 1 {
				starts = append(starts, item.Word[:k])
			}
		}
		for _, start := range starts {
			got := impl.DictStarts(d, start)
			if want := plainStarts(d, start); !slices.Equal(got, want) {
				t.Fatalf("DictStarts(%v, %q) is %v, not %v", d, start, got, want)
			}
		}
		mustDict(t, "what begins with the empty word", impl.DictStarts(d, ""), d)
	}
}

func TestP35BeginningsOfSomeWords(t *testing.T) {
	d := counted([]string{"car", "care", "cared", "cart", "cat", "cb", "da"}, 5, 1, impl.MaxCount)
	for _, x := range []struct {
		start string
		from  int
		to    int
	}{
		{"", 0, 7}, {"c", 0, 6}, {"ca", 0, 5}, {"car", 0, 4}, {"care", 1, 3}, {"cared", 2, 3}, {"cart", 3, 4}, {"cat", 4, 5}, {"cb", 5, 6}, {"d", 6, 7}, {"da", 6, 7},
		{"a", 0, 0}, {"b", 0, 0}, {"carb", 0, 0}, {"careds", 0, 0}, {"cas", 0, 0}, {"cc", 0, 0}, {"dab", 0, 0}, {"z", 0, 0}, {longest, 0, 0},
	} {
		mustDict(t, "what begins with "+x.start, impl.DictStarts(d, x.start), d[x.from:x.to])
	}
	mustDict(t, "what begins with what all words have", impl.DictStarts(d[:5], "ca"), d[:5])
	mustDict(t, "what begins so in the empty dictionary", impl.DictStarts(nil, ""), nil)
}

func TestP35OtherArgumentsFindNothing(t *testing.T) {
	for _, d := range [][]impl.Item{nil, counted([]string{"a"}, 1), counted([]string{"a", longest}, 2), counted(manyWords(60), 3)} {
		for _, bad := range badWords {
			mustDict(t, "what begins with "+bad, impl.DictStarts(d, bad), nil)
		}
	}
	for _, d := range brokenDicts() {
		starts := []string{"", "a", "b", "z", "A"}
		for _, item := range d {
			starts = append(starts, item.Word)
		}
		for _, start := range starts {
			mustDict(t, "what begins with "+start, impl.DictStarts(d, start), nil)
		}
	}
}

func TestP35FoundItemsAreNew(t *testing.T) {
	for _, d := range keptDicts() {
		for _, start := range []string{"", "a", "b", "aa", "c", "zz", "A"} {
			checkNewItems(t, d, func(d []impl.Item) []impl.Item { return impl.DictStarts(d, start) })
		}
	}
}

// addBoth adds an item after another one, and reports whether both could be added.
func addBoth(d []impl.Item, one impl.Item, two impl.Item) ([]impl.Item, bool) {
	first, ok := impl.DictAdd(d, one.Word, one.Count)
	second, fits := impl.DictAdd(first, two.Word, two.Count)
	return second, ok && fits
}

func TestP116OrderOfAddingDoesNotMatter(t *testing.T) {
	r := rand.New(rand.NewSource(116))
	for _, d := range dictSamples() {
		words := []string{"a", "aa", "b", "m", "zz", longest, randomWord(r, 1, 4)}
		if len(d) > 0 {
			words = append(words, d[0].Word, d[len(d)-1].Word, d[r.Intn(len(d))].Word)
		}
		for _, a := range words {
			for _, b := range words {
				one, two := impl.Item{Word: a, Count: randomCount(r)}, impl.Item{Word: b, Count: randomCount(r)}
				there, ok := addBoth(d, one, two)
				back, fits := addBoth(d, two, one)
				if ok != fits || ok && !slices.Equal(there, back) {
					t.Fatalf("%v, with %v and %v: %v, %v, the other way round %v, %v", d, one, two, there, ok, back, fits)
				}
			}
		}
	}
}

func TestP116WordsInAnyOrder(t *testing.T) {
	r := rand.New(rand.NewSource(1160))
	for range 60 {
		want := randomDict(r, impl.MaxWords)
		if r.Intn(4) == 0 {
			want = counted(manyWords(60), 1, 4, impl.MaxCount)
		}
		// Every count is met in two parts, if it can be, so that words are met again.
		var met []impl.Item
		for _, item := range want {
			if part := r.Intn(item.Count); part > 0 {
				met = append(met, impl.Item{Word: item.Word, Count: part}, impl.Item{Word: item.Word, Count: item.Count - part})
			} else {
				met = append(met, item)
			}
		}
		r.Shuffle(len(met), func(i, j int) { met[i], met[j] = met[j], met[i] })
		var got []impl.Item
		for _, item := range met {
			more, ok := impl.DictAdd(got, item.Word, item.Count)
			if !ok {
				t.Fatalf("DictAdd(%v, %q, %d) is false", got, item.Word, item.Count)
			}
			got = more
		}
		mustDict(t, "a dictionary whose words were met in any order", got, want)
	}
}
