package tests

import (
	"math/rand"
	"slices"
	"strings"
	"sync"
	"testing"

	"loop.example/fuzzydictionary/impl"
)

// at returns hits with one distance, in the order of the words that are given.
func at(distance int, words ...string) []impl.Hit {
	hits := []impl.Hit{}
	for _, s := range words {
		hits = append(hits, impl.Hit{Word: s, Distance: distance})
	}
	return hits
}

// randomHits returns valid hits with words of a list; some words have several distances.
func randomHits(r *rand.Rand, most int) []impl.Hit {
	list := randomList(r, most)
	few := 1 + r.Intn(5)
	hits := []impl.Hit{}
	for distance := range impl.MaxErrors + 1 {
		for _, s := range list {
			if r.Intn(few) == 0 {
				hits = append(hits, at(distance, s)...)
			}
		}
	}
	return hits
}

// allDistances returns hits with all words at all distances.
func allDistances(list []string) []impl.Hit {
	hits := []impl.Hit{}
	for distance := range impl.MaxErrors + 1 {
		hits = append(hits, at(distance, list...)...)
	}
	return hits
}

// hitSamples returns valid hits: none, one at every distance, several at one distance, one word at several distances, more than MaxWords, and others.
func hitSamples() [][]impl.Hit {
	samples := [][]impl.Hit{
		nil, {}, at(0, "a"), at(1, "a"), at(2, "z"), at(3, "word"), at(4, "a"), at(0, longest), at(4, longest), at(4, "zzzzzzzzzzzz"),
		at(0, "a", "b"), at(4, "a", "aa", "ab", "b"), at(2, "cart", "cast", "cats", "scat"), at(1, "abcdefghijk", longest),
		slices.Concat(at(0, "a"), at(1, "a")), slices.Concat(at(0, "a"), at(4, "a")), slices.Concat(at(0, "b"), at(1, "a")), slices.Concat(at(3, "z"), at(4, "a")),
		slices.Concat(at(0, "cat"), at(1, "cart", "cats"), at(3, "dog"), at(4, "a", "cat", "zebra")),
		allDistances([]string{"a"}), allDistances([]string{"a", "b"}), at(0, manyWords(60)...), at(4, manyWords(61)...), allDistances(manyWords(20)),
	}
	r := rand.New(rand.NewSource(36))
	for range 30 {
		samples = append(samples, randomHits(r, 12))
	}
	return samples
}

// brokenHits returns hits that are not valid because of one of them, which is put where the order of the others allows it, if it can be.
func brokenHits() [][]impl.Hit {
	broken := [][]impl.Hit{
		at(0, "a", "a"), at(4, "a", "a"), at(0, "b", "a"), at(4, "b", "a"), at(2, "a", "b", "a"), at(2, "a", "c", "b"), at(1, "aa", "a"), at(3, "a", "b", "b"),
		slices.Concat(at(1, "a"), at(0, "b")), slices.Concat(at(1, "a"), at(0, "a")), slices.Concat(at(4, "a"), at(3, "b")), slices.Concat(at(0, "a"), at(1, "b"), at(0, "c")),
		slices.Concat(at(0, "a"), at(1, "b", "b")), slices.Concat(at(0, "a"), at(1, "c", "b")), slices.Concat(at(0, "a"), at(2, "a"), at(1, "a")),
		append(at(0, manyWords(60)...), at(0, "aa")...), append(at(3, manyWords(60)...), at(2, "zz")...),
		{{}}, {{}, {}}, {{}, {Word: "a"}}, at(4, ""), at(1, "", "a"), at(1, "a", ""), slices.Concat(at(0, "a"), at(1, "")), slices.Concat(at(0, "a"), at(1, "", "b")),
	}
	for _, bad := range badWords {
		ascending := []string{"a", "m", bad}
		slices.Sort(ascending)
		broken = append(broken, at(0, bad), at(4, bad), at(2, ascending...), slices.Concat(at(0, "a"), at(1, bad), at(2, "b")), slices.Concat(at(0, "a"), at(4, bad)))
	}
	for _, bad := range otherErrors {
		broken = append(broken, at(bad, "a"), at(bad, longest), at(bad, "a", "b"))
		if bad < 0 {
			broken = append(broken, slices.Concat(at(bad, "a"), at(0, "a"), at(4, "b")))
		} else {
			broken = append(broken, slices.Concat(at(0, "a"), at(4, "b"), at(bad, "c")))
		}
	}
	return broken
}

func mustHits(t *testing.T, name string, got []impl.Hit, want []impl.Hit) {
	t.Helper()
	if !slices.Equal(got, want) {
		t.Fatalf("%s is %v, not %v", name, got, want)
	}
}

func TestP36PartsOfHitsAreValid(t *testing.T) {
	r := rand.New(rand.NewSource(361))
	for _, hits := range hitSamples() {
		for i := 0; i <= len(hits); i++ {
			for j := i; j <= len(hits); j++ {
				if !impl.HitsValid(hits[i:j]) {
					t.Fatalf("HitsValid(%v) is false", hits[i:j])
				}
			}
		}
		var part []impl.Hit
		for _, hit := range hits {
			if r.Intn(2) == 0 {
				part = append(part, hit)
			}
		}
		if !impl.HitsValid(part) {
			t.Fatalf("HitsValid(%v) is false", part)
		}
	}
}

func TestP36FirstHitAgainIsInvalid(t *testing.T) {
	for _, hits := range hitSamples() {
		for k, hit := range hits {
			again := slices.Concat(hits, []impl.Hit{hit})
			twice := slices.Insert(slices.Clone(hits), k, hit)
			if impl.HitsValid(again) || impl.HitsValid(twice) {
				t.Fatalf("HitsValid(%v) is true with %v twice", hits, hit)
			}
		}
	}
}

func TestP36HitsAscend(t *testing.T) {
	for _, hits := range hitSamples() {
		for k := 1; k < len(hits); k++ {
			swapped := slices.Clone(hits)
			swapped[k-1], swapped[k] = swapped[k], swapped[k-1]
			if impl.HitsValid(swapped) {
				t.Fatalf("HitsValid(%v) is true", swapped)
			}
		}
	}
	words := shortWords("abz", 2)[1:]
	for d := range impl.MaxErrors + 1 {
		for e := range impl.MaxErrors + 1 {
			for _, a := range words {
				for _, b := range words {
					pair := slices.Concat(at(d, a), at(e, b))
					if want := d < e || d == e && strings.Compare(a, b) < 0; impl.HitsValid(pair) != want {
						t.Fatalf("HitsValid(%v) is %v", pair, !want)
					}
				}
			}
		}
	}
}

func TestP36DistancesAreInBounds(t *testing.T) {
	for distance := -30; distance <= 30; distance++ {
		for _, s := range []string{"a", "word", longest} {
			if want := 0 <= distance && distance <= 4; impl.HitsValid(at(distance, s)) != want {
				t.Fatalf("HitsValid(%v) is %v", at(distance, s), !want)
			}
		}
	}
	for _, hits := range hitSamples() {
		for k := range hits {
			for _, bad := range otherErrors {
				broken := slices.Clone(hits)
				broken[k].Distance = bad
				if impl.HitsValid(broken) {
					t.Fatalf("HitsValid(%v) is true", broken)
				}
			}
		}
	}
}

// The document names no bound for the number of hits.
func TestP36ManyHitsAreValid(t *testing.T) {
	for _, many := range []int{59, 60, 61, 120, 300, 676} {
		if !impl.HitsValid(at(2, manyWords(many)...)) || !impl.HitsValid(allDistances(manyWords(many))) {
			t.Fatalf("HitsValid of %d words is false", many)
		}
	}
}

func TestP36OtherHitsAreInvalid(t *testing.T) {
	for _, hits := range brokenHits() {
		if impl.HitsValid(hits) {
			t.Fatalf("HitsValid(%v) is true", hits)
		}
	}
}

func TestP36HitsAreKept(t *testing.T) {
	for _, hits := range append(hitSamples(), brokenHits()...) {
		before := slices.Clone(hits)
		impl.HitsValid(hits)
		mustHits(t, "what was passed to HitsValid", hits, before)
	}
}

// scanCase is a valid list, a valid word that is looked for, and the distances of all words of the list from it.
type scanCase struct {
	list      []string
	s         string
	distances []int
}

// hits returns what a scan with a number of errors finds: distance by distance, and with each of them word by word.
func (c scanCase) hits(errors int) []impl.Hit {
	found := []impl.Hit{}
	for distance := range errors + 1 {
		for k, s := range c.list {
			if c.distances[k] == distance {
				found = append(found, at(distance, s)...)
			}
		}
	}
	return found
}

// nearest returns the words with the least distance, and this distance.
func (c scanCase) nearest() ([]string, int) {
	if len(c.list) == 0 {
		return nil, -1
	}
	least := slices.Min(c.distances)
	words := []string{}
	for k, s := range c.list {
		if c.distances[k] == least {
			words = append(words, s)
		}
	}
	return words, least
}

func newScanCase(list []string, s string) scanCase {
	c := scanCase{list: list, s: s}
	for _, word := range list {
		c.distances = append(c.distances, plainEdit(word, s))
	}
	return c
}

// scanCases returns lists with words that are looked for in them: the empty one, words of MaxLetters letters, words of the list, and words that are near to these.
var scanCases = sync.OnceValue(func() []scanCase {
	var cases []scanCase
	for _, list := range [][]string{shortWords("ab", 4)[1:], shortWords("amz", 3)[1:]} {
		for _, s := range append(shortWords("ab", 4), "amz", "mzmz", longest) {
			cases = append(cases, newScanCase(list, s))
		}
	}
	r := rand.New(rand.NewSource(37))
	for _, list := range append(validListSamples(), []string{"cart", "cast", "cat", "cats", "cot", "dog", "scat"}, []string{longest, "zzzzzzzzzzzz"}) {
		words := []string{"", "a", "cat", longest, "zzzzzzzzzzzz", randomWord(r, 1, 4)}
		for range min(4, len(list)) {
			s := list[r.Intn(len(list))]
			words = append(words, s, damaged(r, s))
		}
		for _, s := range words {
			cases = append(cases, newScanCase(list, s))
		}
	}
	return cases
})

func TestP37ScansOfSomeLists(t *testing.T) {
	cats := []string{"cart", "cast", "cat", "cats", "cot", "dog", "scat"}
	for _, x := range []struct {
		list   []string
		s      string
		errors int
		want   []impl.Hit
	}{
		{nil, "", 0, nil}, {nil, "cat", 4, nil}, {nil, longest, 4, nil},
		{[]string{"a"}, "", 0, nil}, {[]string{"a"}, "", 1, at(1, "a")}, {[]string{"a"}, "a", 0, at(0, "a")}, {[]string{"a"}, "b", 0, nil}, {[]string{"a"}, "b", 1, at(1, "a")},
		{[]string{"dog"}, "cat", 2, nil}, {[]string{"dog"}, "cat", 3, at(3, "dog")},
		{cats, "cat", 0, at(0, "cat")},
		{cats, "cat", 1, slices.Concat(at(0, "cat"), at(1, "cart", "cast", "cats", "cot", "scat"))},
		{cats, "cat", 2, slices.Concat(at(0, "cat"), at(1, "cart", "cast", "cats", "cot", "scat"))},
		{cats, "cat", 3, slices.Concat(at(0, "cat"), at(1, "cart", "cast", "cats", "cot", "scat"), at(3, "dog"))},
		{cats, "do", 1, at(1, "dog")},
		{cats, "do", 2, slices.Concat(at(1, "dog"), at(2, "cot"))},
		{cats, "", 2, nil},
		{cats, "", 3, at(3, "cat", "cot", "dog")},
		{cats, "", 4, slices.Concat(at(3, "cat", "cot", "dog"), at(4, "cart", "cast", "cats", "scat"))},
		{[]string{"ab", "ba"}, "ab", 1, at(0, "ab")}, {[]string{"ab", "ba"}, "ab", 2, slices.Concat(at(0, "ab"), at(2, "ba"))}, {[]string{"ab", "ba"}, "ba", 2, slices.Concat(at(0, "ba"), at(2, "ab"))},
		{[]string{"kitten", "sitting"}, "sitting", 3, slices.Concat(at(0, "sitting"), at(3, "kitten"))}, {[]string{"kitten", "sitting"}, "sitting", 2, at(0, "sitting")},
		{[]string{"abcdefgh", "abcdefghi", "abcdefghijk", longest}, longest, 4, slices.Concat(at(0, longest), at(1, "abcdefghijk"), at(3, "abcdefghi"), at(4, "abcdefgh"))},
		{[]string{"abcdefg", "abcdefgh", longest}, longest, 3, at(0, longest)},
		{[]string{longest, "zzzzzzzzzzzz"}, "aaaaaaaaaaaa", 4, nil},
	} {
		mustHits(t, "a scan for "+x.s, impl.ScanWords(x.list, x.s, x.errors), x.want)
	}
}

func TestP37ScansFindEverythingNear(t *testing.T) {
	for _, c := range scanCases() {
		for errors := range impl.MaxErrors + 1 {
			got := impl.ScanWords(c.list, c.s, errors)
			if want := c.hits(errors); !slices.Equal(got, want) {
				t.Fatalf("ScanWords(%q, %q, %d) is %v, not %v", c.list, c.s, errors, got, want)
			}
			if !impl.HitsValid(got) {
				t.Fatalf("ScanWords(%q, %q, %d) is %v, which is not valid", c.list, c.s, errors, got)
			}
		}
	}
}

func TestP37HitsHaveTheirDistance(t *testing.T) {
	for _, c := range scanCases() {
		for errors := range impl.MaxErrors + 1 {
			hits := impl.ScanWords(c.list, c.s, errors)
			for _, s := range c.list {
				distance := impl.EditDistance(s, c.s)
				if slices.Contains(hits, impl.Hit{Word: s, Distance: distance}) != (distance <= errors) {
					t.Fatalf("ScanWords(%q, %q, %d) is %v, the distance of %q is %d", c.list, c.s, errors, hits, s, distance)
				}
			}
		}
	}
}

// Each word of the list is one letter shorter than the next one, so there is one at exactly every number of errors.
func TestP37ExactlyAsManyErrors(t *testing.T) {
	var list []string
	for k := range impl.MaxLetters {
		list = append(list, longest[:k+1])
	}
	for size := range impl.MaxLetters + 1 {
		for errors := range impl.MaxErrors + 1 {
			var want []impl.Hit
			for distance := range errors + 1 {
				if 1 <= size-distance {
					want = append(want, at(distance, longest[:size-distance])...)
				}
				if distance > 0 && size+distance <= impl.MaxLetters {
					want = append(want, at(distance, longest[:size+distance])...)
				}
			}
			mustHits(t, "a scan for "+longest[:size], impl.ScanWords(list, longest[:size], errors), want)
		}
	}
}

func TestP37WordsAtTheSameDistance(t *testing.T) {
	full := manyWords(60)
	mustHits(t, "a scan for the empty word", impl.ScanWords(full, "", 1), nil)
	mustHits(t, "a scan for the empty word", impl.ScanWords(full, "", 2), at(2, full...))
	mustHits(t, "a scan for zz", impl.ScanWords(full, "zz", 4), slices.Concat(at(1, "az", "bz"), at(2, slices.DeleteFunc(manyWords(60), func(s string) bool { return s[1] == 'z' })...)))
	near := at(1, "ba", "ca")
	for k := range 26 {
		if s := string([]byte{'a', byte('a' + k)}); s != "aa" {
			near = append(near, at(1, s)...)
		}
	}
	slices.SortFunc(near, func(a impl.Hit, b impl.Hit) int { return strings.Compare(a.Word, b.Word) })
	mustHits(t, "a scan for aa", impl.ScanWords(full, "aa", 1), append(at(0, "aa"), near...))
}

// eachBrokenSearch runs a check for lists that are not valid, with words that are in them or near, and for words that are not valid.
func eachBrokenSearch(check func(list []string, s string)) {
	for _, list := range append(brokenLists(), manyWords(62), manyWords(200)) {
		for _, s := range append(slices.Clone(list), "", "a", "b", "m", "aa", longest) {
			check(list, s)
		}
	}
	for _, list := range [][]string{nil, {"a"}, {"a", "b"}, {"abcdefghijk", longest}, manyWords(60)} {
		for _, bad := range badWords {
			check(list, bad)
		}
	}
}

func TestP37OtherListsAndWordsAreNotScanned(t *testing.T) {
	eachBrokenSearch(func(list []string, s string) {
		for _, errors := range []int{0, 1, 2, 3, 4, -1, 5} {
			if got := impl.ScanWords(list, s, errors); len(got) != 0 {
				t.Fatalf("ScanWords(%q, %q, %d) is %v", list, s, errors, got)
			}
		}
	})
}

func TestP37OtherErrorsFindNothing(t *testing.T) {
	for _, list := range [][]string{nil, {"a"}, {"a", "b"}, {"abcdefghijk", longest}, manyWords(60)} {
		for _, errors := range otherErrors {
			for _, s := range []string{"", "a", "aa", "b", "zz", longest} {
				if got := impl.ScanWords(list, s, errors); len(got) != 0 {
					t.Fatalf("ScanWords(%q, %q, %d) is %v", list, s, errors, got)
				}
			}
		}
	}
}

// spoilHits overwrites hits, and the room behind them.
func spoilHits(hits []impl.Hit) {
	hits = hits[:cap(hits)]
	for k := range hits {
		hits[k] = impl.Hit{Word: "spoilt", Distance: -7}
	}
}

// keptLists are lists that are valid and others.
func keptLists() [][]string {
	return [][]string{nil, {"b"}, {"a", "b", "c"}, {"c", "b", "a"}, {"b", "b", "a"}, {"a", "A"}, manyWords(59), manyWords(60), manyWords(61)}
}

func TestP37HitsAreNew(t *testing.T) {
	for _, list := range keptLists() {
		for _, s := range []string{"", "a", "b", "aa", "A"} {
			for errors := range impl.MaxErrors + 2 {
				mustKeep(t, list, func(list []string) {
					got, again := impl.ScanWords(list, s, errors), impl.ScanWords(list, s, errors)
					want := slices.Clone(got)
					spoilHits(got)
					mustHits(t, "a second scan for "+s, again, want)
				})
			}
		}
	}
}

// plainJoin looks for every word at every distance in both lists.
func plainJoin(a []impl.Hit, b []impl.Hit) []impl.Hit {
	in := map[impl.Hit]bool{}
	var words []string
	for _, hit := range slices.Concat(a, b) {
		in[hit] = true
		words = append(words, hit.Word)
	}
	joined := []impl.Hit{}
	for _, hit := range allDistances(plainList(words)) {
		if in[hit] {
			joined = append(joined, hit)
		}
	}
	return joined
}

// checkJoin holds JoinHits, in both orders, against hits.
func checkJoin(t *testing.T, a []impl.Hit, b []impl.Hit, want []impl.Hit) {
	t.Helper()
	there, back := impl.JoinHits(a, b), impl.JoinHits(b, a)
	if !slices.Equal(there, want) || !slices.Equal(back, want) {
		t.Fatalf("%v and %v, joined, are %v, the other way round %v, not %v", a, b, there, back, want)
	}
	if !impl.HitsValid(there) {
		t.Fatalf("%v and %v, joined, are %v, which is not valid", a, b, there)
	}
}

func TestP38JoinsOfSomeHits(t *testing.T) {
	for _, x := range []struct{ a, b, want []impl.Hit }{
		{nil, nil, nil},
		{nil, []impl.Hit{}, nil},
		{nil, at(0, "a"), at(0, "a")},
		{nil, slices.Concat(at(0, "b"), at(4, "a")), slices.Concat(at(0, "b"), at(4, "a"))},
		{at(0, "a"), at(0, "a"), at(0, "a")},
		{at(0, "a"), at(0, "b"), at(0, "a", "b")},
		{at(0, "b"), at(1, "a"), slices.Concat(at(0, "b"), at(1, "a"))},
		{at(0, "a"), at(4, "a"), slices.Concat(at(0, "a"), at(4, "a"))},
		{at(1, "a", "c"), at(1, "b", "d"), at(1, "a", "b", "c", "d")},
		{at(1, "a", "b", "c"), at(1, "b", "c", "d"), at(1, "a", "b", "c", "d")},
		{slices.Concat(at(0, "b"), at(2, "c")), slices.Concat(at(1, "a"), at(2, "c")), slices.Concat(at(0, "b"), at(1, "a"), at(2, "c"))},
		{slices.Concat(at(0, "a"), at(2, "a"), at(4, "a")), slices.Concat(at(1, "a"), at(3, "a")), allDistances([]string{"a"})},
		{slices.Concat(at(0, "z"), at(1, "a")), slices.Concat(at(0, "a"), at(1, "z")), allDistances([]string{"a", "z"})[:4]},
		{at(2, "ab"), at(2, "a", "abc"), at(2, "a", "ab", "abc")},
		{at(3, "abcdefghijk"), at(3, longest), at(3, "abcdefghijk", longest)},
		{at(0, "a"), at(3, "b", "c"), slices.Concat(at(0, "a"), at(3, "b", "c"))},
		{at(4, manyWords(60)...), at(4, manyWords(90)[30:]...), at(4, manyWords(90)...)},
	} {
		checkJoin(t, x.a, x.b, x.want)
	}
}

func TestP38JoinedHitsAreThoseOfBoth(t *testing.T) {
	samples := hitSamples()
	for i, a := range samples {
		for _, b := range samples[:i+1] {
			checkJoin(t, a, b, plainJoin(a, b))
		}
	}
	r := rand.New(rand.NewSource(38))
	for range 100 {
		a, b := randomHits(r, impl.MaxWords), randomHits(r, impl.MaxWords)
		checkJoin(t, a, b, plainJoin(a, b))
	}
}

func TestP38HitsJoinedWithAPartOfThem(t *testing.T) {
	r := rand.New(rand.NewSource(381))
	for _, hits := range hitSamples() {
		checkJoin(t, hits, hits, hits)
		checkJoin(t, hits, nil, hits)
		for k := 0; k <= len(hits); k++ {
			checkJoin(t, hits, hits[:k], hits)
			checkJoin(t, hits, hits[k:], hits)
			checkJoin(t, hits[:k], hits[k:], hits)
			checkJoin(t, hits, hits[k:min(k+1, len(hits))], hits)
		}
		part := slices.DeleteFunc(slices.Clone(hits), func(impl.Hit) bool { return r.Intn(2) == 0 })
		checkJoin(t, hits, part, hits)
	}
}

// Every hit is dealt to the one list or the other one, or to both.
func TestP38HitsThatGoIntoEachOther(t *testing.T) {
	r := rand.New(rand.NewSource(382))
	for _, hits := range hitSamples() {
		var even, odd, one, two []impl.Hit
		for k, hit := range hits {
			if k%2 == 0 {
				even = append(even, hit)
			} else {
				odd = append(odd, hit)
			}
			to := r.Intn(3)
			if to != 1 {
				one = append(one, hit)
			}
			if to != 0 {
				two = append(two, hit)
			}
		}
		checkJoin(t, even, odd, hits)
		checkJoin(t, one, two, hits)
	}
}

func TestP38OtherHitsAreNotJoined(t *testing.T) {
	broken := brokenHits()
	for k, bad := range broken {
		for _, other := range [][]impl.Hit{nil, at(0, "a"), at(4, "z"), allDistances([]string{"a", "b"}), at(2, manyWords(60)...), bad, broken[(k+7)%len(broken)]} {
			mustHits(t, "what was joined with other hits", impl.JoinHits(other, bad), nil)
			mustHits(t, "what was joined to other hits", impl.JoinHits(bad, other), nil)
		}
	}
}

// withRoom returns hits with further ones behind them, which are not among the hits that are passed on.
func withRoom(hits []impl.Hit) []impl.Hit {
	return slices.Concat(hits, at(3, "behind", "after"))
}

func TestP38JoinedHitsAreNew(t *testing.T) {
	samples := [][]impl.Hit{nil, at(0, "a"), at(2, "b", "c"), slices.Concat(at(0, "b"), at(1, "a"), at(2, "c")), allDistances(manyWords(20)), at(0, "b", "a"), at(5, "a"), at(0, "")}
	for _, a := range samples {
		for _, b := range samples {
			roomA, roomB := withRoom(a), withRoom(b)
			got := impl.JoinHits(roomA[:len(a)], roomB[:len(b)])
			again := impl.JoinHits(roomA[:len(a)], roomB[:len(b)])
			want := slices.Clone(got)
			spoilHits(got)
			mustHits(t, "what was joined", roomA, withRoom(a))
			mustHits(t, "what was joined to it", roomB, withRoom(b))
			mustHits(t, "a second join", again, want)
			spoilHits(roomA)
			spoilHits(roomB)
			mustHits(t, "a second join", again, want)
		}
	}
}

func TestP38PartsOfOneSliceAreKept(t *testing.T) {
	hits := allDistances([]string{"a", "b"})
	room := withRoom(hits)
	for i := 0; i <= len(hits); i++ {
		for j := i; j <= len(hits); j++ {
			mustHits(t, "what was joined", impl.JoinHits(room[:j], room[i:len(hits)]), hits)
			spoilHits(impl.JoinHits(room[i:len(hits)], room[:j]))
			mustHits(t, "the parts that were joined", room, withRoom(hits))
		}
	}
}

func checkNearest(t *testing.T, list []string, s string, words []string, distance int) {
	t.Helper()
	if got, least := impl.NearestWords(list, s); least != distance || !slices.Equal(got, words) {
		t.Fatalf("NearestWords(%q, %q) is %q, %d, not %q, %d", list, s, got, least, words, distance)
	}
}

func TestP39NearestWordsOfSomeLists(t *testing.T) {
	cats := []string{"cart", "cast", "cat", "cats", "cot", "dog", "scat"}
	for _, x := range []struct {
		list     []string
		s        string
		words    []string
		distance int
	}{
		{cats, "cat", []string{"cat"}, 0}, {cats, "dog", []string{"dog"}, 0}, {cats, "scat", []string{"scat"}, 0},
		{cats, "cut", []string{"cat", "cot"}, 1}, {cats, "cas", []string{"cast", "cat", "cats"}, 1}, {cats, "dogs", []string{"dog"}, 1},
		{cats, "", []string{"cat", "cot", "dog"}, 3}, {cats, "xyz", []string{"cat", "cot", "dog"}, 3}, {cats, "xyzw", []string{"cart", "cast", "cat", "cats", "cot", "dog", "scat"}, 4},
		{[]string{"cart", "cats", "dog"}, "cat", []string{"cart", "cats"}, 1},
		{[]string{"dog"}, "cat", []string{"dog"}, 3}, {[]string{"a"}, "", []string{"a"}, 1}, {[]string{"a"}, "a", []string{"a"}, 0},
		{[]string{"ab", "ba"}, "ab", []string{"ab"}, 0}, {[]string{"ab", "cd"}, "ba", []string{"ab", "cd"}, 2},
		{[]string{"stones"}, "", []string{"stones"}, 6}, {[]string{"stones"}, "a", []string{"stones"}, 6}, {[]string{"abcde", "vwxyz"}, "lmnop", []string{"abcde", "vwxyz"}, 5},
		{[]string{longest}, "", []string{longest}, 12}, {[]string{longest}, longest, []string{longest}, 0}, {[]string{longest, "zzzzzzzzzzzz"}, "mmmmmmmmmmmm", []string{longest, "zzzzzzzzzzzz"}, 12},
		{[]string{"abcdefghijk", longest}, longest, []string{longest}, 0}, {[]string{"a", longest}, "zzzzzzzzzzzz", []string{"a", longest}, 12}, {[]string{"a", longest}, "aaaaaaaaaaaa", []string{"a", longest}, 11},
		{manyWords(60), "", manyWords(60), 2}, {manyWords(60), "zzz", []string{"az", "bz"}, 2}, {manyWords(60), "ch", []string{"ch"}, 0},
	} {
		checkNearest(t, x.list, x.s, x.words, x.distance)
	}
}

func TestP39NearestWordsHaveTheLeastDistance(t *testing.T) {
	for _, c := range scanCases() {
		words, least := c.nearest()
		checkNearest(t, c.list, c.s, words, least)
	}
}

func TestP39NoWordIsNearer(t *testing.T) {
	for _, c := range scanCases() {
		words, least := impl.NearestWords(c.list, c.s)
		for _, s := range c.list {
			distance := impl.EditDistance(s, c.s)
			if distance < least || (distance == least) != slices.Contains(words, s) {
				t.Fatalf("NearestWords(%q, %q) is %q, %d, the distance of %q is %d", c.list, c.s, words, least, s, distance)
			}
		}
		if !impl.ListValid(words) || len(words) == 0 && len(c.list) > 0 {
			t.Fatalf("NearestWords(%q, %q) is %q", c.list, c.s, words)
		}
	}
}

func TestP39WordsOfTheListAreTheirOwnNearest(t *testing.T) {
	for _, list := range validListSamples() {
		for _, s := range list {
			checkNearest(t, list, s, []string{s}, 0)
		}
	}
}

func TestP39NearestWordsAreTheFirstHits(t *testing.T) {
	for _, c := range scanCases() {
		words, least := impl.NearestWords(c.list, c.s)
		for errors := range impl.MaxErrors + 1 {
			hits := impl.ScanWords(c.list, c.s, errors)
			if least < 0 || errors < least {
				mustHits(t, "a scan for what is not near", hits, nil)
			} else if !slices.Equal(hits[:min(len(words), len(hits))], at(least, words...)) {
				t.Fatalf("ScanWords(%q, %q, %d) is %v, the nearest words are %q", c.list, c.s, errors, hits, words)
			}
		}
	}
}

func TestP39NothingIsNear(t *testing.T) {
	for _, s := range []string{"", "a", "cat", longest} {
		checkNearest(t, nil, s, nil, -1)
		checkNearest(t, []string{}, s, nil, -1)
	}
	eachBrokenSearch(func(list []string, s string) { checkNearest(t, list, s, nil, -1) })
}

func TestP39NearestWordsAreNew(t *testing.T) {
	for _, list := range keptLists() {
		for _, s := range []string{"", "a", "b", "zz", longest, "A"} {
			var again []string
			var want []string
			mustKeep(t, list, func(list []string) {
				got, _ := impl.NearestWords(list, s)
				again, _ = impl.NearestWords(list, s)
				want = slices.Clone(got)
				got = got[:cap(got)]
				for k := range got {
					got[k] = "spoilt"
				}
			})
			mustSame(t, s, again, want)
			room := slices.Concat(list, []string{"behind"})
			last, _ := impl.NearestWords(room[:len(list)], s)
			for k := range room {
				room[k] = "spoilt"
			}
			mustSame(t, s, last, want)
		}
	}
}

func mustSame(t *testing.T, s string, got []string, want []string) {
	t.Helper()
	if !slices.Equal(got, want) {
		t.Fatalf("the words nearest to %q are shared: %q, before %q", s, got, want)
	}
}

func TestP117MoreErrorsFindMore(t *testing.T) {
	for _, c := range scanCases() {
		var before []impl.Hit
		for errors := range impl.MaxErrors + 1 {
			hits := impl.ScanWords(c.list, c.s, errors)
			if len(hits) < len(before) || !slices.Equal(hits[:len(before)], before) {
				t.Fatalf("ScanWords(%q, %q, %d) is %v, and with an error less %v", c.list, c.s, errors, hits, before)
			}
			for _, hit := range hits[len(before):] {
				if hit.Distance != errors {
					t.Fatalf("ScanWords(%q, %q, %d) has %v, which was not found with an error less", c.list, c.s, errors, hit)
				}
			}
			before = hits
		}
	}
}

func TestP117MoreErrorsInSomeLists(t *testing.T) {
	list := []string{"abcd", "abcdefgh", "stone", "stoned", "stones", "ston", "store", "tone", "zzzzz"}
	slices.Sort(list)
	all := slices.Concat(at(0, "stone"), at(1, "ston", "stoned", "stones", "store", "tone"))
	for errors, many := range []int{1, 6, 6, 6, 6} {
		mustHits(t, "a scan for stone", impl.ScanWords(list, "stone", errors), all[:many])
	}
	all = slices.Concat(at(0, "abcd"), at(4, "abcdefgh", "ston", "tone"))
	for errors, many := range []int{1, 1, 1, 1, 4} {
		mustHits(t, "a scan for abcd", impl.ScanWords(list, "abcd", errors), all[:many])
	}
	for errors := range impl.MaxErrors + 1 {
		mustHits(t, "a scan of the empty list", impl.ScanWords(nil, "stone", errors), nil)
	}
}

// Numbers of errors that are not asked for find nothing, so no hits are the first ones of theirs.
func TestP117OtherErrorsFindNothing(t *testing.T) {
	for _, c := range scanCases() {
		for _, errors := range []int{-1, impl.MaxErrors + 1} {
			mustHits(t, "a scan with other errors", impl.ScanWords(c.list, c.s, errors), nil)
		}
	}
}

func checkParts(t *testing.T, c scanCase, one []string, two []string) {
	t.Helper()
	for errors := range impl.MaxErrors + 1 {
		want := c.hits(errors)
		mustHits(t, "the list", impl.ScanWords(c.list, c.s, errors), want)
		checkJoin(t, impl.ScanWords(one, c.s, errors), impl.ScanWords(two, c.s, errors), want)
	}
}

func TestP118PartsAreScannedApart(t *testing.T) {
	r := rand.New(rand.NewSource(118))
	for _, c := range scanCases() {
		size := len(c.list)
		for _, k := range []int{0, min(1, size), size / 2, size, r.Intn(size + 1)} {
			checkParts(t, c, c.list[:k], c.list[k:])
		}
		k := r.Intn(size + 1)
		checkParts(t, c, c.list[:k], c.list[r.Intn(k+1):])
		checkParts(t, c, c.list, c.list)
	}
}

func TestP118WordsInTurns(t *testing.T) {
	for _, c := range scanCases() {
		var even, odd []string
		for k, s := range c.list {
			if k%2 == 0 {
				even = append(even, s)
			} else {
				odd = append(odd, s)
			}
		}
		checkParts(t, c, even, odd)
	}
}

func TestP118WordsOneByOne(t *testing.T) {
	for _, c := range scanCases() {
		for errors := range impl.MaxErrors + 1 {
			var joined []impl.Hit
			for _, s := range c.list {
				joined = impl.JoinHits(impl.ScanWords([]string{s}, c.s, errors), joined)
			}
			mustHits(t, "what was joined word by word", joined, c.hits(errors))
		}
	}
}

// What is found in a part that is no list is nothing, and so does not change what is found in the other one.
func TestP118PartsThatAreNoLists(t *testing.T) {
	list := []string{"cart", "cat", "dog"}
	for _, other := range brokenLists() {
		for errors := range impl.MaxErrors + 1 {
			checkJoin(t, impl.ScanWords(list, "cat", errors), impl.ScanWords(other, "cat", errors), impl.ScanWords(list, "cat", errors))
		}
	}
}
