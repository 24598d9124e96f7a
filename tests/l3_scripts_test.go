package tests

import (
	"math"
	"math/rand"
	"slices"
	"strings"
	"testing"

	"loop.example/fuzzydictionary/impl"
)

const (
	longestText = "abcdefghijklmnopqrstuvwx"  // MaxText letters
	tooLongText = "abcdefghijklmnopqrstuvwxy" // one letter more
)

const allLetters = "abcdefghijklmnopqrstuvwxyz"

func insert(at int, letter byte) impl.Edit {
	return impl.Edit{Kind: impl.EditInsert, At: at, Letter: letter}
}

func remove(at int) impl.Edit {
	return impl.Edit{Kind: impl.EditRemove, At: at}
}

func replace(at int, letter byte) impl.Edit {
	return impl.Edit{Kind: impl.EditReplace, At: at, Letter: letter}
}

// badTexts returns texts that are too long, or have other bytes than letters a to z.
func badTexts() []string {
	bad := []string{tooLongText, tooLongText + "z", strings.Repeat("a", 25), strings.Repeat("z", 48), strings.Repeat("a", 1000), strings.Repeat("\u00e9", 12), strings.Repeat("A", 25)}
	for _, s := range badWords {
		if strings.Trim(s, allLetters) != "" {
			bad = append(bad, s)
		}
	}
	for _, c := range []string{"A", "Z", "`", "{", " ", "0", "\x00", "\x80", "\xff"} {
		for _, s := range []string{longest, longestText} {
			for k := range s {
				bad = append(bad, s[:k]+c+s[k+1:])
			}
		}
	}
	return bad
}

func goodTexts() []string {
	texts := []string{"", "a", "z", "aa", "ab", "cat", "stone", "abcdefghijk", longest, tooLong, longestText[:23], longestText, tooLongText[1:], strings.Repeat("a", 23), strings.Repeat("a", 24), strings.Repeat("z", 24)}
	r := rand.New(rand.NewSource(20))
	for range 10 {
		texts = append(texts, randomWord(r, 0, impl.MaxText))
	}
	return texts
}

// possibleEdits returns all changes of a text that are possible, and the texts after them.
func possibleEdits(s string) map[impl.Edit]string {
	after := map[impl.Edit]string{}
	for at := 0; at <= len(s); at++ {
		for _, c := range []byte(allLetters) {
			if len(s) < 24 {
				after[insert(at, c)] = s[:at] + string(c) + s[at:]
			}
			if at < len(s) && c != s[at] {
				after[replace(at, c)] = s[:at] + string(c) + s[at+1:]
			}
		}
		if at < len(s) {
			after[remove(at)] = s[:at] + s[at+1:]
		}
	}
	return after
}

// conceivableEdits returns changes of a text, possible or not: of all kinds and none, inside and outside, with every byte.
func conceivableEdits(s string) []impl.Edit {
	places := []int{math.MinInt, math.MinInt32, -100, -2, -1, len(s) + 1, len(s) + 2, 24, 25, 256, math.MaxInt32, math.MaxInt}
	for at := 0; at <= len(s); at++ {
		places = append(places, at)
	}
	var all []impl.Edit
	for _, kind := range []int{math.MinInt, -3, -2, -1, 0, impl.EditInsert, impl.EditRemove, impl.EditReplace, 4, 5, 257, math.MaxInt} {
		for _, at := range places {
			for letter := range 256 {
				all = append(all, impl.Edit{Kind: kind, At: at, Letter: byte(letter)})
			}
		}
	}
	return all
}

// randomEdit returns a change of a text that is possible; kind none leaves it open.
func randomEdit(r *rand.Rand, s string, kind int) impl.Edit {
	if kind == 0 {
		kind = 1 + r.Intn(3)
	}
	if s == "" || kind == impl.EditInsert && len(s) < impl.MaxText {
		return insert(r.Intn(len(s)+1), byte('a'+r.Intn(26)))
	}
	at := r.Intn(len(s))
	if kind == impl.EditReplace {
		return replace(at, 'a'+(s[at]-'a'+byte(1+r.Intn(25)))%26)
	}
	return remove(at)
}

// randomScript returns many changes that are possible one after the other, and the text after them.
func randomScript(r *rand.Rand, s string, many int) ([]impl.Edit, string) {
	var script []impl.Edit
	kind := r.Intn(4)
	for range many {
		e := randomEdit(r, s, kind)
		script = append(script, e)
		s = possibleEdits(s)[e]
	}
	return script, s
}

// mustLead fails unless a script leads from one text to another one.
func mustLead(t *testing.T, s string, script []impl.Edit, want string) {
	t.Helper()
	if got, ok := impl.ApplyScript(s, script); !ok || got != want {
		t.Fatalf("ApplyScript(%q, %v) is %q, %v, not %q", s, script, got, ok, want)
	}
}

// mustRefuse fails unless a script is not possible.
func mustRefuse(t *testing.T, s string, script []impl.Edit) {
	t.Helper()
	if got, ok := impl.ApplyScript(s, script); ok || got != "" {
		t.Fatalf("ApplyScript(%q, %v) is %q, %v", s, script, got, ok)
	}
}

func TestConstantsOfScripts(t *testing.T) {
	if impl.EditInsert != 1 || impl.EditRemove != 2 || impl.EditReplace != 3 || impl.MaxText != 24 {
		t.Fatalf("the kinds are %d, %d and %d, MaxText is %d", impl.EditInsert, impl.EditRemove, impl.EditReplace, impl.MaxText)
	}
}

// plainScript follows the document, on the words themselves; known has the distances of words that were met before.
func plainScript(a string, b string, known map[[2]string]int) []impl.Edit {
	distance := func(a string, b string) int { return plainDistance(a, b, false, known) }
	var script []impl.Edit
	for a != "" || b != "" {
		shorterA, shorterB := a[:max(len(a)-1, 0)], b[:max(len(b)-1, 0)]
		d := distance(a, b)
		if a != "" && b != "" && a[len(a)-1] == b[len(b)-1] {
			a, b = shorterA, shorterB
		} else if a != "" && distance(shorterA, b) == d-1 {
			script = append(script, remove(len(a)-1))
			a = shorterA
		} else if b != "" && distance(a, shorterB) == d-1 {
			script = append(script, insert(len(a), b[len(b)-1]))
			b = shorterB
		} else {
			script = append(script, replace(len(a)-1, b[len(b)-1]))
			a, b = shorterA, shorterB
		}
	}
	return script
}

func checkScript(t *testing.T, a string, b string, want []impl.Edit) {
	t.Helper()
	if got := impl.EditScript(a, b); !slices.Equal(got, want) {
		t.Fatalf("EditScript(%q, %q) is %v, not %v", a, b, got, want)
	}
}

// scriptPairs are pairs of words with many choices, beside the common ones.
func scriptPairs() [][2]string {
	pairs := wordPairs()
	words := shortWords("abc", 4)
	for _, a := range words {
		for _, b := range words {
			pairs = append(pairs, [2]string{a, b})
		}
	}
	return pairs
}

var knownScripts = []struct {
	a, b   string
	script []impl.Edit
}{
	{"", "", nil},
	{"a", "a", nil},
	{"cat", "cat", nil},
	{longest, longest, nil},
	{"", "a", []impl.Edit{insert(0, 'a')}},
	{"", "abc", []impl.Edit{insert(0, 'c'), insert(0, 'b'), insert(0, 'a')}},
	{"a", "", []impl.Edit{remove(0)}},
	{"abc", "", []impl.Edit{remove(2), remove(1), remove(0)}},
	{"a", "z", []impl.Edit{replace(0, 'z')}},
	{"cat", "cut", []impl.Edit{replace(1, 'u')}},
	{"cat", "bat", []impl.Edit{replace(0, 'b')}},
	{"cat", "car", []impl.Edit{replace(2, 'r')}},
	{"ab", "b", []impl.Edit{remove(0)}},
	{"b", "ab", []impl.Edit{insert(0, 'a')}},
	{"stone", "stones", []impl.Edit{insert(5, 's')}},
	{"stones", "stone", []impl.Edit{remove(5)}},
	{"stone", "tone", []impl.Edit{remove(0)}},
	{"tone", "stone", []impl.Edit{insert(0, 's')}},
	{"cat", "chat", []impl.Edit{insert(1, 'h')}},
	{"chat", "cat", []impl.Edit{remove(1)}},
	{"kitten", "sitting", []impl.Edit{insert(6, 'g'), replace(4, 'i'), replace(0, 's')}},
	{"sitting", "kitten", []impl.Edit{remove(6), replace(4, 'e'), replace(0, 'k')}},
	// Of equal letters the last ones stay.
	{"aa", "a", []impl.Edit{remove(0)}},
	{"a", "aa", []impl.Edit{insert(0, 'a')}},
	{"baab", "bab", []impl.Edit{remove(1)}},
	// A removal goes before an insertion, and both go before a replacement.
	{"ab", "ba", []impl.Edit{remove(1), insert(0, 'b')}},
	{"ba", "ab", []impl.Edit{remove(1), insert(0, 'a')}},
	{"ab", "c", []impl.Edit{remove(1), replace(0, 'c')}},
	{"c", "ab", []impl.Edit{insert(1, 'b'), replace(0, 'a')}},
	{"ab", "bc", []impl.Edit{insert(2, 'c'), remove(0)}},
	// On the way there are more letters than in either word.
	{longest, "bcdefghijkla", []impl.Edit{insert(12, 'a'), remove(0)}},
	{longest, "cdefghijklab", []impl.Edit{insert(12, 'b'), insert(12, 'a'), remove(1), remove(0)}},
}

func TestP1ScriptsOfSomeWords(t *testing.T) {
	known := map[[2]string]int{}
	for _, x := range knownScripts {
		checkScript(t, x.a, x.b, x.script)
		checkScript(t, x.a, x.b, plainScript(x.a, x.b, known))
		mustLead(t, x.a, x.script, x.b)
	}
}

func TestP1ScriptsAreFoundFromTheEnds(t *testing.T) {
	known := map[[2]string]int{}
	for _, p := range scriptPairs() {
		checkScript(t, p[0], p[1], plainScript(p[0], p[1], known))
	}
}

func TestP1ScriptsAreShortest(t *testing.T) {
	for _, p := range scriptPairs() {
		a, b := p[0], p[1]
		script := impl.EditScript(a, b)
		if len(script) != impl.EditDistance(a, b) {
			t.Fatalf("EditScript(%q, %q) is %v, EditDistance is %d", a, b, script, impl.EditDistance(a, b))
		}
		mustLead(t, a, script, b)
	}
}

func TestP1EqualWordsNeedNoScript(t *testing.T) {
	for _, s := range validWordSamples() {
		checkScript(t, s, s, nil)
	}
}

func TestP1ScriptsFromAndToTheEmptyWord(t *testing.T) {
	for _, s := range validWordSamples() {
		var all, none []impl.Edit
		for k := len(s) - 1; k >= 0; k-- {
			all = append(all, insert(0, s[k]))
			none = append(none, remove(k))
		}
		checkScript(t, "", s, all)
		checkScript(t, s, "", none)
	}
}

func TestP1EqualEndsStay(t *testing.T) {
	for _, p := range wordPairs() {
		a, b := p[0], p[1]
		for _, end := range []string{"a", "m", "q", "ab", "stone"} {
			if max(len(a), len(b))+len(end) <= impl.MaxLetters {
				checkScript(t, a+end, b+end, impl.EditScript(a, b))
			}
		}
	}
}

func TestP1OtherWordsHaveNoScript(t *testing.T) {
	checkOtherWords(t, "the number of changes of EditScript", func(a string, b string) int {
		if script := impl.EditScript(a, b); len(script) > 0 {
			return len(script)
		}
		return -1
	})
	// Texts that can be changed are longer than words.
	checkScript(t, tooLong, longest, nil)
	checkScript(t, longest, tooLong, nil)
	checkScript(t, "", longestText, nil)
	checkScript(t, longestText, "", nil)
}

func TestP1ScriptsAreNew(t *testing.T) {
	script := impl.EditScript("kitten", "sitting")
	clear(script[:cap(script)])
	checkScript(t, "kitten", "sitting", []impl.Edit{insert(6, 'g'), replace(4, 'i'), replace(0, 's')})
}

func checkEdit(t *testing.T, s string, e impl.Edit, want string, possible bool) {
	t.Helper()
	if got, ok := impl.ApplyEdit(s, e); ok != possible || got != want {
		t.Fatalf("ApplyEdit(%q, %v) is %q, %v, not %q, %v", s, e, got, ok, want, possible)
	}
}

func TestP20ChangesOfSomeTexts(t *testing.T) {
	for _, x := range []struct {
		before string
		edit   impl.Edit
		after  string
	}{
		{"", insert(0, 'a'), "a"},
		{"", insert(0, 'z'), "z"},
		{"cat", insert(0, 's'), "scat"},
		{"cat", insert(1, 'h'), "chat"},
		{"cat", insert(2, 'r'), "cart"},
		{"cat", insert(3, 's'), "cats"},
		{"cat", insert(0, 'c'), "ccat"},
		{"cat", remove(0), "at"},
		{"cat", remove(1), "ct"},
		{"cat", remove(2), "ca"},
		{"a", remove(0), ""},
		{"cat", replace(0, 'b'), "bat"},
		{"cat", replace(1, 'u'), "cut"},
		{"cat", replace(2, 'r'), "car"},
		{"a", replace(0, 'z'), "z"},
		{"z", replace(0, 'a'), "a"},
		{longest, insert(12, 'm'), tooLong},
		{tooLong, remove(12), longest},
		{longestText[:23], insert(23, 'x'), longestText},
		{longestText[1:], insert(0, 'a'), longestText},
		{longestText, remove(23), longestText[:23]},
		{longestText, remove(0), longestText[1:]},
		{longestText, replace(23, 'z'), longestText[:23] + "z"},
		{longestText, replace(0, 'z'), "z" + longestText[1:]},
	} {
		checkEdit(t, x.before, x.edit, x.after, true)
	}
}

func TestP20AllChanges(t *testing.T) {
	for _, s := range goodTexts() {
		possible := possibleEdits(s)
		for _, e := range conceivableEdits(s) {
			after, ok := possible[e]
			checkEdit(t, s, e, after, ok)
		}
	}
}

func TestP20ChangesCanBeTakenBack(t *testing.T) {
	for _, s := range goodTexts() {
		for e := range possibleEdits(s) {
			after, _ := impl.ApplyEdit(s, e)
			if grown := len(after) - len(s); grown != map[int]int{impl.EditInsert: 1, impl.EditRemove: -1}[e.Kind] {
				t.Fatalf("ApplyEdit(%q, %v) is %q", s, e, after)
			}
			back, ok := impl.ReverseEdit(s, e)
			if !ok {
				t.Fatalf("ReverseEdit(%q, %v) is not possible", s, e)
			}
			checkEdit(t, after, back, s, true)
			if impl.WordValid(s) && impl.WordValid(after) {
				checkNumber(t, "EditDistance", s, after, impl.EditDistance(s, after), 1)
			}
		}
	}
}

func TestP20ChangesThatAreNotPossible(t *testing.T) {
	for _, x := range []struct {
		text string
		edit impl.Edit
	}{
		{"cat", impl.Edit{}},
		{"cat", impl.Edit{Kind: 0, At: 1, Letter: 'h'}},
		{"cat", impl.Edit{Kind: 4, At: 1, Letter: 'h'}},
		{"cat", impl.Edit{Kind: -1, At: 1, Letter: 'h'}},
		{"cat", insert(-1, 'h')},
		{"cat", insert(4, 'h')},
		{"cat", insert(1, 0)},
		{"cat", insert(1, 'A')},
		{"cat", insert(1, '`')},
		{"cat", insert(1, '{')},
		{"cat", insert(1, 0xe9)},
		{"", insert(1, 'a')},
		{"", insert(-1, 'a')},
		{"", remove(0)},
		{"", replace(0, 'a')},
		{"cat", remove(-1)},
		{"cat", remove(3)},
		{"cat", impl.Edit{Kind: impl.EditRemove, At: 0, Letter: 'c'}},
		{"cat", impl.Edit{Kind: impl.EditRemove, At: 1, Letter: 'x'}},
		{"cat", impl.Edit{Kind: impl.EditRemove, At: 1, Letter: 1}},
		{"cat", replace(-1, 'u')},
		{"cat", replace(3, 'u')},
		{"cat", replace(0, 'c')},
		{"cat", replace(1, 'a')},
		{"cat", replace(2, 't')},
		{"cat", replace(1, 0)},
		{"cat", replace(1, 'U')},
		{longestText, insert(0, 'a')},
		{longestText, insert(12, 'a')},
		{longestText, insert(24, 'y')},
		{longestText, remove(24)},
		{longestText, replace(24, 'y')},
	} {
		checkEdit(t, x.text, x.edit, "", false)
		checkNoReverse(t, x.text, x.edit)
	}
}

func TestP20OtherTextsAreNotChanged(t *testing.T) {
	for _, s := range badTexts() {
		for at := -1; at <= len(s)+1; at++ {
			checkEdit(t, s, insert(at, 'm'), "", false)
			checkEdit(t, s, remove(at), "", false)
			checkEdit(t, s, replace(at, 'm'), "", false)
			checkEdit(t, s, replace(at, 'n'), "", false)
		}
	}
}

func TestP21TheEmptyScriptChangesNothing(t *testing.T) {
	for _, s := range goodTexts() {
		mustLead(t, s, nil, s)
		mustLead(t, s, []impl.Edit{}, s)
	}
}

func TestP21ScriptsOfSomeTexts(t *testing.T) {
	mustLead(t, "cat", []impl.Edit{insert(1, 'h')}, "chat")
	mustLead(t, "cat", []impl.Edit{insert(1, 'h'), remove(0), replace(2, 'm')}, "ham")
	mustLead(t, "cat", []impl.Edit{remove(0), remove(0), remove(0)}, "")
	mustLead(t, "", []impl.Edit{insert(0, 'a'), insert(1, 'b'), insert(0, 'c')}, "cab")
	mustLead(t, "ab", []impl.Edit{replace(0, 'b'), replace(0, 'a')}, "ab")
	mustLead(t, "kitten", []impl.Edit{replace(0, 's'), replace(4, 'i'), insert(6, 'g')}, "sitting")
}

func TestP21ScriptsAreChangesOneAfterTheOther(t *testing.T) {
	r := rand.New(rand.NewSource(21))
	for range 300 {
		s := randomWord(r, 0, impl.MaxText)
		script, after := randomScript(r, s, r.Intn(impl.MaxText+1))
		mustLead(t, s, script, after)
		for k := range len(script) + 1 {
			half, ok := impl.ApplyScript(s, script[:k])
			if !ok {
				t.Fatalf("ApplyScript(%q, %v) is not possible", s, script[:k])
			}
			mustLead(t, half, script[k:], after)
			if k < len(script) {
				next, _ := impl.ApplyEdit(half, script[k])
				mustLead(t, s, script[:k+1], next)
			}
		}
	}
}

func TestP21AtMostMaxTextChanges(t *testing.T) {
	back := slices.Repeat([]impl.Edit{replace(0, 'b'), replace(0, 'a')}, 20)
	for many := range len(back) + 1 {
		if many > 24 {
			mustRefuse(t, "a", back[:many])
		} else {
			mustLead(t, "a", back[:many], []string{"a", "b"}[many%2])
		}
	}
	r := rand.New(rand.NewSource(211))
	for range 100 {
		s := randomWord(r, 0, impl.MaxText)
		script, after := randomScript(r, s, 25)
		mustRefuse(t, s, script)
		half := possibleEdits(s)[script[0]]
		mustLead(t, half, script[1:], after)
	}
}

func TestP21TextsHaveAtMostMaxTextLetters(t *testing.T) {
	var grow, shrink []impl.Edit
	for k := range 24 {
		grow = append(grow, insert(k, longestText[k]))
		shrink = append(shrink, remove(0))
	}
	mustLead(t, "", grow, longestText)
	mustLead(t, longestText, shrink, "")
	mustRefuse(t, "z", grow)
	mustLead(t, "z", grow[:23], longestText[:23]+"z")
	mustRefuse(t, longestText[1:], shrink)
	// A text that is too long on the way is too long.
	mustRefuse(t, longestText, []impl.Edit{insert(24, 'y'), remove(24)})
	mustRefuse(t, longestText[:23], []impl.Edit{insert(0, 'a'), insert(0, 'a'), remove(0)})
	mustLead(t, longestText, []impl.Edit{remove(0), insert(0, 'a')}, longestText)
	mustLead(t, longestText[:23], []impl.Edit{insert(0, 'z'), remove(0)}, longestText[:23])
}

func TestP21NoChangeOfAScriptIsLeftOut(t *testing.T) {
	r := rand.New(rand.NewSource(212))
	for range 100 {
		s := randomWord(r, 0, impl.MaxText)
		script, _ := randomScript(r, s, r.Intn(impl.MaxText))
		for k := range len(script) + 1 {
			half, _ := impl.ApplyScript(s, script[:k])
			for _, e := range []impl.Edit{{}, {Kind: 4, Letter: 'a'}, insert(len(half)+1, 'a'), insert(-1, 'a'), insert(0, 'A'), remove(len(half)), remove(-1), {Kind: impl.EditRemove, Letter: 'a'}, replace(len(half), 'a'), replace(-1, 'a')} {
				mustRefuse(t, s, slices.Insert(slices.Clone(script), k, e))
			}
			if half != "" {
				mustRefuse(t, s, slices.Insert(slices.Clone(script), k, replace(0, half[0])))
			}
		}
	}
}

func TestP21OtherTextsAreNotChanged(t *testing.T) {
	for _, s := range badTexts() {
		mustRefuse(t, s, nil)
		mustRefuse(t, s, []impl.Edit{})
		for at := range len(s) {
			mustRefuse(t, s, []impl.Edit{remove(at)})
			mustRefuse(t, s, []impl.Edit{replace(at, 'm')})
		}
		mustRefuse(t, s, []impl.Edit{insert(0, 'a'), remove(0)})
	}
}

func TestP21ScriptsAreKept(t *testing.T) {
	room := []impl.Edit{insert(1, 'h'), remove(0), replace(2, 'm'), {Kind: 7}, {Kind: 8}}
	before := slices.Clone(room)
	for many := range len(room) + 1 {
		impl.ApplyScript("cat", room[:many])
		if !slices.Equal(room, before) {
			t.Fatalf("a script was written to: %v, before %v", room, before)
		}
	}
}

func checkReverse(t *testing.T, s string, e impl.Edit, want impl.Edit) {
	t.Helper()
	if got, ok := impl.ReverseEdit(s, e); !ok || got != want {
		t.Fatalf("ReverseEdit(%q, %v) is %v, %v, not %v", s, e, got, ok, want)
	}
}

func checkNoReverse(t *testing.T, s string, e impl.Edit) {
	t.Helper()
	if got, ok := impl.ReverseEdit(s, e); ok || got != (impl.Edit{}) {
		t.Fatalf("ReverseEdit(%q, %v) is %v, %v", s, e, got, ok)
	}
}

func TestP22ReversesOfSomeChanges(t *testing.T) {
	checkReverse(t, "cat", insert(0, 's'), remove(0))
	checkReverse(t, "cat", insert(1, 'h'), remove(1))
	checkReverse(t, "cat", insert(3, 's'), remove(3))
	checkReverse(t, "", insert(0, 'a'), remove(0))
	checkReverse(t, "cat", remove(0), insert(0, 'c'))
	checkReverse(t, "cat", remove(2), insert(2, 't'))
	checkReverse(t, "a", remove(0), insert(0, 'a'))
	checkReverse(t, "cat", replace(0, 'b'), replace(0, 'c'))
	checkReverse(t, "cat", replace(2, 'r'), replace(2, 't'))
	checkReverse(t, longestText[:23], insert(23, 'x'), remove(23))
	checkReverse(t, longestText, remove(23), insert(23, 'x'))
	checkReverse(t, longestText, remove(0), insert(0, 'a'))
	checkReverse(t, longestText, replace(23, 'z'), replace(23, 'x'))
}

func TestP22ReversingTwiceChangesNothing(t *testing.T) {
	for _, s := range goodTexts() {
		for e, after := range possibleEdits(s) {
			back, ok := impl.ReverseEdit(s, e)
			if !ok || back.At != e.At {
				t.Fatalf("ReverseEdit(%q, %v) is %v, %v", s, e, back, ok)
			}
			checkReverse(t, after, back, e)
		}
	}
}

func TestP22OnlyPossibleChangesAreReversed(t *testing.T) {
	for _, s := range goodTexts() {
		possible := possibleEdits(s)
		for _, e := range conceivableEdits(s) {
			if _, ok := possible[e]; !ok {
				checkNoReverse(t, s, e)
			}
		}
	}
}

func TestP22ChangesOfOtherTextsAreNotReversed(t *testing.T) {
	for _, s := range badTexts() {
		for at := -1; at <= len(s)+1; at++ {
			checkNoReverse(t, s, insert(at, 'm'))
			checkNoReverse(t, s, remove(at))
			checkNoReverse(t, s, replace(at, 'm'))
			checkNoReverse(t, s, replace(at, 'n'))
		}
	}
}

func TestP113TheWayBackIsAsLong(t *testing.T) {
	for _, p := range scriptPairs() {
		there, back := impl.EditScript(p[0], p[1]), impl.EditScript(p[1], p[0])
		if len(there) != len(back) {
			t.Fatalf("EditScript(%q, %q) is %v, the way back is %v", p[0], p[1], there, back)
		}
		mustLead(t, p[0], slices.Concat(there, back), p[0])
	}
}

func TestP113WaysOfSomeWords(t *testing.T) {
	for _, x := range knownPairs {
		there, back := impl.EditScript(x.a, x.b), impl.EditScript(x.b, x.a)
		if len(there) != x.edit || len(back) != x.edit {
			t.Fatalf("EditScript(%q, %q) is %v, the way back is %v, not %d changes", x.a, x.b, there, back, x.edit)
		}
	}
}

// The changes of a script, reversed one by one from the last one on, are a way back, too.
func TestP113ReversedScriptsLeadBack(t *testing.T) {
	for _, p := range wordPairs() {
		s := p[0]
		var back []impl.Edit
		for _, e := range impl.EditScript(p[0], p[1]) {
			reverse, _ := impl.ReverseEdit(s, e)
			back = slices.Insert(back, 0, reverse)
			s, _ = impl.ApplyEdit(s, e)
		}
		mustLead(t, p[1], back, p[0])
		if want := len(impl.EditScript(p[1], p[0])); len(back) != want {
			t.Fatalf("EditScript(%q, %q) reversed has %d changes, not %d", p[0], p[1], len(back), want)
		}
	}
}

func TestP113OtherWordsHaveNoWay(t *testing.T) {
	for _, bad := range badWords {
		for _, s := range []string{"", "a", longest, bad} {
			checkScript(t, s, bad, nil)
			checkScript(t, bad, s, nil)
		}
	}
}
